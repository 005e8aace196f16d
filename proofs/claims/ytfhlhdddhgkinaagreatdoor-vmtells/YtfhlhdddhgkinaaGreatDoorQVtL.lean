/-
  The walk of VmTells: what any code comes to, of any row. (Written by wip/gen_vtl.py.)
-/
import Derived.Test.YtfhlhdddhgkinaaGreatDoorQVmD
import Derived.Test.YtfhlhdddhgkinaaGreatDoorGrAu
import Derived.Test.YtfhlhdddhgkinaaGreatDoorQVfT
import Derived.Test.YtfhlhdddhgkinaaGreatDoorGrAw
namespace Go.Proofs.YtfhlhdddhgkinaaGreatDoor
open Go.RowKit
set_option linter.unusedVariables false

/-- What is called, and what it gives. -/
structure VtC (w : World) (p : Option Addr) (N c : Nat) (vz rv : Value) (fuel : Int) (E1 Er F1 G : Int) (D1 D2 : List Nat) (V1 V2 V : V3) (M : Nat) (EV FV : Value) (E F : Int) (D : List Nat) : Prop where
  check : ∃ A T M0, Calls Tryz.prog 17 #[.slice p N c, vz] w fun e w' => e = .returned (.tuple #[.int .i64 A, .int .i64 E1, .int .i64 T, .int .i64 M0]) ∧ Below w.heap.size w w'
  row : ∀ W, Below w.heap.size w W → Calls Tryz.prog 18 #[vz, rv] W fun e w' => e = .returned (.int .i64 Er) ∧ Below W.heap.size W w'
  run1 : E1 = 0 → Er = 0 → ∀ W, Below w.heap.size w W → Calls Tryz.prog 19 #[.slice p N c, rv, .int .i64 (-1)] W fun e w' => (∃ qd cd, e = .returned (.tuple #[.agg #[.int .i64 V1.1, .int .i64 V1.2.1, .string V1.2.2], .slice qd D1.length cd, .int .i64 F1]) ∧ Aside (IntsAt w' qd (natZ D1))) ∧ Below W.heap.size W w'
  run2 : E1 = 0 → Er = 0 → ∀ W, Below w.heap.size w W → Calls Tryz.prog 19 #[.slice p N c, rv, .int .i64 fuel] W fun e w' => (∃ qd cd, e = .returned (.tuple #[.agg #[.int .i64 V2.1, .int .i64 V2.2.1, .string V2.2.2], .slice qd D2.length cd, .int .i64 G]) ∧ Aside (IntsAt w' qd (natZ D2))) ∧ Below W.heap.size W w'
  run : ∀ W, Below w.heap.size w W → Calls Tryz.prog 13 #[.slice p N c, vz, rv, .int .i64 fuel] W fun e w' => e = .returned (.tuple #[.agg #[.int .i64 V.1, .int .i64 V.2.1, .string V.2.2], .int .i64 M, EV]) ∧ Below W.heap.size W w'
  trace : ∀ W, Below w.heap.size w W → Calls Tryz.prog 20 #[.slice p N c, vz, rv] W fun e w' => (∃ q' c', e = .returned (.tuple #[.slice q' D.length c', FV]) ∧ Aside (IntsAt w' q' (natZ D))) ∧ Below W.heap.size W w'
  one : ∀ W, Below w.heap.size w W → Calls Tryz.prog 15 #[EV, .int .i64 E] W fun e w' => e = .returned (.bool true) ∧ Below W.heap.size W w'
  two : ∀ W, Below w.heap.size w W → Calls Tryz.prog 15 #[FV, .int .i64 F] W fun e w' => e = .returned (.bool true) ∧ Below W.heap.size W w'
  like : ∀ W p q ca cb, IntsAt W p (natZ D) → IntsAt W q (natZ D) → Calls Tryz.prog 21 #[.slice p D.length ca, .slice q D.length cb] W fun e w' => e = .returned (.bool true) ∧ Below W.heap.size W w'
/-- The block of a value, in a world behind. -/
theorem box3 {X W : World} {t n : Int} {s : ByteArray} (hb : Below (X.heap.size + 1) (X.alloc (.cells #[.int .i64 t, .int .i64 n, .string s] 23)) W) : W.cell? ⟨X.heap.size, 0, none⟩ = some (.int .i64 t) ∧ W.cell? ⟨X.heap.size, 1, none⟩ = some (.int .i64 n) ∧ W.cell? ⟨X.heap.size, 2, none⟩ = some (.string s) ∧ (∀ o, W.frozen? ⟨X.heap.size, o, none⟩ = false) ∧ X.heap.size < W.heap.size := by
  obtain ⟨k, f, h⟩ := box_at X _ _ hb (by simp)
  exact ⟨k 0, k 1, k 2, f, h⟩
set_option maxHeartbeats 8000000 in
set_option maxRecDepth 20000 in
theorem vt_code (w : World) (p : Option Addr) (N c : Nat) (pz : Option Addr) (nz cz : Nat) (pr : Option Addr) (nr cr : Nat) (fuel : Int) (E1 Er F1 G : Int) (D1 D2 : List Nat) (V1 V2 : V3) (EV FV : Value) (h1 : E1 ≠ 0)
    (h : VtC w p N c (.slice pz nz cz) (.slice pr nr cr) fuel E1 Er F1 G D1 D2 V1 V2 noV 0 EV FV E1 E1 []) :
    Calls Tryz.prog 5 #[.slice p N c, .slice pz nz cz, .slice pr nr cr, .int .i64 fuel] w fun e w' => e = .returned (.bool true) ∧ Below w.heap.size w w' := by
  obtain ⟨A, T, M0, c0⟩ := h.check
  have cW := h.row
  have cR := h.run
  have cT := h.trace
  have cE := h.one
  have cF := h.two
  have cI : Aside (∀ W p q ca cb, IntsAt W p (natZ []) → IntsAt W q (natZ []) → Calls Tryz.prog 21 #[.slice p ([]).length ca, .slice q ([]).length cb] W fun e w' => e = .returned (.bool true) ∧ Below W.heap.size W w') := h.like
  have hb1 : (E1 == 0) = false := by simpa using h1
  clear h1
  clear h
  go_enter Tryz.func5, Tryz.ntmps5
  go_wp2_with fail
  refine c0.mono ?_
  rintro e w1 ⟨rfl, b1⟩
  clear c0
  have P4 : Below (w1.heap.size + 1) (w1.alloc (.cells #[.int .i64 0, .int .i64 0, .string ⟨#[]⟩] 23)) (w1.alloc (.cells #[.int .i64 0, .int .i64 0, .string ⟨#[]⟩] 23)) := Below.refl _ _
  have B4 : Below w.heap.size w (w1.alloc (.cells #[.int .i64 0, .int .i64 0, .string ⟨#[]⟩] 23)) := b1.alloc b1.size _
  have d5 := cR _ B4
  clear cR
  go_wp2_with fail
  refine d5.mono ?_
  rintro e w6 ⟨rfl, b6⟩
  have B6 := B4.trans (b6.mono B4.size)
  have B7 := B6.alloc B6.size (.cells #[.int .i64 noV.1, .int .i64 noV.2.1, .string noV.2.2] 23)
  have K6 := b6
  have d6 := cE _ B7
  clear d5 cE
  go_wp2_with fail
  refine d6.mono ?_
  rintro e w8 ⟨rfl, b8⟩
  have B8 := B7.trans (b8.mono B7.size)
  have Q8 : Below (w6.heap.size + 1) (w6.alloc (.cells #[.int .i64 noV.1, .int .i64 noV.2.1, .string noV.2.2] 23)) w8 := b8.mono (by simp)
  have d7 := cT _ B8
  clear d6 cT
  go_wp2_with fail
  refine d7.mono ?_
  rintro e w9 ⟨⟨qt, ct, rfl, I9⟩, b9⟩
  have B9 := B8.trans (b9.mono B8.size)
  have hs8 : w6.heap.size + 1 ≤ w8.heap.size := by have := b8.size; simpa using this
  have Q9 := Q8.trans (b9.mono hs8)
  have d8 := cF _ B9
  clear d7 cF
  go_wp2_with fail
  refine d8.mono ?_
  rintro e w10 ⟨rfl, b10⟩
  have B10 := B9.trans (b10.mono B9.size)
  have hs9 : w6.heap.size + 1 ≤ w9.heap.size := by have := b9.size; omega
  have Q10 := Q9.trans (b10.mono hs9)
  have L10 : Below w6.heap.size w6 w10 := ((alB w6 (.cells #[.int .i64 noV.1, .int .i64 noV.2.1, .string noV.2.2] 23)).trans (Q10.mono (Nat.le_succ _)))
  have K10 := K6.trans (L10.mono K6.size)
  have I10 : IntsAt w10 qt (natZ ([] : List Nat)) := I9.out.on b10
  have J10 : IntsAt w10 none (natZ []) := .inl rfl
  have d9 := cI.out w10 qt none ct 0 I10 J10
  clear d8 cI I10 J10
  go_wp2_with fail
  refine d9.mono ?_
  rintro e w11 ⟨rfl, b11⟩
  have B11 := B10.trans (b11.mono B10.size)
  have Q11 := Q10.trans (b11.mono (by have := b10.size; omega))
  obtain ⟨y0, y1, y2, yf, yl⟩ := box3 Q11
  have K11 := K10.trans (b11.mono K10.size)
  have P11 := P4.trans (K11.mono (by simp))
  obtain ⟨x0, x1, x2, xf, xl⟩ := box3 P11
  have hveq := valV_eql 0 0 ⟨#[]⟩
  simp only [noV] at y0 y1 y2
  have qM : (((0 : Nat) : Int) == ((0 : Nat) : Int)) = true := by simp
  clear d9 b11 Q11 Q10 Q9 Q8 K6 K10 K11 L10 b6 b8 b9 b10
  go_wp2
  go_ret
  exact ⟨rfl, B11⟩
set_option maxHeartbeats 8000000 in
set_option maxRecDepth 20000 in
theorem vt_row (w : World) (p : Option Addr) (N c : Nat) (pz : Option Addr) (nz cz : Nat) (pr : Option Addr) (nr cr : Nat) (fuel : Int) (E1 Er F1 G : Int) (D1 D2 : List Nat) (V1 V2 : V3) (EV FV : Value) (h2 : Er ≠ 0)
    (h : VtC w p N c (.slice pz nz cz) (.slice pr nr cr) fuel 0 Er F1 G D1 D2 V1 V2 noV 0 EV FV Er Er []) :
    Calls Tryz.prog 5 #[.slice p N c, .slice pz nz cz, .slice pr nr cr, .int .i64 fuel] w fun e w' => e = .returned (.bool true) ∧ Below w.heap.size w w' := by
  obtain ⟨A, T, M0, c0⟩ := h.check
  have cW := h.row
  have cR := h.run
  have cT := h.trace
  have cE := h.one
  have cF := h.two
  have cI : Aside (∀ W p q ca cb, IntsAt W p (natZ []) → IntsAt W q (natZ []) → Calls Tryz.prog 21 #[.slice p ([]).length ca, .slice q ([]).length cb] W fun e w' => e = .returned (.bool true) ∧ Below W.heap.size W w') := h.like
  have hb2 : (Er == 0) = false := by simpa using h2
  clear h2
  clear h
  go_enter Tryz.func5, Tryz.ntmps5
  go_wp2_with fail
  refine c0.mono ?_
  rintro e w1 ⟨rfl, b1⟩
  clear c0
  have d1 := cW w1 b1
  clear cW
  go_wp2_with fail
  refine d1.mono ?_
  rintro e w2 ⟨rfl, b2⟩
  have B2 := b1.trans (b2.mono b1.size)
  clear d1 b2
  have P4 : Below (w2.heap.size + 1) (w2.alloc (.cells #[.int .i64 0, .int .i64 0, .string ⟨#[]⟩] 23)) (w2.alloc (.cells #[.int .i64 0, .int .i64 0, .string ⟨#[]⟩] 23)) := Below.refl _ _
  have B4 : Below w.heap.size w (w2.alloc (.cells #[.int .i64 0, .int .i64 0, .string ⟨#[]⟩] 23)) := B2.alloc B2.size _
  have d5 := cR _ B4
  clear cR
  go_wp2_with fail
  refine d5.mono ?_
  rintro e w6 ⟨rfl, b6⟩
  have B6 := B4.trans (b6.mono B4.size)
  have B7 := B6.alloc B6.size (.cells #[.int .i64 noV.1, .int .i64 noV.2.1, .string noV.2.2] 23)
  have K6 := b6
  have d6 := cE _ B7
  clear d5 cE
  go_wp2_with fail
  refine d6.mono ?_
  rintro e w8 ⟨rfl, b8⟩
  have B8 := B7.trans (b8.mono B7.size)
  have Q8 : Below (w6.heap.size + 1) (w6.alloc (.cells #[.int .i64 noV.1, .int .i64 noV.2.1, .string noV.2.2] 23)) w8 := b8.mono (by simp)
  have d7 := cT _ B8
  clear d6 cT
  go_wp2_with fail
  refine d7.mono ?_
  rintro e w9 ⟨⟨qt, ct, rfl, I9⟩, b9⟩
  have B9 := B8.trans (b9.mono B8.size)
  have hs8 : w6.heap.size + 1 ≤ w8.heap.size := by have := b8.size; simpa using this
  have Q9 := Q8.trans (b9.mono hs8)
  have d8 := cF _ B9
  clear d7 cF
  go_wp2_with fail
  refine d8.mono ?_
  rintro e w10 ⟨rfl, b10⟩
  have B10 := B9.trans (b10.mono B9.size)
  have hs9 : w6.heap.size + 1 ≤ w9.heap.size := by have := b9.size; omega
  have Q10 := Q9.trans (b10.mono hs9)
  have L10 : Below w6.heap.size w6 w10 := ((alB w6 (.cells #[.int .i64 noV.1, .int .i64 noV.2.1, .string noV.2.2] 23)).trans (Q10.mono (Nat.le_succ _)))
  have K10 := K6.trans (L10.mono K6.size)
  have I10 : IntsAt w10 qt (natZ ([] : List Nat)) := I9.out.on b10
  have J10 : IntsAt w10 none (natZ []) := .inl rfl
  have d9 := cI.out w10 qt none ct 0 I10 J10
  clear d8 cI I10 J10
  go_wp2_with fail
  refine d9.mono ?_
  rintro e w11 ⟨rfl, b11⟩
  have B11 := B10.trans (b11.mono B10.size)
  have Q11 := Q10.trans (b11.mono (by have := b10.size; omega))
  obtain ⟨y0, y1, y2, yf, yl⟩ := box3 Q11
  have K11 := K10.trans (b11.mono K10.size)
  have P11 := P4.trans (K11.mono (by simp))
  obtain ⟨x0, x1, x2, xf, xl⟩ := box3 P11
  have hveq := valV_eql 0 0 ⟨#[]⟩
  simp only [noV] at y0 y1 y2
  have qM : (((0 : Nat) : Int) == ((0 : Nat) : Int)) = true := by simp
  clear d9 b11 Q11 Q10 Q9 Q8 K6 K10 K11 L10 b6 b8 b9 b10
  go_wp2
  go_ret
  exact ⟨rfl, B11⟩
set_option maxHeartbeats 8000000 in
set_option maxRecDepth 20000 in
theorem vt_lo0 (w : World) (p : Option Addr) (N c : Nat) (pz : Option Addr) (nz cz : Nat) (pr : Option Addr) (nr cr : Nat) (fuel : Int) (E1 Er F1 G : Int) (D1 D2 : List Nat) (V1 V2 : V3) (EV FV : Value) (hf : fuel < 0)
    (h : VtC w p N c (.slice pz nz cz) (.slice pr nr cr) fuel 0 0 0 G D1 D2 V1 V2 noV 0 EV FV 1 0 D1) :
    Calls Tryz.prog 5 #[.slice p N c, .slice pz nz cz, .slice pr nr cr, .int .i64 fuel] w fun e w' => e = .returned (.bool true) ∧ Below w.heap.size w w' := by
  obtain ⟨A, T, M0, c0⟩ := h.check
  have cW := h.row
  have cR := h.run
  have cT := h.trace
  have cE := h.one
  have cF := h.two
  have cI : Aside (∀ W p q ca cb, IntsAt W p (natZ D1) → IntsAt W q (natZ D1) → Calls Tryz.prog 21 #[.slice p (D1).length ca, .slice q (D1).length cb] W fun e w' => e = .returned (.bool true) ∧ Below W.heap.size W w') := h.like
  have cS1 := h.run1 rfl rfl
  have cS2 := h.run2 rfl rfl
  clear cS2
  clear h
  go_enter Tryz.func5, Tryz.ntmps5
  go_wp2_with fail
  refine c0.mono ?_
  rintro e w1 ⟨rfl, b1⟩
  clear c0
  have d1 := cW w1 b1
  clear cW
  go_wp2_with fail
  refine d1.mono ?_
  rintro e w2 ⟨rfl, b2⟩
  have B2 := b1.trans (b2.mono b1.size)
  clear d1 b2
  have d2 := cS1 w2 B2
  clear cS1
  go_wp2_with fail
  refine d2.mono ?_
  rintro e w3 ⟨⟨qa, ca, rfl, I3⟩, b3⟩
  have B3 := B2.trans (b3.mono B2.size)
  clear d2 b3 b1
  have P4 : Below (w3.heap.size + 1) (w3.alloc (.cells #[.int .i64 0, .int .i64 0, .string ⟨#[]⟩] 23)) (w3.alloc (.cells #[.int .i64 0, .int .i64 0, .string ⟨#[]⟩] 23)) := Below.refl _ _
  have B4 : Below w.heap.size w (w3.alloc (.cells #[.int .i64 0, .int .i64 0, .string ⟨#[]⟩] 23)) := B3.alloc B3.size _
  have d5 := cR _ B4
  clear cR
  go_wp2_with fail
  refine d5.mono ?_
  rintro e w6 ⟨rfl, b6⟩
  have B6 := B4.trans (b6.mono B4.size)
  have B7 := B6.alloc B6.size (.cells #[.int .i64 noV.1, .int .i64 noV.2.1, .string noV.2.2] 23)
  have K6 := b6
  have d6 := cE _ B7
  clear d5 cE
  go_wp2_with fail
  refine d6.mono ?_
  rintro e w8 ⟨rfl, b8⟩
  have B8 := B7.trans (b8.mono B7.size)
  have Q8 : Below (w6.heap.size + 1) (w6.alloc (.cells #[.int .i64 noV.1, .int .i64 noV.2.1, .string noV.2.2] 23)) w8 := b8.mono (by simp)
  have d7 := cT _ B8
  clear d6 cT
  go_wp2_with fail
  refine d7.mono ?_
  rintro e w9 ⟨⟨qt, ct, rfl, I9⟩, b9⟩
  have B9 := B8.trans (b9.mono B8.size)
  have hs8 : w6.heap.size + 1 ≤ w8.heap.size := by have := b8.size; simpa using this
  have Q9 := Q8.trans (b9.mono hs8)
  have d8 := cF _ B9
  clear d7 cF
  go_wp2_with fail
  refine d8.mono ?_
  rintro e w10 ⟨rfl, b10⟩
  have B10 := B9.trans (b10.mono B9.size)
  have hs9 : w6.heap.size + 1 ≤ w9.heap.size := by have := b9.size; omega
  have Q10 := Q9.trans (b10.mono hs9)
  have L10 : Below w6.heap.size w6 w10 := ((alB w6 (.cells #[.int .i64 noV.1, .int .i64 noV.2.1, .string noV.2.2] 23)).trans (Q10.mono (Nat.le_succ _)))
  have K10 := K6.trans (L10.mono K6.size)
  have I10 : IntsAt w10 qt (natZ D1) := I9.out.on b10
  have J10 : IntsAt w10 qa (natZ D1) := (I3.out.on (alB w3 (.cells #[.int .i64 0, .int .i64 0, .string ⟨#[]⟩] 23))).on K10
  have d9 := cI.out w10 qt qa ct ca I10 J10
  clear d8 cI I10 J10
  go_wp2_with fail
  refine d9.mono ?_
  rintro e w11 ⟨rfl, b11⟩
  have B11 := B10.trans (b11.mono B10.size)
  have Q11 := Q10.trans (b11.mono (by have := b10.size; omega))
  obtain ⟨y0, y1, y2, yf, yl⟩ := box3 Q11
  have K11 := K10.trans (b11.mono K10.size)
  have P11 := P4.trans (K11.mono (by simp))
  obtain ⟨x0, x1, x2, xf, xl⟩ := box3 P11
  have hveq := valV_eql 0 0 ⟨#[]⟩
  simp only [noV] at y0 y1 y2
  have qM : (((0 : Nat) : Int) == ((0 : Nat) : Int)) = true := by simp
  clear d9 b11 Q11 Q10 Q9 Q8 K6 K10 K11 L10 b6 b8 b9 b10
  go_wp2
  go_ret
  exact ⟨rfl, B11⟩
set_option maxHeartbeats 8000000 in
set_option maxRecDepth 20000 in
theorem vt_hi0 (w : World) (p : Option Addr) (N c : Nat) (pz : Option Addr) (nz cz : Nat) (pr : Option Addr) (nr cr : Nat) (fuel : Int) (E1 Er F1 G : Int) (D1 D2 : List Nat) (V1 V2 : V3) (EV FV : Value) (hf0 : ¬ fuel < 0) (hf : 1000000 < fuel)
    (h : VtC w p N c (.slice pz nz cz) (.slice pr nr cr) fuel 0 0 0 G D1 D2 V1 V2 noV 0 EV FV 1 0 D1) :
    Calls Tryz.prog 5 #[.slice p N c, .slice pz nz cz, .slice pr nr cr, .int .i64 fuel] w fun e w' => e = .returned (.bool true) ∧ Below w.heap.size w w' := by
  obtain ⟨A, T, M0, c0⟩ := h.check
  have cW := h.row
  have cR := h.run
  have cT := h.trace
  have cE := h.one
  have cF := h.two
  have cI : Aside (∀ W p q ca cb, IntsAt W p (natZ D1) → IntsAt W q (natZ D1) → Calls Tryz.prog 21 #[.slice p (D1).length ca, .slice q (D1).length cb] W fun e w' => e = .returned (.bool true) ∧ Below W.heap.size W w') := h.like
  have cS1 := h.run1 rfl rfl
  have cS2 := h.run2 rfl rfl
  clear cS2
  clear h
  go_enter Tryz.func5, Tryz.ntmps5
  go_wp2_with fail
  refine c0.mono ?_
  rintro e w1 ⟨rfl, b1⟩
  clear c0
  have d1 := cW w1 b1
  clear cW
  go_wp2_with fail
  refine d1.mono ?_
  rintro e w2 ⟨rfl, b2⟩
  have B2 := b1.trans (b2.mono b1.size)
  clear d1 b2
  have d2 := cS1 w2 B2
  clear cS1
  go_wp2_with fail
  refine d2.mono ?_
  rintro e w3 ⟨⟨qa, ca, rfl, I3⟩, b3⟩
  have B3 := B2.trans (b3.mono B2.size)
  clear d2 b3 b1
  have P4 : Below (w3.heap.size + 1) (w3.alloc (.cells #[.int .i64 0, .int .i64 0, .string ⟨#[]⟩] 23)) (w3.alloc (.cells #[.int .i64 0, .int .i64 0, .string ⟨#[]⟩] 23)) := Below.refl _ _
  have B4 : Below w.heap.size w (w3.alloc (.cells #[.int .i64 0, .int .i64 0, .string ⟨#[]⟩] 23)) := B3.alloc B3.size _
  have d5 := cR _ B4
  clear cR
  go_wp2_with fail
  refine d5.mono ?_
  rintro e w6 ⟨rfl, b6⟩
  have B6 := B4.trans (b6.mono B4.size)
  have B7 := B6.alloc B6.size (.cells #[.int .i64 noV.1, .int .i64 noV.2.1, .string noV.2.2] 23)
  have K6 := b6
  have d6 := cE _ B7
  clear d5 cE
  go_wp2_with fail
  refine d6.mono ?_
  rintro e w8 ⟨rfl, b8⟩
  have B8 := B7.trans (b8.mono B7.size)
  have Q8 : Below (w6.heap.size + 1) (w6.alloc (.cells #[.int .i64 noV.1, .int .i64 noV.2.1, .string noV.2.2] 23)) w8 := b8.mono (by simp)
  have d7 := cT _ B8
  clear d6 cT
  go_wp2_with fail
  refine d7.mono ?_
  rintro e w9 ⟨⟨qt, ct, rfl, I9⟩, b9⟩
  have B9 := B8.trans (b9.mono B8.size)
  have hs8 : w6.heap.size + 1 ≤ w8.heap.size := by have := b8.size; simpa using this
  have Q9 := Q8.trans (b9.mono hs8)
  have d8 := cF _ B9
  clear d7 cF
  go_wp2_with fail
  refine d8.mono ?_
  rintro e w10 ⟨rfl, b10⟩
  have B10 := B9.trans (b10.mono B9.size)
  have hs9 : w6.heap.size + 1 ≤ w9.heap.size := by have := b9.size; omega
  have Q10 := Q9.trans (b10.mono hs9)
  have L10 : Below w6.heap.size w6 w10 := ((alB w6 (.cells #[.int .i64 noV.1, .int .i64 noV.2.1, .string noV.2.2] 23)).trans (Q10.mono (Nat.le_succ _)))
  have K10 := K6.trans (L10.mono K6.size)
  have I10 : IntsAt w10 qt (natZ D1) := I9.out.on b10
  have J10 : IntsAt w10 qa (natZ D1) := (I3.out.on (alB w3 (.cells #[.int .i64 0, .int .i64 0, .string ⟨#[]⟩] 23))).on K10
  have d9 := cI.out w10 qt qa ct ca I10 J10
  clear d8 cI I10 J10
  go_wp2_with fail
  refine d9.mono ?_
  rintro e w11 ⟨rfl, b11⟩
  have B11 := B10.trans (b11.mono B10.size)
  have Q11 := Q10.trans (b11.mono (by have := b10.size; omega))
  obtain ⟨y0, y1, y2, yf, yl⟩ := box3 Q11
  have K11 := K10.trans (b11.mono K10.size)
  have P11 := P4.trans (K11.mono (by simp))
  obtain ⟨x0, x1, x2, xf, xl⟩ := box3 P11
  have hveq := valV_eql 0 0 ⟨#[]⟩
  simp only [noV] at y0 y1 y2
  have qM : (((0 : Nat) : Int) == ((0 : Nat) : Int)) = true := by simp
  clear d9 b11 Q11 Q10 Q9 Q8 K6 K10 K11 L10 b6 b8 b9 b10
  go_wp2
  go_ret
  exact ⟨rfl, B11⟩
set_option maxHeartbeats 8000000 in
set_option maxRecDepth 20000 in
theorem vt_in00 (w : World) (p : Option Addr) (N c : Nat) (pz : Option Addr) (nz cz : Nat) (pr : Option Addr) (nr cr : Nat) (fuel : Int) (E1 Er F1 G : Int) (D1 D2 : List Nat) (V1 V2 : V3) (EV FV : Value) (hf0 : ¬ fuel < 0) (hf : ¬ 1000000 < fuel)
    (h : VtC w p N c (.slice pz nz cz) (.slice pr nr cr) fuel 0 0 0 0 D1 D2 V1 V2 V2 D2.length EV FV 0 0 D1) :
    Calls Tryz.prog 5 #[.slice p N c, .slice pz nz cz, .slice pr nr cr, .int .i64 fuel] w fun e w' => e = .returned (.bool true) ∧ Below w.heap.size w w' := by
  obtain ⟨A, T, M0, c0⟩ := h.check
  have cW := h.row
  have cR := h.run
  have cT := h.trace
  have cE := h.one
  have cF := h.two
  have cI : Aside (∀ W p q ca cb, IntsAt W p (natZ D1) → IntsAt W q (natZ D1) → Calls Tryz.prog 21 #[.slice p (D1).length ca, .slice q (D1).length cb] W fun e w' => e = .returned (.bool true) ∧ Below W.heap.size W w') := h.like
  have cS1 := h.run1 rfl rfl
  have cS2 := h.run2 rfl rfl
  clear h
  go_enter Tryz.func5, Tryz.ntmps5
  go_wp2_with fail
  refine c0.mono ?_
  rintro e w1 ⟨rfl, b1⟩
  clear c0
  have d1 := cW w1 b1
  clear cW
  go_wp2_with fail
  refine d1.mono ?_
  rintro e w2 ⟨rfl, b2⟩
  have B2 := b1.trans (b2.mono b1.size)
  clear d1 b2
  have d2 := cS1 w2 B2
  clear cS1
  go_wp2_with fail
  refine d2.mono ?_
  rintro e w3 ⟨⟨qa, ca, rfl, I3⟩, b3⟩
  have B3 := B2.trans (b3.mono B2.size)
  clear d2 b3 b1
  have P4 : Below (w3.heap.size + 1) (w3.alloc (.cells #[.int .i64 0, .int .i64 0, .string ⟨#[]⟩] 23)) (w3.alloc (.cells #[.int .i64 0, .int .i64 0, .string ⟨#[]⟩] 23)) := Below.refl _ _
  have B4 : Below w.heap.size w (w3.alloc (.cells #[.int .i64 0, .int .i64 0, .string ⟨#[]⟩] 23)) := B3.alloc B3.size _
  have d3 := cS2 _ B4
  clear cS2
  go_wp2_with fail
  refine d3.mono ?_
  rintro e w5 ⟨⟨qb, cb, rfl, I5⟩, b5⟩
  have B5 := B4.trans (b5.mono B4.size)
  have P5 := P4.trans (b5.mono (by simp))
  clear d3 I5
  obtain ⟨z0, z1, z2, zf, zl⟩ := box3 P5
  have hw3 : w.heap.size ≤ w3.heap.size := B3.size
  have S5 := below3 B5 hw3 (.int .i64 V2.1) (.int .i64 V2.2.1) (.string V2.2.2)
  have B6x : Below w.heap.size w ((((w5.setCell ⟨w3.heap.size, 0, none⟩ (.int .i64 V2.1)).setCell ⟨w3.heap.size, 1, none⟩ (.int .i64 V2.2.1)).setCell ⟨w3.heap.size, 2, none⟩ (.string V2.2.2)).alloc (.cells #[.int .i64 V2.1, .int .i64 V2.2.1, .string V2.2.2] 23)) := S5.alloc S5.size _
  have hsz5 : w3.heap.size < (((w5.setCell ⟨w3.heap.size, 0, none⟩ (.int .i64 V2.1)).setCell ⟨w3.heap.size, 1, none⟩ (.int .i64 V2.2.1)).setCell ⟨w3.heap.size, 2, none⟩ (.string V2.2.2)).heap.size := by simpa [World.setCell] using zl
  have t0 : ((((w5.setCell ⟨w3.heap.size, 0, none⟩ (.int .i64 V2.1)).setCell ⟨w3.heap.size, 1, none⟩ (.int .i64 V2.2.1)).setCell ⟨w3.heap.size, 2, none⟩ (.string V2.2.2)).alloc (.cells #[.int .i64 V2.1, .int .i64 V2.2.1, .string V2.2.2] 23)).cell? ⟨w3.heap.size, 0, none⟩ = some (.int .i64 V2.1) := by rw [(alB _ _).cell (p := ⟨w3.heap.size, 0, none⟩) hsz5, cell_ne (by decide), cell_ne (by decide), cell_eq z0]
  have t1 : ((((w5.setCell ⟨w3.heap.size, 0, none⟩ (.int .i64 V2.1)).setCell ⟨w3.heap.size, 1, none⟩ (.int .i64 V2.2.1)).setCell ⟨w3.heap.size, 2, none⟩ (.string V2.2.2)).alloc (.cells #[.int .i64 V2.1, .int .i64 V2.2.1, .string V2.2.2] 23)).cell? ⟨w3.heap.size, 1, none⟩ = some (.int .i64 V2.2.1) := by rw [(alB _ _).cell (p := ⟨w3.heap.size, 1, none⟩) hsz5, cell_ne (by decide), cell_eq (u := .int .i64 0) (by rw [cell_ne (by decide)]; exact z1)]
  have t2 : ((((w5.setCell ⟨w3.heap.size, 0, none⟩ (.int .i64 V2.1)).setCell ⟨w3.heap.size, 1, none⟩ (.int .i64 V2.2.1)).setCell ⟨w3.heap.size, 2, none⟩ (.string V2.2.2)).alloc (.cells #[.int .i64 V2.1, .int .i64 V2.2.1, .string V2.2.2] 23)).cell? ⟨w3.heap.size, 2, none⟩ = some (.string V2.2.2) := by rw [(alB _ _).cell (p := ⟨w3.heap.size, 2, none⟩) hsz5, cell_eq (u := .string ⟨#[]⟩) (by rw [cell_ne (by decide), cell_ne (by decide)]; exact z2)]
  have hszx : w3.heap.size < ((((w5.setCell ⟨w3.heap.size, 0, none⟩ (.int .i64 V2.1)).setCell ⟨w3.heap.size, 1, none⟩ (.int .i64 V2.2.1)).setCell ⟨w3.heap.size, 2, none⟩ (.string V2.2.2)).alloc (.cells #[.int .i64 V2.1, .int .i64 V2.2.1, .string V2.2.2] 23)).heap.size := by simp; omega
  have T0 : Hid (((((w5.setCell ⟨w3.heap.size, 0, none⟩ (.int .i64 V2.1)).setCell ⟨w3.heap.size, 1, none⟩ (.int .i64 V2.2.1)).setCell ⟨w3.heap.size, 2, none⟩ (.string V2.2.2)).alloc (.cells #[.int .i64 V2.1, .int .i64 V2.2.1, .string V2.2.2] 23)).cell? ⟨w3.heap.size, 0, none⟩ = some (.int .i64 V2.1) ∧ ((((w5.setCell ⟨w3.heap.size, 0, none⟩ (.int .i64 V2.1)).setCell ⟨w3.heap.size, 1, none⟩ (.int .i64 V2.2.1)).setCell ⟨w3.heap.size, 2, none⟩ (.string V2.2.2)).alloc (.cells #[.int .i64 V2.1, .int .i64 V2.2.1, .string V2.2.2] 23)).cell? ⟨w3.heap.size, 1, none⟩ = some (.int .i64 V2.2.1) ∧ ((((w5.setCell ⟨w3.heap.size, 0, none⟩ (.int .i64 V2.1)).setCell ⟨w3.heap.size, 1, none⟩ (.int .i64 V2.2.1)).setCell ⟨w3.heap.size, 2, none⟩ (.string V2.2.2)).alloc (.cells #[.int .i64 V2.1, .int .i64 V2.2.1, .string V2.2.2] 23)).cell? ⟨w3.heap.size, 2, none⟩ = some (.string V2.2.2) ∧ w3.heap.size < ((((w5.setCell ⟨w3.heap.size, 0, none⟩ (.int .i64 V2.1)).setCell ⟨w3.heap.size, 1, none⟩ (.int .i64 V2.2.1)).setCell ⟨w3.heap.size, 2, none⟩ (.string V2.2.2)).alloc (.cells #[.int .i64 V2.1, .int .i64 V2.2.1, .string V2.2.2] 23)).heap.size) := ⟨t0, t1, t2, hszx⟩
  have hJ : Aside (IntsAt ((((w5.setCell ⟨w3.heap.size, 0, none⟩ (.int .i64 V2.1)).setCell ⟨w3.heap.size, 1, none⟩ (.int .i64 V2.2.1)).setCell ⟨w3.heap.size, 2, none⟩ (.string V2.2.2)).alloc (.cells #[.int .i64 V2.1, .int .i64 V2.2.1, .string V2.2.2] 23)) qa (natZ D1)) := by
    have h1 : IntsAt w5 qa (natZ D1) := (I3.out.on (alB w3 (.cells #[.int .i64 0, .int .i64 0, .string ⟨#[]⟩] 23))).on b5
    have h2 : IntsAt (((w5.setCell ⟨w3.heap.size, 0, none⟩ (.int .i64 V2.1)).setCell ⟨w3.heap.size, 1, none⟩ (.int .i64 V2.2.1)).setCell ⟨w3.heap.size, 2, none⟩ (.string V2.2.2)) qa (natZ D1) := by
      rcases I3.out with h | ⟨bb, oo, rfl, hbb, hc⟩
      · exact .inl h
      · rcases h1 with h | ⟨bb', oo', e', _, hc'⟩
        · exact .inl h
        · injection e' with e'
          injection e' with e1 e2
          subst e1 e2
          refine .inr ⟨bb, oo, rfl, by omega, fun j hj => ?_⟩
          have hne : ∀ (W : World) (o : Nat) (x : Value), (W.setCell ⟨w3.heap.size, o, none⟩ x).cell? ⟨bb, oo + j, none⟩ = W.cell? ⟨bb, oo + j, none⟩ := fun W o x => World.cell?_of_block (w := W) (a := ⟨bb, oo + j, none⟩) (Below.heap_setCell _ _ _ _ (by show bb ≠ w3.heap.size; omega))
          rw [hne, hne, hne]
          exact hc' j hj
    exact h2.on (alB _ _)
  clear t0 t1 t2 hszx hsz5 S5 b5 P5 P4 B5
  have d5 := cR _ B6x
  clear cR
  go_wp2_with fail
  refine d5.mono ?_
  rintro e w6 ⟨rfl, b6⟩
  have B6 := B6x.trans (b6.mono B6x.size)
  have B7 := B6.alloc B6.size (.cells #[.int .i64 V2.1, .int .i64 V2.2.1, .string V2.2.2] 23)
  have K6 := b6
  have d6 := cE _ B7
  clear d5 cE
  go_wp2_with fail
  refine d6.mono ?_
  rintro e w8 ⟨rfl, b8⟩
  have B8 := B7.trans (b8.mono B7.size)
  have Q8 : Below (w6.heap.size + 1) (w6.alloc (.cells #[.int .i64 V2.1, .int .i64 V2.2.1, .string V2.2.2] 23)) w8 := b8.mono (by simp)
  have d7 := cT _ B8
  clear d6 cT
  go_wp2_with fail
  refine d7.mono ?_
  rintro e w9 ⟨⟨qt, ct, rfl, I9⟩, b9⟩
  have B9 := B8.trans (b9.mono B8.size)
  have hs8 : w6.heap.size + 1 ≤ w8.heap.size := by have := b8.size; simpa using this
  have Q9 := Q8.trans (b9.mono hs8)
  have d8 := cF _ B9
  clear d7 cF
  go_wp2_with fail
  refine d8.mono ?_
  rintro e w10 ⟨rfl, b10⟩
  have B10 := B9.trans (b10.mono B9.size)
  have hs9 : w6.heap.size + 1 ≤ w9.heap.size := by have := b9.size; omega
  have Q10 := Q9.trans (b10.mono hs9)
  have L10 : Below w6.heap.size w6 w10 := ((alB w6 (.cells #[.int .i64 V2.1, .int .i64 V2.2.1, .string V2.2.2] 23)).trans (Q10.mono (Nat.le_succ _)))
  have K10 := K6.trans (L10.mono K6.size)
  have I10 : IntsAt w10 qt (natZ D1) := I9.out.on b10
  have J10 : IntsAt w10 qa (natZ D1) := hJ.out.on K10
  have d9 := cI.out w10 qt qa ct ca I10 J10
  clear d8 cI I10 J10
  go_wp2_with fail
  refine d9.mono ?_
  rintro e w11 ⟨rfl, b11⟩
  have B11 := B10.trans (b11.mono B10.size)
  have Q11 := Q10.trans (b11.mono (by have := b10.size; omega))
  obtain ⟨y0, y1, y2, yf, yl⟩ := box3 Q11
  have K11 := K10.trans (b11.mono K10.size)
  obtain ⟨t0, t1, t2, tl⟩ := T0.out
  have x0 : w11.cell? ⟨w3.heap.size, 0, none⟩ = some (.int .i64 V2.1) := by rw [K11.cell (p := ⟨w3.heap.size, 0, none⟩) tl]; exact t0
  have x1 : w11.cell? ⟨w3.heap.size, 1, none⟩ = some (.int .i64 V2.2.1) := by rw [K11.cell (p := ⟨w3.heap.size, 1, none⟩) tl]; exact t1
  have x2 : w11.cell? ⟨w3.heap.size, 2, none⟩ = some (.string V2.2.2) := by rw [K11.cell (p := ⟨w3.heap.size, 2, none⟩) tl]; exact t2
  have xl : w3.heap.size < w11.heap.size := by have := K11.size; omega
  clear t0 t1 t2 tl T0
  have hveq := valV_eql V2.1 V2.2.1 V2.2.2
  have qM : ((D2.length : Int) == (D2.length : Int)) = true := by simp
  clear d9 b11 Q11 Q10 Q9 Q8 K6 K10 K11 L10 b6 b8 b9 b10
  go_wp2
  go_ret
  exact ⟨rfl, B11⟩
set_option maxHeartbeats 8000000 in
set_option maxRecDepth 20000 in
theorem vt_in01 (w : World) (p : Option Addr) (N c : Nat) (pz : Option Addr) (nz cz : Nat) (pr : Option Addr) (nr cr : Nat) (fuel : Int) (E1 Er F1 G : Int) (D1 D2 : List Nat) (V1 V2 : V3) (EV FV : Value) (h4 : G ≠ 0) (hf0 : ¬ fuel < 0) (hf : ¬ 1000000 < fuel)
    (h : VtC w p N c (.slice pz nz cz) (.slice pr nr cr) fuel 0 0 0 G D1 D2 V1 V2 noV D2.length EV FV G 0 D1) :
    Calls Tryz.prog 5 #[.slice p N c, .slice pz nz cz, .slice pr nr cr, .int .i64 fuel] w fun e w' => e = .returned (.bool true) ∧ Below w.heap.size w w' := by
  obtain ⟨A, T, M0, c0⟩ := h.check
  have cW := h.row
  have cR := h.run
  have cT := h.trace
  have cE := h.one
  have cF := h.two
  have cI : Aside (∀ W p q ca cb, IntsAt W p (natZ D1) → IntsAt W q (natZ D1) → Calls Tryz.prog 21 #[.slice p (D1).length ca, .slice q (D1).length cb] W fun e w' => e = .returned (.bool true) ∧ Below W.heap.size W w') := h.like
  have hb4 : (G == 0) = false := by simpa using h4
  clear h4
  have cS1 := h.run1 rfl rfl
  have cS2 := h.run2 rfl rfl
  clear h
  go_enter Tryz.func5, Tryz.ntmps5
  go_wp2_with fail
  refine c0.mono ?_
  rintro e w1 ⟨rfl, b1⟩
  clear c0
  have d1 := cW w1 b1
  clear cW
  go_wp2_with fail
  refine d1.mono ?_
  rintro e w2 ⟨rfl, b2⟩
  have B2 := b1.trans (b2.mono b1.size)
  clear d1 b2
  have d2 := cS1 w2 B2
  clear cS1
  go_wp2_with fail
  refine d2.mono ?_
  rintro e w3 ⟨⟨qa, ca, rfl, I3⟩, b3⟩
  have B3 := B2.trans (b3.mono B2.size)
  clear d2 b3 b1
  have P4 : Below (w3.heap.size + 1) (w3.alloc (.cells #[.int .i64 0, .int .i64 0, .string ⟨#[]⟩] 23)) (w3.alloc (.cells #[.int .i64 0, .int .i64 0, .string ⟨#[]⟩] 23)) := Below.refl _ _
  have B4 : Below w.heap.size w (w3.alloc (.cells #[.int .i64 0, .int .i64 0, .string ⟨#[]⟩] 23)) := B3.alloc B3.size _
  have d3 := cS2 _ B4
  clear cS2
  go_wp2_with fail
  refine d3.mono ?_
  rintro e w5 ⟨⟨qb, cb, rfl, I5⟩, b5⟩
  have B5 := B4.trans (b5.mono B4.size)
  have P5 := P4.trans (b5.mono (by simp))
  clear d3 I5
  have B6x : Below w.heap.size w (w5.alloc (.cells #[.int .i64 V2.1, .int .i64 V2.2.1, .string V2.2.2] 23)) := B5.alloc B5.size _
  have P6 := P5.alloc (by have := b5.size; simp at this; omega) (.cells #[.int .i64 V2.1, .int .i64 V2.2.1, .string V2.2.2] 23)
  clear P5 P4
  have d5 := cR _ B6x
  clear cR
  go_wp2_with fail
  refine d5.mono ?_
  rintro e w6 ⟨rfl, b6⟩
  have B6 := B6x.trans (b6.mono B6x.size)
  have B7 := B6.alloc B6.size (.cells #[.int .i64 noV.1, .int .i64 noV.2.1, .string noV.2.2] 23)
  have K6 := b6
  have d6 := cE _ B7
  clear d5 cE
  go_wp2_with fail
  refine d6.mono ?_
  rintro e w8 ⟨rfl, b8⟩
  have B8 := B7.trans (b8.mono B7.size)
  have Q8 : Below (w6.heap.size + 1) (w6.alloc (.cells #[.int .i64 noV.1, .int .i64 noV.2.1, .string noV.2.2] 23)) w8 := b8.mono (by simp)
  have d7 := cT _ B8
  clear d6 cT
  go_wp2_with fail
  refine d7.mono ?_
  rintro e w9 ⟨⟨qt, ct, rfl, I9⟩, b9⟩
  have B9 := B8.trans (b9.mono B8.size)
  have hs8 : w6.heap.size + 1 ≤ w8.heap.size := by have := b8.size; simpa using this
  have Q9 := Q8.trans (b9.mono hs8)
  have d8 := cF _ B9
  clear d7 cF
  go_wp2_with fail
  refine d8.mono ?_
  rintro e w10 ⟨rfl, b10⟩
  have B10 := B9.trans (b10.mono B9.size)
  have hs9 : w6.heap.size + 1 ≤ w9.heap.size := by have := b9.size; omega
  have Q10 := Q9.trans (b10.mono hs9)
  have L10 : Below w6.heap.size w6 w10 := ((alB w6 (.cells #[.int .i64 noV.1, .int .i64 noV.2.1, .string noV.2.2] 23)).trans (Q10.mono (Nat.le_succ _)))
  have K10 := K6.trans (L10.mono K6.size)
  have I10 : IntsAt w10 qt (natZ D1) := I9.out.on b10
  have J10 : IntsAt w10 qa (natZ D1) := (((I3.out.on (alB w3 (.cells #[.int .i64 0, .int .i64 0, .string ⟨#[]⟩] 23))).on b5).on (alB w5 (.cells #[.int .i64 V2.1, .int .i64 V2.2.1, .string V2.2.2] 23))).on K10
  have d9 := cI.out w10 qt qa ct ca I10 J10
  clear d8 cI I10 J10
  go_wp2_with fail
  refine d9.mono ?_
  rintro e w11 ⟨rfl, b11⟩
  have B11 := B10.trans (b11.mono B10.size)
  have Q11 := Q10.trans (b11.mono (by have := b10.size; omega))
  obtain ⟨y0, y1, y2, yf, yl⟩ := box3 Q11
  have K11 := K10.trans (b11.mono K10.size)
  have P11 := P6.trans (K11.mono (by have := b5.size; simp at this ⊢; omega))
  obtain ⟨x0, x1, x2, xf, xl⟩ := box3 P11
  have hveq := valV_eql 0 0 ⟨#[]⟩
  simp only [noV] at y0 y1 y2
  have qM : ((D2.length : Int) == (D2.length : Int)) = true := by simp
  clear d9 b11 Q11 Q10 Q9 Q8 K6 K10 K11 L10 b6 b8 b9 b10
  go_wp2
  go_ret
  exact ⟨rfl, B11⟩
set_option maxHeartbeats 8000000 in
set_option maxRecDepth 20000 in
theorem vt_lo1 (w : World) (p : Option Addr) (N c : Nat) (pz : Option Addr) (nz cz : Nat) (pr : Option Addr) (nr cr : Nat) (fuel : Int) (E1 Er F1 G : Int) (D1 D2 : List Nat) (V1 V2 : V3) (EV FV : Value) (h3 : F1 ≠ 0) (hf : fuel < 0)
    (h : VtC w p N c (.slice pz nz cz) (.slice pr nr cr) fuel 0 0 F1 G D1 D2 V1 V2 noV 0 EV FV 1 F1 []) :
    Calls Tryz.prog 5 #[.slice p N c, .slice pz nz cz, .slice pr nr cr, .int .i64 fuel] w fun e w' => e = .returned (.bool true) ∧ Below w.heap.size w w' := by
  obtain ⟨A, T, M0, c0⟩ := h.check
  have cW := h.row
  have cR := h.run
  have cT := h.trace
  have cE := h.one
  have cF := h.two
  have cI : Aside (∀ W p q ca cb, IntsAt W p (natZ []) → IntsAt W q (natZ []) → Calls Tryz.prog 21 #[.slice p ([]).length ca, .slice q ([]).length cb] W fun e w' => e = .returned (.bool true) ∧ Below W.heap.size W w') := h.like
  have hb3 : (F1 == 0) = false := by simpa using h3
  have hb3n : (F1 != 0) = true := by simpa using h3
  clear h3
  have cS1 := h.run1 rfl rfl
  have cS2 := h.run2 rfl rfl
  clear cS2
  clear h
  go_enter Tryz.func5, Tryz.ntmps5
  go_wp2_with fail
  refine c0.mono ?_
  rintro e w1 ⟨rfl, b1⟩
  clear c0
  have d1 := cW w1 b1
  clear cW
  go_wp2_with fail
  refine d1.mono ?_
  rintro e w2 ⟨rfl, b2⟩
  have B2 := b1.trans (b2.mono b1.size)
  clear d1 b2
  have d2 := cS1 w2 B2
  clear cS1
  go_wp2_with fail
  refine d2.mono ?_
  rintro e w3 ⟨⟨qa, ca, rfl, I3⟩, b3⟩
  have B3 := B2.trans (b3.mono B2.size)
  clear d2 b3 b1
  have P4 : Below (w3.heap.size + 1) (w3.alloc (.cells #[.int .i64 0, .int .i64 0, .string ⟨#[]⟩] 23)) (w3.alloc (.cells #[.int .i64 0, .int .i64 0, .string ⟨#[]⟩] 23)) := Below.refl _ _
  have B4 : Below w.heap.size w (w3.alloc (.cells #[.int .i64 0, .int .i64 0, .string ⟨#[]⟩] 23)) := B3.alloc B3.size _
  have d5 := cR _ B4
  clear cR
  go_wp2_with fail
  refine d5.mono ?_
  rintro e w6 ⟨rfl, b6⟩
  have B6 := B4.trans (b6.mono B4.size)
  have B7 := B6.alloc B6.size (.cells #[.int .i64 noV.1, .int .i64 noV.2.1, .string noV.2.2] 23)
  have K6 := b6
  have d6 := cE _ B7
  clear d5 cE
  go_wp2_with fail
  refine d6.mono ?_
  rintro e w8 ⟨rfl, b8⟩
  have B8 := B7.trans (b8.mono B7.size)
  have Q8 : Below (w6.heap.size + 1) (w6.alloc (.cells #[.int .i64 noV.1, .int .i64 noV.2.1, .string noV.2.2] 23)) w8 := b8.mono (by simp)
  have d7 := cT _ B8
  clear d6 cT
  go_wp2_with fail
  refine d7.mono ?_
  rintro e w9 ⟨⟨qt, ct, rfl, I9⟩, b9⟩
  have B9 := B8.trans (b9.mono B8.size)
  have hs8 : w6.heap.size + 1 ≤ w8.heap.size := by have := b8.size; simpa using this
  have Q9 := Q8.trans (b9.mono hs8)
  have d8 := cF _ B9
  clear d7 cF
  go_wp2_with fail
  refine d8.mono ?_
  rintro e w10 ⟨rfl, b10⟩
  have B10 := B9.trans (b10.mono B9.size)
  have hs9 : w6.heap.size + 1 ≤ w9.heap.size := by have := b9.size; omega
  have Q10 := Q9.trans (b10.mono hs9)
  have L10 : Below w6.heap.size w6 w10 := ((alB w6 (.cells #[.int .i64 noV.1, .int .i64 noV.2.1, .string noV.2.2] 23)).trans (Q10.mono (Nat.le_succ _)))
  have K10 := K6.trans (L10.mono K6.size)
  have I10 : IntsAt w10 qt (natZ ([] : List Nat)) := I9.out.on b10
  have J10 : IntsAt w10 none (natZ []) := .inl rfl
  have d9 := cI.out w10 qt none ct 0 I10 J10
  clear d8 cI I10 J10
  go_wp2_with fail
  refine d9.mono ?_
  rintro e w11 ⟨rfl, b11⟩
  have B11 := B10.trans (b11.mono B10.size)
  have Q11 := Q10.trans (b11.mono (by have := b10.size; omega))
  obtain ⟨y0, y1, y2, yf, yl⟩ := box3 Q11
  have K11 := K10.trans (b11.mono K10.size)
  have P11 := P4.trans (K11.mono (by simp))
  obtain ⟨x0, x1, x2, xf, xl⟩ := box3 P11
  have hveq := valV_eql 0 0 ⟨#[]⟩
  simp only [noV] at y0 y1 y2
  have qM : (((0 : Nat) : Int) == ((0 : Nat) : Int)) = true := by simp
  clear d9 b11 Q11 Q10 Q9 Q8 K6 K10 K11 L10 b6 b8 b9 b10
  go_wp2
  go_ret
  exact ⟨rfl, B11⟩
set_option maxHeartbeats 8000000 in
set_option maxRecDepth 20000 in
theorem vt_hi1 (w : World) (p : Option Addr) (N c : Nat) (pz : Option Addr) (nz cz : Nat) (pr : Option Addr) (nr cr : Nat) (fuel : Int) (E1 Er F1 G : Int) (D1 D2 : List Nat) (V1 V2 : V3) (EV FV : Value) (h3 : F1 ≠ 0) (hf0 : ¬ fuel < 0) (hf : 1000000 < fuel)
    (h : VtC w p N c (.slice pz nz cz) (.slice pr nr cr) fuel 0 0 F1 G D1 D2 V1 V2 noV 0 EV FV 1 F1 []) :
    Calls Tryz.prog 5 #[.slice p N c, .slice pz nz cz, .slice pr nr cr, .int .i64 fuel] w fun e w' => e = .returned (.bool true) ∧ Below w.heap.size w w' := by
  obtain ⟨A, T, M0, c0⟩ := h.check
  have cW := h.row
  have cR := h.run
  have cT := h.trace
  have cE := h.one
  have cF := h.two
  have cI : Aside (∀ W p q ca cb, IntsAt W p (natZ []) → IntsAt W q (natZ []) → Calls Tryz.prog 21 #[.slice p ([]).length ca, .slice q ([]).length cb] W fun e w' => e = .returned (.bool true) ∧ Below W.heap.size W w') := h.like
  have hb3 : (F1 == 0) = false := by simpa using h3
  have hb3n : (F1 != 0) = true := by simpa using h3
  clear h3
  have cS1 := h.run1 rfl rfl
  have cS2 := h.run2 rfl rfl
  clear cS2
  clear h
  go_enter Tryz.func5, Tryz.ntmps5
  go_wp2_with fail
  refine c0.mono ?_
  rintro e w1 ⟨rfl, b1⟩
  clear c0
  have d1 := cW w1 b1
  clear cW
  go_wp2_with fail
  refine d1.mono ?_
  rintro e w2 ⟨rfl, b2⟩
  have B2 := b1.trans (b2.mono b1.size)
  clear d1 b2
  have d2 := cS1 w2 B2
  clear cS1
  go_wp2_with fail
  refine d2.mono ?_
  rintro e w3 ⟨⟨qa, ca, rfl, I3⟩, b3⟩
  have B3 := B2.trans (b3.mono B2.size)
  clear d2 b3 b1
  have P4 : Below (w3.heap.size + 1) (w3.alloc (.cells #[.int .i64 0, .int .i64 0, .string ⟨#[]⟩] 23)) (w3.alloc (.cells #[.int .i64 0, .int .i64 0, .string ⟨#[]⟩] 23)) := Below.refl _ _
  have B4 : Below w.heap.size w (w3.alloc (.cells #[.int .i64 0, .int .i64 0, .string ⟨#[]⟩] 23)) := B3.alloc B3.size _
  have d5 := cR _ B4
  clear cR
  go_wp2_with fail
  refine d5.mono ?_
  rintro e w6 ⟨rfl, b6⟩
  have B6 := B4.trans (b6.mono B4.size)
  have B7 := B6.alloc B6.size (.cells #[.int .i64 noV.1, .int .i64 noV.2.1, .string noV.2.2] 23)
  have K6 := b6
  have d6 := cE _ B7
  clear d5 cE
  go_wp2_with fail
  refine d6.mono ?_
  rintro e w8 ⟨rfl, b8⟩
  have B8 := B7.trans (b8.mono B7.size)
  have Q8 : Below (w6.heap.size + 1) (w6.alloc (.cells #[.int .i64 noV.1, .int .i64 noV.2.1, .string noV.2.2] 23)) w8 := b8.mono (by simp)
  have d7 := cT _ B8
  clear d6 cT
  go_wp2_with fail
  refine d7.mono ?_
  rintro e w9 ⟨⟨qt, ct, rfl, I9⟩, b9⟩
  have B9 := B8.trans (b9.mono B8.size)
  have hs8 : w6.heap.size + 1 ≤ w8.heap.size := by have := b8.size; simpa using this
  have Q9 := Q8.trans (b9.mono hs8)
  have d8 := cF _ B9
  clear d7 cF
  go_wp2_with fail
  refine d8.mono ?_
  rintro e w10 ⟨rfl, b10⟩
  have B10 := B9.trans (b10.mono B9.size)
  have hs9 : w6.heap.size + 1 ≤ w9.heap.size := by have := b9.size; omega
  have Q10 := Q9.trans (b10.mono hs9)
  have L10 : Below w6.heap.size w6 w10 := ((alB w6 (.cells #[.int .i64 noV.1, .int .i64 noV.2.1, .string noV.2.2] 23)).trans (Q10.mono (Nat.le_succ _)))
  have K10 := K6.trans (L10.mono K6.size)
  have I10 : IntsAt w10 qt (natZ ([] : List Nat)) := I9.out.on b10
  have J10 : IntsAt w10 none (natZ []) := .inl rfl
  have d9 := cI.out w10 qt none ct 0 I10 J10
  clear d8 cI I10 J10
  go_wp2_with fail
  refine d9.mono ?_
  rintro e w11 ⟨rfl, b11⟩
  have B11 := B10.trans (b11.mono B10.size)
  have Q11 := Q10.trans (b11.mono (by have := b10.size; omega))
  obtain ⟨y0, y1, y2, yf, yl⟩ := box3 Q11
  have K11 := K10.trans (b11.mono K10.size)
  have P11 := P4.trans (K11.mono (by simp))
  obtain ⟨x0, x1, x2, xf, xl⟩ := box3 P11
  have hveq := valV_eql 0 0 ⟨#[]⟩
  simp only [noV] at y0 y1 y2
  have qM : (((0 : Nat) : Int) == ((0 : Nat) : Int)) = true := by simp
  clear d9 b11 Q11 Q10 Q9 Q8 K6 K10 K11 L10 b6 b8 b9 b10
  go_wp2
  go_ret
  exact ⟨rfl, B11⟩
set_option maxHeartbeats 8000000 in
set_option maxRecDepth 20000 in
theorem vt_in10 (w : World) (p : Option Addr) (N c : Nat) (pz : Option Addr) (nz cz : Nat) (pr : Option Addr) (nr cr : Nat) (fuel : Int) (E1 Er F1 G : Int) (D1 D2 : List Nat) (V1 V2 : V3) (EV FV : Value) (h3 : F1 ≠ 0) (hf0 : ¬ fuel < 0) (hf : ¬ 1000000 < fuel)
    (h : VtC w p N c (.slice pz nz cz) (.slice pr nr cr) fuel 0 0 F1 0 D1 D2 V1 V2 V2 D2.length EV FV 0 F1 []) :
    Calls Tryz.prog 5 #[.slice p N c, .slice pz nz cz, .slice pr nr cr, .int .i64 fuel] w fun e w' => e = .returned (.bool true) ∧ Below w.heap.size w w' := by
  obtain ⟨A, T, M0, c0⟩ := h.check
  have cW := h.row
  have cR := h.run
  have cT := h.trace
  have cE := h.one
  have cF := h.two
  have cI : Aside (∀ W p q ca cb, IntsAt W p (natZ []) → IntsAt W q (natZ []) → Calls Tryz.prog 21 #[.slice p ([]).length ca, .slice q ([]).length cb] W fun e w' => e = .returned (.bool true) ∧ Below W.heap.size W w') := h.like
  have hb3 : (F1 == 0) = false := by simpa using h3
  have hb3n : (F1 != 0) = true := by simpa using h3
  clear h3
  have cS1 := h.run1 rfl rfl
  have cS2 := h.run2 rfl rfl
  clear h
  go_enter Tryz.func5, Tryz.ntmps5
  go_wp2_with fail
  refine c0.mono ?_
  rintro e w1 ⟨rfl, b1⟩
  clear c0
  have d1 := cW w1 b1
  clear cW
  go_wp2_with fail
  refine d1.mono ?_
  rintro e w2 ⟨rfl, b2⟩
  have B2 := b1.trans (b2.mono b1.size)
  clear d1 b2
  have d2 := cS1 w2 B2
  clear cS1
  go_wp2_with fail
  refine d2.mono ?_
  rintro e w3 ⟨⟨qa, ca, rfl, I3⟩, b3⟩
  have B3 := B2.trans (b3.mono B2.size)
  clear d2 b3 b1
  have P4 : Below (w3.heap.size + 1) (w3.alloc (.cells #[.int .i64 0, .int .i64 0, .string ⟨#[]⟩] 23)) (w3.alloc (.cells #[.int .i64 0, .int .i64 0, .string ⟨#[]⟩] 23)) := Below.refl _ _
  have B4 : Below w.heap.size w (w3.alloc (.cells #[.int .i64 0, .int .i64 0, .string ⟨#[]⟩] 23)) := B3.alloc B3.size _
  have d3 := cS2 _ B4
  clear cS2
  go_wp2_with fail
  refine d3.mono ?_
  rintro e w5 ⟨⟨qb, cb, rfl, I5⟩, b5⟩
  have B5 := B4.trans (b5.mono B4.size)
  have P5 := P4.trans (b5.mono (by simp))
  clear d3 I5
  obtain ⟨z0, z1, z2, zf, zl⟩ := box3 P5
  have hw3 : w.heap.size ≤ w3.heap.size := B3.size
  have S5 := below3 B5 hw3 (.int .i64 V2.1) (.int .i64 V2.2.1) (.string V2.2.2)
  have B6x : Below w.heap.size w ((((w5.setCell ⟨w3.heap.size, 0, none⟩ (.int .i64 V2.1)).setCell ⟨w3.heap.size, 1, none⟩ (.int .i64 V2.2.1)).setCell ⟨w3.heap.size, 2, none⟩ (.string V2.2.2)).alloc (.cells #[.int .i64 V2.1, .int .i64 V2.2.1, .string V2.2.2] 23)) := S5.alloc S5.size _
  have hsz5 : w3.heap.size < (((w5.setCell ⟨w3.heap.size, 0, none⟩ (.int .i64 V2.1)).setCell ⟨w3.heap.size, 1, none⟩ (.int .i64 V2.2.1)).setCell ⟨w3.heap.size, 2, none⟩ (.string V2.2.2)).heap.size := by simpa [World.setCell] using zl
  have t0 : ((((w5.setCell ⟨w3.heap.size, 0, none⟩ (.int .i64 V2.1)).setCell ⟨w3.heap.size, 1, none⟩ (.int .i64 V2.2.1)).setCell ⟨w3.heap.size, 2, none⟩ (.string V2.2.2)).alloc (.cells #[.int .i64 V2.1, .int .i64 V2.2.1, .string V2.2.2] 23)).cell? ⟨w3.heap.size, 0, none⟩ = some (.int .i64 V2.1) := by rw [(alB _ _).cell (p := ⟨w3.heap.size, 0, none⟩) hsz5, cell_ne (by decide), cell_ne (by decide), cell_eq z0]
  have t1 : ((((w5.setCell ⟨w3.heap.size, 0, none⟩ (.int .i64 V2.1)).setCell ⟨w3.heap.size, 1, none⟩ (.int .i64 V2.2.1)).setCell ⟨w3.heap.size, 2, none⟩ (.string V2.2.2)).alloc (.cells #[.int .i64 V2.1, .int .i64 V2.2.1, .string V2.2.2] 23)).cell? ⟨w3.heap.size, 1, none⟩ = some (.int .i64 V2.2.1) := by rw [(alB _ _).cell (p := ⟨w3.heap.size, 1, none⟩) hsz5, cell_ne (by decide), cell_eq (u := .int .i64 0) (by rw [cell_ne (by decide)]; exact z1)]
  have t2 : ((((w5.setCell ⟨w3.heap.size, 0, none⟩ (.int .i64 V2.1)).setCell ⟨w3.heap.size, 1, none⟩ (.int .i64 V2.2.1)).setCell ⟨w3.heap.size, 2, none⟩ (.string V2.2.2)).alloc (.cells #[.int .i64 V2.1, .int .i64 V2.2.1, .string V2.2.2] 23)).cell? ⟨w3.heap.size, 2, none⟩ = some (.string V2.2.2) := by rw [(alB _ _).cell (p := ⟨w3.heap.size, 2, none⟩) hsz5, cell_eq (u := .string ⟨#[]⟩) (by rw [cell_ne (by decide), cell_ne (by decide)]; exact z2)]
  have hszx : w3.heap.size < ((((w5.setCell ⟨w3.heap.size, 0, none⟩ (.int .i64 V2.1)).setCell ⟨w3.heap.size, 1, none⟩ (.int .i64 V2.2.1)).setCell ⟨w3.heap.size, 2, none⟩ (.string V2.2.2)).alloc (.cells #[.int .i64 V2.1, .int .i64 V2.2.1, .string V2.2.2] 23)).heap.size := by simp; omega
  have T0 : Hid (((((w5.setCell ⟨w3.heap.size, 0, none⟩ (.int .i64 V2.1)).setCell ⟨w3.heap.size, 1, none⟩ (.int .i64 V2.2.1)).setCell ⟨w3.heap.size, 2, none⟩ (.string V2.2.2)).alloc (.cells #[.int .i64 V2.1, .int .i64 V2.2.1, .string V2.2.2] 23)).cell? ⟨w3.heap.size, 0, none⟩ = some (.int .i64 V2.1) ∧ ((((w5.setCell ⟨w3.heap.size, 0, none⟩ (.int .i64 V2.1)).setCell ⟨w3.heap.size, 1, none⟩ (.int .i64 V2.2.1)).setCell ⟨w3.heap.size, 2, none⟩ (.string V2.2.2)).alloc (.cells #[.int .i64 V2.1, .int .i64 V2.2.1, .string V2.2.2] 23)).cell? ⟨w3.heap.size, 1, none⟩ = some (.int .i64 V2.2.1) ∧ ((((w5.setCell ⟨w3.heap.size, 0, none⟩ (.int .i64 V2.1)).setCell ⟨w3.heap.size, 1, none⟩ (.int .i64 V2.2.1)).setCell ⟨w3.heap.size, 2, none⟩ (.string V2.2.2)).alloc (.cells #[.int .i64 V2.1, .int .i64 V2.2.1, .string V2.2.2] 23)).cell? ⟨w3.heap.size, 2, none⟩ = some (.string V2.2.2) ∧ w3.heap.size < ((((w5.setCell ⟨w3.heap.size, 0, none⟩ (.int .i64 V2.1)).setCell ⟨w3.heap.size, 1, none⟩ (.int .i64 V2.2.1)).setCell ⟨w3.heap.size, 2, none⟩ (.string V2.2.2)).alloc (.cells #[.int .i64 V2.1, .int .i64 V2.2.1, .string V2.2.2] 23)).heap.size) := ⟨t0, t1, t2, hszx⟩
  have hJ : True := trivial
  clear t0 t1 t2 hszx hsz5 S5 b5 P5 P4 B5
  have d5 := cR _ B6x
  clear cR
  go_wp2_with fail
  refine d5.mono ?_
  rintro e w6 ⟨rfl, b6⟩
  have B6 := B6x.trans (b6.mono B6x.size)
  have B7 := B6.alloc B6.size (.cells #[.int .i64 V2.1, .int .i64 V2.2.1, .string V2.2.2] 23)
  have K6 := b6
  have d6 := cE _ B7
  clear d5 cE
  go_wp2_with fail
  refine d6.mono ?_
  rintro e w8 ⟨rfl, b8⟩
  have B8 := B7.trans (b8.mono B7.size)
  have Q8 : Below (w6.heap.size + 1) (w6.alloc (.cells #[.int .i64 V2.1, .int .i64 V2.2.1, .string V2.2.2] 23)) w8 := b8.mono (by simp)
  have d7 := cT _ B8
  clear d6 cT
  go_wp2_with fail
  refine d7.mono ?_
  rintro e w9 ⟨⟨qt, ct, rfl, I9⟩, b9⟩
  have B9 := B8.trans (b9.mono B8.size)
  have hs8 : w6.heap.size + 1 ≤ w8.heap.size := by have := b8.size; simpa using this
  have Q9 := Q8.trans (b9.mono hs8)
  have d8 := cF _ B9
  clear d7 cF
  go_wp2_with fail
  refine d8.mono ?_
  rintro e w10 ⟨rfl, b10⟩
  have B10 := B9.trans (b10.mono B9.size)
  have hs9 : w6.heap.size + 1 ≤ w9.heap.size := by have := b9.size; omega
  have Q10 := Q9.trans (b10.mono hs9)
  have L10 : Below w6.heap.size w6 w10 := ((alB w6 (.cells #[.int .i64 V2.1, .int .i64 V2.2.1, .string V2.2.2] 23)).trans (Q10.mono (Nat.le_succ _)))
  have K10 := K6.trans (L10.mono K6.size)
  have I10 : IntsAt w10 qt (natZ ([] : List Nat)) := I9.out.on b10
  have J10 : IntsAt w10 none (natZ []) := .inl rfl
  have d9 := cI.out w10 qt none ct 0 I10 J10
  clear d8 cI I10 J10
  go_wp2_with fail
  refine d9.mono ?_
  rintro e w11 ⟨rfl, b11⟩
  have B11 := B10.trans (b11.mono B10.size)
  have Q11 := Q10.trans (b11.mono (by have := b10.size; omega))
  obtain ⟨y0, y1, y2, yf, yl⟩ := box3 Q11
  have K11 := K10.trans (b11.mono K10.size)
  obtain ⟨t0, t1, t2, tl⟩ := T0.out
  have x0 : w11.cell? ⟨w3.heap.size, 0, none⟩ = some (.int .i64 V2.1) := by rw [K11.cell (p := ⟨w3.heap.size, 0, none⟩) tl]; exact t0
  have x1 : w11.cell? ⟨w3.heap.size, 1, none⟩ = some (.int .i64 V2.2.1) := by rw [K11.cell (p := ⟨w3.heap.size, 1, none⟩) tl]; exact t1
  have x2 : w11.cell? ⟨w3.heap.size, 2, none⟩ = some (.string V2.2.2) := by rw [K11.cell (p := ⟨w3.heap.size, 2, none⟩) tl]; exact t2
  have xl : w3.heap.size < w11.heap.size := by have := K11.size; omega
  clear t0 t1 t2 tl T0
  have hveq := valV_eql V2.1 V2.2.1 V2.2.2
  have qM : ((D2.length : Int) == (D2.length : Int)) = true := by simp
  clear d9 b11 Q11 Q10 Q9 Q8 K6 K10 K11 L10 b6 b8 b9 b10
  go_wp2
  go_ret
  exact ⟨rfl, B11⟩
set_option maxHeartbeats 8000000 in
set_option maxRecDepth 20000 in
theorem vt_in11 (w : World) (p : Option Addr) (N c : Nat) (pz : Option Addr) (nz cz : Nat) (pr : Option Addr) (nr cr : Nat) (fuel : Int) (E1 Er F1 G : Int) (D1 D2 : List Nat) (V1 V2 : V3) (EV FV : Value) (h3 : F1 ≠ 0) (h4 : G ≠ 0) (hf0 : ¬ fuel < 0) (hf : ¬ 1000000 < fuel)
    (h : VtC w p N c (.slice pz nz cz) (.slice pr nr cr) fuel 0 0 F1 G D1 D2 V1 V2 noV D2.length EV FV G F1 []) :
    Calls Tryz.prog 5 #[.slice p N c, .slice pz nz cz, .slice pr nr cr, .int .i64 fuel] w fun e w' => e = .returned (.bool true) ∧ Below w.heap.size w w' := by
  obtain ⟨A, T, M0, c0⟩ := h.check
  have cW := h.row
  have cR := h.run
  have cT := h.trace
  have cE := h.one
  have cF := h.two
  have cI : Aside (∀ W p q ca cb, IntsAt W p (natZ []) → IntsAt W q (natZ []) → Calls Tryz.prog 21 #[.slice p ([]).length ca, .slice q ([]).length cb] W fun e w' => e = .returned (.bool true) ∧ Below W.heap.size W w') := h.like
  have hb3 : (F1 == 0) = false := by simpa using h3
  have hb3n : (F1 != 0) = true := by simpa using h3
  clear h3
  have hb4 : (G == 0) = false := by simpa using h4
  clear h4
  have cS1 := h.run1 rfl rfl
  have cS2 := h.run2 rfl rfl
  clear h
  go_enter Tryz.func5, Tryz.ntmps5
  go_wp2_with fail
  refine c0.mono ?_
  rintro e w1 ⟨rfl, b1⟩
  clear c0
  have d1 := cW w1 b1
  clear cW
  go_wp2_with fail
  refine d1.mono ?_
  rintro e w2 ⟨rfl, b2⟩
  have B2 := b1.trans (b2.mono b1.size)
  clear d1 b2
  have d2 := cS1 w2 B2
  clear cS1
  go_wp2_with fail
  refine d2.mono ?_
  rintro e w3 ⟨⟨qa, ca, rfl, I3⟩, b3⟩
  have B3 := B2.trans (b3.mono B2.size)
  clear d2 b3 b1
  have P4 : Below (w3.heap.size + 1) (w3.alloc (.cells #[.int .i64 0, .int .i64 0, .string ⟨#[]⟩] 23)) (w3.alloc (.cells #[.int .i64 0, .int .i64 0, .string ⟨#[]⟩] 23)) := Below.refl _ _
  have B4 : Below w.heap.size w (w3.alloc (.cells #[.int .i64 0, .int .i64 0, .string ⟨#[]⟩] 23)) := B3.alloc B3.size _
  have d3 := cS2 _ B4
  clear cS2
  go_wp2_with fail
  refine d3.mono ?_
  rintro e w5 ⟨⟨qb, cb, rfl, I5⟩, b5⟩
  have B5 := B4.trans (b5.mono B4.size)
  have P5 := P4.trans (b5.mono (by simp))
  clear d3 I5
  have B6x : Below w.heap.size w (w5.alloc (.cells #[.int .i64 V2.1, .int .i64 V2.2.1, .string V2.2.2] 23)) := B5.alloc B5.size _
  have P6 := P5.alloc (by have := b5.size; simp at this; omega) (.cells #[.int .i64 V2.1, .int .i64 V2.2.1, .string V2.2.2] 23)
  clear P5 P4
  have d5 := cR _ B6x
  clear cR
  go_wp2_with fail
  refine d5.mono ?_
  rintro e w6 ⟨rfl, b6⟩
  have B6 := B6x.trans (b6.mono B6x.size)
  have B7 := B6.alloc B6.size (.cells #[.int .i64 noV.1, .int .i64 noV.2.1, .string noV.2.2] 23)
  have K6 := b6
  have d6 := cE _ B7
  clear d5 cE
  go_wp2_with fail
  refine d6.mono ?_
  rintro e w8 ⟨rfl, b8⟩
  have B8 := B7.trans (b8.mono B7.size)
  have Q8 : Below (w6.heap.size + 1) (w6.alloc (.cells #[.int .i64 noV.1, .int .i64 noV.2.1, .string noV.2.2] 23)) w8 := b8.mono (by simp)
  have d7 := cT _ B8
  clear d6 cT
  go_wp2_with fail
  refine d7.mono ?_
  rintro e w9 ⟨⟨qt, ct, rfl, I9⟩, b9⟩
  have B9 := B8.trans (b9.mono B8.size)
  have hs8 : w6.heap.size + 1 ≤ w8.heap.size := by have := b8.size; simpa using this
  have Q9 := Q8.trans (b9.mono hs8)
  have d8 := cF _ B9
  clear d7 cF
  go_wp2_with fail
  refine d8.mono ?_
  rintro e w10 ⟨rfl, b10⟩
  have B10 := B9.trans (b10.mono B9.size)
  have hs9 : w6.heap.size + 1 ≤ w9.heap.size := by have := b9.size; omega
  have Q10 := Q9.trans (b10.mono hs9)
  have L10 : Below w6.heap.size w6 w10 := ((alB w6 (.cells #[.int .i64 noV.1, .int .i64 noV.2.1, .string noV.2.2] 23)).trans (Q10.mono (Nat.le_succ _)))
  have K10 := K6.trans (L10.mono K6.size)
  have I10 : IntsAt w10 qt (natZ ([] : List Nat)) := I9.out.on b10
  have J10 : IntsAt w10 none (natZ []) := .inl rfl
  have d9 := cI.out w10 qt none ct 0 I10 J10
  clear d8 cI I10 J10
  go_wp2_with fail
  refine d9.mono ?_
  rintro e w11 ⟨rfl, b11⟩
  have B11 := B10.trans (b11.mono B10.size)
  have Q11 := Q10.trans (b11.mono (by have := b10.size; omega))
  obtain ⟨y0, y1, y2, yf, yl⟩ := box3 Q11
  have K11 := K10.trans (b11.mono K10.size)
  have P11 := P6.trans (K11.mono (by have := b5.size; simp at this ⊢; omega))
  obtain ⟨x0, x1, x2, xf, xl⟩ := box3 P11
  have hveq := valV_eql 0 0 ⟨#[]⟩
  simp only [noV] at y0 y1 y2
  have qM : ((D2.length : Int) == (D2.length : Int)) = true := by simp
  clear d9 b11 Q11 Q10 Q9 Q8 K6 K10 K11 L10 b6 b8 b9 b10
  go_wp2
  go_ret
  exact ⟨rfl, B11⟩
end Go.Proofs.YtfhlhdddhgkinaaGreatDoor
