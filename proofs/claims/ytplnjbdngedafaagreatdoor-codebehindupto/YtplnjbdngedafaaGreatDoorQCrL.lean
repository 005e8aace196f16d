/-
  The walk of CodeRuns: compiled it comes to the same. (Written by wip/gen_crl.py.)
-/
import Derived.Test.YtplnjbdngedafaaGreatDoorGrAt
import Derived.Test.YtplnjbdngedafaaGreatDoorGrAv
import Derived.Deep.RegionWith
import Derived.Deep.QuietTactic
import Derived.BigQuiet
namespace Go.Proofs.YtplnjbdngedafaaGreatDoor
open Go.RowKit
set_option linter.unusedVariables false

/-- What is called, and what it gives. -/
structure CrC (w : World) (v vl vr : Value) (IS : List I5) (T H P : Int) (SZ : Nat) (K : Int) (V V' : V3) (M : Nat) (EV BV : Value) (OV : Bool) : Prop where
  env : KEnv w
  comp : ∀ W, Below w.heap.size w W → Calls Tryz.prog 5 #[v, vl] W fun e w' => (∃ u hh pp, e = .returned (.tuple #[u, .agg #[.int .i64 hh, .int .i64 pp]]) ∧ Aside (H = 0 → hh = 0 ∧ pp = 0 ∧ InsV w' u IS) ∧ Aside (H ≠ 0 → hh = H ∧ pp = P ∧ u = .slice none 0 0)) ∧ Below W.heap.size W w'
  refof : ∀ W, Below w.heap.size w W → Calls Tryz.prog 6 #[v, vl] W fun e w' => e = .returned (.tuple #[.int .i64 T, .int .i64 H, .int .i64 P]) ∧ Below W.heap.size W w'
  typ : H = 0 → ∀ W u, Below w.heap.size w W → InsV W u IS → Calls Tryz.prog 7 #[u, vl] W fun e w' => e = .returned (.tuple #[.int .i64 T, .nilIface]) ∧ Below W.heap.size W w'
  size : ∀ W, Below w.heap.size w W → Calls Tryz.prog 8 #[v] W fun e w' => e = .returned (.int .i64 (SZ : Int)) ∧ Below W.heap.size W w'
  eval : ∀ W, Below w.heap.size w W → Calls Tryz.prog 9 #[v, vl, vr] W fun e w' => e = .returned (.tuple #[.agg #[.int .i64 V.1, .int .i64 V.2.1, .string V.2.2], EV]) ∧ Below W.heap.size W w'
  run : H = 0 → ∀ W u, Below w.heap.size w W → InsV W u IS → Calls Tryz.prog 10 #[u, vl, vr, .int .i64 1000000] W fun e w' => e = .returned (.tuple #[.agg #[.int .i64 V'.1, .int .i64 V'.2.1, .string V'.2.2], .int .i64 M, BV]) ∧ Below W.heap.size W w'
  rowc : ∀ W, Below w.heap.size w W → Calls Tryz.prog 11 #[vl, vr] W fun e w' => e = .returned (errV K) ∧ Below W.heap.size W w'
  over : ∀ W, Below w.heap.size w W → Calls Tryz.prog 12 #[BV, .int .i64 9] W fun e w' => e = .returned (.bool OV) ∧ Below W.heap.size W w'
theorem bool_eqT (b : Bool) (W : World) : Sem.run Tryz.prog (binOp .eql 4 (.bool b) (.bool b)) W = .ok (.bool true) W := by cases b <;> kernel_rfl
theorem box2F {X W : World} {t n : Int} (hb : Below (X.heap.size + 1) (X.alloc (.cells #[.int .i64 t, .int .i64 n] 34)) W) : W.cell? ⟨X.heap.size, 0, none⟩ = some (.int .i64 t) ∧ W.cell? ⟨X.heap.size, 1, none⟩ = some (.int .i64 n) ∧ X.heap.size < W.heap.size := by
  obtain ⟨k, f, h⟩ := box_at X _ _ hb (by simp)
  exact ⟨k 0, k 1, h⟩
theorem box3V {X W : World} {t n : Int} {s : ByteArray} (hb : Below (X.heap.size + 1) (X.alloc (.cells #[.int .i64 t, .int .i64 n, .string s] 23)) W) : W.cell? ⟨X.heap.size, 0, none⟩ = some (.int .i64 t) ∧ W.cell? ⟨X.heap.size, 1, none⟩ = some (.int .i64 n) ∧ W.cell? ⟨X.heap.size, 2, none⟩ = some (.string s) ∧ X.heap.size < W.heap.size := by
  obtain ⟨k, f, h⟩ := box_at X _ _ hb (by simp)
  exact ⟨k 0, k 1, k 2, h⟩
set_option maxHeartbeats 8000000 in
set_option maxRecDepth 20000 in
theorem cr_bad (w : World) (o1 n1 : ByteArray) (t1 k1 : Int) (s1 : ByteArray) (p1 : Option Addr) (m1 c1 : Nat) (a1 : Int) (pz : Option Addr) (nz cz : Nat) (pr : Option Addr) (nr cr : Nat) (IS : List I5) (T H P : Int) (SZ : Nat) (K : Int) (V V' : V3) (M : Nat) (EV BV : Value) (OV : Bool) (hH : H ≠ 0)
    (h : CrC w (.agg #[.string o1, .string n1, .int .i64 t1, .int .i64 k1, .string s1, .slice p1 m1 c1, .int .i64 a1]) (.slice pz nz cz) (.slice pr nr cr) IS T H P SZ K V V' M EV BV OV) :
    Calls Tryz.prog 3 #[.agg #[.string o1, .string n1, .int .i64 t1, .int .i64 k1, .string s1, .slice p1 m1 c1, .int .i64 a1], .slice pz nz cz, .slice pr nr cr] w fun e w' => e = .returned (.bool true) ∧ Below w.heap.size w w' := by
  have hHb : (H != 0) = true := by simpa using hH
  have HH : Hid (H ≠ 0) := hH
  clear hH
  have bE := alB w (.cells #[.string o1, .string n1, .int .i64 t1, .int .i64 k1, .string s1, .slice p1 m1 c1, .int .i64 a1] 26)
  have bC := bE.alloc (by simp) (.cells #[.string ⟨#[120]⟩, .int .i64 1] 30)
  have bL := bC.alloc (by simp; omega) (.cells #[.string ⟨#[99, 111, 108]⟩, .string ⟨#[120]⟩, .int .i64 0, .int .i64 0, .string ⟨#[]⟩, .slice none 0 0, .int .i64 0] 26)
  have c0 := compileX_any negX (fun _ => True) _ _ [(⟨#[120]⟩, 1)] (((w.alloc (.cells #[.string o1, .string n1, .int .i64 t1, .int .i64 k1, .string s1, .slice p1 m1 c1, .int .i64 a1] 26)).alloc (.cells #[.string ⟨#[120]⟩, .int .i64 1] 30)).alloc (.cells #[.string ⟨#[99, 111, 108]⟩, .string ⟨#[120]⟩, .int .i64 0, .int .i64 0, .string ⟨#[]⟩, .slice none 0 0, .int .i64 0] 26)) (h.env.on bL) (neg_in _ (w.heap.size + 1 + 1) (by simp)) neg_pre ((colOne (w.alloc (.cells #[.string o1, .string n1, .int .i64 t1, .int .i64 k1, .string s1, .slice p1 m1 c1, .int .i64 a1] 26)) (w.heap.size + 1) (by simp)).on (alB _ _)) 1 0 0 neg_of
  have cC := h.comp
  have cO := h.refof
  have E0 : Hid (∀ W, Below (w.heap.size + 1) (w.alloc (.cells #[.string o1, .string n1, .int .i64 t1, .int .i64 k1, .string s1, .slice p1 m1 c1, .int .i64 a1] 26)) W → (∀ i, W.cell? ⟨w.heap.size, i, none⟩ = (#[.string o1, .string n1, .int .i64 t1, .int .i64 k1, .string s1, .slice p1 m1 c1, .int .i64 a1] : Array Value)[i]?) ∧ w.heap.size < W.heap.size ∧ Below w.heap.size w W) := fun W hb => by
    obtain ⟨h1, _, h3⟩ := box_at w _ _ hb (Nat.lt_succ_self _)
    exact ⟨h1, h3, bE.trans (hb.mono (Nat.le_succ _))⟩
  clear h
  go_enter Tryz.func3, Tryz.ntmps3
  go_wp2_with fail
  refine c0.mono ?_
  rintro e w1 ⟨⟨u0, hh0, pp0, rfl, F0, -⟩, b1⟩
  obtain ⟨rfl, rfl, I0⟩ := F0.out trivial
  obtain ⟨fb, fo, fc, hu0, -⟩ := I0
  rw [neg_len] at hu0
  subst hu0
  have Q1 : Below (w.heap.size + 1) (w.alloc (.cells #[.string o1, .string n1, .int .i64 t1, .int .i64 k1, .string s1, .slice p1 m1 c1, .int .i64 a1] 26)) w1 := (((Below.refl _ (w.alloc (.cells #[.string o1, .string n1, .int .i64 t1, .int .i64 k1, .string s1, .slice p1 m1 c1, .int .i64 a1] 26))).alloc (by simp) (.cells #[.string ⟨#[120]⟩, .int .i64 1] 30)).alloc (by simp) (.cells #[.string ⟨#[99, 111, 108]⟩, .string ⟨#[120]⟩, .int .i64 0, .int .i64 0, .string ⟨#[]⟩, .slice none 0 0, .int .i64 0] 26)).trans (b1.mono (by simp))
  obtain ⟨hCw1, hlw1, -⟩ := E0.out w1 Q1
  have a0w1 : w1.cell? ⟨w.heap.size, 0, none⟩ = some (.string o1) := hCw1 0
  have a1w1 : w1.cell? ⟨w.heap.size, 1, none⟩ = some (.string n1) := hCw1 1
  have a2w1 : w1.cell? ⟨w.heap.size, 2, none⟩ = some (.int .i64 t1) := hCw1 2
  have a3w1 : w1.cell? ⟨w.heap.size, 3, none⟩ = some (.int .i64 k1) := hCw1 3
  have a4w1 : w1.cell? ⟨w.heap.size, 4, none⟩ = some (.string s1) := hCw1 4
  have a5w1 : w1.cell? ⟨w.heap.size, 5, none⟩ = some (.slice p1 m1 c1) := hCw1 5
  have a6w1 : w1.cell? ⟨w.heap.size, 6, none⟩ = some (.int .i64 a1) := hCw1 6
  clear hCw1
  have Q2 := Q1.alloc hlw1 (.cells #[.int .i64 0, .int .i64 0] 34)
  have d1 := cC _ (E0.out _ Q2).2.2
  clear c0 F0 b1 bC bL cC
  go_wp2_with fail
  refine d1.mono ?_
  rintro e w2 ⟨⟨u, hh, pp, rfl, G1, G2⟩, b2⟩
  have Q3 := Q2.trans (b2.mono (by simp; omega))
  clear a0w1 a1w1 a2w1 a3w1 a4w1 a5w1 a6w1
  obtain ⟨hCw2, hlw2, -⟩ := E0.out w2 Q3
  have a0w2 : w2.cell? ⟨w.heap.size, 0, none⟩ = some (.string o1) := hCw2 0
  have a1w2 : w2.cell? ⟨w.heap.size, 1, none⟩ = some (.string n1) := hCw2 1
  have a2w2 : w2.cell? ⟨w.heap.size, 2, none⟩ = some (.int .i64 t1) := hCw2 2
  have a3w2 : w2.cell? ⟨w.heap.size, 3, none⟩ = some (.int .i64 k1) := hCw2 3
  have a4w2 : w2.cell? ⟨w.heap.size, 4, none⟩ = some (.string s1) := hCw2 4
  have a5w2 : w2.cell? ⟨w.heap.size, 5, none⟩ = some (.slice p1 m1 c1) := hCw2 5
  have a6w2 : w2.cell? ⟨w.heap.size, 6, none⟩ = some (.int .i64 a1) := hCw2 6
  clear hCw2
  have Q4 := Q3.alloc hlw2 (.cells #[.int .i64 hh, .int .i64 pp] 34)
  have d2 := cO _ (E0.out _ Q4).2.2
  obtain ⟨rfl, rfl, rfl⟩ := G2.out HH.out
  clear d1 G1 G2
  go_wp2_with fail
  refine d2.mono ?_
  rintro e w3 ⟨rfl, b3⟩
  obtain ⟨z0, z1, zl⟩ := box2F (b3.mono (by simp))
  have Q5 := Q4.trans (b3.mono (by simp; omega))
  have B5 := (E0.out _ Q5).2.2
  have qH : (hh == hh) = true := by simp
  have qP : (pp == pp) = true := by simp
  clear d2 b3
  clear a0w2 a1w2 a2w2 a3w2 a4w2 a5w2 a6w2
  go_wp2
  go_ret
  exact ⟨rfl, B5⟩
set_option maxHeartbeats 8000000 in
set_option maxRecDepth 20000 in
theorem cr_row (w : World) (o1 n1 : ByteArray) (t1 k1 : Int) (s1 : ByteArray) (p1 : Option Addr) (m1 c1 : Nat) (a1 : Int) (pz : Option Addr) (nz cz : Nat) (pr : Option Addr) (nr cr : Nat) (IS : List I5) (T H P : Int) (SZ : Nat) (K : Int) (V V' : V3) (M : Nat) (EV BV : Value) (OV : Bool) (hsz : ¬ (6 * (SZ : Int)) < (IS.length : Int)) (hS2 : (SZ : Int) ≤ 200) (hK : K ≠ 0)
    (h : CrC w (.agg #[.string o1, .string n1, .int .i64 t1, .int .i64 k1, .string s1, .slice p1 m1 c1, .int .i64 a1]) (.slice pz nz cz) (.slice pr nr cr) IS T 0 P SZ K V V' M (.iface 32 (.int .i64 K)) (.iface 32 (.int .i64 K)) OV) :
    Calls Tryz.prog 3 #[.agg #[.string o1, .string n1, .int .i64 t1, .int .i64 k1, .string s1, .slice p1 m1 c1, .int .i64 a1], .slice pz nz cz, .slice pr nr cr] w fun e w' => e = .returned (.bool true) ∧ Below w.heap.size w w' := by
  have hV : errV K = (.iface 32 (.int .i64 K)) := by rw [errV, if_neg hK]
  have bE := alB w (.cells #[.string o1, .string n1, .int .i64 t1, .int .i64 k1, .string s1, .slice p1 m1 c1, .int .i64 a1] 26)
  have bC := bE.alloc (by simp) (.cells #[.string ⟨#[120]⟩, .int .i64 1] 30)
  have bL := bC.alloc (by simp; omega) (.cells #[.string ⟨#[99, 111, 108]⟩, .string ⟨#[120]⟩, .int .i64 0, .int .i64 0, .string ⟨#[]⟩, .slice none 0 0, .int .i64 0] 26)
  have c0 := compileX_any negX (fun _ => True) _ _ [(⟨#[120]⟩, 1)] (((w.alloc (.cells #[.string o1, .string n1, .int .i64 t1, .int .i64 k1, .string s1, .slice p1 m1 c1, .int .i64 a1] 26)).alloc (.cells #[.string ⟨#[120]⟩, .int .i64 1] 30)).alloc (.cells #[.string ⟨#[99, 111, 108]⟩, .string ⟨#[120]⟩, .int .i64 0, .int .i64 0, .string ⟨#[]⟩, .slice none 0 0, .int .i64 0] 26)) (h.env.on bL) (neg_in _ (w.heap.size + 1 + 1) (by simp)) neg_pre ((colOne (w.alloc (.cells #[.string o1, .string n1, .int .i64 t1, .int .i64 k1, .string s1, .slice p1 m1 c1, .int .i64 a1] 26)) (w.heap.size + 1) (by simp)).on (alB _ _)) 1 0 0 neg_of
  have cC := h.comp
  have cO := h.refof
  have E0 : Hid (∀ W, Below (w.heap.size + 1) (w.alloc (.cells #[.string o1, .string n1, .int .i64 t1, .int .i64 k1, .string s1, .slice p1 m1 c1, .int .i64 a1] 26)) W → (∀ i, W.cell? ⟨w.heap.size, i, none⟩ = (#[.string o1, .string n1, .int .i64 t1, .int .i64 k1, .string s1, .slice p1 m1 c1, .int .i64 a1] : Array Value)[i]?) ∧ w.heap.size < W.heap.size ∧ Below w.heap.size w W) := fun W hb => by
    obtain ⟨h1, _, h3⟩ := box_at w _ _ hb (Nat.lt_succ_self _)
    exact ⟨h1, h3, bE.trans (hb.mono (Nat.le_succ _))⟩
  have cTy := h.typ rfl
  have cSz := h.size
  have cEv := h.eval
  have cRn := h.run rfl
  have cRc := h.rowc
  simp only [hV] at cRc
  clear hV hK
  clear h
  go_enter Tryz.func3, Tryz.ntmps3
  go_wp2_with fail
  refine c0.mono ?_
  rintro e w1 ⟨⟨u0, hh0, pp0, rfl, F0, -⟩, b1⟩
  obtain ⟨rfl, rfl, I0⟩ := F0.out trivial
  obtain ⟨fb, fo, fc, hu0, -⟩ := I0
  rw [neg_len] at hu0
  subst hu0
  have Q1 : Below (w.heap.size + 1) (w.alloc (.cells #[.string o1, .string n1, .int .i64 t1, .int .i64 k1, .string s1, .slice p1 m1 c1, .int .i64 a1] 26)) w1 := (((Below.refl _ (w.alloc (.cells #[.string o1, .string n1, .int .i64 t1, .int .i64 k1, .string s1, .slice p1 m1 c1, .int .i64 a1] 26))).alloc (by simp) (.cells #[.string ⟨#[120]⟩, .int .i64 1] 30)).alloc (by simp) (.cells #[.string ⟨#[99, 111, 108]⟩, .string ⟨#[120]⟩, .int .i64 0, .int .i64 0, .string ⟨#[]⟩, .slice none 0 0, .int .i64 0] 26)).trans (b1.mono (by simp))
  obtain ⟨hCw1, hlw1, -⟩ := E0.out w1 Q1
  have a0w1 : w1.cell? ⟨w.heap.size, 0, none⟩ = some (.string o1) := hCw1 0
  have a1w1 : w1.cell? ⟨w.heap.size, 1, none⟩ = some (.string n1) := hCw1 1
  have a2w1 : w1.cell? ⟨w.heap.size, 2, none⟩ = some (.int .i64 t1) := hCw1 2
  have a3w1 : w1.cell? ⟨w.heap.size, 3, none⟩ = some (.int .i64 k1) := hCw1 3
  have a4w1 : w1.cell? ⟨w.heap.size, 4, none⟩ = some (.string s1) := hCw1 4
  have a5w1 : w1.cell? ⟨w.heap.size, 5, none⟩ = some (.slice p1 m1 c1) := hCw1 5
  have a6w1 : w1.cell? ⟨w.heap.size, 6, none⟩ = some (.int .i64 a1) := hCw1 6
  clear hCw1
  have Q2 := Q1.alloc hlw1 (.cells #[.int .i64 0, .int .i64 0] 34)
  have d1 := cC _ (E0.out _ Q2).2.2
  clear c0 F0 b1 bC bL cC
  go_wp2_with fail
  refine d1.mono ?_
  rintro e w2 ⟨⟨u, hh, pp, rfl, G1, G2⟩, b2⟩
  have Q3 := Q2.trans (b2.mono (by simp; omega))
  clear a0w1 a1w1 a2w1 a3w1 a4w1 a5w1 a6w1
  obtain ⟨hCw2, hlw2, -⟩ := E0.out w2 Q3
  have a0w2 : w2.cell? ⟨w.heap.size, 0, none⟩ = some (.string o1) := hCw2 0
  have a1w2 : w2.cell? ⟨w.heap.size, 1, none⟩ = some (.string n1) := hCw2 1
  have a2w2 : w2.cell? ⟨w.heap.size, 2, none⟩ = some (.int .i64 t1) := hCw2 2
  have a3w2 : w2.cell? ⟨w.heap.size, 3, none⟩ = some (.int .i64 k1) := hCw2 3
  have a4w2 : w2.cell? ⟨w.heap.size, 4, none⟩ = some (.string s1) := hCw2 4
  have a5w2 : w2.cell? ⟨w.heap.size, 5, none⟩ = some (.slice p1 m1 c1) := hCw2 5
  have a6w2 : w2.cell? ⟨w.heap.size, 6, none⟩ = some (.int .i64 a1) := hCw2 6
  clear hCw2
  have Q4 := Q3.alloc hlw2 (.cells #[.int .i64 hh, .int .i64 pp] 34)
  have d2 := cO _ (E0.out _ Q4).2.2
  obtain ⟨rfl, rfl, hI⟩ := G1.out trivial
  obtain ⟨ub, uo, uc, hu, -⟩ := id hI
  obtain ⟨NL, hNL⟩ : ∃ NL, IS.length = NL := ⟨_, rfl⟩
  rw [hNL] at hu hsz
  subst hu
  have I2 : Aside (InsV w2 (.slice (some ⟨ub, uo, none⟩) NL uc) IS) := hI
  clear d1 G1 G2 hI hNL
  go_wp2_with fail
  refine d2.mono ?_
  rintro e w3 ⟨rfl, b3⟩
  obtain ⟨z0, z1, zl⟩ := box2F (b3.mono (by simp))
  have Z3 : Below (w2.heap.size + 1) (w2.alloc (.cells #[.int .i64 0, .int .i64 0] 34)) w3 := b3.mono (by simp)
  have Q5 := Q4.trans (b3.mono (by simp; omega))
  have B5 := (E0.out _ Q5).2.2
  have I3 : Aside (InsV w3 (.slice (some ⟨ub, uo, none⟩) NL uc) IS) := (I2.out.on (alB w2 _)).on b3
  have d3 := cTy w3 _ B5 I3.out
  clear d2 b3 cTy I2
  clear a0w2 a1w2 a2w2 a3w2 a4w2 a5w2 a6w2
  go_wp2_with fail
  refine d3.mono ?_
  rintro e w4 ⟨rfl, b4⟩
  have Q6 := Q5.trans (b4.mono (by omega))
  have B6 := (E0.out _ Q6).2.2
  have hs3 : w2.heap.size + 1 ≤ w3.heap.size := by have := Z3.size; simpa using this
  have Z4 := Z3.trans (b4.mono hs3)
  clear z0 z1 zl
  obtain ⟨z0, z1, zl⟩ := box2F Z4
  have I4 : Aside (InsV w4 (.slice (some ⟨ub, uo, none⟩) NL uc) IS) := I3.out.on b4
  have qT : (T != T) = false := by simp
  have d4 := cSz w4 B6
  have SZC : Aside (∀ W, Below w4.heap.size w4 W → Calls Tryz.prog 8 #[.agg #[.string o1, .string n1, .int .i64 t1, .int .i64 k1, .string s1, .slice p1 m1 c1, .int .i64 a1]] W fun e w' => e = .returned (.int .i64 (SZ : Int)) ∧ Below W.heap.size W w') := fun W hb => cSz W (B6.trans (hb.mono B6.size))
  obtain ⟨hCw4, hlw4, -⟩ := E0.out w4 Q6
  have a0w4 : w4.cell? ⟨w.heap.size, 0, none⟩ = some (.string o1) := hCw4 0
  have a1w4 : w4.cell? ⟨w.heap.size, 1, none⟩ = some (.string n1) := hCw4 1
  have a2w4 : w4.cell? ⟨w.heap.size, 2, none⟩ = some (.int .i64 t1) := hCw4 2
  have a3w4 : w4.cell? ⟨w.heap.size, 3, none⟩ = some (.int .i64 k1) := hCw4 3
  have a4w4 : w4.cell? ⟨w.heap.size, 4, none⟩ = some (.string s1) := hCw4 4
  have a5w4 : w4.cell? ⟨w.heap.size, 5, none⟩ = some (.slice p1 m1 c1) := hCw4 5
  have a6w4 : w4.cell? ⟨w.heap.size, 6, none⟩ = some (.int .i64 a1) := hCw4 6
  clear hCw4
  clear d3 b4 I3 cSz
  go_wp2_with fail
  refine d4.mono ?_
  rintro e w5 ⟨rfl, b5⟩
  have Q7 := Q6.trans (b5.mono (by omega))
  have B7 := (E0.out _ Q7).2.2
  have I5 : Aside (InsV w5 (.slice (some ⟨ub, uo, none⟩) NL uc) IS) := I4.out.on b5
  have d5 := cEv w5 B7
  clear a0w4 a1w4 a2w4 a3w4 a4w4 a5w4 a6w4
  obtain ⟨hCw5, hlw5, -⟩ := E0.out w5 Q7
  have a0w5 : w5.cell? ⟨w.heap.size, 0, none⟩ = some (.string o1) := hCw5 0
  have a1w5 : w5.cell? ⟨w.heap.size, 1, none⟩ = some (.string n1) := hCw5 1
  have a2w5 : w5.cell? ⟨w.heap.size, 2, none⟩ = some (.int .i64 t1) := hCw5 2
  have a3w5 : w5.cell? ⟨w.heap.size, 3, none⟩ = some (.int .i64 k1) := hCw5 3
  have a4w5 : w5.cell? ⟨w.heap.size, 4, none⟩ = some (.string s1) := hCw5 4
  have a5w5 : w5.cell? ⟨w.heap.size, 5, none⟩ = some (.slice p1 m1 c1) := hCw5 5
  have a6w5 : w5.cell? ⟨w.heap.size, 6, none⟩ = some (.int .i64 a1) := hCw5 6
  clear hCw5
  clear d4 b5 SZC cEv I4 z0 z1 zl
  go_wp2_with fail
  refine d5.mono ?_
  rintro e w6 ⟨rfl, b6⟩
  have B8 := B7.trans (b6.mono B7.size)
  have B9 := B8.alloc B8.size (.cells #[.int .i64 V.1, .int .i64 V.2.1, .string V.2.2] 23)
  have d6 := cRn (w6.alloc (.cells #[.int .i64 V.1, .int .i64 V.2.1, .string V.2.2] 23)) _ B9 ((I5.out.on b6).on (alB _ _))
  clear d5 b6 cRn I5
  clear a0w5 a1w5 a2w5 a3w5 a4w5 a5w5 a6w5
  go_wp2_with fail
  refine d6.mono ?_
  rintro e w7 ⟨rfl, b7⟩
  have Y7 : Below (w6.heap.size + 1) (w6.alloc (.cells #[.int .i64 V.1, .int .i64 V.2.1, .string V.2.2] 23)) w7 := b7.mono (by simp)
  have hs6 : w6.heap.size + 1 ≤ w7.heap.size := by have := b7.size; simpa using this
  have B10 := B9.trans (b7.mono B9.size)
  have B11 := B10.alloc B10.size (.cells #[.int .i64 V'.1, .int .i64 V'.2.1, .string V'.2.2] 23)
  have Y8 := Y7.alloc hs6 (.cells #[.int .i64 V'.1, .int .i64 V'.2.1, .string V'.2.2] 23)
  have d7 := cRc _ B11
  clear d6 b7 cRc Y7
  go_wp2_with fail
  refine d7.mono ?_
  rintro e w8 ⟨rfl, b8⟩
  have B12 := B11.trans (b8.mono B11.size)
  have X8 : Below (w7.heap.size + 1) (w7.alloc (.cells #[.int .i64 V'.1, .int .i64 V'.2.1, .string V'.2.2] 23)) w8 := b8.mono (by simp)
  have hs7 : w7.heap.size + 1 ≤ w8.heap.size := by have := b8.size; simpa using this
  have Y9 := Y8.trans (b8.mono (by simp; omega))
  clear d7 b8 Y8
  clear Y9 X8
  go_wp2
  go_ret
  exact ⟨rfl, B12⟩
set_option maxHeartbeats 8000000 in
set_option maxRecDepth 20000 in
theorem cr_val (w : World) (o1 n1 : ByteArray) (t1 k1 : Int) (s1 : ByteArray) (p1 : Option Addr) (m1 c1 : Nat) (a1 : Int) (pz : Option Addr) (nz cz : Nat) (pr : Option Addr) (nr cr : Nat) (IS : List I5) (T H P : Int) (SZ : Nat) (K : Int) (V V' : V3) (M : Nat) (EV BV : Value) (OV : Bool) (hsz : ¬ (6 * (SZ : Int)) < (IS.length : Int)) (hS2 : (SZ : Int) ≤ 200)  (hM : M ≤ IS.length)
    (h : CrC w (.agg #[.string o1, .string n1, .int .i64 t1, .int .i64 k1, .string s1, .slice p1 m1 c1, .int .i64 a1]) (.slice pz nz cz) (.slice pr nr cr) IS T 0 P SZ 0 V V M .nilIface .nilIface false) :
    Calls Tryz.prog 3 #[.agg #[.string o1, .string n1, .int .i64 t1, .int .i64 k1, .string s1, .slice p1 m1 c1, .int .i64 a1], .slice pz nz cz, .slice pr nr cr] w fun e w' => e = .returned (.bool true) ∧ Below w.heap.size w w' := by
  have bE := alB w (.cells #[.string o1, .string n1, .int .i64 t1, .int .i64 k1, .string s1, .slice p1 m1 c1, .int .i64 a1] 26)
  have bC := bE.alloc (by simp) (.cells #[.string ⟨#[120]⟩, .int .i64 1] 30)
  have bL := bC.alloc (by simp; omega) (.cells #[.string ⟨#[99, 111, 108]⟩, .string ⟨#[120]⟩, .int .i64 0, .int .i64 0, .string ⟨#[]⟩, .slice none 0 0, .int .i64 0] 26)
  have c0 := compileX_any negX (fun _ => True) _ _ [(⟨#[120]⟩, 1)] (((w.alloc (.cells #[.string o1, .string n1, .int .i64 t1, .int .i64 k1, .string s1, .slice p1 m1 c1, .int .i64 a1] 26)).alloc (.cells #[.string ⟨#[120]⟩, .int .i64 1] 30)).alloc (.cells #[.string ⟨#[99, 111, 108]⟩, .string ⟨#[120]⟩, .int .i64 0, .int .i64 0, .string ⟨#[]⟩, .slice none 0 0, .int .i64 0] 26)) (h.env.on bL) (neg_in _ (w.heap.size + 1 + 1) (by simp)) neg_pre ((colOne (w.alloc (.cells #[.string o1, .string n1, .int .i64 t1, .int .i64 k1, .string s1, .slice p1 m1 c1, .int .i64 a1] 26)) (w.heap.size + 1) (by simp)).on (alB _ _)) 1 0 0 neg_of
  have cC := h.comp
  have cO := h.refof
  have E0 : Hid (∀ W, Below (w.heap.size + 1) (w.alloc (.cells #[.string o1, .string n1, .int .i64 t1, .int .i64 k1, .string s1, .slice p1 m1 c1, .int .i64 a1] 26)) W → (∀ i, W.cell? ⟨w.heap.size, i, none⟩ = (#[.string o1, .string n1, .int .i64 t1, .int .i64 k1, .string s1, .slice p1 m1 c1, .int .i64 a1] : Array Value)[i]?) ∧ w.heap.size < W.heap.size ∧ Below w.heap.size w W) := fun W hb => by
    obtain ⟨h1, _, h3⟩ := box_at w _ _ hb (Nat.lt_succ_self _)
    exact ⟨h1, h3, bE.trans (hb.mono (Nat.le_succ _))⟩
  have cTy := h.typ rfl
  have cSz := h.size
  have cEv := h.eval
  have cRn := h.run rfl
  have cRc := h.rowc
  simp only [show errV 0 = .nilIface from rfl] at cRc
  have cOv := h.over
  clear h
  go_enter Tryz.func3, Tryz.ntmps3
  go_wp2_with fail
  refine c0.mono ?_
  rintro e w1 ⟨⟨u0, hh0, pp0, rfl, F0, -⟩, b1⟩
  obtain ⟨rfl, rfl, I0⟩ := F0.out trivial
  obtain ⟨fb, fo, fc, hu0, -⟩ := I0
  rw [neg_len] at hu0
  subst hu0
  have Q1 : Below (w.heap.size + 1) (w.alloc (.cells #[.string o1, .string n1, .int .i64 t1, .int .i64 k1, .string s1, .slice p1 m1 c1, .int .i64 a1] 26)) w1 := (((Below.refl _ (w.alloc (.cells #[.string o1, .string n1, .int .i64 t1, .int .i64 k1, .string s1, .slice p1 m1 c1, .int .i64 a1] 26))).alloc (by simp) (.cells #[.string ⟨#[120]⟩, .int .i64 1] 30)).alloc (by simp) (.cells #[.string ⟨#[99, 111, 108]⟩, .string ⟨#[120]⟩, .int .i64 0, .int .i64 0, .string ⟨#[]⟩, .slice none 0 0, .int .i64 0] 26)).trans (b1.mono (by simp))
  obtain ⟨hCw1, hlw1, -⟩ := E0.out w1 Q1
  have a0w1 : w1.cell? ⟨w.heap.size, 0, none⟩ = some (.string o1) := hCw1 0
  have a1w1 : w1.cell? ⟨w.heap.size, 1, none⟩ = some (.string n1) := hCw1 1
  have a2w1 : w1.cell? ⟨w.heap.size, 2, none⟩ = some (.int .i64 t1) := hCw1 2
  have a3w1 : w1.cell? ⟨w.heap.size, 3, none⟩ = some (.int .i64 k1) := hCw1 3
  have a4w1 : w1.cell? ⟨w.heap.size, 4, none⟩ = some (.string s1) := hCw1 4
  have a5w1 : w1.cell? ⟨w.heap.size, 5, none⟩ = some (.slice p1 m1 c1) := hCw1 5
  have a6w1 : w1.cell? ⟨w.heap.size, 6, none⟩ = some (.int .i64 a1) := hCw1 6
  clear hCw1
  have Q2 := Q1.alloc hlw1 (.cells #[.int .i64 0, .int .i64 0] 34)
  have d1 := cC _ (E0.out _ Q2).2.2
  clear c0 F0 b1 bC bL cC
  go_wp2_with fail
  refine d1.mono ?_
  rintro e w2 ⟨⟨u, hh, pp, rfl, G1, G2⟩, b2⟩
  have Q3 := Q2.trans (b2.mono (by simp; omega))
  clear a0w1 a1w1 a2w1 a3w1 a4w1 a5w1 a6w1
  obtain ⟨hCw2, hlw2, -⟩ := E0.out w2 Q3
  have a0w2 : w2.cell? ⟨w.heap.size, 0, none⟩ = some (.string o1) := hCw2 0
  have a1w2 : w2.cell? ⟨w.heap.size, 1, none⟩ = some (.string n1) := hCw2 1
  have a2w2 : w2.cell? ⟨w.heap.size, 2, none⟩ = some (.int .i64 t1) := hCw2 2
  have a3w2 : w2.cell? ⟨w.heap.size, 3, none⟩ = some (.int .i64 k1) := hCw2 3
  have a4w2 : w2.cell? ⟨w.heap.size, 4, none⟩ = some (.string s1) := hCw2 4
  have a5w2 : w2.cell? ⟨w.heap.size, 5, none⟩ = some (.slice p1 m1 c1) := hCw2 5
  have a6w2 : w2.cell? ⟨w.heap.size, 6, none⟩ = some (.int .i64 a1) := hCw2 6
  clear hCw2
  have Q4 := Q3.alloc hlw2 (.cells #[.int .i64 hh, .int .i64 pp] 34)
  have d2 := cO _ (E0.out _ Q4).2.2
  obtain ⟨rfl, rfl, hI⟩ := G1.out trivial
  obtain ⟨ub, uo, uc, hu, -⟩ := id hI
  obtain ⟨NL, hNL⟩ : ∃ NL, IS.length = NL := ⟨_, rfl⟩
  rw [hNL] at hu hsz hM
  subst hu
  have I2 : Aside (InsV w2 (.slice (some ⟨ub, uo, none⟩) NL uc) IS) := hI
  clear d1 G1 G2 hI hNL
  go_wp2_with fail
  refine d2.mono ?_
  rintro e w3 ⟨rfl, b3⟩
  obtain ⟨z0, z1, zl⟩ := box2F (b3.mono (by simp))
  have Z3 : Below (w2.heap.size + 1) (w2.alloc (.cells #[.int .i64 0, .int .i64 0] 34)) w3 := b3.mono (by simp)
  have Q5 := Q4.trans (b3.mono (by simp; omega))
  have B5 := (E0.out _ Q5).2.2
  have I3 : Aside (InsV w3 (.slice (some ⟨ub, uo, none⟩) NL uc) IS) := (I2.out.on (alB w2 _)).on b3
  have d3 := cTy w3 _ B5 I3.out
  clear d2 b3 cTy I2
  clear a0w2 a1w2 a2w2 a3w2 a4w2 a5w2 a6w2
  go_wp2_with fail
  refine d3.mono ?_
  rintro e w4 ⟨rfl, b4⟩
  have Q6 := Q5.trans (b4.mono (by omega))
  have B6 := (E0.out _ Q6).2.2
  have hs3 : w2.heap.size + 1 ≤ w3.heap.size := by have := Z3.size; simpa using this
  have Z4 := Z3.trans (b4.mono hs3)
  clear z0 z1 zl
  obtain ⟨z0, z1, zl⟩ := box2F Z4
  have I4 : Aside (InsV w4 (.slice (some ⟨ub, uo, none⟩) NL uc) IS) := I3.out.on b4
  have qT : (T != T) = false := by simp
  have d4 := cSz w4 B6
  have SZC : Aside (∀ W, Below w4.heap.size w4 W → Calls Tryz.prog 8 #[.agg #[.string o1, .string n1, .int .i64 t1, .int .i64 k1, .string s1, .slice p1 m1 c1, .int .i64 a1]] W fun e w' => e = .returned (.int .i64 (SZ : Int)) ∧ Below W.heap.size W w') := fun W hb => cSz W (B6.trans (hb.mono B6.size))
  obtain ⟨hCw4, hlw4, -⟩ := E0.out w4 Q6
  have a0w4 : w4.cell? ⟨w.heap.size, 0, none⟩ = some (.string o1) := hCw4 0
  have a1w4 : w4.cell? ⟨w.heap.size, 1, none⟩ = some (.string n1) := hCw4 1
  have a2w4 : w4.cell? ⟨w.heap.size, 2, none⟩ = some (.int .i64 t1) := hCw4 2
  have a3w4 : w4.cell? ⟨w.heap.size, 3, none⟩ = some (.int .i64 k1) := hCw4 3
  have a4w4 : w4.cell? ⟨w.heap.size, 4, none⟩ = some (.string s1) := hCw4 4
  have a5w4 : w4.cell? ⟨w.heap.size, 5, none⟩ = some (.slice p1 m1 c1) := hCw4 5
  have a6w4 : w4.cell? ⟨w.heap.size, 6, none⟩ = some (.int .i64 a1) := hCw4 6
  clear hCw4
  clear d3 b4 I3 cSz
  go_wp2_with fail
  refine d4.mono ?_
  rintro e w5 ⟨rfl, b5⟩
  have Q7 := Q6.trans (b5.mono (by omega))
  have B7 := (E0.out _ Q7).2.2
  have I5 : Aside (InsV w5 (.slice (some ⟨ub, uo, none⟩) NL uc) IS) := I4.out.on b5
  have d5 := cEv w5 B7
  clear a0w4 a1w4 a2w4 a3w4 a4w4 a5w4 a6w4
  obtain ⟨hCw5, hlw5, -⟩ := E0.out w5 Q7
  have a0w5 : w5.cell? ⟨w.heap.size, 0, none⟩ = some (.string o1) := hCw5 0
  have a1w5 : w5.cell? ⟨w.heap.size, 1, none⟩ = some (.string n1) := hCw5 1
  have a2w5 : w5.cell? ⟨w.heap.size, 2, none⟩ = some (.int .i64 t1) := hCw5 2
  have a3w5 : w5.cell? ⟨w.heap.size, 3, none⟩ = some (.int .i64 k1) := hCw5 3
  have a4w5 : w5.cell? ⟨w.heap.size, 4, none⟩ = some (.string s1) := hCw5 4
  have a5w5 : w5.cell? ⟨w.heap.size, 5, none⟩ = some (.slice p1 m1 c1) := hCw5 5
  have a6w5 : w5.cell? ⟨w.heap.size, 6, none⟩ = some (.int .i64 a1) := hCw5 6
  clear hCw5
  clear d4 b5 SZC cEv I4 z0 z1 zl
  go_wp2_with fail
  refine d5.mono ?_
  rintro e w6 ⟨rfl, b6⟩
  have B8 := B7.trans (b6.mono B7.size)
  have B9 := B8.alloc B8.size (.cells #[.int .i64 V.1, .int .i64 V.2.1, .string V.2.2] 23)
  have d6 := cRn (w6.alloc (.cells #[.int .i64 V.1, .int .i64 V.2.1, .string V.2.2] 23)) _ B9 ((I5.out.on b6).on (alB _ _))
  clear d5 b6 cRn I5
  clear a0w5 a1w5 a2w5 a3w5 a4w5 a5w5 a6w5
  go_wp2_with fail
  refine d6.mono ?_
  rintro e w7 ⟨rfl, b7⟩
  have Y7 : Below (w6.heap.size + 1) (w6.alloc (.cells #[.int .i64 V.1, .int .i64 V.2.1, .string V.2.2] 23)) w7 := b7.mono (by simp)
  have hs6 : w6.heap.size + 1 ≤ w7.heap.size := by have := b7.size; simpa using this
  have B10 := B9.trans (b7.mono B9.size)
  have B11 := B10.alloc B10.size (.cells #[.int .i64 V.1, .int .i64 V.2.1, .string V.2.2] 23)
  have Y8 := Y7.alloc hs6 (.cells #[.int .i64 V.1, .int .i64 V.2.1, .string V.2.2] 23)
  have d7 := cRc _ B11
  clear d6 b7 cRc Y7
  go_wp2_with fail
  refine d7.mono ?_
  rintro e w8 ⟨rfl, b8⟩
  have B12 := B11.trans (b8.mono B11.size)
  have X8 : Below (w7.heap.size + 1) (w7.alloc (.cells #[.int .i64 V.1, .int .i64 V.2.1, .string V.2.2] 23)) w8 := b8.mono (by simp)
  have hs7 : w7.heap.size + 1 ≤ w8.heap.size := by have := b8.size; simpa using this
  have Y9 := Y8.trans (b8.mono (by simp; omega))
  clear d7 b8 Y8
  have d8 := cOv _ B12
  clear cOv
  go_wp2_with fail
  refine d8.mono ?_
  rintro e w9 ⟨rfl, b9⟩
  have B13 := B12.trans (b9.mono B12.size)
  obtain ⟨y0, y1, y2, yl⟩ := box3V (Y9.trans (b9.mono (by omega)))
  obtain ⟨x0, x1, x2, xl⟩ := box3V (X8.trans (b9.mono hs7))
  have hveq := valV_eql V.1 V.2.1 V.2.2
  have hMn : ¬ (NL : Int) < (M : Int) := by omega
  have hMl : (M : Int) ≤ (NL : Int) := by omega
  have hbT := bool_eqT true
  have hbF := bool_eqT false
  clear d8 b9 Y9 X8 Q1 Q2 Q3 Q4 Q5 Q6 Q7 Z3 Z4 B5 B6 B7 B8 B9 B10 B11 B12
  go_wp2
  go_quiet (fail)
  go_wp2
  go_ret
  exact ⟨rfl, by repeat (first | exact B13 | apply below_drewN | refine Below.drew ?_)⟩
set_option maxHeartbeats 8000000 in
set_option maxRecDepth 20000 in
theorem cr_over (w : World) (o1 n1 : ByteArray) (t1 k1 : Int) (s1 : ByteArray) (p1 : Option Addr) (m1 c1 : Nat) (a1 : Int) (pz : Option Addr) (nz cz : Nat) (pr : Option Addr) (nr cr : Nat) (IS : List I5) (T H P : Int) (SZ : Nat) (K : Int) (V V' : V3) (M : Nat) (EV BV : Value) (OV : Bool) (hsz : ¬ (6 * (SZ : Int)) < (IS.length : Int)) (hS2 : (SZ : Int) ≤ 200)  (hM : M ≤ IS.length)
    (h : CrC w (.agg #[.string o1, .string n1, .int .i64 t1, .int .i64 k1, .string s1, .slice p1 m1 c1, .int .i64 a1]) (.slice pz nz cz) (.slice pr nr cr) IS T 0 P SZ 0 noV noV M (.iface 32 (.int .i64 9)) (.iface 32 (.int .i64 9)) true) :
    Calls Tryz.prog 3 #[.agg #[.string o1, .string n1, .int .i64 t1, .int .i64 k1, .string s1, .slice p1 m1 c1, .int .i64 a1], .slice pz nz cz, .slice pr nr cr] w fun e w' => e = .returned (.bool true) ∧ Below w.heap.size w w' := by
  have bE := alB w (.cells #[.string o1, .string n1, .int .i64 t1, .int .i64 k1, .string s1, .slice p1 m1 c1, .int .i64 a1] 26)
  have bC := bE.alloc (by simp) (.cells #[.string ⟨#[120]⟩, .int .i64 1] 30)
  have bL := bC.alloc (by simp; omega) (.cells #[.string ⟨#[99, 111, 108]⟩, .string ⟨#[120]⟩, .int .i64 0, .int .i64 0, .string ⟨#[]⟩, .slice none 0 0, .int .i64 0] 26)
  have c0 := compileX_any negX (fun _ => True) _ _ [(⟨#[120]⟩, 1)] (((w.alloc (.cells #[.string o1, .string n1, .int .i64 t1, .int .i64 k1, .string s1, .slice p1 m1 c1, .int .i64 a1] 26)).alloc (.cells #[.string ⟨#[120]⟩, .int .i64 1] 30)).alloc (.cells #[.string ⟨#[99, 111, 108]⟩, .string ⟨#[120]⟩, .int .i64 0, .int .i64 0, .string ⟨#[]⟩, .slice none 0 0, .int .i64 0] 26)) (h.env.on bL) (neg_in _ (w.heap.size + 1 + 1) (by simp)) neg_pre ((colOne (w.alloc (.cells #[.string o1, .string n1, .int .i64 t1, .int .i64 k1, .string s1, .slice p1 m1 c1, .int .i64 a1] 26)) (w.heap.size + 1) (by simp)).on (alB _ _)) 1 0 0 neg_of
  have cC := h.comp
  have cO := h.refof
  have E0 : Hid (∀ W, Below (w.heap.size + 1) (w.alloc (.cells #[.string o1, .string n1, .int .i64 t1, .int .i64 k1, .string s1, .slice p1 m1 c1, .int .i64 a1] 26)) W → (∀ i, W.cell? ⟨w.heap.size, i, none⟩ = (#[.string o1, .string n1, .int .i64 t1, .int .i64 k1, .string s1, .slice p1 m1 c1, .int .i64 a1] : Array Value)[i]?) ∧ w.heap.size < W.heap.size ∧ Below w.heap.size w W) := fun W hb => by
    obtain ⟨h1, _, h3⟩ := box_at w _ _ hb (Nat.lt_succ_self _)
    exact ⟨h1, h3, bE.trans (hb.mono (Nat.le_succ _))⟩
  have cTy := h.typ rfl
  have cSz := h.size
  have cEv := h.eval
  have cRn := h.run rfl
  have cRc := h.rowc
  simp only [show errV 0 = .nilIface from rfl] at cRc
  have cOv := h.over
  clear h
  go_enter Tryz.func3, Tryz.ntmps3
  go_wp2_with fail
  refine c0.mono ?_
  rintro e w1 ⟨⟨u0, hh0, pp0, rfl, F0, -⟩, b1⟩
  obtain ⟨rfl, rfl, I0⟩ := F0.out trivial
  obtain ⟨fb, fo, fc, hu0, -⟩ := I0
  rw [neg_len] at hu0
  subst hu0
  have Q1 : Below (w.heap.size + 1) (w.alloc (.cells #[.string o1, .string n1, .int .i64 t1, .int .i64 k1, .string s1, .slice p1 m1 c1, .int .i64 a1] 26)) w1 := (((Below.refl _ (w.alloc (.cells #[.string o1, .string n1, .int .i64 t1, .int .i64 k1, .string s1, .slice p1 m1 c1, .int .i64 a1] 26))).alloc (by simp) (.cells #[.string ⟨#[120]⟩, .int .i64 1] 30)).alloc (by simp) (.cells #[.string ⟨#[99, 111, 108]⟩, .string ⟨#[120]⟩, .int .i64 0, .int .i64 0, .string ⟨#[]⟩, .slice none 0 0, .int .i64 0] 26)).trans (b1.mono (by simp))
  obtain ⟨hCw1, hlw1, -⟩ := E0.out w1 Q1
  have a0w1 : w1.cell? ⟨w.heap.size, 0, none⟩ = some (.string o1) := hCw1 0
  have a1w1 : w1.cell? ⟨w.heap.size, 1, none⟩ = some (.string n1) := hCw1 1
  have a2w1 : w1.cell? ⟨w.heap.size, 2, none⟩ = some (.int .i64 t1) := hCw1 2
  have a3w1 : w1.cell? ⟨w.heap.size, 3, none⟩ = some (.int .i64 k1) := hCw1 3
  have a4w1 : w1.cell? ⟨w.heap.size, 4, none⟩ = some (.string s1) := hCw1 4
  have a5w1 : w1.cell? ⟨w.heap.size, 5, none⟩ = some (.slice p1 m1 c1) := hCw1 5
  have a6w1 : w1.cell? ⟨w.heap.size, 6, none⟩ = some (.int .i64 a1) := hCw1 6
  clear hCw1
  have Q2 := Q1.alloc hlw1 (.cells #[.int .i64 0, .int .i64 0] 34)
  have d1 := cC _ (E0.out _ Q2).2.2
  clear c0 F0 b1 bC bL cC
  go_wp2_with fail
  refine d1.mono ?_
  rintro e w2 ⟨⟨u, hh, pp, rfl, G1, G2⟩, b2⟩
  have Q3 := Q2.trans (b2.mono (by simp; omega))
  clear a0w1 a1w1 a2w1 a3w1 a4w1 a5w1 a6w1
  obtain ⟨hCw2, hlw2, -⟩ := E0.out w2 Q3
  have a0w2 : w2.cell? ⟨w.heap.size, 0, none⟩ = some (.string o1) := hCw2 0
  have a1w2 : w2.cell? ⟨w.heap.size, 1, none⟩ = some (.string n1) := hCw2 1
  have a2w2 : w2.cell? ⟨w.heap.size, 2, none⟩ = some (.int .i64 t1) := hCw2 2
  have a3w2 : w2.cell? ⟨w.heap.size, 3, none⟩ = some (.int .i64 k1) := hCw2 3
  have a4w2 : w2.cell? ⟨w.heap.size, 4, none⟩ = some (.string s1) := hCw2 4
  have a5w2 : w2.cell? ⟨w.heap.size, 5, none⟩ = some (.slice p1 m1 c1) := hCw2 5
  have a6w2 : w2.cell? ⟨w.heap.size, 6, none⟩ = some (.int .i64 a1) := hCw2 6
  clear hCw2
  have Q4 := Q3.alloc hlw2 (.cells #[.int .i64 hh, .int .i64 pp] 34)
  have d2 := cO _ (E0.out _ Q4).2.2
  obtain ⟨rfl, rfl, hI⟩ := G1.out trivial
  obtain ⟨ub, uo, uc, hu, -⟩ := id hI
  obtain ⟨NL, hNL⟩ : ∃ NL, IS.length = NL := ⟨_, rfl⟩
  rw [hNL] at hu hsz hM
  subst hu
  have I2 : Aside (InsV w2 (.slice (some ⟨ub, uo, none⟩) NL uc) IS) := hI
  clear d1 G1 G2 hI hNL
  go_wp2_with fail
  refine d2.mono ?_
  rintro e w3 ⟨rfl, b3⟩
  obtain ⟨z0, z1, zl⟩ := box2F (b3.mono (by simp))
  have Z3 : Below (w2.heap.size + 1) (w2.alloc (.cells #[.int .i64 0, .int .i64 0] 34)) w3 := b3.mono (by simp)
  have Q5 := Q4.trans (b3.mono (by simp; omega))
  have B5 := (E0.out _ Q5).2.2
  have I3 : Aside (InsV w3 (.slice (some ⟨ub, uo, none⟩) NL uc) IS) := (I2.out.on (alB w2 _)).on b3
  have d3 := cTy w3 _ B5 I3.out
  clear d2 b3 cTy I2
  clear a0w2 a1w2 a2w2 a3w2 a4w2 a5w2 a6w2
  go_wp2_with fail
  refine d3.mono ?_
  rintro e w4 ⟨rfl, b4⟩
  have Q6 := Q5.trans (b4.mono (by omega))
  have B6 := (E0.out _ Q6).2.2
  have hs3 : w2.heap.size + 1 ≤ w3.heap.size := by have := Z3.size; simpa using this
  have Z4 := Z3.trans (b4.mono hs3)
  clear z0 z1 zl
  obtain ⟨z0, z1, zl⟩ := box2F Z4
  have I4 : Aside (InsV w4 (.slice (some ⟨ub, uo, none⟩) NL uc) IS) := I3.out.on b4
  have qT : (T != T) = false := by simp
  have d4 := cSz w4 B6
  have SZC : Aside (∀ W, Below w4.heap.size w4 W → Calls Tryz.prog 8 #[.agg #[.string o1, .string n1, .int .i64 t1, .int .i64 k1, .string s1, .slice p1 m1 c1, .int .i64 a1]] W fun e w' => e = .returned (.int .i64 (SZ : Int)) ∧ Below W.heap.size W w') := fun W hb => cSz W (B6.trans (hb.mono B6.size))
  obtain ⟨hCw4, hlw4, -⟩ := E0.out w4 Q6
  have a0w4 : w4.cell? ⟨w.heap.size, 0, none⟩ = some (.string o1) := hCw4 0
  have a1w4 : w4.cell? ⟨w.heap.size, 1, none⟩ = some (.string n1) := hCw4 1
  have a2w4 : w4.cell? ⟨w.heap.size, 2, none⟩ = some (.int .i64 t1) := hCw4 2
  have a3w4 : w4.cell? ⟨w.heap.size, 3, none⟩ = some (.int .i64 k1) := hCw4 3
  have a4w4 : w4.cell? ⟨w.heap.size, 4, none⟩ = some (.string s1) := hCw4 4
  have a5w4 : w4.cell? ⟨w.heap.size, 5, none⟩ = some (.slice p1 m1 c1) := hCw4 5
  have a6w4 : w4.cell? ⟨w.heap.size, 6, none⟩ = some (.int .i64 a1) := hCw4 6
  clear hCw4
  clear d3 b4 I3 cSz
  go_wp2_with fail
  refine d4.mono ?_
  rintro e w5 ⟨rfl, b5⟩
  have Q7 := Q6.trans (b5.mono (by omega))
  have B7 := (E0.out _ Q7).2.2
  have I5 : Aside (InsV w5 (.slice (some ⟨ub, uo, none⟩) NL uc) IS) := I4.out.on b5
  have d5 := cEv w5 B7
  clear a0w4 a1w4 a2w4 a3w4 a4w4 a5w4 a6w4
  obtain ⟨hCw5, hlw5, -⟩ := E0.out w5 Q7
  have a0w5 : w5.cell? ⟨w.heap.size, 0, none⟩ = some (.string o1) := hCw5 0
  have a1w5 : w5.cell? ⟨w.heap.size, 1, none⟩ = some (.string n1) := hCw5 1
  have a2w5 : w5.cell? ⟨w.heap.size, 2, none⟩ = some (.int .i64 t1) := hCw5 2
  have a3w5 : w5.cell? ⟨w.heap.size, 3, none⟩ = some (.int .i64 k1) := hCw5 3
  have a4w5 : w5.cell? ⟨w.heap.size, 4, none⟩ = some (.string s1) := hCw5 4
  have a5w5 : w5.cell? ⟨w.heap.size, 5, none⟩ = some (.slice p1 m1 c1) := hCw5 5
  have a6w5 : w5.cell? ⟨w.heap.size, 6, none⟩ = some (.int .i64 a1) := hCw5 6
  clear hCw5
  clear d4 b5 SZC cEv I4 z0 z1 zl
  go_wp2_with fail
  refine d5.mono ?_
  rintro e w6 ⟨rfl, b6⟩
  have B8 := B7.trans (b6.mono B7.size)
  have B9 := B8.alloc B8.size (.cells #[.int .i64 noV.1, .int .i64 noV.2.1, .string noV.2.2] 23)
  have d6 := cRn (w6.alloc (.cells #[.int .i64 noV.1, .int .i64 noV.2.1, .string noV.2.2] 23)) _ B9 ((I5.out.on b6).on (alB _ _))
  clear d5 b6 cRn I5
  clear a0w5 a1w5 a2w5 a3w5 a4w5 a5w5 a6w5
  go_wp2_with fail
  refine d6.mono ?_
  rintro e w7 ⟨rfl, b7⟩
  have Y7 : Below (w6.heap.size + 1) (w6.alloc (.cells #[.int .i64 noV.1, .int .i64 noV.2.1, .string noV.2.2] 23)) w7 := b7.mono (by simp)
  have hs6 : w6.heap.size + 1 ≤ w7.heap.size := by have := b7.size; simpa using this
  have B10 := B9.trans (b7.mono B9.size)
  have B11 := B10.alloc B10.size (.cells #[.int .i64 noV.1, .int .i64 noV.2.1, .string noV.2.2] 23)
  have Y8 := Y7.alloc hs6 (.cells #[.int .i64 noV.1, .int .i64 noV.2.1, .string noV.2.2] 23)
  have d7 := cRc _ B11
  clear d6 b7 cRc Y7
  go_wp2_with fail
  refine d7.mono ?_
  rintro e w8 ⟨rfl, b8⟩
  have B12 := B11.trans (b8.mono B11.size)
  have X8 : Below (w7.heap.size + 1) (w7.alloc (.cells #[.int .i64 noV.1, .int .i64 noV.2.1, .string noV.2.2] 23)) w8 := b8.mono (by simp)
  have hs7 : w7.heap.size + 1 ≤ w8.heap.size := by have := b8.size; simpa using this
  have Y9 := Y8.trans (b8.mono (by simp; omega))
  clear d7 b8 Y8
  have d8 := cOv _ B12
  clear cOv
  go_wp2_with fail
  refine d8.mono ?_
  rintro e w9 ⟨rfl, b9⟩
  have B13 := B12.trans (b9.mono B12.size)
  obtain ⟨y0, y1, y2, yl⟩ := box3V (Y9.trans (b9.mono (by omega)))
  obtain ⟨x0, x1, x2, xl⟩ := box3V (X8.trans (b9.mono hs7))
  simp only [noV] at x0 x1 x2 y0 y1 y2
  have hveq := valV_eql 0 0 ⟨#[]⟩
  have hMn : ¬ (NL : Int) < (M : Int) := by omega
  have hMl : (M : Int) ≤ (NL : Int) := by omega
  have hbT := bool_eqT true
  have hbF := bool_eqT false
  clear d8 b9 Y9 X8 Q1 Q2 Q3 Q4 Q5 Q6 Q7 Z3 Z4 B5 B6 B7 B8 B9 B10 B11 B12
  go_wp2
  go_quiet (fail)
  go_wp2
  go_ret
  exact ⟨rfl, by repeat (first | exact B13 | apply below_drewN | refine Below.drew ?_)⟩
end Go.Proofs.YtplnjbdngedafaaGreatDoor
