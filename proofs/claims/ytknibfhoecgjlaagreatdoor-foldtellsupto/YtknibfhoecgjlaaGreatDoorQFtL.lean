/-
  The walk of FoldTells: any expression made short, and which columns any has, as the document says. (Written by wip/gen_ftl.py.)
-/
import Derived.Test.YtknibfhoecgjlaaGreatDoorQRfB
import Derived.Test.YtknibfhoecgjlaaGreatDoorQRfV
import Derived.Test.YtknibfhoecgjlaaGreatDoorQTreeSm
import Derived.Deep.QuietTactic
import Derived.BigQuiet
namespace Go.Proofs.YtknibfhoecgjlaaGreatDoor
open Go.RowKit
set_option linter.unusedVariables false

/-- What is called, and what it gives. XW: the expression that is wanted, NS: the names. -/
structure FtC (w : World) (v vl : Value) (XW : Ex) (T H P K : Int) (NS : List ByteArray) (CT CK : Int) (CS : ByteArray) (is : Bool) : Prop where
  of : ∀ W, Below w.heap.size w W → Calls Tryz.prog 5 #[v, vl] W fun e w' => e = .returned (.tuple #[.int .i64 T, .int .i64 H, .int .i64 P]) ∧ Below W.heap.size W w'
  refold : H = 0 → ∀ W, Below w.heap.size w W → Calls Tryz.prog 6 #[v] W fun e w' => (∃ u, e = .returned u ∧ ExIn w' (fun b => W.heap.size ≤ b) u XW) ∧ Below W.heap.size W w'
  zero : H ≠ 0 → ∀ W, ExIn W (fun _ => True) (.agg #[.string ⟨#[]⟩, .string ⟨#[]⟩, .int .i64 0, .int .i64 0, .string ⟨#[]⟩, .slice none 0 0, .int .i64 0]) XW
  fold : ∀ W, Below w.heap.size w W → Calls Tryz.prog 7 #[v, vl] W fun e w' => (∃ u, e = .returned (.tuple #[u, errV H]) ∧ ExIn w' (fun _ => True) u XW) ∧ Below W.heap.size W w'
  err : ∀ W, Below w.heap.size w W → Calls Tryz.prog 8 #[errV H, .int .i64 H] W fun e w' => e = .returned (.bool true) ∧ Below W.heap.size W w'
  err2 : ∀ W, Below w.heap.size w W → Calls Tryz.prog 8 #[errV K, .int .i64 K] W fun e w' => e = .returned (.bool true) ∧ Below W.heap.size W w'
  same : ∀ W u u', ExIn W (fun _ => True) u XW → ExIn W (fun _ => True) u' XW → Calls Tryz.prog 9 #[u, u', .bool true] W fun e w' => e = .returned (.bool true) ∧ Below W.heap.size W w'
  chk : ∀ W, Below w.heap.size w W → Calls Tryz.prog 10 #[v] W fun e w' => e = .returned (.int .i64 K) ∧ Below W.heap.size W w'
  reuse : K = 0 → ∀ W, Below w.heap.size w W → Calls Tryz.prog 11 #[v] W fun e w' => (∃ u, e = .returned u ∧ StsA w' u NS) ∧ Below W.heap.size W w'
  none : K ≠ 0 → NS = []
  uses : ∀ W, Below w.heap.size w W → Calls Tryz.prog 12 #[v] W fun e w' => (∃ u, e = .returned (.tuple #[u, errV K]) ∧ StsA w' u NS) ∧ Below W.heap.size W w'
  const : ∀ W, Below w.heap.size w W → Calls Tryz.prog 14 #[v] W fun e w' => e = .returned (.tuple #[.agg #[.int .i64 CT, .int .i64 CK, .string CS], .bool is]) ∧ Below W.heap.size W w'
theorem valT_eql (t n : Int) (s : ByteArray) (W : World) : Sem.run Tryz.prog (binOp .eql 23 (.agg #[.int .i64 t, .int .i64 n, .string s]) (.agg #[.int .i64 t, .int .i64 n, .string s])) W = .ok (.bool true) W := by
  have h := valK_eqIn t n t n s s W
  have h1 : ((t == t) && ((n == n) && (s.toList == s.toList))) = true := by simp
  rw [h1] at h
  rw [run_eql_struct, h]
  rfl
set_option maxHeartbeats 8000000 in
set_option maxRecDepth 20000 in
theorem ft_okV (w : World) (o1 n1 : ByteArray) (t1 k1 : Int) (s1 : ByteArray) (p1 : Option Addr) (m1 c1 : Nat) (a1 : Int) (pz : Option Addr) (nz cz : Nat) (XW : Ex) (T H P K : Int) (NS : List ByteArray) (hH : H = 0) (hK : K = 0) (ho : o1.data.toList = [118, 97, 108]) (c : FtC w (.agg #[.string o1, .string n1, .int .i64 t1, .int .i64 k1, .string s1, .slice p1 m1 c1, .int .i64 a1]) (.slice pz nz cz) XW T H P K NS t1 k1 s1 true) :
    Calls Tryz.prog 3 #[.agg #[.string o1, .string n1, .int .i64 t1, .int .i64 k1, .string s1, .slice p1 m1 c1, .int .i64 a1], .slice pz nz cz] w fun e w' => e = .returned (.bool true) ∧ Below w.heap.size w w' := by
  have KB : Hid (∀ W, Below (w.heap.size + 1) (w.alloc (.cells #[.string o1, .string n1, .int .i64 t1, .int .i64 k1, .string s1, .slice p1 m1 c1, .int .i64 a1] 26)) W → Box7 W w.heap.size (.string o1) (.string n1) (.int .i64 t1) (.int .i64 k1) (.string s1) (.slice p1 m1 c1) (.int .i64 a1) ∧ w.heap.size + 1 ≤ W.heap.size ∧ Below w.heap.size w W) := fun W hb => by
    have hz := hb.size
    simp at hz
    exact ⟨(box7_alloc w (.string o1) (.string n1) (.int .i64 t1) (.int .i64 k1) (.string s1) (.slice p1 m1 c1) (.int .i64 a1) _).on (hb.mono (by simp)), hz, ((Below.refl _ w).alloc (Nat.le_refl _) _).trans (hb.mono (by omega))⟩
  have qo : (o1.toList == [118, 97, 108]) = true := by rw [Lib.toList_data]; simpa using ho
  have qh : (H == 0) = true := by simpa using hH
  have qk : (K == 0) = true := by simpa using hK
  have HH : Hid (H = 0) := hH
  have HK : Hid (K = 0) := hK
  have C : Aside (FtC w (.agg #[.string o1, .string n1, .int .i64 t1, .int .i64 k1, .string s1, .slice p1 m1 c1, .int .i64 a1]) (.slice pz nz cz) XW T H P K NS t1 k1 s1 true) := c
  obtain ⟨⟨e0, e1, e2, e3, e4, e5, e6, -, el⟩, hz0, B0⟩ := KB.out _ (Below.refl _ _)
  have c1' := c.of _ B0
  clear c ho hH hK B0
  go_enter Tryz.func3, Tryz.ntmps3
  go_wp2_with fail
  refine c1'.mono ?_
  rintro e w1 ⟨rfl, b1⟩
  have B1 : Below (w.heap.size + 1) (w.alloc (.cells #[.string o1, .string n1, .int .i64 t1, .int .i64 k1, .string s1, .slice p1 m1 c1, .int .i64 a1] 26)) w1 := b1.mono (by simp)
  clear e0 e1 e2 e3 e4 e5 e6 el c1' b1 hz0
  obtain ⟨⟨e0, e1, e2, e3, e4, e5, e6, -, el⟩, hz1, bw1⟩ := KB.out _ B1
  have B1a : Below (w.heap.size + 1) (w.alloc (.cells #[.string o1, .string n1, .int .i64 t1, .int .i64 k1, .string s1, .slice p1 m1 c1, .int .i64 a1] 26)) (w1.alloc (.cells #[.string ⟨#[]⟩, .string ⟨#[]⟩, .int .i64 0, .int .i64 0, .string ⟨#[]⟩, .slice none 0 0, .int .i64 0] 26)) := B1.alloc hz1 _
  have Z1 := box7_alloc w1 (.string ⟨#[]⟩) (.string ⟨#[]⟩) (.int .i64 0) (.int .i64 0) (.string ⟨#[]⟩) (.slice none 0 0) (.int .i64 0) 26
  obtain ⟨WA, hWA⟩ : ∃ WA, w1.alloc (.cells #[.string ⟨#[]⟩, .string ⟨#[]⟩, .int .i64 0, .int .i64 0, .string ⟨#[]⟩, .slice none 0 0, .int .i64 0] 26) = WA := ⟨_, rfl⟩
  have hsA : WA.heap.size = w1.heap.size + 1 := by rw [← hWA]; simp
  rw [hWA] at B1a Z1
  have c2 := C.out.refold HH.out _ (KB.out _ B1a).2.2
  have HSA : Hid (WA.heap.size = w1.heap.size + 1) := hsA
  clear hsA bw1 e0 e1 e2 e3 e4 e5 e6 el
  obtain ⟨⟨e0, e1, e2, e3, e4, e5, e6, -, el⟩, hzA, bwA⟩ := KB.out _ B1a
  go_upto_region 3 with fail
  try rw [hWA]
  clear hWA
  go_wp2_with fail
  refine c2.mono ?_
  rintro e w2 ⟨⟨u, rfl, hu⟩, b2⟩
  obtain ⟨r0, r1, r2, r3, r4, r5, r6, r7, r8, rfl⟩ := hu.agg
  have B2 := B1a.trans (b2.mono hzA)
  have Z2 := Z1.on b2
  obtain ⟨W3, hW3⟩ : ∃ W3, w2.setCells w1.heap.size 0 [.string r0, .string r1, .int .i64 r2, .int .i64 r3, .string r4, .slice r5 r6 r7, .int .i64 r8] = W3 := ⟨_, rfl⟩
  have PP := put7 (v0 := .string r0) (v1 := .string r1) (v2 := .int .i64 r2) (v3 := .int .i64 r3) (v4 := .string r4) (v5 := .slice r5 r6 r7) (v6 := .int .i64 r8) Z2 B2 hz1
  rw [hW3] at PP
  obtain ⟨Z3, B3, PX⟩ := PP
  have U3 : Aside (ExIn W3 (fun _ => True) (.agg #[.string r0, .string r1, .int .i64 r2, .int .i64 r3, .string r4, .slice r5 r6 r7, .int .i64 r8]) XW) := ExIn.low (fun _ _ _ => trivial) _ _ (PX (fun b => WA.heap.size ≤ b) _ _ hu (fun b (hb : WA.heap.size ≤ b) => by have := HSA.out; omega))
  have HW3 : Hid (w2.setCells w1.heap.size 0 [.string r0, .string r1, .int .i64 r2, .int .i64 r3, .string r4, .slice r5 r6 r7, .int .i64 r8] = W3) := hW3
  have hs3 : w1.heap.size < W3.heap.size := Z3.lt
  have T2 : Aside (w2.there w1.heap.size 0 7) := Z2.there
  clear c2 b2 hu B2 PX hW3 e0 e1 e2 e3 e4 e5 e6 el Z1 Z2 B1a hzA bwA
  obtain ⟨⟨e0, e1, e2, e3, e4, e5, e6, -, el⟩, hzW, bw3⟩ := KB.out _ B3
  dsimp only
  go_step
  refine wpList_store_mid rfl 26 _ _ rfl w1.heap.size 0 #[.string r0, .string r1, .int .i64 r2, .int .i64 r3, .string r4, .slice r5 r6 r7, .int .i64 r8] rfl rfl T2.out size_ex7 (one7a _ _ _ _ _ _ _ _ _) ?_
  show wpList _ _ _ [] _ (w2.setCells w1.heap.size 0 [.string r0, .string r1, .int .i64 r2, .int .i64 r3, .string r4, .slice r5 r6 r7, .int .i64 r8])
  rw [HW3.out]
  clear HW3 T2
  have c3 := C.out.fold _ bw3
  clear bw3
  go_wp2_with fail
  refine c3.mono ?_
  rintro e w4 ⟨⟨u, rfl, hu⟩, b4⟩
  obtain ⟨x0, x1, x2, x3, x4, x5, x6, x7, x8, rfl⟩ := hu.agg
  have B4 := B3.trans (b4.mono hzW)
  have Z4 := Z3.on b4
  have UW4 : ExIn w4 (fun _ => True) (.agg #[.string r0, .string r1, .int .i64 r2, .int .i64 r3, .string r4, .slice r5 r6 r7, .int .i64 r8]) XW := U3.out.on b4
  obtain ⟨W5, hW5⟩ : ∃ W5, w4.alloc (.cells #[.string x0, .string x1, .int .i64 x2, .int .i64 x3, .string x4, .slice x5 x6 x7, .int .i64 x8] 26) = W5 := ⟨_, rfl⟩
  have bx : Below w4.heap.size w4 W5 := by rw [← hW5]; exact al _ _
  have X5 : Box7 W5 w4.heap.size (.string x0) (.string x1) (.int .i64 x2) (.int .i64 x3) (.string x4) (.slice x5 x6 x7) (.int .i64 x8) := by rw [← hW5]; exact box7_alloc _ _ _ _ _ _ _ _ _
  have B5 := B4.trans (bx.mono (by have := Z4.lt; have := B4.size; simp at this; omega))
  have Z5 := Z4.on bx
  have UW5 : Aside (ExIn W5 (fun _ => True) (.agg #[.string r0, .string r1, .int .i64 r2, .int .i64 r3, .string r4, .slice r5 r6 r7, .int .i64 r8]) XW) := UW4.on bx
  have UX5 : Aside (ExIn W5 (fun _ => True) (.agg #[.string x0, .string x1, .int .i64 x2, .int .i64 x3, .string x4, .slice x5 x6 x7, .int .i64 x8]) XW) := hu.on bx
  clear c3 b4 hu UW4 U3 bx Z4 Z3 B3 hzW e0 e1 e2 e3 e4 e5 e6 el
  obtain ⟨⟨e0, e1, e2, e3, e4, e5, e6, -, el⟩, hz5, bw5⟩ := KB.out _ B5
  go_upto_region 6 with fail
  try rw [hW5]
  clear hW5 B4
  have c4 := C.out.err _ bw5
  clear bw5
  go_wp2_with fail
  refine c4.mono ?_
  rintro e w6 ⟨rfl, b6⟩
  have B6 := B5.trans (b6.mono hz5)
  have Z6 := Z5.on b6
  have X6 := X5.on b6
  have c5 := C.out.same w6 _ _ (UX5.out.on b6) (UW5.out.on b6)
  clear c4 b6 UX5 UW5 Z5 X5 hz5 e0 e1 e2 e3 e4 e5 e6 el B5
  obtain ⟨z0, z1, z2, z3, z4, z5, z6, -, zl⟩ := Z6
  obtain ⟨y0, y1, y2, y3, y4, y5, y6, -, yl⟩ := X6
  go_wp2_with fail
  refine c5.mono ?_
  rintro e w7 ⟨rfl, b7⟩
  have B7 := B6.trans (b7.mono (KB.out _ B6).2.1)
  clear c5 b7 z0 z1 z2 z3 z4 z5 z6 zl y0 y1 y2 y3 y4 y5 y6 yl
  obtain ⟨⟨e0, e1, e2, e3, e4, e5, e6, -, el⟩, hz7, bw7⟩ := KB.out _ B7
  have c6 := C.out.chk _ bw7
  clear bw7
  go_wp2_with fail
  refine c6.mono ?_
  rintro e w8 ⟨rfl, b8⟩
  have B8 := B7.trans (b8.mono hz7)
  clear c6 b8 hz7 e0 e1 e2 e3 e4 e5 e6 el B6 B7
  obtain ⟨⟨e0, e1, e2, e3, e4, e5, e6, -, el⟩, hz8, bw8⟩ := KB.out _ B8
  have c7 := C.out.reuse HK.out _ bw8
  clear bw8
  go_wp2_with fail
  refine c7.mono ?_
  rintro e w9 ⟨⟨ul, rfl, hs9⟩, b9⟩
  obtain ⟨lp, lc, rfl⟩ := sts_form hs9
  obtain ⟨ln, hln⟩ : ∃ ln, NS.length = ln := ⟨_, rfl⟩
  rw [hln] at hs9
  simp only [hln]
  have HS9 : Aside (StsA w9 (.slice lp ln lc) NS) := hs9
  have B9 := B8.trans (b9.mono hz8)
  clear c7 b9 hs9 hz8 e0 e1 e2 e3 e4 e5 e6 el B8 hln
  obtain ⟨⟨e0, e1, e2, e3, e4, e5, e6, -, el⟩, hz9, bw9⟩ := KB.out _ B9
  have c8 := C.out.uses _ bw9
  clear bw9
  go_wp2_with fail
  refine c8.mono ?_
  rintro e w10 ⟨⟨uu, rfl, hs10⟩, b10⟩
  obtain ⟨gp, gc, rfl⟩ := sts_form hs10
  obtain ⟨gn, hgn⟩ : ∃ gn, NS.length = gn := ⟨_, rfl⟩
  rw [hgn] at hs10
  simp only [hgn]
  have HS10 : Aside (StsA w10 (.slice gp gn gc) NS) := hs10
  have HL10 : Aside (StsA w10 (.slice lp ln lc) NS) := HS9.out.on b10
  have B10 := B9.trans (b10.mono hz9)
  clear c8 b10 hs10 hz9 e0 e1 e2 e3 e4 e5 e6 el B9 hgn HS9
  obtain ⟨⟨e0, e1, e2, e3, e4, e5, e6, -, el⟩, hz10, bw10⟩ := KB.out _ B10
  have c9 := C.out.err2 _ bw10
  clear bw10
  go_wp2_with fail
  refine c9.mono ?_
  rintro e w11 ⟨rfl, b11⟩
  have B11 := B10.trans (b11.mono hz10)
  have c10 := texts_sts _ _ NS w11 (HS10.out.on b11) (HL10.out.on b11)
  clear c9 b11 hz10 e0 e1 e2 e3 e4 e5 e6 el B10 HS10 HL10
  go_wp2_with fail
  refine c10.mono ?_
  rintro e w12 ⟨rfl, b12⟩
  have B12 := B11.trans (b12.mono (KB.out _ B11).2.1)
  clear c10 b12 B11
  obtain ⟨⟨e0, e1, e2, e3, e4, e5, e6, -, el⟩, hz12, bw12⟩ := KB.out _ B12
  have c11 := C.out.const _ bw12
  clear bw12
  go_wp2_with fail
  refine c11.mono ?_
  rintro e w13 ⟨rfl, b13⟩
  have B13 := B12.trans (b13.mono hz12)
  clear c11 b13 hz12 e0 e1 e2 e3 e4 e5 e6 el B12
  obtain ⟨⟨e0, e1, e2, e3, e4, e5, e6, -, el⟩, hz13, bw13⟩ := KB.out _ B13
  have HB14 : Aside (Below w.heap.size w (w13.alloc (.cells #[.int .i64 t1, .int .i64 k1, .string s1] 23))) := bw13.alloc bw13.size _
  have hv := valT_eql t1 k1 s1
  clear bw13 B13 hz13 C KB
  go_wp2
  go_ret
  exact ⟨rfl, HB14.out⟩
set_option maxHeartbeats 8000000 in
set_option maxRecDepth 20000 in
theorem ft_okN (w : World) (o1 n1 : ByteArray) (t1 k1 : Int) (s1 : ByteArray) (p1 : Option Addr) (m1 c1 : Nat) (a1 : Int) (pz : Option Addr) (nz cz : Nat) (XW : Ex) (T H P K : Int) (NS : List ByteArray) (hH : H = 0) (hK : K = 0) (ho : o1.data.toList ≠ [118, 97, 108]) (c : FtC w (.agg #[.string o1, .string n1, .int .i64 t1, .int .i64 k1, .string s1, .slice p1 m1 c1, .int .i64 a1]) (.slice pz nz cz) XW T H P K NS 0 0 ⟨#[]⟩ false) :
    Calls Tryz.prog 3 #[.agg #[.string o1, .string n1, .int .i64 t1, .int .i64 k1, .string s1, .slice p1 m1 c1, .int .i64 a1], .slice pz nz cz] w fun e w' => e = .returned (.bool true) ∧ Below w.heap.size w w' := by
  have KB : Hid (∀ W, Below (w.heap.size + 1) (w.alloc (.cells #[.string o1, .string n1, .int .i64 t1, .int .i64 k1, .string s1, .slice p1 m1 c1, .int .i64 a1] 26)) W → Box7 W w.heap.size (.string o1) (.string n1) (.int .i64 t1) (.int .i64 k1) (.string s1) (.slice p1 m1 c1) (.int .i64 a1) ∧ w.heap.size + 1 ≤ W.heap.size ∧ Below w.heap.size w W) := fun W hb => by
    have hz := hb.size
    simp at hz
    exact ⟨(box7_alloc w (.string o1) (.string n1) (.int .i64 t1) (.int .i64 k1) (.string s1) (.slice p1 m1 c1) (.int .i64 a1) _).on (hb.mono (by simp)), hz, ((Below.refl _ w).alloc (Nat.le_refl _) _).trans (hb.mono (by omega))⟩
  have qo : (o1.toList == [118, 97, 108]) = false := by rw [Lib.toList_data]; simpa using ho
  have qh : (H == 0) = true := by simpa using hH
  have qk : (K == 0) = true := by simpa using hK
  have HH : Hid (H = 0) := hH
  have HK : Hid (K = 0) := hK
  have C : Aside (FtC w (.agg #[.string o1, .string n1, .int .i64 t1, .int .i64 k1, .string s1, .slice p1 m1 c1, .int .i64 a1]) (.slice pz nz cz) XW T H P K NS 0 0 ⟨#[]⟩ false) := c
  obtain ⟨⟨e0, e1, e2, e3, e4, e5, e6, -, el⟩, hz0, B0⟩ := KB.out _ (Below.refl _ _)
  have c1' := c.of _ B0
  clear c ho hH hK B0
  go_enter Tryz.func3, Tryz.ntmps3
  go_wp2_with fail
  refine c1'.mono ?_
  rintro e w1 ⟨rfl, b1⟩
  have B1 : Below (w.heap.size + 1) (w.alloc (.cells #[.string o1, .string n1, .int .i64 t1, .int .i64 k1, .string s1, .slice p1 m1 c1, .int .i64 a1] 26)) w1 := b1.mono (by simp)
  clear e0 e1 e2 e3 e4 e5 e6 el c1' b1 hz0
  obtain ⟨⟨e0, e1, e2, e3, e4, e5, e6, -, el⟩, hz1, bw1⟩ := KB.out _ B1
  have B1a : Below (w.heap.size + 1) (w.alloc (.cells #[.string o1, .string n1, .int .i64 t1, .int .i64 k1, .string s1, .slice p1 m1 c1, .int .i64 a1] 26)) (w1.alloc (.cells #[.string ⟨#[]⟩, .string ⟨#[]⟩, .int .i64 0, .int .i64 0, .string ⟨#[]⟩, .slice none 0 0, .int .i64 0] 26)) := B1.alloc hz1 _
  have Z1 := box7_alloc w1 (.string ⟨#[]⟩) (.string ⟨#[]⟩) (.int .i64 0) (.int .i64 0) (.string ⟨#[]⟩) (.slice none 0 0) (.int .i64 0) 26
  obtain ⟨WA, hWA⟩ : ∃ WA, w1.alloc (.cells #[.string ⟨#[]⟩, .string ⟨#[]⟩, .int .i64 0, .int .i64 0, .string ⟨#[]⟩, .slice none 0 0, .int .i64 0] 26) = WA := ⟨_, rfl⟩
  have hsA : WA.heap.size = w1.heap.size + 1 := by rw [← hWA]; simp
  rw [hWA] at B1a Z1
  have c2 := C.out.refold HH.out _ (KB.out _ B1a).2.2
  have HSA : Hid (WA.heap.size = w1.heap.size + 1) := hsA
  clear hsA bw1 e0 e1 e2 e3 e4 e5 e6 el
  obtain ⟨⟨e0, e1, e2, e3, e4, e5, e6, -, el⟩, hzA, bwA⟩ := KB.out _ B1a
  go_upto_region 3 with fail
  try rw [hWA]
  clear hWA
  go_wp2_with fail
  refine c2.mono ?_
  rintro e w2 ⟨⟨u, rfl, hu⟩, b2⟩
  obtain ⟨r0, r1, r2, r3, r4, r5, r6, r7, r8, rfl⟩ := hu.agg
  have B2 := B1a.trans (b2.mono hzA)
  have Z2 := Z1.on b2
  obtain ⟨W3, hW3⟩ : ∃ W3, w2.setCells w1.heap.size 0 [.string r0, .string r1, .int .i64 r2, .int .i64 r3, .string r4, .slice r5 r6 r7, .int .i64 r8] = W3 := ⟨_, rfl⟩
  have PP := put7 (v0 := .string r0) (v1 := .string r1) (v2 := .int .i64 r2) (v3 := .int .i64 r3) (v4 := .string r4) (v5 := .slice r5 r6 r7) (v6 := .int .i64 r8) Z2 B2 hz1
  rw [hW3] at PP
  obtain ⟨Z3, B3, PX⟩ := PP
  have U3 : Aside (ExIn W3 (fun _ => True) (.agg #[.string r0, .string r1, .int .i64 r2, .int .i64 r3, .string r4, .slice r5 r6 r7, .int .i64 r8]) XW) := ExIn.low (fun _ _ _ => trivial) _ _ (PX (fun b => WA.heap.size ≤ b) _ _ hu (fun b (hb : WA.heap.size ≤ b) => by have := HSA.out; omega))
  have HW3 : Hid (w2.setCells w1.heap.size 0 [.string r0, .string r1, .int .i64 r2, .int .i64 r3, .string r4, .slice r5 r6 r7, .int .i64 r8] = W3) := hW3
  have hs3 : w1.heap.size < W3.heap.size := Z3.lt
  have T2 : Aside (w2.there w1.heap.size 0 7) := Z2.there
  clear c2 b2 hu B2 PX hW3 e0 e1 e2 e3 e4 e5 e6 el Z1 Z2 B1a hzA bwA
  obtain ⟨⟨e0, e1, e2, e3, e4, e5, e6, -, el⟩, hzW, bw3⟩ := KB.out _ B3
  dsimp only
  go_step
  refine wpList_store_mid rfl 26 _ _ rfl w1.heap.size 0 #[.string r0, .string r1, .int .i64 r2, .int .i64 r3, .string r4, .slice r5 r6 r7, .int .i64 r8] rfl rfl T2.out size_ex7 (one7a _ _ _ _ _ _ _ _ _) ?_
  show wpList _ _ _ [] _ (w2.setCells w1.heap.size 0 [.string r0, .string r1, .int .i64 r2, .int .i64 r3, .string r4, .slice r5 r6 r7, .int .i64 r8])
  rw [HW3.out]
  clear HW3 T2
  have c3 := C.out.fold _ bw3
  clear bw3
  go_wp2_with fail
  refine c3.mono ?_
  rintro e w4 ⟨⟨u, rfl, hu⟩, b4⟩
  obtain ⟨x0, x1, x2, x3, x4, x5, x6, x7, x8, rfl⟩ := hu.agg
  have B4 := B3.trans (b4.mono hzW)
  have Z4 := Z3.on b4
  have UW4 : ExIn w4 (fun _ => True) (.agg #[.string r0, .string r1, .int .i64 r2, .int .i64 r3, .string r4, .slice r5 r6 r7, .int .i64 r8]) XW := U3.out.on b4
  obtain ⟨W5, hW5⟩ : ∃ W5, w4.alloc (.cells #[.string x0, .string x1, .int .i64 x2, .int .i64 x3, .string x4, .slice x5 x6 x7, .int .i64 x8] 26) = W5 := ⟨_, rfl⟩
  have bx : Below w4.heap.size w4 W5 := by rw [← hW5]; exact al _ _
  have X5 : Box7 W5 w4.heap.size (.string x0) (.string x1) (.int .i64 x2) (.int .i64 x3) (.string x4) (.slice x5 x6 x7) (.int .i64 x8) := by rw [← hW5]; exact box7_alloc _ _ _ _ _ _ _ _ _
  have B5 := B4.trans (bx.mono (by have := Z4.lt; have := B4.size; simp at this; omega))
  have Z5 := Z4.on bx
  have UW5 : Aside (ExIn W5 (fun _ => True) (.agg #[.string r0, .string r1, .int .i64 r2, .int .i64 r3, .string r4, .slice r5 r6 r7, .int .i64 r8]) XW) := UW4.on bx
  have UX5 : Aside (ExIn W5 (fun _ => True) (.agg #[.string x0, .string x1, .int .i64 x2, .int .i64 x3, .string x4, .slice x5 x6 x7, .int .i64 x8]) XW) := hu.on bx
  clear c3 b4 hu UW4 U3 bx Z4 Z3 B3 hzW e0 e1 e2 e3 e4 e5 e6 el
  obtain ⟨⟨e0, e1, e2, e3, e4, e5, e6, -, el⟩, hz5, bw5⟩ := KB.out _ B5
  go_upto_region 6 with fail
  try rw [hW5]
  clear hW5 B4
  have c4 := C.out.err _ bw5
  clear bw5
  go_wp2_with fail
  refine c4.mono ?_
  rintro e w6 ⟨rfl, b6⟩
  have B6 := B5.trans (b6.mono hz5)
  have Z6 := Z5.on b6
  have X6 := X5.on b6
  have c5 := C.out.same w6 _ _ (UX5.out.on b6) (UW5.out.on b6)
  clear c4 b6 UX5 UW5 Z5 X5 hz5 e0 e1 e2 e3 e4 e5 e6 el B5
  obtain ⟨z0, z1, z2, z3, z4, z5, z6, -, zl⟩ := Z6
  obtain ⟨y0, y1, y2, y3, y4, y5, y6, -, yl⟩ := X6
  go_wp2_with fail
  refine c5.mono ?_
  rintro e w7 ⟨rfl, b7⟩
  have B7 := B6.trans (b7.mono (KB.out _ B6).2.1)
  clear c5 b7 z0 z1 z2 z3 z4 z5 z6 zl y0 y1 y2 y3 y4 y5 y6 yl
  obtain ⟨⟨e0, e1, e2, e3, e4, e5, e6, -, el⟩, hz7, bw7⟩ := KB.out _ B7
  have c6 := C.out.chk _ bw7
  clear bw7
  go_wp2_with fail
  refine c6.mono ?_
  rintro e w8 ⟨rfl, b8⟩
  have B8 := B7.trans (b8.mono hz7)
  clear c6 b8 hz7 e0 e1 e2 e3 e4 e5 e6 el B6 B7
  obtain ⟨⟨e0, e1, e2, e3, e4, e5, e6, -, el⟩, hz8, bw8⟩ := KB.out _ B8
  have c7 := C.out.reuse HK.out _ bw8
  clear bw8
  go_wp2_with fail
  refine c7.mono ?_
  rintro e w9 ⟨⟨ul, rfl, hs9⟩, b9⟩
  obtain ⟨lp, lc, rfl⟩ := sts_form hs9
  obtain ⟨ln, hln⟩ : ∃ ln, NS.length = ln := ⟨_, rfl⟩
  rw [hln] at hs9
  simp only [hln]
  have HS9 : Aside (StsA w9 (.slice lp ln lc) NS) := hs9
  have B9 := B8.trans (b9.mono hz8)
  clear c7 b9 hs9 hz8 e0 e1 e2 e3 e4 e5 e6 el B8 hln
  obtain ⟨⟨e0, e1, e2, e3, e4, e5, e6, -, el⟩, hz9, bw9⟩ := KB.out _ B9
  have c8 := C.out.uses _ bw9
  clear bw9
  go_wp2_with fail
  refine c8.mono ?_
  rintro e w10 ⟨⟨uu, rfl, hs10⟩, b10⟩
  obtain ⟨gp, gc, rfl⟩ := sts_form hs10
  obtain ⟨gn, hgn⟩ : ∃ gn, NS.length = gn := ⟨_, rfl⟩
  rw [hgn] at hs10
  simp only [hgn]
  have HS10 : Aside (StsA w10 (.slice gp gn gc) NS) := hs10
  have HL10 : Aside (StsA w10 (.slice lp ln lc) NS) := HS9.out.on b10
  have B10 := B9.trans (b10.mono hz9)
  clear c8 b10 hs10 hz9 e0 e1 e2 e3 e4 e5 e6 el B9 hgn HS9
  obtain ⟨⟨e0, e1, e2, e3, e4, e5, e6, -, el⟩, hz10, bw10⟩ := KB.out _ B10
  have c9 := C.out.err2 _ bw10
  clear bw10
  go_wp2_with fail
  refine c9.mono ?_
  rintro e w11 ⟨rfl, b11⟩
  have B11 := B10.trans (b11.mono hz10)
  have c10 := texts_sts _ _ NS w11 (HS10.out.on b11) (HL10.out.on b11)
  clear c9 b11 hz10 e0 e1 e2 e3 e4 e5 e6 el B10 HS10 HL10
  go_wp2_with fail
  refine c10.mono ?_
  rintro e w12 ⟨rfl, b12⟩
  have B12 := B11.trans (b12.mono (KB.out _ B11).2.1)
  clear c10 b12 B11
  obtain ⟨⟨e0, e1, e2, e3, e4, e5, e6, -, el⟩, hz12, bw12⟩ := KB.out _ B12
  have c11 := C.out.const _ bw12
  clear bw12
  go_wp2_with fail
  refine c11.mono ?_
  rintro e w13 ⟨rfl, b13⟩
  have B13 := B12.trans (b13.mono hz12)
  clear c11 b13 hz12 e0 e1 e2 e3 e4 e5 e6 el B12
  obtain ⟨⟨e0, e1, e2, e3, e4, e5, e6, -, el⟩, hz13, bw13⟩ := KB.out _ B13
  have HB14 : Aside (Below w.heap.size w (w13.alloc (.cells #[.int .i64 0, .int .i64 0, .string ⟨#[]⟩] 23))) := bw13.alloc bw13.size _
  have hv := valT_eql t1 k1 s1
  clear bw13 B13 hz13 C KB
  go_wp2
  go_ret
  exact ⟨rfl, HB14.out⟩
set_option maxHeartbeats 8000000 in
set_option maxRecDepth 20000 in
theorem ft_ofV (w : World) (o1 n1 : ByteArray) (t1 k1 : Int) (s1 : ByteArray) (p1 : Option Addr) (m1 c1 : Nat) (a1 : Int) (pz : Option Addr) (nz cz : Nat) (XW : Ex) (T H P K : Int) (NS : List ByteArray) (hH : H ≠ 0) (hK : K = 0) (ho : o1.data.toList = [118, 97, 108]) (c : FtC w (.agg #[.string o1, .string n1, .int .i64 t1, .int .i64 k1, .string s1, .slice p1 m1 c1, .int .i64 a1]) (.slice pz nz cz) XW T H P K NS t1 k1 s1 true) :
    Calls Tryz.prog 3 #[.agg #[.string o1, .string n1, .int .i64 t1, .int .i64 k1, .string s1, .slice p1 m1 c1, .int .i64 a1], .slice pz nz cz] w fun e w' => e = .returned (.bool true) ∧ Below w.heap.size w w' := by
  have KB : Hid (∀ W, Below (w.heap.size + 1) (w.alloc (.cells #[.string o1, .string n1, .int .i64 t1, .int .i64 k1, .string s1, .slice p1 m1 c1, .int .i64 a1] 26)) W → Box7 W w.heap.size (.string o1) (.string n1) (.int .i64 t1) (.int .i64 k1) (.string s1) (.slice p1 m1 c1) (.int .i64 a1) ∧ w.heap.size + 1 ≤ W.heap.size ∧ Below w.heap.size w W) := fun W hb => by
    have hz := hb.size
    simp at hz
    exact ⟨(box7_alloc w (.string o1) (.string n1) (.int .i64 t1) (.int .i64 k1) (.string s1) (.slice p1 m1 c1) (.int .i64 a1) _).on (hb.mono (by simp)), hz, ((Below.refl _ w).alloc (Nat.le_refl _) _).trans (hb.mono (by omega))⟩
  have qo : (o1.toList == [118, 97, 108]) = true := by rw [Lib.toList_data]; simpa using ho
  have qh : (H == 0) = false := by simpa using hH
  have qk : (K == 0) = true := by simpa using hK
  have HH : Hid (H ≠ 0) := hH
  have HK : Hid (K = 0) := hK
  have C : Aside (FtC w (.agg #[.string o1, .string n1, .int .i64 t1, .int .i64 k1, .string s1, .slice p1 m1 c1, .int .i64 a1]) (.slice pz nz cz) XW T H P K NS t1 k1 s1 true) := c
  obtain ⟨⟨e0, e1, e2, e3, e4, e5, e6, -, el⟩, hz0, B0⟩ := KB.out _ (Below.refl _ _)
  have c1' := c.of _ B0
  clear c ho hH hK B0
  go_enter Tryz.func3, Tryz.ntmps3
  go_wp2_with fail
  refine c1'.mono ?_
  rintro e w1 ⟨rfl, b1⟩
  have B1 : Below (w.heap.size + 1) (w.alloc (.cells #[.string o1, .string n1, .int .i64 t1, .int .i64 k1, .string s1, .slice p1 m1 c1, .int .i64 a1] 26)) w1 := b1.mono (by simp)
  clear e0 e1 e2 e3 e4 e5 e6 el c1' b1 hz0
  obtain ⟨⟨e0, e1, e2, e3, e4, e5, e6, -, el⟩, hz1, bw1⟩ := KB.out _ B1
  have B1a : Below (w.heap.size + 1) (w.alloc (.cells #[.string o1, .string n1, .int .i64 t1, .int .i64 k1, .string s1, .slice p1 m1 c1, .int .i64 a1] 26)) (w1.alloc (.cells #[.string ⟨#[]⟩, .string ⟨#[]⟩, .int .i64 0, .int .i64 0, .string ⟨#[]⟩, .slice none 0 0, .int .i64 0] 26)) := B1.alloc hz1 _
  have Z1 := box7_alloc w1 (.string ⟨#[]⟩) (.string ⟨#[]⟩) (.int .i64 0) (.int .i64 0) (.string ⟨#[]⟩) (.slice none 0 0) (.int .i64 0) 26
  obtain ⟨W3, hWA⟩ : ∃ W3, w1.alloc (.cells #[.string ⟨#[]⟩, .string ⟨#[]⟩, .int .i64 0, .int .i64 0, .string ⟨#[]⟩, .slice none 0 0, .int .i64 0] 26) = W3 := ⟨_, rfl⟩
  rw [hWA] at B1a Z1
  have Z3 := Z1
  have B3 := B1a
  have U3 : Aside (ExIn W3 (fun _ => True) (.agg #[.string ⟨#[]⟩, .string ⟨#[]⟩, .int .i64 0, .int .i64 0, .string ⟨#[]⟩, .slice none 0 0, .int .i64 0]) XW) := C.out.zero HH.out _
  clear bw1 e0 e1 e2 e3 e4 e5 e6 el Z1 B1a
  obtain ⟨⟨e0, e1, e2, e3, e4, e5, e6, -, el⟩, hzW, bw3⟩ := KB.out _ B3
  go_upto_region 3 with fail
  try rw [hWA]
  clear hWA
  have c3 := C.out.fold _ bw3
  clear bw3
  go_wp2_with fail
  refine c3.mono ?_
  rintro e w4 ⟨⟨u, rfl, hu⟩, b4⟩
  obtain ⟨x0, x1, x2, x3, x4, x5, x6, x7, x8, rfl⟩ := hu.agg
  have B4 := B3.trans (b4.mono hzW)
  have Z4 := Z3.on b4
  have UW4 : ExIn w4 (fun _ => True) (.agg #[.string ⟨#[]⟩, .string ⟨#[]⟩, .int .i64 0, .int .i64 0, .string ⟨#[]⟩, .slice none 0 0, .int .i64 0]) XW := U3.out.on b4
  obtain ⟨W5, hW5⟩ : ∃ W5, w4.alloc (.cells #[.string x0, .string x1, .int .i64 x2, .int .i64 x3, .string x4, .slice x5 x6 x7, .int .i64 x8] 26) = W5 := ⟨_, rfl⟩
  have bx : Below w4.heap.size w4 W5 := by rw [← hW5]; exact al _ _
  have X5 : Box7 W5 w4.heap.size (.string x0) (.string x1) (.int .i64 x2) (.int .i64 x3) (.string x4) (.slice x5 x6 x7) (.int .i64 x8) := by rw [← hW5]; exact box7_alloc _ _ _ _ _ _ _ _ _
  have B5 := B4.trans (bx.mono (by have := Z4.lt; have := B4.size; simp at this; omega))
  have Z5 := Z4.on bx
  have UW5 : Aside (ExIn W5 (fun _ => True) (.agg #[.string ⟨#[]⟩, .string ⟨#[]⟩, .int .i64 0, .int .i64 0, .string ⟨#[]⟩, .slice none 0 0, .int .i64 0]) XW) := UW4.on bx
  have UX5 : Aside (ExIn W5 (fun _ => True) (.agg #[.string x0, .string x1, .int .i64 x2, .int .i64 x3, .string x4, .slice x5 x6 x7, .int .i64 x8]) XW) := hu.on bx
  clear c3 b4 hu UW4 U3 bx Z4 Z3 B3 hzW e0 e1 e2 e3 e4 e5 e6 el
  obtain ⟨⟨e0, e1, e2, e3, e4, e5, e6, -, el⟩, hz5, bw5⟩ := KB.out _ B5
  go_upto_region 6 with fail
  try rw [hW5]
  clear hW5 B4
  have c4 := C.out.err _ bw5
  clear bw5
  go_wp2_with fail
  refine c4.mono ?_
  rintro e w6 ⟨rfl, b6⟩
  have B6 := B5.trans (b6.mono hz5)
  have Z6 := Z5.on b6
  have X6 := X5.on b6
  have c5 := C.out.same w6 _ _ (UX5.out.on b6) (UW5.out.on b6)
  clear c4 b6 UX5 UW5 Z5 X5 hz5 e0 e1 e2 e3 e4 e5 e6 el B5
  obtain ⟨z0, z1, z2, z3, z4, z5, z6, -, zl⟩ := Z6
  obtain ⟨y0, y1, y2, y3, y4, y5, y6, -, yl⟩ := X6
  go_wp2_with fail
  refine c5.mono ?_
  rintro e w7 ⟨rfl, b7⟩
  have B7 := B6.trans (b7.mono (KB.out _ B6).2.1)
  clear c5 b7 z0 z1 z2 z3 z4 z5 z6 zl y0 y1 y2 y3 y4 y5 y6 yl
  obtain ⟨⟨e0, e1, e2, e3, e4, e5, e6, -, el⟩, hz7, bw7⟩ := KB.out _ B7
  have c6 := C.out.chk _ bw7
  clear bw7
  go_wp2_with fail
  refine c6.mono ?_
  rintro e w8 ⟨rfl, b8⟩
  have B8 := B7.trans (b8.mono hz7)
  clear c6 b8 hz7 e0 e1 e2 e3 e4 e5 e6 el B6 B7
  obtain ⟨⟨e0, e1, e2, e3, e4, e5, e6, -, el⟩, hz8, bw8⟩ := KB.out _ B8
  have c7 := C.out.reuse HK.out _ bw8
  clear bw8
  go_wp2_with fail
  refine c7.mono ?_
  rintro e w9 ⟨⟨ul, rfl, hs9⟩, b9⟩
  obtain ⟨lp, lc, rfl⟩ := sts_form hs9
  obtain ⟨ln, hln⟩ : ∃ ln, NS.length = ln := ⟨_, rfl⟩
  rw [hln] at hs9
  simp only [hln]
  have HS9 : Aside (StsA w9 (.slice lp ln lc) NS) := hs9
  have B9 := B8.trans (b9.mono hz8)
  clear c7 b9 hs9 hz8 e0 e1 e2 e3 e4 e5 e6 el B8 hln
  obtain ⟨⟨e0, e1, e2, e3, e4, e5, e6, -, el⟩, hz9, bw9⟩ := KB.out _ B9
  have c8 := C.out.uses _ bw9
  clear bw9
  go_wp2_with fail
  refine c8.mono ?_
  rintro e w10 ⟨⟨uu, rfl, hs10⟩, b10⟩
  obtain ⟨gp, gc, rfl⟩ := sts_form hs10
  obtain ⟨gn, hgn⟩ : ∃ gn, NS.length = gn := ⟨_, rfl⟩
  rw [hgn] at hs10
  simp only [hgn]
  have HS10 : Aside (StsA w10 (.slice gp gn gc) NS) := hs10
  have HL10 : Aside (StsA w10 (.slice lp ln lc) NS) := HS9.out.on b10
  have B10 := B9.trans (b10.mono hz9)
  clear c8 b10 hs10 hz9 e0 e1 e2 e3 e4 e5 e6 el B9 hgn HS9
  obtain ⟨⟨e0, e1, e2, e3, e4, e5, e6, -, el⟩, hz10, bw10⟩ := KB.out _ B10
  have c9 := C.out.err2 _ bw10
  clear bw10
  go_wp2_with fail
  refine c9.mono ?_
  rintro e w11 ⟨rfl, b11⟩
  have B11 := B10.trans (b11.mono hz10)
  have c10 := texts_sts _ _ NS w11 (HS10.out.on b11) (HL10.out.on b11)
  clear c9 b11 hz10 e0 e1 e2 e3 e4 e5 e6 el B10 HS10 HL10
  go_wp2_with fail
  refine c10.mono ?_
  rintro e w12 ⟨rfl, b12⟩
  have B12 := B11.trans (b12.mono (KB.out _ B11).2.1)
  clear c10 b12 B11
  obtain ⟨⟨e0, e1, e2, e3, e4, e5, e6, -, el⟩, hz12, bw12⟩ := KB.out _ B12
  have c11 := C.out.const _ bw12
  clear bw12
  go_wp2_with fail
  refine c11.mono ?_
  rintro e w13 ⟨rfl, b13⟩
  have B13 := B12.trans (b13.mono hz12)
  clear c11 b13 hz12 e0 e1 e2 e3 e4 e5 e6 el B12
  obtain ⟨⟨e0, e1, e2, e3, e4, e5, e6, -, el⟩, hz13, bw13⟩ := KB.out _ B13
  have HB14 : Aside (Below w.heap.size w (w13.alloc (.cells #[.int .i64 t1, .int .i64 k1, .string s1] 23))) := bw13.alloc bw13.size _
  have hv := valT_eql t1 k1 s1
  clear bw13 B13 hz13 C KB
  go_wp2
  go_ret
  exact ⟨rfl, HB14.out⟩
set_option maxHeartbeats 8000000 in
set_option maxRecDepth 20000 in
theorem ft_ofN (w : World) (o1 n1 : ByteArray) (t1 k1 : Int) (s1 : ByteArray) (p1 : Option Addr) (m1 c1 : Nat) (a1 : Int) (pz : Option Addr) (nz cz : Nat) (XW : Ex) (T H P K : Int) (NS : List ByteArray) (hH : H ≠ 0) (hK : K = 0) (ho : o1.data.toList ≠ [118, 97, 108]) (c : FtC w (.agg #[.string o1, .string n1, .int .i64 t1, .int .i64 k1, .string s1, .slice p1 m1 c1, .int .i64 a1]) (.slice pz nz cz) XW T H P K NS 0 0 ⟨#[]⟩ false) :
    Calls Tryz.prog 3 #[.agg #[.string o1, .string n1, .int .i64 t1, .int .i64 k1, .string s1, .slice p1 m1 c1, .int .i64 a1], .slice pz nz cz] w fun e w' => e = .returned (.bool true) ∧ Below w.heap.size w w' := by
  have KB : Hid (∀ W, Below (w.heap.size + 1) (w.alloc (.cells #[.string o1, .string n1, .int .i64 t1, .int .i64 k1, .string s1, .slice p1 m1 c1, .int .i64 a1] 26)) W → Box7 W w.heap.size (.string o1) (.string n1) (.int .i64 t1) (.int .i64 k1) (.string s1) (.slice p1 m1 c1) (.int .i64 a1) ∧ w.heap.size + 1 ≤ W.heap.size ∧ Below w.heap.size w W) := fun W hb => by
    have hz := hb.size
    simp at hz
    exact ⟨(box7_alloc w (.string o1) (.string n1) (.int .i64 t1) (.int .i64 k1) (.string s1) (.slice p1 m1 c1) (.int .i64 a1) _).on (hb.mono (by simp)), hz, ((Below.refl _ w).alloc (Nat.le_refl _) _).trans (hb.mono (by omega))⟩
  have qo : (o1.toList == [118, 97, 108]) = false := by rw [Lib.toList_data]; simpa using ho
  have qh : (H == 0) = false := by simpa using hH
  have qk : (K == 0) = true := by simpa using hK
  have HH : Hid (H ≠ 0) := hH
  have HK : Hid (K = 0) := hK
  have C : Aside (FtC w (.agg #[.string o1, .string n1, .int .i64 t1, .int .i64 k1, .string s1, .slice p1 m1 c1, .int .i64 a1]) (.slice pz nz cz) XW T H P K NS 0 0 ⟨#[]⟩ false) := c
  obtain ⟨⟨e0, e1, e2, e3, e4, e5, e6, -, el⟩, hz0, B0⟩ := KB.out _ (Below.refl _ _)
  have c1' := c.of _ B0
  clear c ho hH hK B0
  go_enter Tryz.func3, Tryz.ntmps3
  go_wp2_with fail
  refine c1'.mono ?_
  rintro e w1 ⟨rfl, b1⟩
  have B1 : Below (w.heap.size + 1) (w.alloc (.cells #[.string o1, .string n1, .int .i64 t1, .int .i64 k1, .string s1, .slice p1 m1 c1, .int .i64 a1] 26)) w1 := b1.mono (by simp)
  clear e0 e1 e2 e3 e4 e5 e6 el c1' b1 hz0
  obtain ⟨⟨e0, e1, e2, e3, e4, e5, e6, -, el⟩, hz1, bw1⟩ := KB.out _ B1
  have B1a : Below (w.heap.size + 1) (w.alloc (.cells #[.string o1, .string n1, .int .i64 t1, .int .i64 k1, .string s1, .slice p1 m1 c1, .int .i64 a1] 26)) (w1.alloc (.cells #[.string ⟨#[]⟩, .string ⟨#[]⟩, .int .i64 0, .int .i64 0, .string ⟨#[]⟩, .slice none 0 0, .int .i64 0] 26)) := B1.alloc hz1 _
  have Z1 := box7_alloc w1 (.string ⟨#[]⟩) (.string ⟨#[]⟩) (.int .i64 0) (.int .i64 0) (.string ⟨#[]⟩) (.slice none 0 0) (.int .i64 0) 26
  obtain ⟨W3, hWA⟩ : ∃ W3, w1.alloc (.cells #[.string ⟨#[]⟩, .string ⟨#[]⟩, .int .i64 0, .int .i64 0, .string ⟨#[]⟩, .slice none 0 0, .int .i64 0] 26) = W3 := ⟨_, rfl⟩
  rw [hWA] at B1a Z1
  have Z3 := Z1
  have B3 := B1a
  have U3 : Aside (ExIn W3 (fun _ => True) (.agg #[.string ⟨#[]⟩, .string ⟨#[]⟩, .int .i64 0, .int .i64 0, .string ⟨#[]⟩, .slice none 0 0, .int .i64 0]) XW) := C.out.zero HH.out _
  clear bw1 e0 e1 e2 e3 e4 e5 e6 el Z1 B1a
  obtain ⟨⟨e0, e1, e2, e3, e4, e5, e6, -, el⟩, hzW, bw3⟩ := KB.out _ B3
  go_upto_region 3 with fail
  try rw [hWA]
  clear hWA
  have c3 := C.out.fold _ bw3
  clear bw3
  go_wp2_with fail
  refine c3.mono ?_
  rintro e w4 ⟨⟨u, rfl, hu⟩, b4⟩
  obtain ⟨x0, x1, x2, x3, x4, x5, x6, x7, x8, rfl⟩ := hu.agg
  have B4 := B3.trans (b4.mono hzW)
  have Z4 := Z3.on b4
  have UW4 : ExIn w4 (fun _ => True) (.agg #[.string ⟨#[]⟩, .string ⟨#[]⟩, .int .i64 0, .int .i64 0, .string ⟨#[]⟩, .slice none 0 0, .int .i64 0]) XW := U3.out.on b4
  obtain ⟨W5, hW5⟩ : ∃ W5, w4.alloc (.cells #[.string x0, .string x1, .int .i64 x2, .int .i64 x3, .string x4, .slice x5 x6 x7, .int .i64 x8] 26) = W5 := ⟨_, rfl⟩
  have bx : Below w4.heap.size w4 W5 := by rw [← hW5]; exact al _ _
  have X5 : Box7 W5 w4.heap.size (.string x0) (.string x1) (.int .i64 x2) (.int .i64 x3) (.string x4) (.slice x5 x6 x7) (.int .i64 x8) := by rw [← hW5]; exact box7_alloc _ _ _ _ _ _ _ _ _
  have B5 := B4.trans (bx.mono (by have := Z4.lt; have := B4.size; simp at this; omega))
  have Z5 := Z4.on bx
  have UW5 : Aside (ExIn W5 (fun _ => True) (.agg #[.string ⟨#[]⟩, .string ⟨#[]⟩, .int .i64 0, .int .i64 0, .string ⟨#[]⟩, .slice none 0 0, .int .i64 0]) XW) := UW4.on bx
  have UX5 : Aside (ExIn W5 (fun _ => True) (.agg #[.string x0, .string x1, .int .i64 x2, .int .i64 x3, .string x4, .slice x5 x6 x7, .int .i64 x8]) XW) := hu.on bx
  clear c3 b4 hu UW4 U3 bx Z4 Z3 B3 hzW e0 e1 e2 e3 e4 e5 e6 el
  obtain ⟨⟨e0, e1, e2, e3, e4, e5, e6, -, el⟩, hz5, bw5⟩ := KB.out _ B5
  go_upto_region 6 with fail
  try rw [hW5]
  clear hW5 B4
  have c4 := C.out.err _ bw5
  clear bw5
  go_wp2_with fail
  refine c4.mono ?_
  rintro e w6 ⟨rfl, b6⟩
  have B6 := B5.trans (b6.mono hz5)
  have Z6 := Z5.on b6
  have X6 := X5.on b6
  have c5 := C.out.same w6 _ _ (UX5.out.on b6) (UW5.out.on b6)
  clear c4 b6 UX5 UW5 Z5 X5 hz5 e0 e1 e2 e3 e4 e5 e6 el B5
  obtain ⟨z0, z1, z2, z3, z4, z5, z6, -, zl⟩ := Z6
  obtain ⟨y0, y1, y2, y3, y4, y5, y6, -, yl⟩ := X6
  go_wp2_with fail
  refine c5.mono ?_
  rintro e w7 ⟨rfl, b7⟩
  have B7 := B6.trans (b7.mono (KB.out _ B6).2.1)
  clear c5 b7 z0 z1 z2 z3 z4 z5 z6 zl y0 y1 y2 y3 y4 y5 y6 yl
  obtain ⟨⟨e0, e1, e2, e3, e4, e5, e6, -, el⟩, hz7, bw7⟩ := KB.out _ B7
  have c6 := C.out.chk _ bw7
  clear bw7
  go_wp2_with fail
  refine c6.mono ?_
  rintro e w8 ⟨rfl, b8⟩
  have B8 := B7.trans (b8.mono hz7)
  clear c6 b8 hz7 e0 e1 e2 e3 e4 e5 e6 el B6 B7
  obtain ⟨⟨e0, e1, e2, e3, e4, e5, e6, -, el⟩, hz8, bw8⟩ := KB.out _ B8
  have c7 := C.out.reuse HK.out _ bw8
  clear bw8
  go_wp2_with fail
  refine c7.mono ?_
  rintro e w9 ⟨⟨ul, rfl, hs9⟩, b9⟩
  obtain ⟨lp, lc, rfl⟩ := sts_form hs9
  obtain ⟨ln, hln⟩ : ∃ ln, NS.length = ln := ⟨_, rfl⟩
  rw [hln] at hs9
  simp only [hln]
  have HS9 : Aside (StsA w9 (.slice lp ln lc) NS) := hs9
  have B9 := B8.trans (b9.mono hz8)
  clear c7 b9 hs9 hz8 e0 e1 e2 e3 e4 e5 e6 el B8 hln
  obtain ⟨⟨e0, e1, e2, e3, e4, e5, e6, -, el⟩, hz9, bw9⟩ := KB.out _ B9
  have c8 := C.out.uses _ bw9
  clear bw9
  go_wp2_with fail
  refine c8.mono ?_
  rintro e w10 ⟨⟨uu, rfl, hs10⟩, b10⟩
  obtain ⟨gp, gc, rfl⟩ := sts_form hs10
  obtain ⟨gn, hgn⟩ : ∃ gn, NS.length = gn := ⟨_, rfl⟩
  rw [hgn] at hs10
  simp only [hgn]
  have HS10 : Aside (StsA w10 (.slice gp gn gc) NS) := hs10
  have HL10 : Aside (StsA w10 (.slice lp ln lc) NS) := HS9.out.on b10
  have B10 := B9.trans (b10.mono hz9)
  clear c8 b10 hs10 hz9 e0 e1 e2 e3 e4 e5 e6 el B9 hgn HS9
  obtain ⟨⟨e0, e1, e2, e3, e4, e5, e6, -, el⟩, hz10, bw10⟩ := KB.out _ B10
  have c9 := C.out.err2 _ bw10
  clear bw10
  go_wp2_with fail
  refine c9.mono ?_
  rintro e w11 ⟨rfl, b11⟩
  have B11 := B10.trans (b11.mono hz10)
  have c10 := texts_sts _ _ NS w11 (HS10.out.on b11) (HL10.out.on b11)
  clear c9 b11 hz10 e0 e1 e2 e3 e4 e5 e6 el B10 HS10 HL10
  go_wp2_with fail
  refine c10.mono ?_
  rintro e w12 ⟨rfl, b12⟩
  have B12 := B11.trans (b12.mono (KB.out _ B11).2.1)
  clear c10 b12 B11
  obtain ⟨⟨e0, e1, e2, e3, e4, e5, e6, -, el⟩, hz12, bw12⟩ := KB.out _ B12
  have c11 := C.out.const _ bw12
  clear bw12
  go_wp2_with fail
  refine c11.mono ?_
  rintro e w13 ⟨rfl, b13⟩
  have B13 := B12.trans (b13.mono hz12)
  clear c11 b13 hz12 e0 e1 e2 e3 e4 e5 e6 el B12
  obtain ⟨⟨e0, e1, e2, e3, e4, e5, e6, -, el⟩, hz13, bw13⟩ := KB.out _ B13
  have HB14 : Aside (Below w.heap.size w (w13.alloc (.cells #[.int .i64 0, .int .i64 0, .string ⟨#[]⟩] 23))) := bw13.alloc bw13.size _
  have hv := valT_eql t1 k1 s1
  clear bw13 B13 hz13 C KB
  go_wp2
  go_ret
  exact ⟨rfl, HB14.out⟩
set_option maxHeartbeats 8000000 in
set_option maxRecDepth 20000 in
theorem ft_ckV (w : World) (o1 n1 : ByteArray) (t1 k1 : Int) (s1 : ByteArray) (p1 : Option Addr) (m1 c1 : Nat) (a1 : Int) (pz : Option Addr) (nz cz : Nat) (XW : Ex) (T H P K : Int) (NS : List ByteArray) (hH : H ≠ 0) (hK : K ≠ 0) (ho : o1.data.toList = [118, 97, 108]) (c : FtC w (.agg #[.string o1, .string n1, .int .i64 t1, .int .i64 k1, .string s1, .slice p1 m1 c1, .int .i64 a1]) (.slice pz nz cz) XW T H P K NS t1 k1 s1 true) :
    Calls Tryz.prog 3 #[.agg #[.string o1, .string n1, .int .i64 t1, .int .i64 k1, .string s1, .slice p1 m1 c1, .int .i64 a1], .slice pz nz cz] w fun e w' => e = .returned (.bool true) ∧ Below w.heap.size w w' := by
  have KB : Hid (∀ W, Below (w.heap.size + 1) (w.alloc (.cells #[.string o1, .string n1, .int .i64 t1, .int .i64 k1, .string s1, .slice p1 m1 c1, .int .i64 a1] 26)) W → Box7 W w.heap.size (.string o1) (.string n1) (.int .i64 t1) (.int .i64 k1) (.string s1) (.slice p1 m1 c1) (.int .i64 a1) ∧ w.heap.size + 1 ≤ W.heap.size ∧ Below w.heap.size w W) := fun W hb => by
    have hz := hb.size
    simp at hz
    exact ⟨(box7_alloc w (.string o1) (.string n1) (.int .i64 t1) (.int .i64 k1) (.string s1) (.slice p1 m1 c1) (.int .i64 a1) _).on (hb.mono (by simp)), hz, ((Below.refl _ w).alloc (Nat.le_refl _) _).trans (hb.mono (by omega))⟩
  have qo : (o1.toList == [118, 97, 108]) = true := by rw [Lib.toList_data]; simpa using ho
  have qh : (H == 0) = false := by simpa using hH
  have qk : (K == 0) = false := by simpa using hK
  have HH : Hid (H ≠ 0) := hH
  have HK : Hid (K ≠ 0) := hK
  have C : Aside (FtC w (.agg #[.string o1, .string n1, .int .i64 t1, .int .i64 k1, .string s1, .slice p1 m1 c1, .int .i64 a1]) (.slice pz nz cz) XW T H P K NS t1 k1 s1 true) := c
  obtain ⟨⟨e0, e1, e2, e3, e4, e5, e6, -, el⟩, hz0, B0⟩ := KB.out _ (Below.refl _ _)
  have c1' := c.of _ B0
  clear c ho hH hK B0
  go_enter Tryz.func3, Tryz.ntmps3
  go_wp2_with fail
  refine c1'.mono ?_
  rintro e w1 ⟨rfl, b1⟩
  have B1 : Below (w.heap.size + 1) (w.alloc (.cells #[.string o1, .string n1, .int .i64 t1, .int .i64 k1, .string s1, .slice p1 m1 c1, .int .i64 a1] 26)) w1 := b1.mono (by simp)
  clear e0 e1 e2 e3 e4 e5 e6 el c1' b1 hz0
  obtain ⟨⟨e0, e1, e2, e3, e4, e5, e6, -, el⟩, hz1, bw1⟩ := KB.out _ B1
  have B1a : Below (w.heap.size + 1) (w.alloc (.cells #[.string o1, .string n1, .int .i64 t1, .int .i64 k1, .string s1, .slice p1 m1 c1, .int .i64 a1] 26)) (w1.alloc (.cells #[.string ⟨#[]⟩, .string ⟨#[]⟩, .int .i64 0, .int .i64 0, .string ⟨#[]⟩, .slice none 0 0, .int .i64 0] 26)) := B1.alloc hz1 _
  have Z1 := box7_alloc w1 (.string ⟨#[]⟩) (.string ⟨#[]⟩) (.int .i64 0) (.int .i64 0) (.string ⟨#[]⟩) (.slice none 0 0) (.int .i64 0) 26
  obtain ⟨W3, hWA⟩ : ∃ W3, w1.alloc (.cells #[.string ⟨#[]⟩, .string ⟨#[]⟩, .int .i64 0, .int .i64 0, .string ⟨#[]⟩, .slice none 0 0, .int .i64 0] 26) = W3 := ⟨_, rfl⟩
  rw [hWA] at B1a Z1
  have Z3 := Z1
  have B3 := B1a
  have U3 : Aside (ExIn W3 (fun _ => True) (.agg #[.string ⟨#[]⟩, .string ⟨#[]⟩, .int .i64 0, .int .i64 0, .string ⟨#[]⟩, .slice none 0 0, .int .i64 0]) XW) := C.out.zero HH.out _
  clear bw1 e0 e1 e2 e3 e4 e5 e6 el Z1 B1a
  obtain ⟨⟨e0, e1, e2, e3, e4, e5, e6, -, el⟩, hzW, bw3⟩ := KB.out _ B3
  go_upto_region 3 with fail
  try rw [hWA]
  clear hWA
  have c3 := C.out.fold _ bw3
  clear bw3
  go_wp2_with fail
  refine c3.mono ?_
  rintro e w4 ⟨⟨u, rfl, hu⟩, b4⟩
  obtain ⟨x0, x1, x2, x3, x4, x5, x6, x7, x8, rfl⟩ := hu.agg
  have B4 := B3.trans (b4.mono hzW)
  have Z4 := Z3.on b4
  have UW4 : ExIn w4 (fun _ => True) (.agg #[.string ⟨#[]⟩, .string ⟨#[]⟩, .int .i64 0, .int .i64 0, .string ⟨#[]⟩, .slice none 0 0, .int .i64 0]) XW := U3.out.on b4
  obtain ⟨W5, hW5⟩ : ∃ W5, w4.alloc (.cells #[.string x0, .string x1, .int .i64 x2, .int .i64 x3, .string x4, .slice x5 x6 x7, .int .i64 x8] 26) = W5 := ⟨_, rfl⟩
  have bx : Below w4.heap.size w4 W5 := by rw [← hW5]; exact al _ _
  have X5 : Box7 W5 w4.heap.size (.string x0) (.string x1) (.int .i64 x2) (.int .i64 x3) (.string x4) (.slice x5 x6 x7) (.int .i64 x8) := by rw [← hW5]; exact box7_alloc _ _ _ _ _ _ _ _ _
  have B5 := B4.trans (bx.mono (by have := Z4.lt; have := B4.size; simp at this; omega))
  have Z5 := Z4.on bx
  have UW5 : Aside (ExIn W5 (fun _ => True) (.agg #[.string ⟨#[]⟩, .string ⟨#[]⟩, .int .i64 0, .int .i64 0, .string ⟨#[]⟩, .slice none 0 0, .int .i64 0]) XW) := UW4.on bx
  have UX5 : Aside (ExIn W5 (fun _ => True) (.agg #[.string x0, .string x1, .int .i64 x2, .int .i64 x3, .string x4, .slice x5 x6 x7, .int .i64 x8]) XW) := hu.on bx
  clear c3 b4 hu UW4 U3 bx Z4 Z3 B3 hzW e0 e1 e2 e3 e4 e5 e6 el
  obtain ⟨⟨e0, e1, e2, e3, e4, e5, e6, -, el⟩, hz5, bw5⟩ := KB.out _ B5
  go_upto_region 6 with fail
  try rw [hW5]
  clear hW5 B4
  have c4 := C.out.err _ bw5
  clear bw5
  go_wp2_with fail
  refine c4.mono ?_
  rintro e w6 ⟨rfl, b6⟩
  have B6 := B5.trans (b6.mono hz5)
  have Z6 := Z5.on b6
  have X6 := X5.on b6
  have c5 := C.out.same w6 _ _ (UX5.out.on b6) (UW5.out.on b6)
  clear c4 b6 UX5 UW5 Z5 X5 hz5 e0 e1 e2 e3 e4 e5 e6 el B5
  obtain ⟨z0, z1, z2, z3, z4, z5, z6, -, zl⟩ := Z6
  obtain ⟨y0, y1, y2, y3, y4, y5, y6, -, yl⟩ := X6
  go_wp2_with fail
  refine c5.mono ?_
  rintro e w7 ⟨rfl, b7⟩
  have B7 := B6.trans (b7.mono (KB.out _ B6).2.1)
  clear c5 b7 z0 z1 z2 z3 z4 z5 z6 zl y0 y1 y2 y3 y4 y5 y6 yl
  obtain ⟨⟨e0, e1, e2, e3, e4, e5, e6, -, el⟩, hz7, bw7⟩ := KB.out _ B7
  have c6 := C.out.chk _ bw7
  clear bw7
  go_wp2_with fail
  refine c6.mono ?_
  rintro e w8 ⟨rfl, b8⟩
  have B8 := B7.trans (b8.mono hz7)
  clear c6 b8 hz7 e0 e1 e2 e3 e4 e5 e6 el B6 B7
  obtain ⟨⟨e0, e1, e2, e3, e4, e5, e6, -, el⟩, hz8, bw8⟩ := KB.out _ B8
  have HS9 : Aside (StsA w8 (.slice none 0 0) NS) := by rw [C.out.none HK.out]; exact StsA.nil _
  have B9 := B8
  have hz9 := hz8
  have bw9 := bw8
  clear bw8 hz8 B8
  have c8 := C.out.uses _ bw9
  clear bw9
  go_wp2_with fail
  refine c8.mono ?_
  rintro e w10 ⟨⟨uu, rfl, hs10⟩, b10⟩
  obtain ⟨gp, gc, rfl⟩ := sts_form hs10
  obtain ⟨gn, hgn⟩ : ∃ gn, NS.length = gn := ⟨_, rfl⟩
  rw [hgn] at hs10
  simp only [hgn]
  have HS10 : Aside (StsA w10 (.slice gp gn gc) NS) := hs10
  have HL10 : Aside (StsA w10 (.slice none 0 0) NS) := HS9.out.on b10
  have B10 := B9.trans (b10.mono hz9)
  clear c8 b10 hs10 hz9 e0 e1 e2 e3 e4 e5 e6 el B9 hgn HS9
  obtain ⟨⟨e0, e1, e2, e3, e4, e5, e6, -, el⟩, hz10, bw10⟩ := KB.out _ B10
  have c9 := C.out.err2 _ bw10
  clear bw10
  go_wp2_with fail
  refine c9.mono ?_
  rintro e w11 ⟨rfl, b11⟩
  have B11 := B10.trans (b11.mono hz10)
  have c10 := texts_sts _ _ NS w11 (HS10.out.on b11) (HL10.out.on b11)
  clear c9 b11 hz10 e0 e1 e2 e3 e4 e5 e6 el B10 HS10 HL10
  go_wp2_with fail
  refine c10.mono ?_
  rintro e w12 ⟨rfl, b12⟩
  have B12 := B11.trans (b12.mono (KB.out _ B11).2.1)
  clear c10 b12 B11
  obtain ⟨⟨e0, e1, e2, e3, e4, e5, e6, -, el⟩, hz12, bw12⟩ := KB.out _ B12
  have c11 := C.out.const _ bw12
  clear bw12
  go_wp2_with fail
  refine c11.mono ?_
  rintro e w13 ⟨rfl, b13⟩
  have B13 := B12.trans (b13.mono hz12)
  clear c11 b13 hz12 e0 e1 e2 e3 e4 e5 e6 el B12
  obtain ⟨⟨e0, e1, e2, e3, e4, e5, e6, -, el⟩, hz13, bw13⟩ := KB.out _ B13
  have HB14 : Aside (Below w.heap.size w (w13.alloc (.cells #[.int .i64 t1, .int .i64 k1, .string s1] 23))) := bw13.alloc bw13.size _
  have hv := valT_eql t1 k1 s1
  clear bw13 B13 hz13 C KB
  go_wp2
  go_ret
  exact ⟨rfl, HB14.out⟩
set_option maxHeartbeats 8000000 in
set_option maxRecDepth 20000 in
theorem ft_ckN (w : World) (o1 n1 : ByteArray) (t1 k1 : Int) (s1 : ByteArray) (p1 : Option Addr) (m1 c1 : Nat) (a1 : Int) (pz : Option Addr) (nz cz : Nat) (XW : Ex) (T H P K : Int) (NS : List ByteArray) (hH : H ≠ 0) (hK : K ≠ 0) (ho : o1.data.toList ≠ [118, 97, 108]) (c : FtC w (.agg #[.string o1, .string n1, .int .i64 t1, .int .i64 k1, .string s1, .slice p1 m1 c1, .int .i64 a1]) (.slice pz nz cz) XW T H P K NS 0 0 ⟨#[]⟩ false) :
    Calls Tryz.prog 3 #[.agg #[.string o1, .string n1, .int .i64 t1, .int .i64 k1, .string s1, .slice p1 m1 c1, .int .i64 a1], .slice pz nz cz] w fun e w' => e = .returned (.bool true) ∧ Below w.heap.size w w' := by
  have KB : Hid (∀ W, Below (w.heap.size + 1) (w.alloc (.cells #[.string o1, .string n1, .int .i64 t1, .int .i64 k1, .string s1, .slice p1 m1 c1, .int .i64 a1] 26)) W → Box7 W w.heap.size (.string o1) (.string n1) (.int .i64 t1) (.int .i64 k1) (.string s1) (.slice p1 m1 c1) (.int .i64 a1) ∧ w.heap.size + 1 ≤ W.heap.size ∧ Below w.heap.size w W) := fun W hb => by
    have hz := hb.size
    simp at hz
    exact ⟨(box7_alloc w (.string o1) (.string n1) (.int .i64 t1) (.int .i64 k1) (.string s1) (.slice p1 m1 c1) (.int .i64 a1) _).on (hb.mono (by simp)), hz, ((Below.refl _ w).alloc (Nat.le_refl _) _).trans (hb.mono (by omega))⟩
  have qo : (o1.toList == [118, 97, 108]) = false := by rw [Lib.toList_data]; simpa using ho
  have qh : (H == 0) = false := by simpa using hH
  have qk : (K == 0) = false := by simpa using hK
  have HH : Hid (H ≠ 0) := hH
  have HK : Hid (K ≠ 0) := hK
  have C : Aside (FtC w (.agg #[.string o1, .string n1, .int .i64 t1, .int .i64 k1, .string s1, .slice p1 m1 c1, .int .i64 a1]) (.slice pz nz cz) XW T H P K NS 0 0 ⟨#[]⟩ false) := c
  obtain ⟨⟨e0, e1, e2, e3, e4, e5, e6, -, el⟩, hz0, B0⟩ := KB.out _ (Below.refl _ _)
  have c1' := c.of _ B0
  clear c ho hH hK B0
  go_enter Tryz.func3, Tryz.ntmps3
  go_wp2_with fail
  refine c1'.mono ?_
  rintro e w1 ⟨rfl, b1⟩
  have B1 : Below (w.heap.size + 1) (w.alloc (.cells #[.string o1, .string n1, .int .i64 t1, .int .i64 k1, .string s1, .slice p1 m1 c1, .int .i64 a1] 26)) w1 := b1.mono (by simp)
  clear e0 e1 e2 e3 e4 e5 e6 el c1' b1 hz0
  obtain ⟨⟨e0, e1, e2, e3, e4, e5, e6, -, el⟩, hz1, bw1⟩ := KB.out _ B1
  have B1a : Below (w.heap.size + 1) (w.alloc (.cells #[.string o1, .string n1, .int .i64 t1, .int .i64 k1, .string s1, .slice p1 m1 c1, .int .i64 a1] 26)) (w1.alloc (.cells #[.string ⟨#[]⟩, .string ⟨#[]⟩, .int .i64 0, .int .i64 0, .string ⟨#[]⟩, .slice none 0 0, .int .i64 0] 26)) := B1.alloc hz1 _
  have Z1 := box7_alloc w1 (.string ⟨#[]⟩) (.string ⟨#[]⟩) (.int .i64 0) (.int .i64 0) (.string ⟨#[]⟩) (.slice none 0 0) (.int .i64 0) 26
  obtain ⟨W3, hWA⟩ : ∃ W3, w1.alloc (.cells #[.string ⟨#[]⟩, .string ⟨#[]⟩, .int .i64 0, .int .i64 0, .string ⟨#[]⟩, .slice none 0 0, .int .i64 0] 26) = W3 := ⟨_, rfl⟩
  rw [hWA] at B1a Z1
  have Z3 := Z1
  have B3 := B1a
  have U3 : Aside (ExIn W3 (fun _ => True) (.agg #[.string ⟨#[]⟩, .string ⟨#[]⟩, .int .i64 0, .int .i64 0, .string ⟨#[]⟩, .slice none 0 0, .int .i64 0]) XW) := C.out.zero HH.out _
  clear bw1 e0 e1 e2 e3 e4 e5 e6 el Z1 B1a
  obtain ⟨⟨e0, e1, e2, e3, e4, e5, e6, -, el⟩, hzW, bw3⟩ := KB.out _ B3
  go_upto_region 3 with fail
  try rw [hWA]
  clear hWA
  have c3 := C.out.fold _ bw3
  clear bw3
  go_wp2_with fail
  refine c3.mono ?_
  rintro e w4 ⟨⟨u, rfl, hu⟩, b4⟩
  obtain ⟨x0, x1, x2, x3, x4, x5, x6, x7, x8, rfl⟩ := hu.agg
  have B4 := B3.trans (b4.mono hzW)
  have Z4 := Z3.on b4
  have UW4 : ExIn w4 (fun _ => True) (.agg #[.string ⟨#[]⟩, .string ⟨#[]⟩, .int .i64 0, .int .i64 0, .string ⟨#[]⟩, .slice none 0 0, .int .i64 0]) XW := U3.out.on b4
  obtain ⟨W5, hW5⟩ : ∃ W5, w4.alloc (.cells #[.string x0, .string x1, .int .i64 x2, .int .i64 x3, .string x4, .slice x5 x6 x7, .int .i64 x8] 26) = W5 := ⟨_, rfl⟩
  have bx : Below w4.heap.size w4 W5 := by rw [← hW5]; exact al _ _
  have X5 : Box7 W5 w4.heap.size (.string x0) (.string x1) (.int .i64 x2) (.int .i64 x3) (.string x4) (.slice x5 x6 x7) (.int .i64 x8) := by rw [← hW5]; exact box7_alloc _ _ _ _ _ _ _ _ _
  have B5 := B4.trans (bx.mono (by have := Z4.lt; have := B4.size; simp at this; omega))
  have Z5 := Z4.on bx
  have UW5 : Aside (ExIn W5 (fun _ => True) (.agg #[.string ⟨#[]⟩, .string ⟨#[]⟩, .int .i64 0, .int .i64 0, .string ⟨#[]⟩, .slice none 0 0, .int .i64 0]) XW) := UW4.on bx
  have UX5 : Aside (ExIn W5 (fun _ => True) (.agg #[.string x0, .string x1, .int .i64 x2, .int .i64 x3, .string x4, .slice x5 x6 x7, .int .i64 x8]) XW) := hu.on bx
  clear c3 b4 hu UW4 U3 bx Z4 Z3 B3 hzW e0 e1 e2 e3 e4 e5 e6 el
  obtain ⟨⟨e0, e1, e2, e3, e4, e5, e6, -, el⟩, hz5, bw5⟩ := KB.out _ B5
  go_upto_region 6 with fail
  try rw [hW5]
  clear hW5 B4
  have c4 := C.out.err _ bw5
  clear bw5
  go_wp2_with fail
  refine c4.mono ?_
  rintro e w6 ⟨rfl, b6⟩
  have B6 := B5.trans (b6.mono hz5)
  have Z6 := Z5.on b6
  have X6 := X5.on b6
  have c5 := C.out.same w6 _ _ (UX5.out.on b6) (UW5.out.on b6)
  clear c4 b6 UX5 UW5 Z5 X5 hz5 e0 e1 e2 e3 e4 e5 e6 el B5
  obtain ⟨z0, z1, z2, z3, z4, z5, z6, -, zl⟩ := Z6
  obtain ⟨y0, y1, y2, y3, y4, y5, y6, -, yl⟩ := X6
  go_wp2_with fail
  refine c5.mono ?_
  rintro e w7 ⟨rfl, b7⟩
  have B7 := B6.trans (b7.mono (KB.out _ B6).2.1)
  clear c5 b7 z0 z1 z2 z3 z4 z5 z6 zl y0 y1 y2 y3 y4 y5 y6 yl
  obtain ⟨⟨e0, e1, e2, e3, e4, e5, e6, -, el⟩, hz7, bw7⟩ := KB.out _ B7
  have c6 := C.out.chk _ bw7
  clear bw7
  go_wp2_with fail
  refine c6.mono ?_
  rintro e w8 ⟨rfl, b8⟩
  have B8 := B7.trans (b8.mono hz7)
  clear c6 b8 hz7 e0 e1 e2 e3 e4 e5 e6 el B6 B7
  obtain ⟨⟨e0, e1, e2, e3, e4, e5, e6, -, el⟩, hz8, bw8⟩ := KB.out _ B8
  have HS9 : Aside (StsA w8 (.slice none 0 0) NS) := by rw [C.out.none HK.out]; exact StsA.nil _
  have B9 := B8
  have hz9 := hz8
  have bw9 := bw8
  clear bw8 hz8 B8
  have c8 := C.out.uses _ bw9
  clear bw9
  go_wp2_with fail
  refine c8.mono ?_
  rintro e w10 ⟨⟨uu, rfl, hs10⟩, b10⟩
  obtain ⟨gp, gc, rfl⟩ := sts_form hs10
  obtain ⟨gn, hgn⟩ : ∃ gn, NS.length = gn := ⟨_, rfl⟩
  rw [hgn] at hs10
  simp only [hgn]
  have HS10 : Aside (StsA w10 (.slice gp gn gc) NS) := hs10
  have HL10 : Aside (StsA w10 (.slice none 0 0) NS) := HS9.out.on b10
  have B10 := B9.trans (b10.mono hz9)
  clear c8 b10 hs10 hz9 e0 e1 e2 e3 e4 e5 e6 el B9 hgn HS9
  obtain ⟨⟨e0, e1, e2, e3, e4, e5, e6, -, el⟩, hz10, bw10⟩ := KB.out _ B10
  have c9 := C.out.err2 _ bw10
  clear bw10
  go_wp2_with fail
  refine c9.mono ?_
  rintro e w11 ⟨rfl, b11⟩
  have B11 := B10.trans (b11.mono hz10)
  have c10 := texts_sts _ _ NS w11 (HS10.out.on b11) (HL10.out.on b11)
  clear c9 b11 hz10 e0 e1 e2 e3 e4 e5 e6 el B10 HS10 HL10
  go_wp2_with fail
  refine c10.mono ?_
  rintro e w12 ⟨rfl, b12⟩
  have B12 := B11.trans (b12.mono (KB.out _ B11).2.1)
  clear c10 b12 B11
  obtain ⟨⟨e0, e1, e2, e3, e4, e5, e6, -, el⟩, hz12, bw12⟩ := KB.out _ B12
  have c11 := C.out.const _ bw12
  clear bw12
  go_wp2_with fail
  refine c11.mono ?_
  rintro e w13 ⟨rfl, b13⟩
  have B13 := B12.trans (b13.mono hz12)
  clear c11 b13 hz12 e0 e1 e2 e3 e4 e5 e6 el B12
  obtain ⟨⟨e0, e1, e2, e3, e4, e5, e6, -, el⟩, hz13, bw13⟩ := KB.out _ B13
  have HB14 : Aside (Below w.heap.size w (w13.alloc (.cells #[.int .i64 0, .int .i64 0, .string ⟨#[]⟩] 23))) := bw13.alloc bw13.size _
  have hv := valT_eql t1 k1 s1
  clear bw13 B13 hz13 C KB
  go_wp2
  go_ret
  exact ⟨rfl, HB14.out⟩
end Go.Proofs.YtknibfhoecgjlaaGreatDoor
