/-
  FsL, FdW, FsB, FdT, in one text.
-/
import Derived.Test.YtknibfhoecgjlaaGreatDoorGrAo
import Derived.Test.YtknibfhoecgjlaaGreatDoorGrAp
import Derived.Test.YtknibfhoecgjlaaGreatDoorGrAl
import Derived.Deep.RegionHeld3
import Derived.Deep.RegionWith
import Derived.Deep.QuietTactic
import Derived.BigQuiet
import Derived.Test.YtknibfhoecgjlaaGreatDoorGrAm
import Derived.Test.YtknibfhoecgjlaaGreatDoorGrAj
import Derived.Test.YtknibfhoecgjlaaGreatDoorGrAn
import Derived.Test.YtknibfhoecgjlaaGreatDoorGrAf
namespace Go.Proofs.YtknibfhoecgjlaaGreatDoor
open Go.RowKit
set_option linter.unusedVariables false

/-- Texts one behind the other, as a slice. -/
def StrsV (w : World) (v : Value) (bs : List ByteArray) : Prop := ∃ p c, v = .slice p bs.length c ∧ bs.length ≤ maxLen ∧ (bs.length = 0 ∨ ∃ g off, p = some ⟨g, off, none⟩ ∧ g < w.heap.size ∧ ∀ j (h : j < bs.length), w.cell? ⟨g, off + j, none⟩ = some (.string bs[j]))
theorem StrsV.on {w w' : World} {v : Value} {bs : List ByteArray} (h : StrsV w v bs) (hb : Below w.heap.size w w') : StrsV w' v bs := by
  obtain ⟨p, c, e, hl, h⟩ := h
  refine ⟨p, c, e, hl, ?_⟩
  rcases h with h | ⟨g, off, e2, hg, hc⟩
  · exact .inl h
  · exact .inr ⟨g, off, e2, by have := hb.size; omega, fun j hj => by rw [hb.cell (p := ⟨g, off + j, none⟩) hg]; exact hc j hj⟩
/-- The expression that the law makes itself: 2 + 3. -/
def twoX : Ex := .node ⟨#[43]⟩ ⟨#[]⟩ 0 0 ⟨#[]⟩ 0 [.node ⟨#[118, 97, 108]⟩ ⟨#[]⟩ 1 2 ⟨#[]⟩ 0 [], .node ⟨#[118, 97, 108]⟩ ⟨#[]⟩ 1 3 ⟨#[]⟩ 0 []]
theorem two_fd : fdP twoX = .node ⟨#[118, 97, 108]⟩ ⟨#[]⟩ 1 5 ⟨#[]⟩ 0 [] := by kernel_rfl
theorem two_of : ofP [(⟨#[120]⟩, 1)] twoX = (1, 0, 0) := by kernel_rfl
theorem two_pre : (twoX.pre 1).length ≤ 1048576 := by decide
theorem two_bd : ExB twoX := by
  intro q hq
  have : q.1.vn = 0 ∨ q.1.vn = 2 ∨ q.1.vn = 3 := by
    simp [twoX, Ex.pre, Ex.pres] at hq
    rcases hq with rfl | rfl | rfl <;> simp [Ex.vn]
  unfold inB
  omega
theorem leaf_in (w : World) (n : Int) (lo : Nat → Prop) : ExIn w lo (.agg #[.string ⟨#[118, 97, 108]⟩, .string ⟨#[]⟩, .int .i64 1, .int .i64 n, .string ⟨#[]⟩, .slice none 0 0, .int .i64 0]) (.node ⟨#[118, 97, 108]⟩ ⟨#[]⟩ 1 n ⟨#[]⟩ 0 []) := by
  rw [ExIn]
  exact ⟨none, 0, rfl, ⟨by simp, by simp⟩, by decide, by decide, by decide, .inl rfl⟩
theorem two_in (w : World) (g : Nat) (hg : w.heap.size = g) : ExIn (w.alloc (.cells #[.string ⟨#[118, 97, 108]⟩, .string ⟨#[]⟩, .int .i64 1, .int .i64 2, .string ⟨#[]⟩, .slice none 0 0, .int .i64 0, .string ⟨#[118, 97, 108]⟩, .string ⟨#[]⟩, .int .i64 1, .int .i64 3, .string ⟨#[]⟩, .slice none 0 0, .int .i64 0] 26)) (fun _ => True) (.agg #[.string ⟨#[43]⟩, .string ⟨#[]⟩, .int .i64 0, .int .i64 0, .string ⟨#[]⟩, .slice (some ⟨g, 0, none⟩) 2 2, .int .i64 0]) twoX := by
  subst hg
  unfold twoX
  rw [ExIn]
  refine ⟨some ⟨w.heap.size, 0, none⟩, 2, rfl, ⟨by decide, by simp⟩, by decide, by decide, by decide, .inr ⟨w.heap.size, 0, rfl, by simp, trivial, ?_⟩⟩
  rw [ExsIn, ExsIn, ExsIn]
  have hc : ∀ i, (w.alloc (.cells #[.string ⟨#[118, 97, 108]⟩, .string ⟨#[]⟩, .int .i64 1, .int .i64 2, .string ⟨#[]⟩, .slice none 0 0, .int .i64 0, .string ⟨#[118, 97, 108]⟩, .string ⟨#[]⟩, .int .i64 1, .int .i64 3, .string ⟨#[]⟩, .slice none 0 0, .int .i64 0] 26)).cell? ⟨w.heap.size, i, none⟩ = (#[.string ⟨#[118, 97, 108]⟩, .string ⟨#[]⟩, .int .i64 1, .int .i64 2, .string ⟨#[]⟩, .slice none 0 0, .int .i64 0, .string ⟨#[118, 97, 108]⟩, .string ⟨#[]⟩, .int .i64 1, .int .i64 3, .string ⟨#[]⟩, .slice none 0 0, .int .i64 0] : Array Value)[i]? := fun i => World.cell?_alloc_at _ _ _ _ rfl
  refine ⟨⟨_, _, _, _, _, _, _, ?_, ?_, ?_, ?_, ?_, ?_, ?_, leaf_in _ 2 _⟩, ⟨_, _, _, _, _, _, _, ?_, ?_, ?_, ?_, ?_, ?_, ?_, leaf_in _ 3 _⟩, trivial⟩
  all_goals (rw [hc]; rfl)
theorem colOneF (w : World) (g : Nat) (hg : g = w.heap.size) : ColsV (w.alloc (.cells #[.string ⟨#[120]⟩, .int .i64 1] 48)) (.slice (some ⟨g, 0, none⟩) 1 1) [(⟨#[120]⟩, 1)] := by
  subst hg
  refine ⟨_, 1, rfl, .inr ⟨w.heap.size, 0, rfl, Nat.le_refl _, fun z hz => ?_, by simp, fun j hj => ?_⟩⟩
  · simp only [List.mem_singleton] at hz; subst hz; decide
  · obtain rfl : j = 0 := by simp at hj; omega
    constructor
    · rw [World.cell?_alloc_at _ _ _ _ rfl]; rfl
    · rw [World.cell?_alloc_at _ _ _ _ rfl]; rfl
/-- What is called, and what it gives. -/
structure FsC (w : World) (v vl vr : Value) (XF : Ex) (H : Int) (SE SX : Int) (ne nx : List ByteArray) (V : V3) (EV EX : Value) : Prop where
  two : ∀ W gt gc, Below w.heap.size w W → ExIn W (fun _ => True) (.agg #[.string ⟨#[43]⟩, .string ⟨#[]⟩, .int .i64 0, .int .i64 0, .string ⟨#[]⟩, .slice (some ⟨gt, 0, none⟩) 2 2, .int .i64 0]) twoX → ColsV W (.slice (some ⟨gc, 0, none⟩) 1 1) [(⟨#[120]⟩, 1)] → Calls Tryz.prog 7 #[.agg #[.string ⟨#[43]⟩, .string ⟨#[]⟩, .int .i64 0, .int .i64 0, .string ⟨#[]⟩, .slice (some ⟨gt, 0, none⟩) 2 2, .int .i64 0], .slice (some ⟨gc, 0, none⟩) 1 1] W fun e w' => (∃ fp fc, e = .returned (.tuple #[.agg #[.string ⟨#[118, 97, 108]⟩, .string ⟨#[]⟩, .int .i64 1, .int .i64 5, .string ⟨#[]⟩, .slice fp 0 fc, .int .i64 0], .nilIface])) ∧ Below W.heap.size W w'
  foldE : ∀ W, Below w.heap.size w W → Calls Tryz.prog 7 #[v, vl] W fun e w' => (∃ u, e = .returned (.tuple #[u, errV H]) ∧ Aside (H = 0 → ExIn w' (fun b => W.heap.size ≤ b) u XF) ∧ Aside (H ≠ 0 → u = .agg #[.string ⟨#[]⟩, .string ⟨#[]⟩, .int .i64 0, .int .i64 0, .string ⟨#[]⟩, .slice none 0 0, .int .i64 0])) ∧ Below W.heap.size W w'
  foldX : H = 0 → ∀ W u, Below w.heap.size w W → ExIn W (fun _ => True) u XF → Calls Tryz.prog 7 #[u, vl] W fun e w' => (∃ u', e = .returned (.tuple #[u', .nilIface]) ∧ ExIn w' (fun _ => True) u' XF) ∧ Below W.heap.size W w'
  same : H = 0 → ∀ W u u', ExIn W (fun _ => True) u XF → ExIn W (fun _ => True) u' XF → Calls Tryz.prog 15 #[u, u'] W fun e w' => e = .returned (.bool true) ∧ Below W.heap.size W w'
  sizeE : ∀ W, Below w.heap.size w W → Calls Tryz.prog 16 #[v] W fun e w' => e = .returned (.int .i64 SE) ∧ Below W.heap.size W w'
  sizeX : H = 0 → ∀ W u, ExIn W (fun _ => True) u XF → Calls Tryz.prog 16 #[u] W fun e w' => e = .returned (.int .i64 SX) ∧ Below W.heap.size W w'
  chkX : H = 0 → ∀ W u, Below w.heap.size w W → ExIn W (fun _ => True) u XF → Calls Tryz.prog 17 #[u] W fun e w' => e = .returned .nilIface ∧ Below W.heap.size W w'
  usesE : H = 0 → ∀ W, Below w.heap.size w W → Calls Tryz.prog 12 #[v] W fun e w' => (∃ u, e = .returned (.tuple #[u, .nilIface]) ∧ StrsV w' u ne) ∧ Below W.heap.size W w'
  usesX : H = 0 → ∀ W u, Below w.heap.size w W → ExIn W (fun _ => True) u XF → Calls Tryz.prog 12 #[u] W fun e w' => (∃ u', e = .returned (.tuple #[u', .nilIface]) ∧ StrsV w' u' nx) ∧ Below W.heap.size W w'
  evalE : ∀ W, Below w.heap.size w W → Calls Tryz.prog 18 #[v, vl, vr] W fun e w' => e = .returned (.tuple #[.agg #[.int .i64 V.1, .int .i64 V.2.1, .string V.2.2], EV]) ∧ Below W.heap.size W w'
  evalX : H = 0 → ∀ W u, Below w.heap.size w W → ExIn W (fun _ => True) u XF → Calls Tryz.prog 18 #[u, vl, vr] W fun e w' => e = .returned (.tuple #[.agg #[.int .i64 V.1, .int .i64 V.2.1, .string V.2.2], EX]) ∧ Below W.heap.size W w'
theorem boolF_eqT (b : Bool) (W : World) : Sem.run Tryz.prog (binOp .eql 4 (.bool b) (.bool b)) W = .ok (.bool true) W := by cases b <;> kernel_rfl
theorem valF_eql (t n : Int) (s : ByteArray) (W : World) : Sem.run Tryz.prog (binOp .eql 23 (.agg #[.int .i64 t, .int .i64 n, .string s]) (.agg #[.int .i64 t, .int .i64 n, .string s])) W = .ok (.bool true) W := by
  have h := valK_eqIn t n t n s s W
  have h1 : ((t == t) && ((n == n) && (s.toList == s.toList))) = true := by simp
  rw [h1] at h
  rw [run_eql_struct, h]
  rfl
theorem box3F {X W : World} {t n : Int} {s : ByteArray} (hb : Below (X.heap.size + 1) (X.alloc (.cells #[.int .i64 t, .int .i64 n, .string s] 23)) W) : W.cell? ⟨X.heap.size, 0, none⟩ = some (.int .i64 t) ∧ W.cell? ⟨X.heap.size, 1, none⟩ = some (.int .i64 n) ∧ W.cell? ⟨X.heap.size, 2, none⟩ = some (.string s) ∧ X.heap.size < W.heap.size := by
  obtain ⟨k, f, h⟩ := box_at X _ _ hb (by simp)
  exact ⟨k 0, k 1, k 2, h⟩
set_option maxHeartbeats 8000000 in
set_option maxRecDepth 20000 in
theorem fs_bad (w : World) (o1 n1 : ByteArray) (t1 k1 : Int) (s1 : ByteArray) (p1 : Option Addr) (m1 c1 : Nat) (a1 : Int) (pz : Option Addr) (nz cz : Nat) (pr : Option Addr) (nr cr : Nat) (XF : Ex) (H : Int) (SE SX : Int) (ne nx : List ByteArray) (V : V3) (EV EX : Value) (hH : H ≠ 0)
    (h : FsC w (.agg #[.string o1, .string n1, .int .i64 t1, .int .i64 k1, .string s1, .slice p1 m1 c1, .int .i64 a1]) (.slice pz nz cz) (.slice pr nr cr) XF H SE SX ne nx V EV EX) :
    Calls Tryz.prog 4 #[.agg #[.string o1, .string n1, .int .i64 t1, .int .i64 k1, .string s1, .slice p1 m1 c1, .int .i64 a1], .slice pz nz cz, .slice pr nr cr] w fun e w' => e = .returned (.bool true) ∧ Below w.heap.size w w' := by
  have hV : errV H = .iface 57 (.int .i64 H) := by rw [errV, if_neg hH]
  have HH : Hid (H ≠ 0) := hH
  have bE := al w (.cells #[.string o1, .string n1, .int .i64 t1, .int .i64 k1, .string s1, .slice p1 m1 c1, .int .i64 a1] 26)
  have bC := bE.alloc (by simp) (.cells #[.string ⟨#[120]⟩, .int .i64 1] 48)
  have bT := bC.alloc (by simp; omega) (.cells #[.string ⟨#[118, 97, 108]⟩, .string ⟨#[]⟩, .int .i64 1, .int .i64 2, .string ⟨#[]⟩, .slice none 0 0, .int .i64 0, .string ⟨#[118, 97, 108]⟩, .string ⟨#[]⟩, .int .i64 1, .int .i64 3, .string ⟨#[]⟩, .slice none 0 0, .int .i64 0] 26)
  have bP := bT.alloc (by simp; omega) (.cells #[.string ⟨#[43]⟩, .string ⟨#[]⟩, .int .i64 0, .int .i64 0, .string ⟨#[]⟩, .slice (some ⟨w.heap.size + 1 + 1, 0, none⟩) 2 2, .int .i64 0] 26)
  have c0 := h.two ((((w.alloc (.cells #[.string o1, .string n1, .int .i64 t1, .int .i64 k1, .string s1, .slice p1 m1 c1, .int .i64 a1] 26)).alloc (.cells #[.string ⟨#[120]⟩, .int .i64 1] 48)).alloc (.cells #[.string ⟨#[118, 97, 108]⟩, .string ⟨#[]⟩, .int .i64 1, .int .i64 2, .string ⟨#[]⟩, .slice none 0 0, .int .i64 0, .string ⟨#[118, 97, 108]⟩, .string ⟨#[]⟩, .int .i64 1, .int .i64 3, .string ⟨#[]⟩, .slice none 0 0, .int .i64 0] 26)).alloc (.cells #[.string ⟨#[43]⟩, .string ⟨#[]⟩, .int .i64 0, .int .i64 0, .string ⟨#[]⟩, .slice (some ⟨w.heap.size + 1 + 1, 0, none⟩) 2 2, .int .i64 0] 26)) (w.heap.size + 1 + 1) (w.heap.size + 1) bP ((two_in _ (w.heap.size + 1 + 1) (by simp)).on (al _ _)) (((colOneF (w.alloc (.cells #[.string o1, .string n1, .int .i64 t1, .int .i64 k1, .string s1, .slice p1 m1 c1, .int .i64 a1] 26)) (w.heap.size + 1) (by simp)).on (al _ _)).on (al _ _))
  have cF := h.foldE
  have E0 : Hid (∀ W, Below (w.heap.size + 1) (w.alloc (.cells #[.string o1, .string n1, .int .i64 t1, .int .i64 k1, .string s1, .slice p1 m1 c1, .int .i64 a1] 26)) W → (∀ i, W.cell? ⟨w.heap.size, i, none⟩ = (#[.string o1, .string n1, .int .i64 t1, .int .i64 k1, .string s1, .slice p1 m1 c1, .int .i64 a1] : Array Value)[i]?) ∧ w.heap.size < W.heap.size ∧ Below w.heap.size w W) := fun W hb => by
    obtain ⟨h1, _, h3⟩ := box_at w _ _ hb (Nat.lt_succ_self _)
    exact ⟨h1, h3, bE.trans (hb.mono (Nat.le_succ _))⟩
  simp only [hV] at cF
  clear h hV hH
  go_enter Tryz.func4, Tryz.ntmps4
  go_wp2_with fail
  refine c0.mono ?_
  rintro e w1 ⟨⟨fp, fc, rfl⟩, b1⟩
  have Q1 : Below (w.heap.size + 1) (w.alloc (.cells #[.string o1, .string n1, .int .i64 t1, .int .i64 k1, .string s1, .slice p1 m1 c1, .int .i64 a1] 26)) w1 := ((((Below.refl _ (w.alloc (.cells #[.string o1, .string n1, .int .i64 t1, .int .i64 k1, .string s1, .slice p1 m1 c1, .int .i64 a1] 26))).alloc (by simp) (.cells #[.string ⟨#[120]⟩, .int .i64 1] 48)).alloc (by simp) (.cells #[.string ⟨#[118, 97, 108]⟩, .string ⟨#[]⟩, .int .i64 1, .int .i64 2, .string ⟨#[]⟩, .slice none 0 0, .int .i64 0, .string ⟨#[118, 97, 108]⟩, .string ⟨#[]⟩, .int .i64 1, .int .i64 3, .string ⟨#[]⟩, .slice none 0 0, .int .i64 0] 26)).alloc (by simp) (.cells #[.string ⟨#[43]⟩, .string ⟨#[]⟩, .int .i64 0, .int .i64 0, .string ⟨#[]⟩, .slice (some ⟨w.heap.size + 1 + 1, 0, none⟩) 2 2, .int .i64 0] 26)).trans (b1.mono (by simp))
  obtain ⟨hCw1, hlw1, -⟩ := E0.out w1 Q1
  have a0w1 : w1.cell? ⟨w.heap.size, 0, none⟩ = some (.string o1) := hCw1 0
  have a1w1 : w1.cell? ⟨w.heap.size, 1, none⟩ = some (.string n1) := hCw1 1
  have a2w1 : w1.cell? ⟨w.heap.size, 2, none⟩ = some (.int .i64 t1) := hCw1 2
  have a3w1 : w1.cell? ⟨w.heap.size, 3, none⟩ = some (.int .i64 k1) := hCw1 3
  have a4w1 : w1.cell? ⟨w.heap.size, 4, none⟩ = some (.string s1) := hCw1 4
  have a5w1 : w1.cell? ⟨w.heap.size, 5, none⟩ = some (.slice p1 m1 c1) := hCw1 5
  have a6w1 : w1.cell? ⟨w.heap.size, 6, none⟩ = some (.int .i64 a1) := hCw1 6
  clear hCw1
  have Q2 := Q1.alloc hlw1 (.cells #[.string ⟨#[118, 97, 108]⟩, .string ⟨#[]⟩, .int .i64 1, .int .i64 5, .string ⟨#[]⟩, .slice fp 0 fc, .int .i64 0] 26)
  have d1 := cF _ (E0.out _ Q2).2.2
  clear c0 b1 bC bT bP cF
  go_wp2_with fail
  refine d1.mono ?_
  rintro e w2 ⟨⟨u, rfl, G1, G2⟩, b2⟩
  have Q3 := Q2.trans (b2.mono (by simp; omega))
  clear a0w1 a1w1 a2w1 a3w1 a4w1 a5w1 a6w1
  have B4 := (E0.out _ Q3).2.2
  have B5 := B4.alloc B4.size (.cells #[.string ⟨#[]⟩, .string ⟨#[]⟩, .int .i64 0, .int .i64 0, .string ⟨#[]⟩, .slice none 0 0, .int .i64 0] 26)
  obtain rfl := G2.out HH.out
  clear d1 G1 G2
  go_wp2
  go_ret
  exact ⟨rfl, B5⟩
set_option maxHeartbeats 8000000 in
set_option maxRecDepth 20000 in
theorem fs_val (w : World) (o1 n1 : ByteArray) (t1 k1 : Int) (s1 : ByteArray) (p1 : Option Addr) (m1 c1 : Nat) (a1 : Int) (pz : Option Addr) (nz cz : Nat) (pr : Option Addr) (nr cr : Nat) (XF : Ex) (H : Int) (SE SX : Int) (ne nx : List ByteArray) (V : V3) (EV EX : Value) (hs : ¬ SE < SX) (hn : ∀ y ∈ nx, y ∈ ne)
    (h : FsC w (.agg #[.string o1, .string n1, .int .i64 t1, .int .i64 k1, .string s1, .slice p1 m1 c1, .int .i64 a1]) (.slice pz nz cz) (.slice pr nr cr) XF 0 SE SX ne nx V .nilIface .nilIface) :
    Calls Tryz.prog 4 #[.agg #[.string o1, .string n1, .int .i64 t1, .int .i64 k1, .string s1, .slice p1 m1 c1, .int .i64 a1], .slice pz nz cz, .slice pr nr cr] w fun e w' => e = .returned (.bool true) ∧ Below w.heap.size w w' := by
  have bE := al w (.cells #[.string o1, .string n1, .int .i64 t1, .int .i64 k1, .string s1, .slice p1 m1 c1, .int .i64 a1] 26)
  have bC := bE.alloc (by simp) (.cells #[.string ⟨#[120]⟩, .int .i64 1] 48)
  have bT := bC.alloc (by simp; omega) (.cells #[.string ⟨#[118, 97, 108]⟩, .string ⟨#[]⟩, .int .i64 1, .int .i64 2, .string ⟨#[]⟩, .slice none 0 0, .int .i64 0, .string ⟨#[118, 97, 108]⟩, .string ⟨#[]⟩, .int .i64 1, .int .i64 3, .string ⟨#[]⟩, .slice none 0 0, .int .i64 0] 26)
  have bP := bT.alloc (by simp; omega) (.cells #[.string ⟨#[43]⟩, .string ⟨#[]⟩, .int .i64 0, .int .i64 0, .string ⟨#[]⟩, .slice (some ⟨w.heap.size + 1 + 1, 0, none⟩) 2 2, .int .i64 0] 26)
  have c0 := h.two ((((w.alloc (.cells #[.string o1, .string n1, .int .i64 t1, .int .i64 k1, .string s1, .slice p1 m1 c1, .int .i64 a1] 26)).alloc (.cells #[.string ⟨#[120]⟩, .int .i64 1] 48)).alloc (.cells #[.string ⟨#[118, 97, 108]⟩, .string ⟨#[]⟩, .int .i64 1, .int .i64 2, .string ⟨#[]⟩, .slice none 0 0, .int .i64 0, .string ⟨#[118, 97, 108]⟩, .string ⟨#[]⟩, .int .i64 1, .int .i64 3, .string ⟨#[]⟩, .slice none 0 0, .int .i64 0] 26)).alloc (.cells #[.string ⟨#[43]⟩, .string ⟨#[]⟩, .int .i64 0, .int .i64 0, .string ⟨#[]⟩, .slice (some ⟨w.heap.size + 1 + 1, 0, none⟩) 2 2, .int .i64 0] 26)) (w.heap.size + 1 + 1) (w.heap.size + 1) bP ((two_in _ (w.heap.size + 1 + 1) (by simp)).on (al _ _)) (((colOneF (w.alloc (.cells #[.string o1, .string n1, .int .i64 t1, .int .i64 k1, .string s1, .slice p1 m1 c1, .int .i64 a1] 26)) (w.heap.size + 1) (by simp)).on (al _ _)).on (al _ _))
  have cF := h.foldE
  have E0 : Hid (∀ W, Below (w.heap.size + 1) (w.alloc (.cells #[.string o1, .string n1, .int .i64 t1, .int .i64 k1, .string s1, .slice p1 m1 c1, .int .i64 a1] 26)) W → (∀ i, W.cell? ⟨w.heap.size, i, none⟩ = (#[.string o1, .string n1, .int .i64 t1, .int .i64 k1, .string s1, .slice p1 m1 c1, .int .i64 a1] : Array Value)[i]?) ∧ w.heap.size < W.heap.size ∧ Below w.heap.size w W) := fun W hb => by
    obtain ⟨h1, _, h3⟩ := box_at w _ _ hb (Nat.lt_succ_self _)
    exact ⟨h1, h3, bE.trans (hb.mono (Nat.le_succ _))⟩
  simp only [show errV 0 = .nilIface from rfl] at cF
  have cX := h.foldX rfl
  have cSm := h.same rfl
  have cSE := h.sizeE
  have cSX := h.sizeX rfl
  have cCk := h.chkX rfl
  have cUE := h.usesE rfl
  have cUX := h.usesX rfl
  have cEE := h.evalE
  have cEX := h.evalX rfl
  clear h
  go_enter Tryz.func4, Tryz.ntmps4
  go_wp2_with fail
  refine c0.mono ?_
  rintro e w1 ⟨⟨fp, fc, rfl⟩, b1⟩
  have Q1 : Below (w.heap.size + 1) (w.alloc (.cells #[.string o1, .string n1, .int .i64 t1, .int .i64 k1, .string s1, .slice p1 m1 c1, .int .i64 a1] 26)) w1 := ((((Below.refl _ (w.alloc (.cells #[.string o1, .string n1, .int .i64 t1, .int .i64 k1, .string s1, .slice p1 m1 c1, .int .i64 a1] 26))).alloc (by simp) (.cells #[.string ⟨#[120]⟩, .int .i64 1] 48)).alloc (by simp) (.cells #[.string ⟨#[118, 97, 108]⟩, .string ⟨#[]⟩, .int .i64 1, .int .i64 2, .string ⟨#[]⟩, .slice none 0 0, .int .i64 0, .string ⟨#[118, 97, 108]⟩, .string ⟨#[]⟩, .int .i64 1, .int .i64 3, .string ⟨#[]⟩, .slice none 0 0, .int .i64 0] 26)).alloc (by simp) (.cells #[.string ⟨#[43]⟩, .string ⟨#[]⟩, .int .i64 0, .int .i64 0, .string ⟨#[]⟩, .slice (some ⟨w.heap.size + 1 + 1, 0, none⟩) 2 2, .int .i64 0] 26)).trans (b1.mono (by simp))
  obtain ⟨hCw1, hlw1, -⟩ := E0.out w1 Q1
  have a0w1 : w1.cell? ⟨w.heap.size, 0, none⟩ = some (.string o1) := hCw1 0
  have a1w1 : w1.cell? ⟨w.heap.size, 1, none⟩ = some (.string n1) := hCw1 1
  have a2w1 : w1.cell? ⟨w.heap.size, 2, none⟩ = some (.int .i64 t1) := hCw1 2
  have a3w1 : w1.cell? ⟨w.heap.size, 3, none⟩ = some (.int .i64 k1) := hCw1 3
  have a4w1 : w1.cell? ⟨w.heap.size, 4, none⟩ = some (.string s1) := hCw1 4
  have a5w1 : w1.cell? ⟨w.heap.size, 5, none⟩ = some (.slice p1 m1 c1) := hCw1 5
  have a6w1 : w1.cell? ⟨w.heap.size, 6, none⟩ = some (.int .i64 a1) := hCw1 6
  clear hCw1
  have Q2 := Q1.alloc hlw1 (.cells #[.string ⟨#[118, 97, 108]⟩, .string ⟨#[]⟩, .int .i64 1, .int .i64 5, .string ⟨#[]⟩, .slice fp 0 fc, .int .i64 0] 26)
  have d1 := cF _ (E0.out _ Q2).2.2
  clear c0 b1 bC bT bP cF
  go_wp2_with fail
  refine d1.mono ?_
  rintro e w2 ⟨⟨u, rfl, G1, G2⟩, b2⟩
  have Q3 := Q2.trans (b2.mono (by simp; omega))
  clear a0w1 a1w1 a2w1 a3w1 a4w1 a5w1 a6w1
  have hu := G1.out trivial
  obtain ⟨r0, r1, r2, r3, r4, r5, r6, r7, r8, rfl⟩ := hu.agg
  have H2 : Aside (ExIn w2 (fun _ => True) (.agg #[.string r0, .string r1, .int .i64 r2, .int .i64 r3, .string r4, .slice r5 r6 r7, .int .i64 r8]) XF) := ExIn.low (fun _ _ _ => trivial) _ _ hu
  have X0 : Hid (∀ W, Below (w2.heap.size + 1) (w2.alloc (.cells #[.string r0, .string r1, .int .i64 r2, .int .i64 r3, .string r4, .slice r5 r6 r7, .int .i64 r8] 26)) W → (W.cell? ⟨w2.heap.size, 0, none⟩ = some (.string r0) ∧ W.cell? ⟨w2.heap.size, 1, none⟩ = some (.string r1) ∧ W.cell? ⟨w2.heap.size, 2, none⟩ = some (.int .i64 r2) ∧ W.cell? ⟨w2.heap.size, 3, none⟩ = some (.int .i64 r3) ∧ W.cell? ⟨w2.heap.size, 4, none⟩ = some (.string r4) ∧ W.cell? ⟨w2.heap.size, 5, none⟩ = some (.slice r5 r6 r7) ∧ W.cell? ⟨w2.heap.size, 6, none⟩ = some (.int .i64 r8)) ∧ w2.heap.size < W.heap.size ∧ ExIn W (fun _ => True) (.agg #[.string r0, .string r1, .int .i64 r2, .int .i64 r3, .string r4, .slice r5 r6 r7, .int .i64 r8]) XF ∧ Below (w.heap.size + 1) (w.alloc (.cells #[.string o1, .string n1, .int .i64 t1, .int .i64 k1, .string s1, .slice p1 m1 c1, .int .i64 a1] 26)) W ∧ Below w.heap.size w W) := fun W hb => by
    have hz := hb.size
    simp at hz
    have X := (box7_alloc w2 (.string r0) (.string r1) (.int .i64 r2) (.int .i64 r3) (.string r4) (.slice r5 r6 r7) (.int .i64 r8) 26).on (hb.mono (by simp))
    have Q := (Q3.alloc (E0.out _ Q3).2.1 (.cells #[.string r0, .string r1, .int .i64 r2, .int .i64 r3, .string r4, .slice r5 r6 r7, .int .i64 r8] 26)).trans (hb.mono (by have := (E0.out _ Q3).2.1; omega))
    exact ⟨⟨X.c0, X.c1, X.c2, X.c3, X.c4, X.c5, X.c6⟩, by omega, (H2.out.on (al w2 _)).on (hb.mono (by simp)), Q, (E0.out _ Q).2.2⟩
  have d2 := cX (w2.alloc (.cells #[.string r0, .string r1, .int .i64 r2, .int .i64 r3, .string r4, .slice r5 r6 r7, .int .i64 r8] 26)) _ (X0.out _ (Below.refl _ _)).2.2.2.2 (X0.out _ (Below.refl _ _)).2.2.1
  clear d1 G1 G2 b2 Q1 Q2 hu cX hlw1
  go_wp2_with fail
  refine d2.mono ?_
  rintro e w3 ⟨⟨u', rfl, hu'⟩, b3⟩
  obtain ⟨q0, q1, q2, q3, q4, q5, q6, q7, q8, rfl⟩ := hu'.agg
  have Y3 : Aside (ExIn w3 (fun _ => True) (.agg #[.string q0, .string q1, .int .i64 q2, .int .i64 q3, .string q4, .slice q5 q6 q7, .int .i64 q8]) XF) := hu'
  have b3' : Below (w2.heap.size + 1) (w2.alloc (.cells #[.string r0, .string r1, .int .i64 r2, .int .i64 r3, .string r4, .slice r5 r6 r7, .int .i64 r8] 26)) w3 := b3.mono (by simp)
  obtain ⟨W5, hW5⟩ : ∃ W5, w3.alloc (.cells #[.string q0, .string q1, .int .i64 q2, .int .i64 q3, .string q4, .slice q5 q6 q7, .int .i64 q8] 26) = W5 := ⟨_, rfl⟩
  have hs3 : w2.heap.size + 1 ≤ w3.heap.size := (X0.out w3 b3').2.1
  have b5 : Below (w2.heap.size + 1) (w2.alloc (.cells #[.string r0, .string r1, .int .i64 r2, .int .i64 r3, .string r4, .slice r5 r6 r7, .int .i64 r8] 26)) W5 := by rw [← hW5]; exact b3'.alloc hs3 _
  have hs5 : W5.heap.size = w3.heap.size + 1 := by rw [← hW5]; simp
  have YB : Box7 W5 w3.heap.size (.string q0) (.string q1) (.int .i64 q2) (.int .i64 q3) (.string q4) (.slice q5 q6 q7) (.int .i64 q8) := by rw [← hW5]; exact box7_alloc _ _ _ _ _ _ _ _ _
  have Y5 : Aside (ExIn W5 (fun _ => True) (.agg #[.string q0, .string q1, .int .i64 q2, .int .i64 q3, .string q4, .slice q5 q6 q7, .int .i64 q8]) XF) := by rw [← hW5]; exact Y3.out.on (al _ _)
  have KQ : Hid (∀ W, Below (w3.heap.size + 1) W5 W → ((W.cell? ⟨w.heap.size, 0, none⟩ = some (.string o1) ∧ W.cell? ⟨w.heap.size, 1, none⟩ = some (.string n1) ∧ W.cell? ⟨w.heap.size, 2, none⟩ = some (.int .i64 t1) ∧ W.cell? ⟨w.heap.size, 3, none⟩ = some (.int .i64 k1) ∧ W.cell? ⟨w.heap.size, 4, none⟩ = some (.string s1) ∧ W.cell? ⟨w.heap.size, 5, none⟩ = some (.slice p1 m1 c1) ∧ W.cell? ⟨w.heap.size, 6, none⟩ = some (.int .i64 a1)) ∧ (W.cell? ⟨w2.heap.size, 0, none⟩ = some (.string r0) ∧ W.cell? ⟨w2.heap.size, 1, none⟩ = some (.string r1) ∧ W.cell? ⟨w2.heap.size, 2, none⟩ = some (.int .i64 r2) ∧ W.cell? ⟨w2.heap.size, 3, none⟩ = some (.int .i64 r3) ∧ W.cell? ⟨w2.heap.size, 4, none⟩ = some (.string r4) ∧ W.cell? ⟨w2.heap.size, 5, none⟩ = some (.slice r5 r6 r7) ∧ W.cell? ⟨w2.heap.size, 6, none⟩ = some (.int .i64 r8)) ∧ (W.cell? ⟨w3.heap.size, 0, none⟩ = some (.string q0) ∧ W.cell? ⟨w3.heap.size, 1, none⟩ = some (.string q1) ∧ W.cell? ⟨w3.heap.size, 2, none⟩ = some (.int .i64 q2) ∧ W.cell? ⟨w3.heap.size, 3, none⟩ = some (.int .i64 q3) ∧ W.cell? ⟨w3.heap.size, 4, none⟩ = some (.string q4) ∧ W.cell? ⟨w3.heap.size, 5, none⟩ = some (.slice q5 q6 q7) ∧ W.cell? ⟨w3.heap.size, 6, none⟩ = some (.int .i64 q8))) ∧ (w.heap.size < W.heap.size ∧ w2.heap.size < W.heap.size ∧ w3.heap.size < W.heap.size) ∧ ExIn W (fun _ => True) (.agg #[.string r0, .string r1, .int .i64 r2, .int .i64 r3, .string r4, .slice r5 r6 r7, .int .i64 r8]) XF ∧ ExIn W (fun _ => True) (.agg #[.string q0, .string q1, .int .i64 q2, .int .i64 q3, .string q4, .slice q5 q6 q7, .int .i64 q8]) XF ∧ Below w.heap.size w W ∧ Below (w2.heap.size + 1) (w2.alloc (.cells #[.string r0, .string r1, .int .i64 r2, .int .i64 r3, .string r4, .slice r5 r6 r7, .int .i64 r8] 26)) W) := fun W hb => by
    have hz := hb.size
    have bX := b5.trans (hb.mono (by omega))
    obtain ⟨x1, x2, x3, x4, x5⟩ := X0.out W bX
    obtain ⟨hC, hl, -⟩ := E0.out W x4
    have hy := YB.on (hb.mono (by omega))
    exact ⟨⟨⟨hC 0, hC 1, hC 2, hC 3, hC 4, hC 5, hC 6⟩, x1, ⟨hy.c0, hy.c1, hy.c2, hy.c3, hy.c4, hy.c5, hy.c6⟩⟩, ⟨hl, x2, hy.lt⟩, x3, Y5.out.on (hb.mono (by omega)), x5, bX⟩
  have B5r : Aside (Below (w3.heap.size + 1) W5 W5) := Below.refl _ _
  have kS : ∀ W, Below (w3.heap.size + 1) W5 W → Calls Tryz.prog 15 #[.agg #[.string r0, .string r1, .int .i64 r2, .int .i64 r3, .string r4, .slice r5 r6 r7, .int .i64 r8], .agg #[.string q0, .string q1, .int .i64 q2, .int .i64 q3, .string q4, .slice q5 q6 q7, .int .i64 q8]] W fun e w' => e = .returned (.bool true) ∧ Aside (Below (w3.heap.size + 1) W5 w') ∧ (w'.cell? ⟨w.heap.size, 0, none⟩ = some (.string o1) ∧ w'.cell? ⟨w.heap.size, 1, none⟩ = some (.string n1) ∧ w'.cell? ⟨w.heap.size, 2, none⟩ = some (.int .i64 t1) ∧ w'.cell? ⟨w.heap.size, 3, none⟩ = some (.int .i64 k1) ∧ w'.cell? ⟨w.heap.size, 4, none⟩ = some (.string s1) ∧ w'.cell? ⟨w.heap.size, 5, none⟩ = some (.slice p1 m1 c1) ∧ w'.cell? ⟨w.heap.size, 6, none⟩ = some (.int .i64 a1)) ∧ (w'.cell? ⟨w2.heap.size, 0, none⟩ = some (.string r0) ∧ w'.cell? ⟨w2.heap.size, 1, none⟩ = some (.string r1) ∧ w'.cell? ⟨w2.heap.size, 2, none⟩ = some (.int .i64 r2) ∧ w'.cell? ⟨w2.heap.size, 3, none⟩ = some (.int .i64 r3) ∧ w'.cell? ⟨w2.heap.size, 4, none⟩ = some (.string r4) ∧ w'.cell? ⟨w2.heap.size, 5, none⟩ = some (.slice r5 r6 r7) ∧ w'.cell? ⟨w2.heap.size, 6, none⟩ = some (.int .i64 r8)) ∧ (w'.cell? ⟨w3.heap.size, 0, none⟩ = some (.string q0) ∧ w'.cell? ⟨w3.heap.size, 1, none⟩ = some (.string q1) ∧ w'.cell? ⟨w3.heap.size, 2, none⟩ = some (.int .i64 q2) ∧ w'.cell? ⟨w3.heap.size, 3, none⟩ = some (.int .i64 q3) ∧ w'.cell? ⟨w3.heap.size, 4, none⟩ = some (.string q4) ∧ w'.cell? ⟨w3.heap.size, 5, none⟩ = some (.slice q5 q6 q7) ∧ w'.cell? ⟨w3.heap.size, 6, none⟩ = some (.int .i64 q8)) := fun W b => by
    obtain ⟨-, -, x3, x4, x5, -⟩ := KQ.out W b
    refine (cSm W _ _ x3 x4).mono ?_
    rintro e w' ⟨he, hb⟩
    have b' := b.trans (hb.mono (by have := b.size; omega))
    exact ⟨he, b', (KQ.out w' b').1⟩
  have kX : ∀ W, Below (w3.heap.size + 1) W5 W → Calls Tryz.prog 16 #[.agg #[.string r0, .string r1, .int .i64 r2, .int .i64 r3, .string r4, .slice r5 r6 r7, .int .i64 r8]] W fun e w' => e = .returned (.int .i64 SX) ∧ Aside (Below (w3.heap.size + 1) W5 w') ∧ (w'.cell? ⟨w.heap.size, 0, none⟩ = some (.string o1) ∧ w'.cell? ⟨w.heap.size, 1, none⟩ = some (.string n1) ∧ w'.cell? ⟨w.heap.size, 2, none⟩ = some (.int .i64 t1) ∧ w'.cell? ⟨w.heap.size, 3, none⟩ = some (.int .i64 k1) ∧ w'.cell? ⟨w.heap.size, 4, none⟩ = some (.string s1) ∧ w'.cell? ⟨w.heap.size, 5, none⟩ = some (.slice p1 m1 c1) ∧ w'.cell? ⟨w.heap.size, 6, none⟩ = some (.int .i64 a1)) ∧ (w'.cell? ⟨w2.heap.size, 0, none⟩ = some (.string r0) ∧ w'.cell? ⟨w2.heap.size, 1, none⟩ = some (.string r1) ∧ w'.cell? ⟨w2.heap.size, 2, none⟩ = some (.int .i64 r2) ∧ w'.cell? ⟨w2.heap.size, 3, none⟩ = some (.int .i64 r3) ∧ w'.cell? ⟨w2.heap.size, 4, none⟩ = some (.string r4) ∧ w'.cell? ⟨w2.heap.size, 5, none⟩ = some (.slice r5 r6 r7) ∧ w'.cell? ⟨w2.heap.size, 6, none⟩ = some (.int .i64 r8)) ∧ (w'.cell? ⟨w3.heap.size, 0, none⟩ = some (.string q0) ∧ w'.cell? ⟨w3.heap.size, 1, none⟩ = some (.string q1) ∧ w'.cell? ⟨w3.heap.size, 2, none⟩ = some (.int .i64 q2) ∧ w'.cell? ⟨w3.heap.size, 3, none⟩ = some (.int .i64 q3) ∧ w'.cell? ⟨w3.heap.size, 4, none⟩ = some (.string q4) ∧ w'.cell? ⟨w3.heap.size, 5, none⟩ = some (.slice q5 q6 q7) ∧ w'.cell? ⟨w3.heap.size, 6, none⟩ = some (.int .i64 q8)) := fun W b => by
    obtain ⟨-, -, x3, x4, x5, -⟩ := KQ.out W b
    refine (cSX W _ x3).mono ?_
    rintro e w' ⟨he, hb⟩
    have b' := b.trans (hb.mono (by have := b.size; omega))
    exact ⟨he, b', (KQ.out w' b').1⟩
  have kE : ∀ W, Below (w3.heap.size + 1) W5 W → Calls Tryz.prog 16 #[.agg #[.string o1, .string n1, .int .i64 t1, .int .i64 k1, .string s1, .slice p1 m1 c1, .int .i64 a1]] W fun e w' => e = .returned (.int .i64 SE) ∧ Aside (Below (w3.heap.size + 1) W5 w') ∧ (w'.cell? ⟨w.heap.size, 0, none⟩ = some (.string o1) ∧ w'.cell? ⟨w.heap.size, 1, none⟩ = some (.string n1) ∧ w'.cell? ⟨w.heap.size, 2, none⟩ = some (.int .i64 t1) ∧ w'.cell? ⟨w.heap.size, 3, none⟩ = some (.int .i64 k1) ∧ w'.cell? ⟨w.heap.size, 4, none⟩ = some (.string s1) ∧ w'.cell? ⟨w.heap.size, 5, none⟩ = some (.slice p1 m1 c1) ∧ w'.cell? ⟨w.heap.size, 6, none⟩ = some (.int .i64 a1)) ∧ (w'.cell? ⟨w2.heap.size, 0, none⟩ = some (.string r0) ∧ w'.cell? ⟨w2.heap.size, 1, none⟩ = some (.string r1) ∧ w'.cell? ⟨w2.heap.size, 2, none⟩ = some (.int .i64 r2) ∧ w'.cell? ⟨w2.heap.size, 3, none⟩ = some (.int .i64 r3) ∧ w'.cell? ⟨w2.heap.size, 4, none⟩ = some (.string r4) ∧ w'.cell? ⟨w2.heap.size, 5, none⟩ = some (.slice r5 r6 r7) ∧ w'.cell? ⟨w2.heap.size, 6, none⟩ = some (.int .i64 r8)) ∧ (w'.cell? ⟨w3.heap.size, 0, none⟩ = some (.string q0) ∧ w'.cell? ⟨w3.heap.size, 1, none⟩ = some (.string q1) ∧ w'.cell? ⟨w3.heap.size, 2, none⟩ = some (.int .i64 q2) ∧ w'.cell? ⟨w3.heap.size, 3, none⟩ = some (.int .i64 q3) ∧ w'.cell? ⟨w3.heap.size, 4, none⟩ = some (.string q4) ∧ w'.cell? ⟨w3.heap.size, 5, none⟩ = some (.slice q5 q6 q7) ∧ w'.cell? ⟨w3.heap.size, 6, none⟩ = some (.int .i64 q8)) := fun W b => by
    obtain ⟨-, -, x3, x4, x5, -⟩ := KQ.out W b
    refine (cSE W x5).mono ?_
    rintro e w' ⟨he, hb⟩
    have b' := b.trans (hb.mono (by have := b.size; omega))
    exact ⟨he, b', (KQ.out w' b').1⟩
  have kC : ∀ W, Below (w3.heap.size + 1) W5 W → Calls Tryz.prog 17 #[.agg #[.string r0, .string r1, .int .i64 r2, .int .i64 r3, .string r4, .slice r5 r6 r7, .int .i64 r8]] W fun e w' => e = .returned (.nilIface) ∧ Aside (Below (w3.heap.size + 1) W5 w') ∧ (w'.cell? ⟨w.heap.size, 0, none⟩ = some (.string o1) ∧ w'.cell? ⟨w.heap.size, 1, none⟩ = some (.string n1) ∧ w'.cell? ⟨w.heap.size, 2, none⟩ = some (.int .i64 t1) ∧ w'.cell? ⟨w.heap.size, 3, none⟩ = some (.int .i64 k1) ∧ w'.cell? ⟨w.heap.size, 4, none⟩ = some (.string s1) ∧ w'.cell? ⟨w.heap.size, 5, none⟩ = some (.slice p1 m1 c1) ∧ w'.cell? ⟨w.heap.size, 6, none⟩ = some (.int .i64 a1)) ∧ (w'.cell? ⟨w2.heap.size, 0, none⟩ = some (.string r0) ∧ w'.cell? ⟨w2.heap.size, 1, none⟩ = some (.string r1) ∧ w'.cell? ⟨w2.heap.size, 2, none⟩ = some (.int .i64 r2) ∧ w'.cell? ⟨w2.heap.size, 3, none⟩ = some (.int .i64 r3) ∧ w'.cell? ⟨w2.heap.size, 4, none⟩ = some (.string r4) ∧ w'.cell? ⟨w2.heap.size, 5, none⟩ = some (.slice r5 r6 r7) ∧ w'.cell? ⟨w2.heap.size, 6, none⟩ = some (.int .i64 r8)) ∧ (w'.cell? ⟨w3.heap.size, 0, none⟩ = some (.string q0) ∧ w'.cell? ⟨w3.heap.size, 1, none⟩ = some (.string q1) ∧ w'.cell? ⟨w3.heap.size, 2, none⟩ = some (.int .i64 q2) ∧ w'.cell? ⟨w3.heap.size, 3, none⟩ = some (.int .i64 q3) ∧ w'.cell? ⟨w3.heap.size, 4, none⟩ = some (.string q4) ∧ w'.cell? ⟨w3.heap.size, 5, none⟩ = some (.slice q5 q6 q7) ∧ w'.cell? ⟨w3.heap.size, 6, none⟩ = some (.int .i64 q8)) := fun W b => by
    obtain ⟨-, -, x3, x4, x5, -⟩ := KQ.out W b
    refine (cCk W _ x5 x3).mono ?_
    rintro e w' ⟨he, hb⟩
    have b' := b.trans (hb.mono (by have := b.size; omega))
    exact ⟨he, b', (KQ.out w' b').1⟩
  obtain ⟨⟨⟨a0, a1', a2, a3, a4, a5, a6⟩, ⟨x0, x1, x2, x3, x4, x5, x6⟩, ⟨y0, y1, y2, y3, y4, y5, y6⟩⟩, ⟨hle, hlx, hly⟩, -, -, -, -⟩ := KQ.out W5 B5r.out
  have hd : decide (SE < SX) = false := by simpa using hs
  have hgt : ∀ W, Sem.run Tryz.prog (binOp .gtr 3 (.int .i64 SX) (.int .i64 SE)) W = .ok (.bool false) W := fun W => by rw [binOp_gtr, show (SX > SE : Bool) = false from hd]; rfl
  clear d2 b3 hu' Y3 cSm cSX cSE cCk YB Y5 b5 hs3 b3'
  go_upto_region 10 with fail
  clear hW5
  go_cut [86] (fun c wx => c = .bool false ∧ Aside (Below (w3.heap.size + 1) W5 wx))
  case first =>
    as_aux_lemma =>
    go_region_held3 (fun w' => (w'.cell? ⟨w.heap.size, 0, none⟩ = some (.string o1) ∧ w'.cell? ⟨w.heap.size, 1, none⟩ = some (.string n1) ∧ w'.cell? ⟨w.heap.size, 2, none⟩ = some (.int .i64 t1) ∧ w'.cell? ⟨w.heap.size, 3, none⟩ = some (.int .i64 k1) ∧ w'.cell? ⟨w.heap.size, 4, none⟩ = some (.string s1) ∧ w'.cell? ⟨w.heap.size, 5, none⟩ = some (.slice p1 m1 c1) ∧ w'.cell? ⟨w.heap.size, 6, none⟩ = some (.int .i64 a1)) ∧ (w'.cell? ⟨w2.heap.size, 0, none⟩ = some (.string r0) ∧ w'.cell? ⟨w2.heap.size, 1, none⟩ = some (.string r1) ∧ w'.cell? ⟨w2.heap.size, 2, none⟩ = some (.int .i64 r2) ∧ w'.cell? ⟨w2.heap.size, 3, none⟩ = some (.int .i64 r3) ∧ w'.cell? ⟨w2.heap.size, 4, none⟩ = some (.string r4) ∧ w'.cell? ⟨w2.heap.size, 5, none⟩ = some (.slice r5 r6 r7) ∧ w'.cell? ⟨w2.heap.size, 6, none⟩ = some (.int .i64 r8)) ∧ (w'.cell? ⟨w3.heap.size, 0, none⟩ = some (.string q0) ∧ w'.cell? ⟨w3.heap.size, 1, none⟩ = some (.string q1) ∧ w'.cell? ⟨w3.heap.size, 2, none⟩ = some (.int .i64 q2) ∧ w'.cell? ⟨w3.heap.size, 3, none⟩ = some (.int .i64 q3) ∧ w'.cell? ⟨w3.heap.size, 4, none⟩ = some (.string q4) ∧ w'.cell? ⟨w3.heap.size, 5, none⟩ = some (.slice q5 q6 q7) ∧ w'.cell? ⟨w3.heap.size, 6, none⟩ = some (.int .i64 q8))) (go_keep) (first | (go_at_call 15; refine (kS _ (by repeat (first | exact B5r.out | exact Ba.out | exact Bb.out | exact Bc.out | apply below_drewN | refine Below.drew ?_))).mono ?_; rintro e wa ⟨rfl, Ba, ⟨sa0, sa1, sa2, sa3, sa4, sa5, sa6⟩, ⟨sb0, sb1, sb2, sb3, sb4, sb5, sb6⟩, ⟨sc0, sc1, sc2, sc3, sc4, sc5, sc6⟩⟩) | (go_at_call 16; refine (kX _ (by repeat (first | exact B5r.out | exact Ba.out | exact Bb.out | exact Bc.out | apply below_drewN | refine Below.drew ?_))).mono ?_; rintro e wb ⟨rfl, Bb, ⟨ta0, ta1, ta2, ta3, ta4, ta5, ta6⟩, ⟨tb0, tb1, tb2, tb3, tb4, tb5, tb6⟩, ⟨tc0, tc1, tc2, tc3, tc4, tc5, tc6⟩⟩) | (go_at_call 16; refine (kE _ (by repeat (first | exact B5r.out | exact Ba.out | exact Bb.out | exact Bc.out | apply below_drewN | refine Below.drew ?_))).mono ?_; rintro e wb ⟨rfl, Bb, ⟨ua0, ua1, ua2, ua3, ua4, ua5, ua6⟩, ⟨ub0, ub1, ub2, ub3, ub4, ub5, ub6⟩, ⟨uc0, uc1, uc2, uc3, uc4, uc5, uc6⟩⟩) | (go_at_call 17; refine (kC _ (by repeat (first | exact B5r.out | exact Ba.out | exact Bb.out | exact Bc.out | apply below_drewN | refine Below.drew ?_))).mono ?_; rintro e wc ⟨rfl, Bc, ⟨va0, va1, va2, va3, va4, va5, va6⟩, ⟨vb0, vb1, vb2, vb3, vb4, vb5, vb6⟩, ⟨vc0, vc1, vc2, vc3, vc4, vc5, vc6⟩⟩))
    all_goals
      go_wp2
      go_meet
      case rel => exact ⟨rfl, (show Aside _ by repeat (first | exact Bc.out | apply below_drewN | refine Below.drew ?_))⟩
  case rest =>
    as_aux_lemma =>
    obtain ⟨rfl, HC⟩ := hcut
    rename World => wA
    obtain ⟨⟨⟨a0, a1', a2, a3, a4, a5, a6⟩, -, -⟩, ⟨hle, -, -⟩, -, -, BA, bXA⟩ := KQ.out wA HC.out
    have hsA : w2.heap.size + 1 ≤ wA.heap.size := (X0.out wA bXA).2.1
    have d4 := cUE wA BA
    clear HC cUE kS kX kE kC KQ B5r
    go_wp2_with fail
    refine d4.mono ?_
    rintro e w6 ⟨⟨ua, rfl, sa⟩, b6⟩
    have bX6 := bXA.trans (b6.mono hsA)
    obtain ⟨⟨x0, x1, x2, x3, x4, x5, x6⟩, hlx, X6, -, B6⟩ := X0.out w6 bX6
    have d5 := cUX w6 _ B6 X6
    clear d4 a0 a1' a2 a3 a4 a5 a6 hle BA bXA cUX
    go_wp2_with fail
    refine d5.mono ?_
    rintro e w7 ⟨⟨ub, rfl, sb⟩, b7⟩
    have bX7 := bX6.trans (b7.mono hlx)
    have hs7 : w2.heap.size + 1 ≤ w7.heap.size := (X0.out w7 bX7).2.1
    have KF : Hid (∀ W, Below w7.heap.size w7 W → (W.cell? ⟨w.heap.size, 0, none⟩ = some (.string o1) ∧ W.cell? ⟨w.heap.size, 1, none⟩ = some (.string n1) ∧ W.cell? ⟨w.heap.size, 2, none⟩ = some (.int .i64 t1) ∧ W.cell? ⟨w.heap.size, 3, none⟩ = some (.int .i64 k1) ∧ W.cell? ⟨w.heap.size, 4, none⟩ = some (.string s1) ∧ W.cell? ⟨w.heap.size, 5, none⟩ = some (.slice p1 m1 c1) ∧ W.cell? ⟨w.heap.size, 6, none⟩ = some (.int .i64 a1)) ∧ (W.cell? ⟨w2.heap.size, 0, none⟩ = some (.string r0) ∧ W.cell? ⟨w2.heap.size, 1, none⟩ = some (.string r1) ∧ W.cell? ⟨w2.heap.size, 2, none⟩ = some (.int .i64 r2) ∧ W.cell? ⟨w2.heap.size, 3, none⟩ = some (.int .i64 r3) ∧ W.cell? ⟨w2.heap.size, 4, none⟩ = some (.string r4) ∧ W.cell? ⟨w2.heap.size, 5, none⟩ = some (.slice r5 r6 r7) ∧ W.cell? ⟨w2.heap.size, 6, none⟩ = some (.int .i64 r8)) ∧ (w.heap.size < W.heap.size ∧ w2.heap.size < W.heap.size) ∧ ExIn W (fun _ => True) (.agg #[.string r0, .string r1, .int .i64 r2, .int .i64 r3, .string r4, .slice r5 r6 r7, .int .i64 r8]) XF ∧ Below w.heap.size w W ∧ Below (w2.heap.size + 1) (w2.alloc (.cells #[.string r0, .string r1, .int .i64 r2, .int .i64 r3, .string r4, .slice r5 r6 r7, .int .i64 r8] 26)) W) := fun W hb => by
      have bX := bX7.trans (hb.mono hs7)
      obtain ⟨x1, x2, x3, x4, x5⟩ := X0.out W bX
      obtain ⟨hC, hl, -⟩ := E0.out W x4
      exact ⟨⟨hC 0, hC 1, hC 2, hC 3, hC 4, hC 5, hC 6⟩, x1, ⟨hl, x2⟩, x3, x5, bX⟩
    obtain ⟨pa, ca, rfl, hla, HSA⟩ := sa.on b7
    obtain ⟨pb, cb, rfl, hlb, HSB⟩ := sb
    obtain ⟨NA, hNA⟩ : ∃ NA, ne.length = NA := ⟨_, rfl⟩
    obtain ⟨NB, hNB⟩ : ∃ NB, nx.length = NB := ⟨_, rfl⟩
    have ha : Aside (ne.length = 0 ∨ ∃ g off, pa = some ⟨g, off, none⟩ ∧ g < w7.heap.size ∧ ∀ j (h : j < ne.length), w7.cell? ⟨g, off + j, none⟩ = some (.string ne[j])) := HSA
    have hb : Aside (nx.length = 0 ∨ ∃ g off, pb = some ⟨g, off, none⟩ ∧ g < w7.heap.size ∧ ∀ j (h : j < nx.length), w7.cell? ⟨g, off + j, none⟩ = some (.string nx[j])) := HSB
    have HNA : Hid (ne.length = NA) := hNA
    have HNB : Hid (nx.length = NB) := hNB
    have HN : Hid (∀ y ∈ nx, y ∈ ne) := hn
    rw [hNA] at hla
    rw [hNB] at hlb
    simp only [hNA, hNB]
    have hlaz : (NA : Int) ≤ 9223372036854775807 := by unfold maxLen at hla; omega
    have hlbz : (NB : Int) ≤ 9223372036854775807 := by unfold maxLen at hlb; omega
    have BR7 : Aside (Below w7.heap.size w7 w7) := Below.refl _ _
    clear d5 b6 b7 sa bX6 bX7 x0 x1 x2 x3 x4 x5 x6 hlx X6 B6 hNA hNB HSA HSB hn hs7
    go_wp2
    go_loopg [19, 20, 21] NB (fun gg s19 _ _ wr => ∃ (i : Nat), s19 = .int .i64 i ∧ i ≤ NB ∧ NB - i ≤ gg ∧ Aside (Below w7.heap.size w7 wr))
    case atStart => exact ⟨0, rfl, Nat.zero_le _, by omega, BR7⟩
    case round =>
      obtain ⟨i, rfl, hiN, hgi, BI⟩ := hrel
      by_cases hlt : i < NB
      · have hltz : (i : Int) < (NB : Int) := by omega
        have h0z : (0 : Int) ≤ (i : Int) := by omega
        have hi2 : i < nx.length := by rw [HNB.out]; exact hlt
        obtain ⟨gb, ob, rfl, hgb, hcb⟩ : ∃ g off, pb = some ⟨g, off, none⟩ ∧ g < w7.heap.size ∧ ∀ j (h : j < nx.length), w7.cell? ⟨g, off + j, none⟩ = some (.string nx[j]) := by
          rcases hb.out with h | h
          · exact absurd h (by omega)
          · exact h
        have hbi := hcb i hi2
        have HBI : Hid (nx[i] ∈ ne) := HN.out _ (List.getElem_mem hi2)
        generalize nx[i] = bi at hbi HBI
        have HII : Hid (i < NB) := hlt
        clear hcb hi2 hlt
        go_wp2
        go_loopg [20, 21] NA (fun gg s20 s21 wk => ∃ (k : Nat) (bb : Bool), s20 = .bool bb ∧ s21 = .int .i64 k ∧ k ≤ NA ∧ NA - k ≤ gg ∧ Hid (bb = (ne.take k).any (fun y => y.toList == bi.toList)) ∧ Aside (Below w7.heap.size w7 wk))
        case atStart => exact ⟨0, false, rfl, rfl, Nat.zero_le _, by omega, (show Hid _ from rfl), BI⟩
        case round =>
          obtain ⟨k, bb, rfl, rfl, hkN, hgk, HB, BK⟩ := hrel
          rename World => wk
          by_cases hlk : k < NA
          · have hlkz : (k : Int) < (NA : Int) := by omega
            have h0k : (0 : Int) ≤ (k : Int) := by omega
            have hk2 : k < ne.length := by rw [HNA.out]; exact hlk
            obtain ⟨ga, oa, rfl, hga, hca⟩ : ∃ g off, pa = some ⟨g, off, none⟩ ∧ g < w7.heap.size ∧ ∀ j (h : j < ne.length), w7.cell? ⟨g, off + j, none⟩ = some (.string ne[j]) := by
              rcases ha.out with h | h
              · exact absurd h (by omega)
              · exact h
            have hak := hca k hk2
            have HAK : Hid ((ne.take (k + 1)).any (fun y => y.toList == bi.toList) = ((ne.take k).any (fun y => y.toList == bi.toList) || (ne[k].toList == bi.toList))) := by
              show _ = _
              rw [List.take_succ_eq_append_getElem hk2, List.any_append]; simp
            generalize ne[k] = ak at hak HAK
            have cA : wk.cell? ⟨ga, oa + k, none⟩ = some (.string ak) := by rw [BK.out.cell (p := ⟨ga, oa + k, none⟩) hga]; exact hak
            have cB : wk.cell? ⟨gb, ob + i, none⟩ = some (.string bi) := by rw [BK.out.cell (p := ⟨gb, ob + i, none⟩) hgb]; exact hbi
            have hgaK : ga < wk.heap.size := by have := BK.out.size; omega
            have hgbK : gb < wk.heap.size := by have := BK.out.size; omega
            have HKL : Hid (k < NA) := hlk
            have BKd : Aside (Below w7.heap.size w7 wk.drew) := BK.out.drew
            clear hca hak hk2 hlk BI
            cases bb
            · cases heq : (ak.toList == bi.toList)
              · have HB2 : Hid (false = (ne.take (k + 1)).any (fun y => y.toList == bi.toList)) := by
                  show _ = _
                  rw [HAK.out, ← HB.out, heq]; rfl
                go_wp2
                go_quiet (fail)
                go_wp2
                go_roundg (NA - (k + 1))
                case measure => have := HKL.out; omega
                case rel => exact ⟨k + 1, false, rfl, by go_num, by have := HKL.out; omega, by omega, HB2, (show Aside _ by repeat (first | exact BK.out | apply below_drewN | refine Below.drew ?_))⟩
              · have HB2 : Hid (true = (ne.take (k + 1)).any (fun y => y.toList == bi.toList)) := by
                  show _ = _
                  rw [HAK.out, heq, Bool.or_true]
                go_wp2
                go_quiet (fail)
                go_wp2
                go_roundg (NA - (k + 1))
                case measure => have := HKL.out; omega
                case rel => exact ⟨k + 1, true, rfl, by go_num, by have := HKL.out; omega, by omega, HB2, (show Aside _ by repeat (first | exact BK.out | apply below_drewN | refine Below.drew ?_))⟩
            · have HB2 : Hid (true = (ne.take (k + 1)).any (fun y => y.toList == bi.toList)) := by
                show _ = _
                rw [HAK.out, ← HB.out, Bool.true_or]
              go_wp2
              go_quiet (fail)
              go_wp2
              go_roundg (NA - (k + 1))
              case measure => have := HKL.out; omega
              case rel => exact ⟨k + 1, true, rfl, by go_num, by have := HKL.out; omega, by omega, HB2, (show Aside _ by repeat (first | exact BK.out | apply below_drewN | refine Below.drew ?_))⟩
          · have hkz : ¬ (k : Int) < (NA : Int) := by omega
            obtain rfl : k = NA := by omega
            have hbt : bb = true := by
              rw [HB.out, show ne.take k = ne by rw [← HNA.out]; exact List.take_length, List.any_eq_true]
              exact ⟨_, HBI.out, by simp⟩
            subst hbt
            clear HB hlk hgk hkN
            go_wp2
            go_roundg (NB - (i + 1))
            case measure => have := HII.out; omega
            case rel => exact ⟨i + 1, by go_num, by have := HII.out; omega, by omega, BK⟩
      · have hiz : ¬ (i : Int) < (NB : Int) := by omega
        obtain ⟨⟨a0, a1', a2, a3, a4, a5, a6⟩, -, ⟨hle, -⟩, -, BI1, -⟩ := KF.out wr BI.out
        have d8 := cEE wr BI1
        clear cEE hlt hiN hgi
        go_wp2_with fail
        refine d8.mono ?_
        rintro e w8 ⟨rfl, b8⟩
        obtain ⟨W9, hW9⟩ : ∃ W9, w8.alloc (.cells #[.int .i64 V.1, .int .i64 V.2.1, .string V.2.2] 23) = W9 := ⟨_, rfl⟩
        have b9 : Below w7.heap.size w7 W9 := by rw [← hW9]; exact (BI.out.trans (b8.mono BI.out.size)).alloc (by have := BI.out.size; have := b8.size; omega) _
        have V9 : Below (w8.heap.size + 1) (w8.alloc (.cells #[.int .i64 V.1, .int .i64 V.2.1, .string V.2.2] 23)) W9 := by rw [← hW9]; exact Below.refl _ _
        obtain ⟨-, ⟨x0, x1, x2, x3, x4, x5, x6⟩, ⟨-, hlx⟩, X9, B9, -⟩ := KF.out W9 b9
        have d9 := cEX W9 _ B9 X9
        have V9' : Aside (Below (w8.heap.size + 1) (w8.alloc (.cells #[.int .i64 V.1, .int .i64 V.2.1, .string V.2.2] 23)) W9) := V9
        have hs9 : W9.heap.size = w8.heap.size + 1 := by rw [← hW9]; simp
        clear d8 b8 cEX a0 a1' a2 a3 a4 a5 a6 hle BI1 V9 b9 X9
        go_wp2_with fail
        refine d9.mono ?_
        rintro e w10 ⟨rfl, b10⟩
        have B10 : Below w.heap.size w w10 := B9.trans (b10.mono B9.size)
        have B11 : Below w.heap.size w (w10.alloc (.cells #[.int .i64 V.1, .int .i64 V.2.1, .string V.2.2] 23)) := B10.alloc B10.size _
        have V10 : Below (w8.heap.size + 1) (w8.alloc (.cells #[.int .i64 V.1, .int .i64 V.2.1, .string V.2.2] 23)) (w10.alloc (.cells #[.int .i64 V.1, .int .i64 V.2.1, .string V.2.2] 23)) := (V9'.out.trans (b10.mono (by omega))).alloc (by have := b10.size; omega) _
        obtain ⟨y0, y1, y2, yl⟩ := box3F V10
        have hne : ¬ w8.heap.size = w10.heap.size := by have := b10.size; omega
        have hveq := valF_eql V.1 V.2.1 V.2.2
        have hbT := boolF_eqT true
        have hbF := boolF_eqT false
        have HB11 : Aside (Below w.heap.size w (w10.alloc (.cells #[.int .i64 V.1, .int .i64 V.2.1, .string V.2.2] 23))) := B11
        clear d9 b10 V10 V9' B9 B10 B11 hW9 x0 x1 x2 x3 x4 x5 x6
        go_wp2
        go_quiet (fail)
        go_wp2
        go_ret
        exact ⟨rfl, by repeat (first | exact HB11.out | apply below_drewN | refine Below.drew ?_)⟩
set_option maxHeartbeats 8000000 in
set_option maxRecDepth 20000 in
theorem fs_err (w : World) (o1 n1 : ByteArray) (t1 k1 : Int) (s1 : ByteArray) (p1 : Option Addr) (m1 c1 : Nat) (a1 : Int) (pz : Option Addr) (nz cz : Nat) (pr : Option Addr) (nr cr : Nat) (XF : Ex) (H : Int) (SE SX : Int) (ne nx : List ByteArray) (V : V3) (EV EX : Value) (K L : Int) (hs : ¬ SE < SX) (hn : ∀ y ∈ nx, y ∈ ne)
    (h : FsC w (.agg #[.string o1, .string n1, .int .i64 t1, .int .i64 k1, .string s1, .slice p1 m1 c1, .int .i64 a1]) (.slice pz nz cz) (.slice pr nr cr) XF 0 SE SX ne nx V (.iface 57 (.int .i64 K)) (.iface 57 (.int .i64 L))) :
    Calls Tryz.prog 4 #[.agg #[.string o1, .string n1, .int .i64 t1, .int .i64 k1, .string s1, .slice p1 m1 c1, .int .i64 a1], .slice pz nz cz, .slice pr nr cr] w fun e w' => e = .returned (.bool true) ∧ Below w.heap.size w w' := by
  have bE := al w (.cells #[.string o1, .string n1, .int .i64 t1, .int .i64 k1, .string s1, .slice p1 m1 c1, .int .i64 a1] 26)
  have bC := bE.alloc (by simp) (.cells #[.string ⟨#[120]⟩, .int .i64 1] 48)
  have bT := bC.alloc (by simp; omega) (.cells #[.string ⟨#[118, 97, 108]⟩, .string ⟨#[]⟩, .int .i64 1, .int .i64 2, .string ⟨#[]⟩, .slice none 0 0, .int .i64 0, .string ⟨#[118, 97, 108]⟩, .string ⟨#[]⟩, .int .i64 1, .int .i64 3, .string ⟨#[]⟩, .slice none 0 0, .int .i64 0] 26)
  have bP := bT.alloc (by simp; omega) (.cells #[.string ⟨#[43]⟩, .string ⟨#[]⟩, .int .i64 0, .int .i64 0, .string ⟨#[]⟩, .slice (some ⟨w.heap.size + 1 + 1, 0, none⟩) 2 2, .int .i64 0] 26)
  have c0 := h.two ((((w.alloc (.cells #[.string o1, .string n1, .int .i64 t1, .int .i64 k1, .string s1, .slice p1 m1 c1, .int .i64 a1] 26)).alloc (.cells #[.string ⟨#[120]⟩, .int .i64 1] 48)).alloc (.cells #[.string ⟨#[118, 97, 108]⟩, .string ⟨#[]⟩, .int .i64 1, .int .i64 2, .string ⟨#[]⟩, .slice none 0 0, .int .i64 0, .string ⟨#[118, 97, 108]⟩, .string ⟨#[]⟩, .int .i64 1, .int .i64 3, .string ⟨#[]⟩, .slice none 0 0, .int .i64 0] 26)).alloc (.cells #[.string ⟨#[43]⟩, .string ⟨#[]⟩, .int .i64 0, .int .i64 0, .string ⟨#[]⟩, .slice (some ⟨w.heap.size + 1 + 1, 0, none⟩) 2 2, .int .i64 0] 26)) (w.heap.size + 1 + 1) (w.heap.size + 1) bP ((two_in _ (w.heap.size + 1 + 1) (by simp)).on (al _ _)) (((colOneF (w.alloc (.cells #[.string o1, .string n1, .int .i64 t1, .int .i64 k1, .string s1, .slice p1 m1 c1, .int .i64 a1] 26)) (w.heap.size + 1) (by simp)).on (al _ _)).on (al _ _))
  have cF := h.foldE
  have E0 : Hid (∀ W, Below (w.heap.size + 1) (w.alloc (.cells #[.string o1, .string n1, .int .i64 t1, .int .i64 k1, .string s1, .slice p1 m1 c1, .int .i64 a1] 26)) W → (∀ i, W.cell? ⟨w.heap.size, i, none⟩ = (#[.string o1, .string n1, .int .i64 t1, .int .i64 k1, .string s1, .slice p1 m1 c1, .int .i64 a1] : Array Value)[i]?) ∧ w.heap.size < W.heap.size ∧ Below w.heap.size w W) := fun W hb => by
    obtain ⟨h1, _, h3⟩ := box_at w _ _ hb (Nat.lt_succ_self _)
    exact ⟨h1, h3, bE.trans (hb.mono (Nat.le_succ _))⟩
  simp only [show errV 0 = .nilIface from rfl] at cF
  have cX := h.foldX rfl
  have cSm := h.same rfl
  have cSE := h.sizeE
  have cSX := h.sizeX rfl
  have cCk := h.chkX rfl
  have cUE := h.usesE rfl
  have cUX := h.usesX rfl
  have cEE := h.evalE
  have cEX := h.evalX rfl
  clear h
  go_enter Tryz.func4, Tryz.ntmps4
  go_wp2_with fail
  refine c0.mono ?_
  rintro e w1 ⟨⟨fp, fc, rfl⟩, b1⟩
  have Q1 : Below (w.heap.size + 1) (w.alloc (.cells #[.string o1, .string n1, .int .i64 t1, .int .i64 k1, .string s1, .slice p1 m1 c1, .int .i64 a1] 26)) w1 := ((((Below.refl _ (w.alloc (.cells #[.string o1, .string n1, .int .i64 t1, .int .i64 k1, .string s1, .slice p1 m1 c1, .int .i64 a1] 26))).alloc (by simp) (.cells #[.string ⟨#[120]⟩, .int .i64 1] 48)).alloc (by simp) (.cells #[.string ⟨#[118, 97, 108]⟩, .string ⟨#[]⟩, .int .i64 1, .int .i64 2, .string ⟨#[]⟩, .slice none 0 0, .int .i64 0, .string ⟨#[118, 97, 108]⟩, .string ⟨#[]⟩, .int .i64 1, .int .i64 3, .string ⟨#[]⟩, .slice none 0 0, .int .i64 0] 26)).alloc (by simp) (.cells #[.string ⟨#[43]⟩, .string ⟨#[]⟩, .int .i64 0, .int .i64 0, .string ⟨#[]⟩, .slice (some ⟨w.heap.size + 1 + 1, 0, none⟩) 2 2, .int .i64 0] 26)).trans (b1.mono (by simp))
  obtain ⟨hCw1, hlw1, -⟩ := E0.out w1 Q1
  have a0w1 : w1.cell? ⟨w.heap.size, 0, none⟩ = some (.string o1) := hCw1 0
  have a1w1 : w1.cell? ⟨w.heap.size, 1, none⟩ = some (.string n1) := hCw1 1
  have a2w1 : w1.cell? ⟨w.heap.size, 2, none⟩ = some (.int .i64 t1) := hCw1 2
  have a3w1 : w1.cell? ⟨w.heap.size, 3, none⟩ = some (.int .i64 k1) := hCw1 3
  have a4w1 : w1.cell? ⟨w.heap.size, 4, none⟩ = some (.string s1) := hCw1 4
  have a5w1 : w1.cell? ⟨w.heap.size, 5, none⟩ = some (.slice p1 m1 c1) := hCw1 5
  have a6w1 : w1.cell? ⟨w.heap.size, 6, none⟩ = some (.int .i64 a1) := hCw1 6
  clear hCw1
  have Q2 := Q1.alloc hlw1 (.cells #[.string ⟨#[118, 97, 108]⟩, .string ⟨#[]⟩, .int .i64 1, .int .i64 5, .string ⟨#[]⟩, .slice fp 0 fc, .int .i64 0] 26)
  have d1 := cF _ (E0.out _ Q2).2.2
  clear c0 b1 bC bT bP cF
  go_wp2_with fail
  refine d1.mono ?_
  rintro e w2 ⟨⟨u, rfl, G1, G2⟩, b2⟩
  have Q3 := Q2.trans (b2.mono (by simp; omega))
  clear a0w1 a1w1 a2w1 a3w1 a4w1 a5w1 a6w1
  have hu := G1.out trivial
  obtain ⟨r0, r1, r2, r3, r4, r5, r6, r7, r8, rfl⟩ := hu.agg
  have H2 : Aside (ExIn w2 (fun _ => True) (.agg #[.string r0, .string r1, .int .i64 r2, .int .i64 r3, .string r4, .slice r5 r6 r7, .int .i64 r8]) XF) := ExIn.low (fun _ _ _ => trivial) _ _ hu
  have X0 : Hid (∀ W, Below (w2.heap.size + 1) (w2.alloc (.cells #[.string r0, .string r1, .int .i64 r2, .int .i64 r3, .string r4, .slice r5 r6 r7, .int .i64 r8] 26)) W → (W.cell? ⟨w2.heap.size, 0, none⟩ = some (.string r0) ∧ W.cell? ⟨w2.heap.size, 1, none⟩ = some (.string r1) ∧ W.cell? ⟨w2.heap.size, 2, none⟩ = some (.int .i64 r2) ∧ W.cell? ⟨w2.heap.size, 3, none⟩ = some (.int .i64 r3) ∧ W.cell? ⟨w2.heap.size, 4, none⟩ = some (.string r4) ∧ W.cell? ⟨w2.heap.size, 5, none⟩ = some (.slice r5 r6 r7) ∧ W.cell? ⟨w2.heap.size, 6, none⟩ = some (.int .i64 r8)) ∧ w2.heap.size < W.heap.size ∧ ExIn W (fun _ => True) (.agg #[.string r0, .string r1, .int .i64 r2, .int .i64 r3, .string r4, .slice r5 r6 r7, .int .i64 r8]) XF ∧ Below (w.heap.size + 1) (w.alloc (.cells #[.string o1, .string n1, .int .i64 t1, .int .i64 k1, .string s1, .slice p1 m1 c1, .int .i64 a1] 26)) W ∧ Below w.heap.size w W) := fun W hb => by
    have hz := hb.size
    simp at hz
    have X := (box7_alloc w2 (.string r0) (.string r1) (.int .i64 r2) (.int .i64 r3) (.string r4) (.slice r5 r6 r7) (.int .i64 r8) 26).on (hb.mono (by simp))
    have Q := (Q3.alloc (E0.out _ Q3).2.1 (.cells #[.string r0, .string r1, .int .i64 r2, .int .i64 r3, .string r4, .slice r5 r6 r7, .int .i64 r8] 26)).trans (hb.mono (by have := (E0.out _ Q3).2.1; omega))
    exact ⟨⟨X.c0, X.c1, X.c2, X.c3, X.c4, X.c5, X.c6⟩, by omega, (H2.out.on (al w2 _)).on (hb.mono (by simp)), Q, (E0.out _ Q).2.2⟩
  have d2 := cX (w2.alloc (.cells #[.string r0, .string r1, .int .i64 r2, .int .i64 r3, .string r4, .slice r5 r6 r7, .int .i64 r8] 26)) _ (X0.out _ (Below.refl _ _)).2.2.2.2 (X0.out _ (Below.refl _ _)).2.2.1
  clear d1 G1 G2 b2 Q1 Q2 hu cX hlw1
  go_wp2_with fail
  refine d2.mono ?_
  rintro e w3 ⟨⟨u', rfl, hu'⟩, b3⟩
  obtain ⟨q0, q1, q2, q3, q4, q5, q6, q7, q8, rfl⟩ := hu'.agg
  have Y3 : Aside (ExIn w3 (fun _ => True) (.agg #[.string q0, .string q1, .int .i64 q2, .int .i64 q3, .string q4, .slice q5 q6 q7, .int .i64 q8]) XF) := hu'
  have b3' : Below (w2.heap.size + 1) (w2.alloc (.cells #[.string r0, .string r1, .int .i64 r2, .int .i64 r3, .string r4, .slice r5 r6 r7, .int .i64 r8] 26)) w3 := b3.mono (by simp)
  obtain ⟨W5, hW5⟩ : ∃ W5, w3.alloc (.cells #[.string q0, .string q1, .int .i64 q2, .int .i64 q3, .string q4, .slice q5 q6 q7, .int .i64 q8] 26) = W5 := ⟨_, rfl⟩
  have hs3 : w2.heap.size + 1 ≤ w3.heap.size := (X0.out w3 b3').2.1
  have b5 : Below (w2.heap.size + 1) (w2.alloc (.cells #[.string r0, .string r1, .int .i64 r2, .int .i64 r3, .string r4, .slice r5 r6 r7, .int .i64 r8] 26)) W5 := by rw [← hW5]; exact b3'.alloc hs3 _
  have hs5 : W5.heap.size = w3.heap.size + 1 := by rw [← hW5]; simp
  have YB : Box7 W5 w3.heap.size (.string q0) (.string q1) (.int .i64 q2) (.int .i64 q3) (.string q4) (.slice q5 q6 q7) (.int .i64 q8) := by rw [← hW5]; exact box7_alloc _ _ _ _ _ _ _ _ _
  have Y5 : Aside (ExIn W5 (fun _ => True) (.agg #[.string q0, .string q1, .int .i64 q2, .int .i64 q3, .string q4, .slice q5 q6 q7, .int .i64 q8]) XF) := by rw [← hW5]; exact Y3.out.on (al _ _)
  have KQ : Hid (∀ W, Below (w3.heap.size + 1) W5 W → ((W.cell? ⟨w.heap.size, 0, none⟩ = some (.string o1) ∧ W.cell? ⟨w.heap.size, 1, none⟩ = some (.string n1) ∧ W.cell? ⟨w.heap.size, 2, none⟩ = some (.int .i64 t1) ∧ W.cell? ⟨w.heap.size, 3, none⟩ = some (.int .i64 k1) ∧ W.cell? ⟨w.heap.size, 4, none⟩ = some (.string s1) ∧ W.cell? ⟨w.heap.size, 5, none⟩ = some (.slice p1 m1 c1) ∧ W.cell? ⟨w.heap.size, 6, none⟩ = some (.int .i64 a1)) ∧ (W.cell? ⟨w2.heap.size, 0, none⟩ = some (.string r0) ∧ W.cell? ⟨w2.heap.size, 1, none⟩ = some (.string r1) ∧ W.cell? ⟨w2.heap.size, 2, none⟩ = some (.int .i64 r2) ∧ W.cell? ⟨w2.heap.size, 3, none⟩ = some (.int .i64 r3) ∧ W.cell? ⟨w2.heap.size, 4, none⟩ = some (.string r4) ∧ W.cell? ⟨w2.heap.size, 5, none⟩ = some (.slice r5 r6 r7) ∧ W.cell? ⟨w2.heap.size, 6, none⟩ = some (.int .i64 r8)) ∧ (W.cell? ⟨w3.heap.size, 0, none⟩ = some (.string q0) ∧ W.cell? ⟨w3.heap.size, 1, none⟩ = some (.string q1) ∧ W.cell? ⟨w3.heap.size, 2, none⟩ = some (.int .i64 q2) ∧ W.cell? ⟨w3.heap.size, 3, none⟩ = some (.int .i64 q3) ∧ W.cell? ⟨w3.heap.size, 4, none⟩ = some (.string q4) ∧ W.cell? ⟨w3.heap.size, 5, none⟩ = some (.slice q5 q6 q7) ∧ W.cell? ⟨w3.heap.size, 6, none⟩ = some (.int .i64 q8))) ∧ (w.heap.size < W.heap.size ∧ w2.heap.size < W.heap.size ∧ w3.heap.size < W.heap.size) ∧ ExIn W (fun _ => True) (.agg #[.string r0, .string r1, .int .i64 r2, .int .i64 r3, .string r4, .slice r5 r6 r7, .int .i64 r8]) XF ∧ ExIn W (fun _ => True) (.agg #[.string q0, .string q1, .int .i64 q2, .int .i64 q3, .string q4, .slice q5 q6 q7, .int .i64 q8]) XF ∧ Below w.heap.size w W ∧ Below (w2.heap.size + 1) (w2.alloc (.cells #[.string r0, .string r1, .int .i64 r2, .int .i64 r3, .string r4, .slice r5 r6 r7, .int .i64 r8] 26)) W) := fun W hb => by
    have hz := hb.size
    have bX := b5.trans (hb.mono (by omega))
    obtain ⟨x1, x2, x3, x4, x5⟩ := X0.out W bX
    obtain ⟨hC, hl, -⟩ := E0.out W x4
    have hy := YB.on (hb.mono (by omega))
    exact ⟨⟨⟨hC 0, hC 1, hC 2, hC 3, hC 4, hC 5, hC 6⟩, x1, ⟨hy.c0, hy.c1, hy.c2, hy.c3, hy.c4, hy.c5, hy.c6⟩⟩, ⟨hl, x2, hy.lt⟩, x3, Y5.out.on (hb.mono (by omega)), x5, bX⟩
  have B5r : Aside (Below (w3.heap.size + 1) W5 W5) := Below.refl _ _
  have kS : ∀ W, Below (w3.heap.size + 1) W5 W → Calls Tryz.prog 15 #[.agg #[.string r0, .string r1, .int .i64 r2, .int .i64 r3, .string r4, .slice r5 r6 r7, .int .i64 r8], .agg #[.string q0, .string q1, .int .i64 q2, .int .i64 q3, .string q4, .slice q5 q6 q7, .int .i64 q8]] W fun e w' => e = .returned (.bool true) ∧ Aside (Below (w3.heap.size + 1) W5 w') ∧ (w'.cell? ⟨w.heap.size, 0, none⟩ = some (.string o1) ∧ w'.cell? ⟨w.heap.size, 1, none⟩ = some (.string n1) ∧ w'.cell? ⟨w.heap.size, 2, none⟩ = some (.int .i64 t1) ∧ w'.cell? ⟨w.heap.size, 3, none⟩ = some (.int .i64 k1) ∧ w'.cell? ⟨w.heap.size, 4, none⟩ = some (.string s1) ∧ w'.cell? ⟨w.heap.size, 5, none⟩ = some (.slice p1 m1 c1) ∧ w'.cell? ⟨w.heap.size, 6, none⟩ = some (.int .i64 a1)) ∧ (w'.cell? ⟨w2.heap.size, 0, none⟩ = some (.string r0) ∧ w'.cell? ⟨w2.heap.size, 1, none⟩ = some (.string r1) ∧ w'.cell? ⟨w2.heap.size, 2, none⟩ = some (.int .i64 r2) ∧ w'.cell? ⟨w2.heap.size, 3, none⟩ = some (.int .i64 r3) ∧ w'.cell? ⟨w2.heap.size, 4, none⟩ = some (.string r4) ∧ w'.cell? ⟨w2.heap.size, 5, none⟩ = some (.slice r5 r6 r7) ∧ w'.cell? ⟨w2.heap.size, 6, none⟩ = some (.int .i64 r8)) ∧ (w'.cell? ⟨w3.heap.size, 0, none⟩ = some (.string q0) ∧ w'.cell? ⟨w3.heap.size, 1, none⟩ = some (.string q1) ∧ w'.cell? ⟨w3.heap.size, 2, none⟩ = some (.int .i64 q2) ∧ w'.cell? ⟨w3.heap.size, 3, none⟩ = some (.int .i64 q3) ∧ w'.cell? ⟨w3.heap.size, 4, none⟩ = some (.string q4) ∧ w'.cell? ⟨w3.heap.size, 5, none⟩ = some (.slice q5 q6 q7) ∧ w'.cell? ⟨w3.heap.size, 6, none⟩ = some (.int .i64 q8)) := fun W b => by
    obtain ⟨-, -, x3, x4, x5, -⟩ := KQ.out W b
    refine (cSm W _ _ x3 x4).mono ?_
    rintro e w' ⟨he, hb⟩
    have b' := b.trans (hb.mono (by have := b.size; omega))
    exact ⟨he, b', (KQ.out w' b').1⟩
  have kX : ∀ W, Below (w3.heap.size + 1) W5 W → Calls Tryz.prog 16 #[.agg #[.string r0, .string r1, .int .i64 r2, .int .i64 r3, .string r4, .slice r5 r6 r7, .int .i64 r8]] W fun e w' => e = .returned (.int .i64 SX) ∧ Aside (Below (w3.heap.size + 1) W5 w') ∧ (w'.cell? ⟨w.heap.size, 0, none⟩ = some (.string o1) ∧ w'.cell? ⟨w.heap.size, 1, none⟩ = some (.string n1) ∧ w'.cell? ⟨w.heap.size, 2, none⟩ = some (.int .i64 t1) ∧ w'.cell? ⟨w.heap.size, 3, none⟩ = some (.int .i64 k1) ∧ w'.cell? ⟨w.heap.size, 4, none⟩ = some (.string s1) ∧ w'.cell? ⟨w.heap.size, 5, none⟩ = some (.slice p1 m1 c1) ∧ w'.cell? ⟨w.heap.size, 6, none⟩ = some (.int .i64 a1)) ∧ (w'.cell? ⟨w2.heap.size, 0, none⟩ = some (.string r0) ∧ w'.cell? ⟨w2.heap.size, 1, none⟩ = some (.string r1) ∧ w'.cell? ⟨w2.heap.size, 2, none⟩ = some (.int .i64 r2) ∧ w'.cell? ⟨w2.heap.size, 3, none⟩ = some (.int .i64 r3) ∧ w'.cell? ⟨w2.heap.size, 4, none⟩ = some (.string r4) ∧ w'.cell? ⟨w2.heap.size, 5, none⟩ = some (.slice r5 r6 r7) ∧ w'.cell? ⟨w2.heap.size, 6, none⟩ = some (.int .i64 r8)) ∧ (w'.cell? ⟨w3.heap.size, 0, none⟩ = some (.string q0) ∧ w'.cell? ⟨w3.heap.size, 1, none⟩ = some (.string q1) ∧ w'.cell? ⟨w3.heap.size, 2, none⟩ = some (.int .i64 q2) ∧ w'.cell? ⟨w3.heap.size, 3, none⟩ = some (.int .i64 q3) ∧ w'.cell? ⟨w3.heap.size, 4, none⟩ = some (.string q4) ∧ w'.cell? ⟨w3.heap.size, 5, none⟩ = some (.slice q5 q6 q7) ∧ w'.cell? ⟨w3.heap.size, 6, none⟩ = some (.int .i64 q8)) := fun W b => by
    obtain ⟨-, -, x3, x4, x5, -⟩ := KQ.out W b
    refine (cSX W _ x3).mono ?_
    rintro e w' ⟨he, hb⟩
    have b' := b.trans (hb.mono (by have := b.size; omega))
    exact ⟨he, b', (KQ.out w' b').1⟩
  have kE : ∀ W, Below (w3.heap.size + 1) W5 W → Calls Tryz.prog 16 #[.agg #[.string o1, .string n1, .int .i64 t1, .int .i64 k1, .string s1, .slice p1 m1 c1, .int .i64 a1]] W fun e w' => e = .returned (.int .i64 SE) ∧ Aside (Below (w3.heap.size + 1) W5 w') ∧ (w'.cell? ⟨w.heap.size, 0, none⟩ = some (.string o1) ∧ w'.cell? ⟨w.heap.size, 1, none⟩ = some (.string n1) ∧ w'.cell? ⟨w.heap.size, 2, none⟩ = some (.int .i64 t1) ∧ w'.cell? ⟨w.heap.size, 3, none⟩ = some (.int .i64 k1) ∧ w'.cell? ⟨w.heap.size, 4, none⟩ = some (.string s1) ∧ w'.cell? ⟨w.heap.size, 5, none⟩ = some (.slice p1 m1 c1) ∧ w'.cell? ⟨w.heap.size, 6, none⟩ = some (.int .i64 a1)) ∧ (w'.cell? ⟨w2.heap.size, 0, none⟩ = some (.string r0) ∧ w'.cell? ⟨w2.heap.size, 1, none⟩ = some (.string r1) ∧ w'.cell? ⟨w2.heap.size, 2, none⟩ = some (.int .i64 r2) ∧ w'.cell? ⟨w2.heap.size, 3, none⟩ = some (.int .i64 r3) ∧ w'.cell? ⟨w2.heap.size, 4, none⟩ = some (.string r4) ∧ w'.cell? ⟨w2.heap.size, 5, none⟩ = some (.slice r5 r6 r7) ∧ w'.cell? ⟨w2.heap.size, 6, none⟩ = some (.int .i64 r8)) ∧ (w'.cell? ⟨w3.heap.size, 0, none⟩ = some (.string q0) ∧ w'.cell? ⟨w3.heap.size, 1, none⟩ = some (.string q1) ∧ w'.cell? ⟨w3.heap.size, 2, none⟩ = some (.int .i64 q2) ∧ w'.cell? ⟨w3.heap.size, 3, none⟩ = some (.int .i64 q3) ∧ w'.cell? ⟨w3.heap.size, 4, none⟩ = some (.string q4) ∧ w'.cell? ⟨w3.heap.size, 5, none⟩ = some (.slice q5 q6 q7) ∧ w'.cell? ⟨w3.heap.size, 6, none⟩ = some (.int .i64 q8)) := fun W b => by
    obtain ⟨-, -, x3, x4, x5, -⟩ := KQ.out W b
    refine (cSE W x5).mono ?_
    rintro e w' ⟨he, hb⟩
    have b' := b.trans (hb.mono (by have := b.size; omega))
    exact ⟨he, b', (KQ.out w' b').1⟩
  have kC : ∀ W, Below (w3.heap.size + 1) W5 W → Calls Tryz.prog 17 #[.agg #[.string r0, .string r1, .int .i64 r2, .int .i64 r3, .string r4, .slice r5 r6 r7, .int .i64 r8]] W fun e w' => e = .returned (.nilIface) ∧ Aside (Below (w3.heap.size + 1) W5 w') ∧ (w'.cell? ⟨w.heap.size, 0, none⟩ = some (.string o1) ∧ w'.cell? ⟨w.heap.size, 1, none⟩ = some (.string n1) ∧ w'.cell? ⟨w.heap.size, 2, none⟩ = some (.int .i64 t1) ∧ w'.cell? ⟨w.heap.size, 3, none⟩ = some (.int .i64 k1) ∧ w'.cell? ⟨w.heap.size, 4, none⟩ = some (.string s1) ∧ w'.cell? ⟨w.heap.size, 5, none⟩ = some (.slice p1 m1 c1) ∧ w'.cell? ⟨w.heap.size, 6, none⟩ = some (.int .i64 a1)) ∧ (w'.cell? ⟨w2.heap.size, 0, none⟩ = some (.string r0) ∧ w'.cell? ⟨w2.heap.size, 1, none⟩ = some (.string r1) ∧ w'.cell? ⟨w2.heap.size, 2, none⟩ = some (.int .i64 r2) ∧ w'.cell? ⟨w2.heap.size, 3, none⟩ = some (.int .i64 r3) ∧ w'.cell? ⟨w2.heap.size, 4, none⟩ = some (.string r4) ∧ w'.cell? ⟨w2.heap.size, 5, none⟩ = some (.slice r5 r6 r7) ∧ w'.cell? ⟨w2.heap.size, 6, none⟩ = some (.int .i64 r8)) ∧ (w'.cell? ⟨w3.heap.size, 0, none⟩ = some (.string q0) ∧ w'.cell? ⟨w3.heap.size, 1, none⟩ = some (.string q1) ∧ w'.cell? ⟨w3.heap.size, 2, none⟩ = some (.int .i64 q2) ∧ w'.cell? ⟨w3.heap.size, 3, none⟩ = some (.int .i64 q3) ∧ w'.cell? ⟨w3.heap.size, 4, none⟩ = some (.string q4) ∧ w'.cell? ⟨w3.heap.size, 5, none⟩ = some (.slice q5 q6 q7) ∧ w'.cell? ⟨w3.heap.size, 6, none⟩ = some (.int .i64 q8)) := fun W b => by
    obtain ⟨-, -, x3, x4, x5, -⟩ := KQ.out W b
    refine (cCk W _ x5 x3).mono ?_
    rintro e w' ⟨he, hb⟩
    have b' := b.trans (hb.mono (by have := b.size; omega))
    exact ⟨he, b', (KQ.out w' b').1⟩
  obtain ⟨⟨⟨a0, a1', a2, a3, a4, a5, a6⟩, ⟨x0, x1, x2, x3, x4, x5, x6⟩, ⟨y0, y1, y2, y3, y4, y5, y6⟩⟩, ⟨hle, hlx, hly⟩, -, -, -, -⟩ := KQ.out W5 B5r.out
  have hd : decide (SE < SX) = false := by simpa using hs
  have hgt : ∀ W, Sem.run Tryz.prog (binOp .gtr 3 (.int .i64 SX) (.int .i64 SE)) W = .ok (.bool false) W := fun W => by rw [binOp_gtr, show (SX > SE : Bool) = false from hd]; rfl
  clear d2 b3 hu' Y3 cSm cSX cSE cCk YB Y5 b5 hs3 b3'
  go_upto_region 10 with fail
  clear hW5
  go_cut [86] (fun c wx => c = .bool false ∧ Aside (Below (w3.heap.size + 1) W5 wx))
  case first =>
    as_aux_lemma =>
    go_region_held3 (fun w' => (w'.cell? ⟨w.heap.size, 0, none⟩ = some (.string o1) ∧ w'.cell? ⟨w.heap.size, 1, none⟩ = some (.string n1) ∧ w'.cell? ⟨w.heap.size, 2, none⟩ = some (.int .i64 t1) ∧ w'.cell? ⟨w.heap.size, 3, none⟩ = some (.int .i64 k1) ∧ w'.cell? ⟨w.heap.size, 4, none⟩ = some (.string s1) ∧ w'.cell? ⟨w.heap.size, 5, none⟩ = some (.slice p1 m1 c1) ∧ w'.cell? ⟨w.heap.size, 6, none⟩ = some (.int .i64 a1)) ∧ (w'.cell? ⟨w2.heap.size, 0, none⟩ = some (.string r0) ∧ w'.cell? ⟨w2.heap.size, 1, none⟩ = some (.string r1) ∧ w'.cell? ⟨w2.heap.size, 2, none⟩ = some (.int .i64 r2) ∧ w'.cell? ⟨w2.heap.size, 3, none⟩ = some (.int .i64 r3) ∧ w'.cell? ⟨w2.heap.size, 4, none⟩ = some (.string r4) ∧ w'.cell? ⟨w2.heap.size, 5, none⟩ = some (.slice r5 r6 r7) ∧ w'.cell? ⟨w2.heap.size, 6, none⟩ = some (.int .i64 r8)) ∧ (w'.cell? ⟨w3.heap.size, 0, none⟩ = some (.string q0) ∧ w'.cell? ⟨w3.heap.size, 1, none⟩ = some (.string q1) ∧ w'.cell? ⟨w3.heap.size, 2, none⟩ = some (.int .i64 q2) ∧ w'.cell? ⟨w3.heap.size, 3, none⟩ = some (.int .i64 q3) ∧ w'.cell? ⟨w3.heap.size, 4, none⟩ = some (.string q4) ∧ w'.cell? ⟨w3.heap.size, 5, none⟩ = some (.slice q5 q6 q7) ∧ w'.cell? ⟨w3.heap.size, 6, none⟩ = some (.int .i64 q8))) (go_keep) (first | (go_at_call 15; refine (kS _ (by repeat (first | exact B5r.out | exact Ba.out | exact Bb.out | exact Bc.out | apply below_drewN | refine Below.drew ?_))).mono ?_; rintro e wa ⟨rfl, Ba, ⟨sa0, sa1, sa2, sa3, sa4, sa5, sa6⟩, ⟨sb0, sb1, sb2, sb3, sb4, sb5, sb6⟩, ⟨sc0, sc1, sc2, sc3, sc4, sc5, sc6⟩⟩) | (go_at_call 16; refine (kX _ (by repeat (first | exact B5r.out | exact Ba.out | exact Bb.out | exact Bc.out | apply below_drewN | refine Below.drew ?_))).mono ?_; rintro e wb ⟨rfl, Bb, ⟨ta0, ta1, ta2, ta3, ta4, ta5, ta6⟩, ⟨tb0, tb1, tb2, tb3, tb4, tb5, tb6⟩, ⟨tc0, tc1, tc2, tc3, tc4, tc5, tc6⟩⟩) | (go_at_call 16; refine (kE _ (by repeat (first | exact B5r.out | exact Ba.out | exact Bb.out | exact Bc.out | apply below_drewN | refine Below.drew ?_))).mono ?_; rintro e wb ⟨rfl, Bb, ⟨ua0, ua1, ua2, ua3, ua4, ua5, ua6⟩, ⟨ub0, ub1, ub2, ub3, ub4, ub5, ub6⟩, ⟨uc0, uc1, uc2, uc3, uc4, uc5, uc6⟩⟩) | (go_at_call 17; refine (kC _ (by repeat (first | exact B5r.out | exact Ba.out | exact Bb.out | exact Bc.out | apply below_drewN | refine Below.drew ?_))).mono ?_; rintro e wc ⟨rfl, Bc, ⟨va0, va1, va2, va3, va4, va5, va6⟩, ⟨vb0, vb1, vb2, vb3, vb4, vb5, vb6⟩, ⟨vc0, vc1, vc2, vc3, vc4, vc5, vc6⟩⟩))
    all_goals
      go_wp2
      go_meet
      case rel => exact ⟨rfl, (show Aside _ by repeat (first | exact Bc.out | apply below_drewN | refine Below.drew ?_))⟩
  case rest =>
    as_aux_lemma =>
    obtain ⟨rfl, HC⟩ := hcut
    rename World => wA
    obtain ⟨⟨⟨a0, a1', a2, a3, a4, a5, a6⟩, -, -⟩, ⟨hle, -, -⟩, -, -, BA, bXA⟩ := KQ.out wA HC.out
    have hsA : w2.heap.size + 1 ≤ wA.heap.size := (X0.out wA bXA).2.1
    have d4 := cUE wA BA
    clear HC cUE kS kX kE kC KQ B5r
    go_wp2_with fail
    refine d4.mono ?_
    rintro e w6 ⟨⟨ua, rfl, sa⟩, b6⟩
    have bX6 := bXA.trans (b6.mono hsA)
    obtain ⟨⟨x0, x1, x2, x3, x4, x5, x6⟩, hlx, X6, -, B6⟩ := X0.out w6 bX6
    have d5 := cUX w6 _ B6 X6
    clear d4 a0 a1' a2 a3 a4 a5 a6 hle BA bXA cUX
    go_wp2_with fail
    refine d5.mono ?_
    rintro e w7 ⟨⟨ub, rfl, sb⟩, b7⟩
    have bX7 := bX6.trans (b7.mono hlx)
    have hs7 : w2.heap.size + 1 ≤ w7.heap.size := (X0.out w7 bX7).2.1
    have KF : Hid (∀ W, Below w7.heap.size w7 W → (W.cell? ⟨w.heap.size, 0, none⟩ = some (.string o1) ∧ W.cell? ⟨w.heap.size, 1, none⟩ = some (.string n1) ∧ W.cell? ⟨w.heap.size, 2, none⟩ = some (.int .i64 t1) ∧ W.cell? ⟨w.heap.size, 3, none⟩ = some (.int .i64 k1) ∧ W.cell? ⟨w.heap.size, 4, none⟩ = some (.string s1) ∧ W.cell? ⟨w.heap.size, 5, none⟩ = some (.slice p1 m1 c1) ∧ W.cell? ⟨w.heap.size, 6, none⟩ = some (.int .i64 a1)) ∧ (W.cell? ⟨w2.heap.size, 0, none⟩ = some (.string r0) ∧ W.cell? ⟨w2.heap.size, 1, none⟩ = some (.string r1) ∧ W.cell? ⟨w2.heap.size, 2, none⟩ = some (.int .i64 r2) ∧ W.cell? ⟨w2.heap.size, 3, none⟩ = some (.int .i64 r3) ∧ W.cell? ⟨w2.heap.size, 4, none⟩ = some (.string r4) ∧ W.cell? ⟨w2.heap.size, 5, none⟩ = some (.slice r5 r6 r7) ∧ W.cell? ⟨w2.heap.size, 6, none⟩ = some (.int .i64 r8)) ∧ (w.heap.size < W.heap.size ∧ w2.heap.size < W.heap.size) ∧ ExIn W (fun _ => True) (.agg #[.string r0, .string r1, .int .i64 r2, .int .i64 r3, .string r4, .slice r5 r6 r7, .int .i64 r8]) XF ∧ Below w.heap.size w W ∧ Below (w2.heap.size + 1) (w2.alloc (.cells #[.string r0, .string r1, .int .i64 r2, .int .i64 r3, .string r4, .slice r5 r6 r7, .int .i64 r8] 26)) W) := fun W hb => by
      have bX := bX7.trans (hb.mono hs7)
      obtain ⟨x1, x2, x3, x4, x5⟩ := X0.out W bX
      obtain ⟨hC, hl, -⟩ := E0.out W x4
      exact ⟨⟨hC 0, hC 1, hC 2, hC 3, hC 4, hC 5, hC 6⟩, x1, ⟨hl, x2⟩, x3, x5, bX⟩
    obtain ⟨pa, ca, rfl, hla, HSA⟩ := sa.on b7
    obtain ⟨pb, cb, rfl, hlb, HSB⟩ := sb
    obtain ⟨NA, hNA⟩ : ∃ NA, ne.length = NA := ⟨_, rfl⟩
    obtain ⟨NB, hNB⟩ : ∃ NB, nx.length = NB := ⟨_, rfl⟩
    have ha : Aside (ne.length = 0 ∨ ∃ g off, pa = some ⟨g, off, none⟩ ∧ g < w7.heap.size ∧ ∀ j (h : j < ne.length), w7.cell? ⟨g, off + j, none⟩ = some (.string ne[j])) := HSA
    have hb : Aside (nx.length = 0 ∨ ∃ g off, pb = some ⟨g, off, none⟩ ∧ g < w7.heap.size ∧ ∀ j (h : j < nx.length), w7.cell? ⟨g, off + j, none⟩ = some (.string nx[j])) := HSB
    have HNA : Hid (ne.length = NA) := hNA
    have HNB : Hid (nx.length = NB) := hNB
    have HN : Hid (∀ y ∈ nx, y ∈ ne) := hn
    rw [hNA] at hla
    rw [hNB] at hlb
    simp only [hNA, hNB]
    have hlaz : (NA : Int) ≤ 9223372036854775807 := by unfold maxLen at hla; omega
    have hlbz : (NB : Int) ≤ 9223372036854775807 := by unfold maxLen at hlb; omega
    have BR7 : Aside (Below w7.heap.size w7 w7) := Below.refl _ _
    clear d5 b6 b7 sa bX6 bX7 x0 x1 x2 x3 x4 x5 x6 hlx X6 B6 hNA hNB HSA HSB hn hs7
    go_wp2
    go_loopg [19, 20, 21] NB (fun gg s19 _ _ wr => ∃ (i : Nat), s19 = .int .i64 i ∧ i ≤ NB ∧ NB - i ≤ gg ∧ Aside (Below w7.heap.size w7 wr))
    case atStart => exact ⟨0, rfl, Nat.zero_le _, by omega, BR7⟩
    case round =>
      obtain ⟨i, rfl, hiN, hgi, BI⟩ := hrel
      by_cases hlt : i < NB
      · have hltz : (i : Int) < (NB : Int) := by omega
        have h0z : (0 : Int) ≤ (i : Int) := by omega
        have hi2 : i < nx.length := by rw [HNB.out]; exact hlt
        obtain ⟨gb, ob, rfl, hgb, hcb⟩ : ∃ g off, pb = some ⟨g, off, none⟩ ∧ g < w7.heap.size ∧ ∀ j (h : j < nx.length), w7.cell? ⟨g, off + j, none⟩ = some (.string nx[j]) := by
          rcases hb.out with h | h
          · exact absurd h (by omega)
          · exact h
        have hbi := hcb i hi2
        have HBI : Hid (nx[i] ∈ ne) := HN.out _ (List.getElem_mem hi2)
        generalize nx[i] = bi at hbi HBI
        have HII : Hid (i < NB) := hlt
        clear hcb hi2 hlt
        go_wp2
        go_loopg [20, 21] NA (fun gg s20 s21 wk => ∃ (k : Nat) (bb : Bool), s20 = .bool bb ∧ s21 = .int .i64 k ∧ k ≤ NA ∧ NA - k ≤ gg ∧ Hid (bb = (ne.take k).any (fun y => y.toList == bi.toList)) ∧ Aside (Below w7.heap.size w7 wk))
        case atStart => exact ⟨0, false, rfl, rfl, Nat.zero_le _, by omega, (show Hid _ from rfl), BI⟩
        case round =>
          obtain ⟨k, bb, rfl, rfl, hkN, hgk, HB, BK⟩ := hrel
          rename World => wk
          by_cases hlk : k < NA
          · have hlkz : (k : Int) < (NA : Int) := by omega
            have h0k : (0 : Int) ≤ (k : Int) := by omega
            have hk2 : k < ne.length := by rw [HNA.out]; exact hlk
            obtain ⟨ga, oa, rfl, hga, hca⟩ : ∃ g off, pa = some ⟨g, off, none⟩ ∧ g < w7.heap.size ∧ ∀ j (h : j < ne.length), w7.cell? ⟨g, off + j, none⟩ = some (.string ne[j]) := by
              rcases ha.out with h | h
              · exact absurd h (by omega)
              · exact h
            have hak := hca k hk2
            have HAK : Hid ((ne.take (k + 1)).any (fun y => y.toList == bi.toList) = ((ne.take k).any (fun y => y.toList == bi.toList) || (ne[k].toList == bi.toList))) := by
              show _ = _
              rw [List.take_succ_eq_append_getElem hk2, List.any_append]; simp
            generalize ne[k] = ak at hak HAK
            have cA : wk.cell? ⟨ga, oa + k, none⟩ = some (.string ak) := by rw [BK.out.cell (p := ⟨ga, oa + k, none⟩) hga]; exact hak
            have cB : wk.cell? ⟨gb, ob + i, none⟩ = some (.string bi) := by rw [BK.out.cell (p := ⟨gb, ob + i, none⟩) hgb]; exact hbi
            have hgaK : ga < wk.heap.size := by have := BK.out.size; omega
            have hgbK : gb < wk.heap.size := by have := BK.out.size; omega
            have HKL : Hid (k < NA) := hlk
            have BKd : Aside (Below w7.heap.size w7 wk.drew) := BK.out.drew
            clear hca hak hk2 hlk BI
            cases bb
            · cases heq : (ak.toList == bi.toList)
              · have HB2 : Hid (false = (ne.take (k + 1)).any (fun y => y.toList == bi.toList)) := by
                  show _ = _
                  rw [HAK.out, ← HB.out, heq]; rfl
                go_wp2
                go_quiet (fail)
                go_wp2
                go_roundg (NA - (k + 1))
                case measure => have := HKL.out; omega
                case rel => exact ⟨k + 1, false, rfl, by go_num, by have := HKL.out; omega, by omega, HB2, (show Aside _ by repeat (first | exact BK.out | apply below_drewN | refine Below.drew ?_))⟩
              · have HB2 : Hid (true = (ne.take (k + 1)).any (fun y => y.toList == bi.toList)) := by
                  show _ = _
                  rw [HAK.out, heq, Bool.or_true]
                go_wp2
                go_quiet (fail)
                go_wp2
                go_roundg (NA - (k + 1))
                case measure => have := HKL.out; omega
                case rel => exact ⟨k + 1, true, rfl, by go_num, by have := HKL.out; omega, by omega, HB2, (show Aside _ by repeat (first | exact BK.out | apply below_drewN | refine Below.drew ?_))⟩
            · have HB2 : Hid (true = (ne.take (k + 1)).any (fun y => y.toList == bi.toList)) := by
                show _ = _
                rw [HAK.out, ← HB.out, Bool.true_or]
              go_wp2
              go_quiet (fail)
              go_wp2
              go_roundg (NA - (k + 1))
              case measure => have := HKL.out; omega
              case rel => exact ⟨k + 1, true, rfl, by go_num, by have := HKL.out; omega, by omega, HB2, (show Aside _ by repeat (first | exact BK.out | apply below_drewN | refine Below.drew ?_))⟩
          · have hkz : ¬ (k : Int) < (NA : Int) := by omega
            obtain rfl : k = NA := by omega
            have hbt : bb = true := by
              rw [HB.out, show ne.take k = ne by rw [← HNA.out]; exact List.take_length, List.any_eq_true]
              exact ⟨_, HBI.out, by simp⟩
            subst hbt
            clear HB hlk hgk hkN
            go_wp2
            go_roundg (NB - (i + 1))
            case measure => have := HII.out; omega
            case rel => exact ⟨i + 1, by go_num, by have := HII.out; omega, by omega, BK⟩
      · have hiz : ¬ (i : Int) < (NB : Int) := by omega
        obtain ⟨⟨a0, a1', a2, a3, a4, a5, a6⟩, -, ⟨hle, -⟩, -, BI1, -⟩ := KF.out wr BI.out
        have d8 := cEE wr BI1
        clear cEE hlt hiN hgi
        go_wp2_with fail
        refine d8.mono ?_
        rintro e w8 ⟨rfl, b8⟩
        obtain ⟨W9, hW9⟩ : ∃ W9, w8.alloc (.cells #[.int .i64 V.1, .int .i64 V.2.1, .string V.2.2] 23) = W9 := ⟨_, rfl⟩
        have b9 : Below w7.heap.size w7 W9 := by rw [← hW9]; exact (BI.out.trans (b8.mono BI.out.size)).alloc (by have := BI.out.size; have := b8.size; omega) _
        have V9 : Below (w8.heap.size + 1) (w8.alloc (.cells #[.int .i64 V.1, .int .i64 V.2.1, .string V.2.2] 23)) W9 := by rw [← hW9]; exact Below.refl _ _
        obtain ⟨-, ⟨x0, x1, x2, x3, x4, x5, x6⟩, ⟨-, hlx⟩, X9, B9, -⟩ := KF.out W9 b9
        have d9 := cEX W9 _ B9 X9
        have V9' : Aside (Below (w8.heap.size + 1) (w8.alloc (.cells #[.int .i64 V.1, .int .i64 V.2.1, .string V.2.2] 23)) W9) := V9
        have hs9 : W9.heap.size = w8.heap.size + 1 := by rw [← hW9]; simp
        clear d8 b8 cEX a0 a1' a2 a3 a4 a5 a6 hle BI1 V9 b9 X9
        go_wp2_with fail
        refine d9.mono ?_
        rintro e w10 ⟨rfl, b10⟩
        have B10 : Below w.heap.size w w10 := B9.trans (b10.mono B9.size)
        have B11 : Below w.heap.size w (w10.alloc (.cells #[.int .i64 V.1, .int .i64 V.2.1, .string V.2.2] 23)) := B10.alloc B10.size _
        have V10 : Below (w8.heap.size + 1) (w8.alloc (.cells #[.int .i64 V.1, .int .i64 V.2.1, .string V.2.2] 23)) (w10.alloc (.cells #[.int .i64 V.1, .int .i64 V.2.1, .string V.2.2] 23)) := (V9'.out.trans (b10.mono (by omega))).alloc (by have := b10.size; omega) _
        obtain ⟨y0, y1, y2, yl⟩ := box3F V10
        have hne : ¬ w8.heap.size = w10.heap.size := by have := b10.size; omega
        have hveq := valF_eql V.1 V.2.1 V.2.2
        have hbT := boolF_eqT true
        have hbF := boolF_eqT false
        have HB11 : Aside (Below w.heap.size w (w10.alloc (.cells #[.int .i64 V.1, .int .i64 V.2.1, .string V.2.2] 23))) := B11
        clear d9 b10 V10 V9' B9 B10 B11 hW9 x0 x1 x2 x3 x4 x5 x6
        go_wp2
        go_quiet (fail)
        go_wp2
        go_ret
        exact ⟨rfl, by repeat (first | exact HB11.out | apply below_drewN | refine Below.drew ?_)⟩
end Go.Proofs.YtknibfhoecgjlaaGreatDoor
namespace Go.Proofs.YtknibfhoecgjlaaGreatDoor
open Go.RowKit
set_option linter.unusedVariables false
--BEGIN
mutual
theorem sameE_refl (b : Bool) : ∀ x : Ex, sameE b x x = true
  | .node o n t k s p l => by
    rw [sameE, sameL_refl b l]
    simp
theorem sameL_refl (b : Bool) : ∀ l : List Ex, sameL b l l = true
  | [] => by rw [sameL]
  | x :: xs => by rw [sameL, sameE_refl b x, sameL_refl b xs]; rfl
end
theorem cols_mem {y : List UInt8} {z : Ex} : ∀ {l : List Ex}, z ∈ l → y ∈ colsP z → y ∈ colssP l
  | x :: xs, h, hy => by
    rw [colssP]
    rcases List.mem_cons.1 h with rfl | h
    · exact List.mem_append_left _ hy
    · exact List.mem_append_right _ (cols_mem h hy)
theorem mem_cols {y : List UInt8} : ∀ {l : List Ex}, y ∈ colssP l → ∃ z ∈ l, y ∈ colsP z
  | [], h => by rw [colssP] at h; simp at h
  | x :: xs, h => by
    rw [colssP] at h
    rcases List.mem_append.1 h with h | h
    · exact ⟨x, List.mem_cons_self .., h⟩
    · obtain ⟨z, hz, hy⟩ := mem_cols h
      exact ⟨z, List.mem_cons_of_mem _ hz, hy⟩
theorem cols_part {y : List UInt8} {x z : Ex} (hz : z ∈ x.args) (hy : y ∈ colsP z) : y ∈ colsP x := by
  cases x with
  | node op nm vt vn vs pos l =>
    rw [colsP]
    exact List.mem_append_right _ (cols_mem (show z ∈ l from hz) hy)
theorem ins_cols (op nm : ByteArray) (vt vn : Int) (vs : ByteArray) (pos : Int) (l : List Ex) {y : List UInt8} (h : y ∈ colsP (insP (.node op nm vt vn vs pos l))) : y ∈ colsP (.node op nm vt vn vs pos l) := by
  rcases ins_ways op nm vt vn vs pos l with ⟨v, _, e⟩ | ⟨f, r, z, rfl, _, _, hz, e⟩ | ⟨f, r, z, rfl, _, _, hz, e⟩ | e
  · rw [e, colsP, colssP, if_neg (by decide)] at h
    simp at h
  · rw [e] at h
    exact cols_part (x := .node op nm vt vn vs pos (f :: r)) (List.mem_of_getElem? hz) h
  · rw [e] at h
    exact cols_part (x := .node op nm vt vn vs pos (f :: r)) (List.mem_cons_self (a := f) (l := r)) (cols_part (List.mem_of_getElem? hz) h)
  · rw [e] at h; exact h
/-- It has no other columns. -/
theorem fd_cols : ∀ (x : Ex) (y : List UInt8), y ∈ colsP (fdP x) → y ∈ colsP x := by
  refine Ex.ind fun op nm vt vn vs pos l ih y h => ?_
  rw [fdP_eq] at h
  have h := ins_cols _ _ _ _ _ _ _ h
  rw [colsP] at h ⊢
  rcases List.mem_append.1 h with h | h
  · exact List.mem_append_left _ h
  · obtain ⟨z, hz, hy⟩ := mem_cols h
    obtain ⟨z', hz', rfl⟩ := List.mem_map.1 hz
    exact List.mem_append_right _ (cols_mem hz' (ih z' hz' y hy))
/-- A name put into a list that rises. -/
def insN (n : List UInt8) : List (List UInt8) → List (List UInt8)
  | [] => [n]
  | a :: l => if a = n then a :: l else if a ≤ n then a :: insN n l else n :: a :: l
theorem insN_mem (n y : List UInt8) : ∀ l, y ∈ insN n l ↔ y = n ∨ y ∈ l
  | [] => by simp [insN]
  | a :: l => by
    rw [insN]
    split
    · rename_i h; subst h; simp
    · split
      · rw [List.mem_cons, insN_mem n y l, List.mem_cons]
        constructor
        · rintro (h | h | h)
          · exact .inr (.inl h)
          · exact .inl h
          · exact .inr (.inr h)
        · rintro (h | h | h)
          · exact .inr (.inl h)
          · exact .inl h
          · exact .inr (.inr h)
      · simp
theorem insN_up (n : List UInt8) : ∀ l : List (List UInt8), l.Pairwise (fun a b => a ≤ b ∧ a ≠ b) → (insN n l).Pairwise (fun a b => a ≤ b ∧ a ≠ b)
  | [], _ => by simp [insN]
  | a :: l, h => by
    obtain ⟨h1, h2⟩ := List.pairwise_cons.1 h
    rw [insN]
    split
    · exact h
    · rename_i hne
      split
      · rename_i hle
        refine List.pairwise_cons.2 ⟨fun y hy => ?_, insN_up n l h2⟩
        rcases (insN_mem n y l).1 hy with rfl | hy
        · exact ⟨hle, hne⟩
        · exact h1 y hy
      · rename_i hle
        have hna : n ≤ a := (List.le_total a n).resolve_left hle
        refine List.pairwise_cons.2 ⟨fun y hy => ?_, h⟩
        rcases List.mem_cons.1 hy with rfl | hy
        · exact ⟨hna, fun e => hne e.symm⟩
        · obtain ⟨h3, h4⟩ := h1 y hy
          refine ⟨List.le_trans hna h3, fun e => ?_⟩
          subst e
          exact h4 (List.le_antisymm h3 hna)
/-- The names of the columns in their order, each once. -/
def usP (x : Ex) : List (List UInt8) := (colsP x).foldl (fun l n => insN n l) []
theorem us_gen : ∀ (ns l : List (List UInt8)), l.Pairwise (fun a b => a ≤ b ∧ a ≠ b) → (ns.foldl (fun l n => insN n l) l).Pairwise (fun a b => a ≤ b ∧ a ≠ b) ∧ ∀ y, y ∈ ns.foldl (fun l n => insN n l) l ↔ y ∈ l ∨ y ∈ ns
  | [], l, h => ⟨h, fun y => by simp⟩
  | n :: ns, l, h => by
    rw [List.foldl_cons]
    obtain ⟨h1, h2⟩ := us_gen ns (insN n l) (insN_up n l h)
    refine ⟨h1, fun y => ?_⟩
    rw [h2, insN_mem, List.mem_cons]
    constructor
    · rintro ((h | h) | h)
      · exact .inr (.inl h)
      · exact .inl h
      · exact .inr (.inr h)
    · rintro (h | h | h)
      · exact .inl (.inr h)
      · exact .inl (.inl h)
      · exact .inr h
theorem us_nmS (x : Ex) : NmS (usP x) x := by
  obtain ⟨h1, h2⟩ := us_gen (colsP x) [] List.Pairwise.nil
  exact ⟨h1, fun y => by rw [usP, h2]; simp⟩
theorem up_unique {a b : List (List UInt8)} (ha : a.Pairwise (fun a b => a ≤ b ∧ a ≠ b)) (hb : b.Pairwise (fun a b => a ≤ b ∧ a ≠ b)) (h : ∀ y, y ∈ a ↔ y ∈ b) : a = b := by
  have hp : a.Perm b := (List.perm_ext_iff_of_nodup (ha.imp fun h => h.2) (hb.imp fun h => h.2)).2 h
  exact List.Perm.eq_of_pairwise (le := fun a b => a ≤ b) (fun a b _ _ h1 h2 => List.le_antisymm h1 h2) (ha.imp fun h => h.1) (hb.imp fun h => h.1) hp
theorem nmS_eq {ss : List (List UInt8)} {x : Ex} (h : NmS ss x) : ss = usP x := up_unique h.1 (us_nmS x).1 fun y => by rw [h.2, (us_nmS x).2]
theorem ck_lims {x : Ex} (h : ckP x = 0) : x.size ≤ 200 ∧ x.deep ≤ 30 := by
  have h1 := (ckP_zero h).1
  rw [tg_small, Ex.small] at h1
  simp only [Bool.not_eq_false', Bool.and_eq_true, decide_eq_true_eq] at h1
  exact h1
theorem ck_of {x : Ex} (h1 : x.size ≤ 200) (h2 : x.deep ≤ 30) (h3 : AllN (fun q => nodeE q = 0) x) : ckP x = 0 := by
  rw [ckP, tg_small, if_neg (by rw [Ex.small]; simp; omega)]
  have := (allN_pre x 1).2 h3
  have key : ∀ l : List (Ex × Nat), (∀ q ∈ l, nodeE q.1 = 0) → (foldP fck 0 l).1 = 0 := fun l => by
    induction l with
    | nil => intro _; rfl
    | cons q l ih =>
      intro h
      rw [foldP]
      have h0 := h q (List.mem_cons_self ..)
      have e : fck 0 q.1 q.2 = (0, true) := by rw [fck, h0]; rfl
      rw [e]
      exact ih fun q hq => h q (List.mem_cons_of_mem _ hq)
  exact key _ this
/-- Made short it is right as a whole, over the same columns. -/
theorem fd_of {zs : List (ByteArray × Int)} {x : Ex} {T P : Int} (h : ofP zs x = (T, 0, P)) (hb : ExB x) : ofP zs (fdP x) = (T, 0, 0) ∧ ckP (fdP x) = 0 ∧ ExB (fdP x) := by
  have h0 : (ofP zs x).2.1 = 0 := by rw [h]
  have hck : ckP x = 0 := by
    by_cases hc : ckP x = 0
    · exact hc
    · rw [ofP, if_pos hc] at h0; exact absurd h0 hc
  have hs : schE zs = 0 := by
    by_cases hc : schE zs = 0
    · exact hc
    · rw [ofP, if_neg (fun hh => hh hck), if_pos hc] at h0; exact absurd h0 hc
  rw [ofP, if_neg (fun hh => hh hck), if_neg (fun hh => hh hs)] at h
  have hr : Rg zs T x := ⟨(allN_pre x 1).1 (ckP_zero hck).2, (allN_pre x 1).1 hb, by rw [ty_zero (by rw [h]), h]⟩
  obtain ⟨r1, -⟩ := fd_right x T hr
  have hz := fd_size x
  obtain ⟨s1, s2⟩ := ck_lims hck
  have hc' := ck_of (x := fdP x) (by omega) (by omega) r1.nd
  exact ⟨by rw [ofP, if_neg (fun hh => hh hc'), if_neg (fun hh => hh hs), r1.ty], hc', (allN_pre _ 1).2 r1.bd⟩
--END
end Go.Proofs.YtknibfhoecgjlaaGreatDoor
namespace Go.Proofs.YtknibfhoecgjlaaGreatDoor
open Go.RowKit
set_option linter.unusedVariables false

/-- What short gives, of what is right. -/
def ShortC : Prop := ∀ (zs : List (ByteArray × Int)) (x : Ex) (T : Int) (lo : Nat → Prop) (v : Value) (w : World), Rg zs T x → REnv w → ExIn w lo v x → Calls Tryz.prog 23 #[v] w fun e w' => (∃ u, e = .returned u ∧ ExIn w' (fun b => w.heap.size ≤ b) u (fdP x)) ∧ Below w.heap.size w w'
def baL (l : List UInt8) : ByteArray := ⟨l.toArray⟩
theorem own_strs {W : World} {B : Nat} {v : Value} {n : Nat} {ss : List (List UInt8)} (hn : ss.length = n) (hl : n ≤ maxLen) (h : W.ownsRow B 9 1 v n (ss.map encStr)) : StrsV W v (ss.map baL) := by
  obtain ⟨q, c, rfl⟩ := lown_slice h
  refine ⟨q, c, by rw [List.length_map, hn], by rw [List.length_map, hn]; exact hl, ?_⟩
  rcases id h.2 with ⟨_, e⟩ | ⟨g, cap, cur, e1, hb, hg, hm, hx, hs, ht⟩
  · exact .inl (by rw [List.length_map, hn, e])
  · injection e1 with e1 e2 e3
    subst e1
    refine .inr ⟨g, 0, rfl, (Array.getElem?_eq_some_iff.1 hg).1, fun j hj => ?_⟩
    have hj2 : j < ss.length := by simpa using hj
    have := h.cells (g := g) rfl j (encStr ss[j]) (by rw [List.getElem?_map, List.getElem?_eq_getElem hj2]; rfl)
    rw [Go.WideShapes.add_plain] at this
    rw [List.getElem_map]
    exact this
theorem same_fold (hS : ShortC) (x : Ex) (lo : Nat → Prop) (v vl vr : Value) (zs : List (ByteArray × Int)) (rs : List V3) (w : World) (henv : KEnv w) (hx : ExIn w lo v x) (hsz : (x.pre 1).length ≤ 1048576) (hxb : ExB x) (hcv : ColsV w vl zs) (hrv : ValsV w vr rs) (hrs : SizedV rs) :
    Calls Tryz.prog 4 #[v, vl, vr] w fun e w' => e = .returned (.bool true) ∧ Below w.heap.size w w' := by
  obtain ⟨o1, n1, t1, k1, s1, p1, m1, c1, a1, rfl⟩ := hx.agg
  obtain ⟨⟨T, H, P⟩, hof⟩ : ∃ r, ofP zs x = r := ⟨_, rfl⟩
  obtain ⟨⟨⟨vt, vk, vs⟩, ve⟩, hev⟩ : ∃ r, evP zs rs x = r := ⟨_, rfl⟩
  have hlow : ∀ {W : World} {lo : Nat → Prop} {u : Value} {y : Ex}, ExIn W lo u y → ExIn W (fun _ => True) u y := fun h => ExIn.low (fun _ _ _ => trivial) _ _ h
  have hpl := size_pre x 1
  have hpf := size_pre (fdP x) 1
  have hfz := fd_size x
  have hfs : ((fdP x).pre 1).length ≤ 1048576 := by omega
  have hfx : H = 0 → ofP zs (fdP x) = (T, 0, 0) ∧ ckP (fdP x) = 0 ∧ ExB (fdP x) := fun h => by subst h; exact fd_of hof hxb
  have hck : H = 0 → ckP x = 0 := fun h => by
    subst h
    have h0 : (ofP zs x).2.1 = 0 := by rw [hof]
    by_cases hc : ckP x = 0
    · exact hc
    · rw [ofP, if_pos hc] at h0; exact absurd h0 hc
  have uses : ∀ (y : Ex) (lo : Nat → Prop) (u : Value) (W : World), KEnv W → ExIn W lo u y → (y.pre 1).length ≤ 1048576 → ckP y = 0 → Calls Tryz.prog 12 #[u] W fun e w' => (∃ u', e = .returned (.tuple #[u', .nilIface]) ∧ StrsV w' u' ((usP y).map baL)) ∧ Below W.heap.size W w' := fun y lo u W hE hy hp hc => by
    refine (uses_any y lo u W hE.tenv hy hp).mono ?_
    rintro e w' ⟨⟨u', rfl, h1, -⟩, hb⟩
    obtain ⟨ss, hs, hrow⟩ := h1.out hc
    have he := nmS_eq hs
    subst he
    refine ⟨⟨u', by rw [hc]; rfl, own_strs rfl ?_ hrow⟩, hb⟩
    rcases id hrow.2 with ⟨_, e⟩ | ⟨g, cap, cur, e1, hB, hg, hm, hx, hs', ht⟩
    · rw [e]; exact Nat.zero_le _
    · omega
  have evx : H = 0 → ∃ ee, evP zs rs (fdP x) = ((vt, vk, vs), ee) ∧ (ve = 0 ↔ ee = 0) := fun h => by
    subst h
    obtain ⟨f1, f2, f3⟩ := hfx rfl
    rw [evP, if_neg (by rw [hof]; simp)] at hev
    rw [evP, if_neg (by rw [f1]; simp)]
    by_cases hK : rowChk zs rs = 0
    · rw [if_neg (by simp [hK])] at hev ⊢
      obtain ⟨hrow, -⟩ := rowR_of hK hrs
      rw [(fd_right x T (rg_of hof hxb)).2 rs hrow, hev]
      exact ⟨ve, rfl, Iff.rfl⟩
    · rw [if_pos hK] at hev ⊢
      rw [hev]
      exact ⟨ve, rfl, Iff.rfl⟩
  have mk : ∀ ee, (H = 0 → evP zs rs (fdP x) = ((vt, vk, vs), ee)) → FsC w (.agg #[.string o1, .string n1, .int .i64 t1, .int .i64 k1, .string s1, .slice p1 m1 c1, .int .i64 a1]) vl vr (fdP x) H ((x.pre 1).length : Int) (((fdP x).pre 1).length : Int) ((usP x).map baL) ((usP (fdP x)).map baL) (vt, vk, vs) (errV ve) (errV ee) := fun ee hee => by
    refine ⟨fun W gt gc b h1 h2 => ?_, fun W b => ?_, fun hH W u b hu => ?_, fun hH W u u' hu hu' => ?_, fun W b => size_any x lo _ W (hx.on b) hsz, fun hH W u hu => size_any (fdP x) _ u W hu hfs, fun hH W u b hu => ?_, fun hH W b => uses x lo _ W (henv.on b) (hx.on b) hsz (hck hH), fun hH W u b hu => uses (fdP x) _ u W (henv.on b) hu hfs (hfx hH).2.1, fun W b => eval_any x lo _ vl vr zs rs W (henv.on b) (hx.on b) hsz hxb (hcv.on b) (hrv.on b) hrs vt vk vs ve hev, fun hH W u b hu => eval_any (fdP x) _ u vl vr zs rs W (henv.on b) hu hfs (hfx hH).2.2 (hcv.on b) (hrv.on b) hrs vt vk vs ee (hee hH)⟩
    · refine (fold_any (hS _) twoX _ _ _ W (henv.on b) h1 two_pre two_bd h2 1 0 0 two_of).mono ?_
      rintro e w' ⟨⟨u, rfl, g1, -⟩, hb⟩
      have hu := g1.out rfl
      rw [two_fd, ExIn] at hu
      obtain ⟨p', c', rfl, -⟩ := hu
      exact ⟨⟨p', c', rfl⟩, hb⟩
    · exact fold_any (hS zs) x lo _ vl W (henv.on b) (hx.on b) hsz hxb (hcv.on b) T H P hof
    · obtain ⟨f1, f2, f3⟩ := hfx hH
      refine (fold_any (hS zs) (fdP x) _ u vl W (henv.on b) hu hfs f3 (hcv.on b) T 0 0 f1).mono ?_
      rintro e w' ⟨⟨u', rfl, g1, -⟩, hb⟩
      have hu' := g1.out rfl
      rw [fd_fd] at hu'
      exact ⟨⟨u', rfl, hlow hu'⟩, hb⟩
    · have := treeSame_any (fdP x) (fdP x) _ u u' W hu hu' (by omega)
      rw [sameE_refl] at this
      exact this
    · have := check_tree (fdP x) _ u W (henv.on b).tenv hu hfs
      rw [(hfx hH).2.1] at this
      exact this
  obtain ⟨pz, cz, rfl, -⟩ := id hcv
  obtain ⟨q, cq, rfl, -, -⟩ := id hrv
  by_cases hH : H = 0
  · subst hH
    obtain ⟨ee, he, hz⟩ := evx rfl
    have c := mk ee (fun _ => he)
    have hsz2 : ¬ ((x.pre 1).length : Int) < (((fdP x).pre 1).length : Int) := by omega
    have hnn : ∀ y ∈ (usP (fdP x)).map baL, y ∈ (usP x).map baL := fun y hy => by
      obtain ⟨z, hz, rfl⟩ := List.mem_map.1 hy
      exact List.mem_map.2 ⟨z, ((us_nmS x).2 z).2 (fd_cols x z (((us_nmS (fdP x)).2 z).1 hz)), rfl⟩
    by_cases hve : ve = 0
    · have hee := hz.1 hve
      subst hve hee
      exact fs_val w o1 n1 t1 k1 s1 p1 m1 c1 a1 pz _ cz q _ cq (fdP x) 0 _ _ _ _ _ .nilIface .nilIface hsz2 hnn c
    · have hee : ee ≠ 0 := fun h => hve (hz.2 h)
      rw [show errV ve = .iface 57 (.int .i64 ve) by rw [errV, if_neg hve], show errV ee = .iface 57 (.int .i64 ee) by rw [errV, if_neg hee]] at c
      exact fs_err w o1 n1 t1 k1 s1 p1 m1 c1 a1 pz _ cz q _ cq (fdP x) 0 _ _ _ _ _ .nilIface .nilIface ve ee hsz2 hnn c
  · exact fs_bad w o1 n1 t1 k1 s1 p1 m1 c1 a1 pz _ cz q _ cq (fdP x) H _ _ _ _ _ _ _ hH (mk 0 (fun h => absurd h hH))
end Go.Proofs.YtknibfhoecgjlaaGreatDoor
namespace Go.Proofs.YtknibfhoecgjlaaGreatDoor
open Go.RowKit
set_option linter.unusedVariables false

theorem info_exF : (Tryz.prog.info? 26).map (fun i => (i.zero, i.size, i.bytes)) = some (some (.agg #[.string ⟨#[]⟩, .string ⟨#[]⟩, .int .i64 0, .int .i64 0, .string ⟨#[]⟩, .slice none 0 0, .int .i64 0]), 7, 96) := by kernel_rfl
/-- append to a slice that is one's own, inside a statement that draws its order: the new slice lies where the old one lay, or in a new block. -/
theorem step_append_new {P : Program} {ops : Array Oper} {o : Oper} {a : Act} {w : World} {K : Act → World → Prop} {Q : Exit → Act → World → Prop} {E : Prop}
    (hg : o.guard = none) (s x : Operand) (t : TypeId) (hop : o.op = Op.call { callee := Callee.builtin Builtin.append, args := #[s, x], argTypes := #[t, t] })
    (base : Nat) (e : TypeId) (i : TypeInfo) (z : Value) (size bytes : Nat) (h1 : P.underlying t = some (.slice e)) (h2 : P.info? e = some i) (h3 : i.zero = some z) (h4 : i.size = size) (h5 : i.bytes = bytes) (h6 : z.cells.size = size) (h7 : 0 < size)
    (v : Value) (n : Nat) (xs : List Value) (hs : a.eval s = v) (hown : w.ownsRow base e size v n xs)
    (ad : Addr) (m c : Nat) (news : List Value) (hx : a.eval x = .slice (some ad) m c) (hn : news.length = m * size) (hc : ∀ j u, news[j]? = some u → w.cell? (ad.add j) = some u) (h1c : ∀ u ∈ news, u.oneCell' = true) (hm : 0 < m)
    (b1 : n + m ≤ maxLen) (b2 : (n + m) * bytes ≤ 140737488355328) (hb : base ≤ w.heap.size)
    (hK : ∀ q' c' w', w'.ownsRow base e size (.slice q' (n + m) c') (n + m) (xs ++ news) → w.grownBy w' v.ownBlock → ((Value.slice q' (n + m) c').ownBlock = v.ownBlock ∨ (Value.slice q' (n + m) c').ownBlock = some w.heap.size) → K (a.put o.dst (.slice q' (n + m) c')) w') :
    if Region.wanted o (yielded ops a.tmps) = true then Oper.wp P o a w K Q else E := by
  have hw : Region.wanted o (yielded ops a.tmps) = true := by simp [Region.wanted, hg]
  rw [if_pos hw]
  obtain ⟨v', w', hrun, r1, r2, _⟩ := run_append_own (P := P) w base t o.type e i z size bytes h1 h2 h3 h4 h5 h6 h7 v n xs hown ad m c news hn hc h1c b1 b2 hb
  have h5' : v'.ownBlock = v.ownBlock ∨ v'.ownBlock = some w.heap.size := by
    subst h4
    subst h5
    exact append_block w base t o.type e i z h1 h2 h3 v n xs hown ad m c news hn hc h1c hm b1 b2 hrun
  obtain ⟨q', c', rfl⟩ := lown_slice r1
  unfold Oper.wp
  simp [execOp, hop, resolve, invoke, builtin, hs, hx, hrun, Result.andThen]
  exact hK q' c' w' r1 r2 h5'
theorem one7 (o n : ByteArray) (t k : Int) (s : ByteArray) (p : Option Addr) (m c : Nat) (a : Int) : ∀ u ∈ ([.string o, .string n, .int .i64 t, .int .i64 k, .string s, .slice p m c, .int .i64 a] : List Value), u.oneCell' = true := by
  intro u hu
  simp at hu
  rcases hu with rfl | rfl | rfl | rfl | rfl | rfl | rfl <;> rfl
theorem grown_box {w4 w9 : World} {ob : Obj} {row : Option Nat} {b o : Nat} {v : Value} (hg : (w4.alloc ob).grownBy w9 row) (hb : b < w4.heap.size) (hne : some b ≠ row) (hc : w4.cell? ⟨b, o, none⟩ = some v) (hf : w4.frozen? ⟨b, o, none⟩ = false) : w9.cell? ⟨b, o, none⟩ = some v ∧ w9.frozen? ⟨b, o, none⟩ = false ∧ b < w9.heap.size := by
  have hA : Below w4.heap.size w4 (w4.alloc ob) := (Below.refl _ w4).alloc (Nat.le_refl _) ob
  have hk := hg.block b (by simp; omega) hne
  have hs := hg.size
  simp at hs
  refine ⟨?_, ?_, by omega⟩
  · rw [World.cell?_of_block (w := w4.alloc ob) (a := ⟨b, o, none⟩) hk, hA.cell (p := ⟨b, o, none⟩) hb]; exact hc
  · have e : w9.frozen? ⟨b, o, none⟩ = (w4.alloc ob).frozen? ⟨b, o, none⟩ := by simp only [World.frozen?, hk]
    rw [e, hA.frozen (p := ⟨b, o, none⟩) hb]; exact hf
theorem args_push {wr W w9 : World} {B k cp c9 : Nat} {q q9 : Option Addr} {xs : List Ex} {cs : List Value} {b0 b1 b2 b3 b4 b5 b6 : Value} {x : Ex} (h1 : wr.ownsRow B 26 7 (.slice q k cp) k cs) (hlen : xs.length = k)
    (pR : ∀ j (h : j < xs.length), ∃ a0 a1 a2 a3 a4 a5 a6, cs[j * 7]? = some a0 ∧ cs[j * 7 + 1]? = some a1 ∧ cs[j * 7 + 2]? = some a2 ∧ cs[j * 7 + 3]? = some a3 ∧ cs[j * 7 + 4]? = some a4 ∧ cs[j * 7 + 5]? = some a5 ∧ cs[j * 7 + 6]? = some a6 ∧ ExIn wr (fun b => B ≤ b ∧ some b ≠ (Value.slice q k cp).ownBlock) (.agg #[a0, a1, a2, a3, a4, a5, a6]) xs[j])
    (bW : Below wr.heap.size wr W) (hB : B ≤ wr.heap.size) (hx : ExIn W (fun b => wr.heap.size ≤ b) (.agg #[b0, b1, b2, b3, b4, b5, b6]) x) (hown' : w9.ownsRow B 26 7 (.slice q9 (k + 1) c9) (k + 1) (cs ++ [b0, b1, b2, b3, b4, b5, b6])) (hg : W.grownBy w9 (Value.slice q k cp).ownBlock)
    (hf : (Value.slice q9 (k + 1) c9).ownBlock = (Value.slice q k cp).ownBlock ∨ (Value.slice q9 (k + 1) c9).ownBlock = some W.heap.size) : ArgsOwn w9 B (.slice q9 (k + 1) c9) (xs ++ [x]) := by
  subst hlen
  have hob : ∀ j, (Value.slice q xs.length cp).ownBlock = some j → j < wr.heap.size := fun j hj => (h1.lt j hj).2
  refine ArgsOwn.push (w := W) (lown_below h1 bW) (fun j hj => ?_) (ExIn.low (fun b _ hb => ⟨by omega, fun e => by have := hob b e.symm; omega⟩) _ _ hx) hown' hg hf
  obtain ⟨a0, a1, a2, a3, a4, a5, a6, e0, e1, e2, e3, e4, e5, e6, hy⟩ := pR j hj
  exact ⟨a0, a1, a2, a3, a4, a5, a6, e0, e1, e2, e3, e4, e5, e6, hy.on bW⟩
theorem short_step {w1 wr w4 w9 : World} {ya ob : Obj} {k cp c9 : Nat} {q q9 : Option Addr} {xs : List Ex} {cs : List Value} {a0 a1 a2 a3 a4 a6 b0 b1 b2 b3 b4 b5 b6 : Value} {x : Ex} (BW : Below w1.heap.size w1 wr) (BX : Box7 wr w1.heap.size a0 a1 a2 a3 a4 (.slice q k cp) a6) (h1 : wr.ownsRow (w1.heap.size + 1) 26 7 (.slice q k cp) k cs) (hlen : xs.length = k)
    (pR : ∀ j (h : j < xs.length), ∃ a0 a1 a2 a3 a4 a5 a6, cs[j * 7]? = some a0 ∧ cs[j * 7 + 1]? = some a1 ∧ cs[j * 7 + 2]? = some a2 ∧ cs[j * 7 + 3]? = some a3 ∧ cs[j * 7 + 4]? = some a4 ∧ cs[j * 7 + 5]? = some a5 ∧ cs[j * 7 + 6]? = some a6 ∧ ExIn wr (fun b => w1.heap.size + 1 ≤ b ∧ some b ≠ (Value.slice q k cp).ownBlock) (.agg #[a0, a1, a2, a3, a4, a5, a6]) xs[j])
    (Bz : Below (wr.heap.size + 1) (wr.alloc ya) w4) (hx : ExIn w4 (fun b => wr.heap.size + 1 ≤ b) (.agg #[b0, b1, b2, b3, b4, b5, b6]) x) (hown' : w9.ownsRow (w1.heap.size + 1) 26 7 (.slice q9 (k + 1) c9) (k + 1) (cs ++ [b0, b1, b2, b3, b4, b5, b6])) (hg : (w4.alloc ob).grownBy w9 (Value.slice q k cp).ownBlock)
    (hf : (Value.slice q9 (k + 1) c9).ownBlock = (Value.slice q k cp).ownBlock ∨ (Value.slice q9 (k + 1) c9).ownBlock = some (w4.alloc ob).heap.size) :
    Box7 (w9.setCell ⟨w1.heap.size, 5, none⟩ (.slice q9 (k + 1) c9)) w1.heap.size a0 a1 a2 a3 a4 (.slice q9 (k + 1) c9) a6 ∧ ArgsOwn (w9.setCell ⟨w1.heap.size, 5, none⟩ (.slice q9 (k + 1) c9)) (w1.heap.size + 1) (.slice q9 (k + 1) c9) (xs ++ [x]) ∧ Below w1.heap.size w1 (w9.setCell ⟨w1.heap.size, 5, none⟩ (.slice q9 (k + 1) c9)) := by
  have hl := BX.lt
  have bW : Below wr.heap.size wr (w4.alloc ob) := (((Below.refl _ wr).alloc (Nat.le_refl _) ya).trans (Bz.mono (by omega))).alloc (by have := Bz.size; simp at this; omega) ob
  have hsW := bW.size
  have hob : ∀ j, (Value.slice q k cp).ownBlock = some j → w1.heap.size + 1 ≤ j := fun j hj => (h1.lt j hj).1
  have hA := args_push h1 hlen pR bW (by omega) (ExIn.low (fun b _ hb => by omega) _ _ (hx.on ((Below.refl _ w4).alloc (Nat.le_refl _) ob))) hown' hg hf
  have hne : ∀ o, w9.cell? ⟨w1.heap.size, o, none⟩ = wr.cell? ⟨w1.heap.size, o, none⟩ := fun o => by
    rw [World.cell?_of_block (w := w4.alloc ob) (a := ⟨w1.heap.size, o, none⟩) (hg.block w1.heap.size (by omega) (fun e => by have := hob _ e.symm; omega)), bW.cell (p := ⟨w1.heap.size, o, none⟩) hl]
  have hnf : ∀ o, w9.frozen? ⟨w1.heap.size, o, none⟩ = false := fun o => by
    rw [World.frozen?_of_block (w := w4.alloc ob) (a := ⟨w1.heap.size, o, none⟩) (hg.block w1.heap.size (by omega) (fun e => by have := hob _ e.symm; omega)), bW.frozen (p := ⟨w1.heap.size, o, none⟩) hl]
    exact BX.fz o
  have hs9 := hg.size
  refine ⟨⟨?_, ?_, ?_, ?_, ?_, ?_, ?_, fun o => ?_, by simp [World.setCell]; omega⟩, hA.but ((But.refl w1.heap.size w9).set 5 _) (by omega), ?_⟩
  · have h := BX.c0; rw [← hne] at h; simp [World.cell?_setCell_other, h]
  · have h := BX.c1; rw [← hne] at h; simp [World.cell?_setCell_other, h]
  · have h := BX.c2; rw [← hne] at h; simp [World.cell?_setCell_other, h]
  · have h := BX.c3; rw [← hne] at h; simp [World.cell?_setCell_other, h]
  · have h := BX.c4; rw [← hne] at h; simp [World.cell?_setCell_other, h]
  · have h := BX.c5; rw [← hne] at h; simp [World.cell?_setCell_same, h]
  · have h := BX.c6; rw [← hne] at h; simp [World.cell?_setCell_other, h]
  · simpa using hnf o
  · exact ((BW.trans (bW.mono (by omega))).grown hg (by omega) (fun j hj => by have := hob j hj; omega)).setCell (p := ⟨w1.heap.size, 5, none⟩) (Nat.le_refl _) _
theorem Box7.below {w w' : World} {n b : Nat} {a0 a1 a2 a3 a4 a5 a6 : Value} (h : Box7 w b a0 a1 a2 a3 a4 a5 a6) (hb : Below n w w') (hn : b < n) : Box7 w' b a0 a1 a2 a3 a4 a5 a6 := by
  have hc : ∀ o, w'.cell? ⟨b, o, none⟩ = w.cell? ⟨b, o, none⟩ := fun o => hb.cell (p := ⟨b, o, none⟩) hn
  exact ⟨by rw [hc]; exact h.c0, by rw [hc]; exact h.c1, by rw [hc]; exact h.c2, by rw [hc]; exact h.c3, by rw [hc]; exact h.c4, by rw [hc]; exact h.c5, by rw [hc]; exact h.c6, fun o => by rw [hb.frozen (p := ⟨b, o, none⟩) hn]; exact h.fz o, by have := h.lt; have := hb.size; omega⟩
theorem fd_take {l : List Ex} {k : Nat} (h : k < l.length) : (l.map fdP).take (k + 1) = (l.map fdP).take k ++ [fdP l[k]] := by
  rw [List.take_succ_eq_append_getElem (by rw [List.length_map]; exact h), List.getElem_map]
/-- What is asked of a node's texts. -/
def TxS (x : Ex) : Prop := AllN (fun q => q.op.size ≤ 400 ∧ q.nm.size ≤ 400 ∧ q.vs.size ≤ 400 ∧ q.args.length ≤ 3) x
end Go.Proofs.YtknibfhoecgjlaaGreatDoor
