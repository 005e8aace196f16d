/-
  The walk of sluicelaw4.TreeBinds, for all pairs of numbers.
-/
import Derived.Test.YtomakklbfjkdpaaGreatDoorTreeBd
import Derived.Test.YtomakklbfjkdpaaGreatDoorTreeSame
import Derived.BigQuiet
import Derived.Deep.RegionHeld3
import Derived.Deep.QuietTactic
import Derived.RegionTactic
import Derived.ChangeAlike
namespace Go.Proofs.YtomakklbfjkdpaaGreatDoor
open Go.RowKit Go.BigFrame
set_option linter.unusedVariables false

def sgV : Array Value := #[.string ⟨#[111, 114]⟩, .string ⟨#[97, 110, 100]⟩, .string ⟨#[61]⟩, .string ⟨#[60]⟩, .string ⟨#[43]⟩, .string ⟨#[45]⟩, .string ⟨#[42]⟩, .string ⟨#[47]⟩, .string ⟨#[37]⟩]
def lvV : Array Value := #[.int .i64 0, .int .i64 1, .int .i64 2, .int .i64 2, .int .i64 3, .int .i64 3, .int .i64 4, .int .i64 4, .int .i64 4]
theorem sg_at : ∀ (k : Nat) (h : k < 9), ∃ S : ByteArray, sgV[k]? = some (.string S) ∧ S.data.toList = bdS[k]'h ∧ S.size ≤ 3
  | 0, _ => ⟨_, rfl, rfl, by decide⟩
  | 1, _ => ⟨_, rfl, rfl, by decide⟩
  | 2, _ => ⟨_, rfl, rfl, by decide⟩
  | 3, _ => ⟨_, rfl, rfl, by decide⟩
  | 4, _ => ⟨_, rfl, rfl, by decide⟩
  | 5, _ => ⟨_, rfl, rfl, by decide⟩
  | 6, _ => ⟨_, rfl, rfl, by decide⟩
  | 7, _ => ⟨_, rfl, rfl, by decide⟩
  | 8, _ => ⟨_, rfl, rfl, by decide⟩
  | k + 9, h => absurd h (by omega)
theorem lv_at : ∀ (k : Nat) (h : k < 9), ∃ L : Nat, lvV[k]? = some (.int .i64 (L : Int)) ∧ bdL[k]'h = L ∧ L ≤ 4
  | 0, _ => ⟨0, rfl, rfl, by decide⟩
  | 1, _ => ⟨1, rfl, rfl, by decide⟩
  | 2, _ => ⟨2, rfl, rfl, by decide⟩
  | 3, _ => ⟨2, rfl, rfl, by decide⟩
  | 4, _ => ⟨3, rfl, rfl, by decide⟩
  | 5, _ => ⟨3, rfl, rfl, by decide⟩
  | 6, _ => ⟨4, rfl, rfl, by decide⟩
  | 7, _ => ⟨4, rfl, rfl, by decide⟩
  | 8, _ => ⟨4, rfl, rfl, by decide⟩
  | k + 9, h => absurd h (by omega)
theorem box2_at (w : World) (n : Nat) (hn : n = w.heap.size) (a0 a1 : Value) (t : TypeId) : Box2 (w.alloc (.cells #[a0, a1] t)) n a0 a1 := by
  subst hn
  refine ⟨?_, ?_, fun o => World.frozen?_alloc_at _ _ _ _ rfl, by simp⟩
  all_goals (rw [World.cell?_alloc_at _ _ _ _ rfl]; rfl)
theorem Box2.drew {w : World} {b : Nat} {a0 a1 : Value} (h : Box2 w b a0 a1) : Box2 w.drew b a0 a1 := ⟨h.c0, h.c1, h.fz, h.lt⟩
theorem Box7.drew {w : World} {b : Nat} {a0 a1 a2 a3 a4 a5 a6 : Value} (h : Box7 w b a0 a1 a2 a3 a4 a5 a6) : Box7 w.drew b a0 a1 a2 a3 a4 a5 a6 := ⟨h.c0, h.c1, h.c2, h.c3, h.c4, h.c5, h.c6, h.fz, h.lt⟩
theorem size_al (w : World) (o : Obj) : w.heap.size + 1 = (w.alloc o).heap.size := by simp
/-- Two results of a call, each in its own variable: the cells, and that all the rest is kept. -/
def Rel5 (W2 wc : World) (be bf : Nat) (A : Array Value) (E : Int) (P : Nat) (X : Ex) : Prop := (∀ i, i < 7 → wc.cell? ⟨be, i, none⟩ = A[i]?) ∧ wc.cell? ⟨bf, 0, none⟩ = some (.int .i64 E) ∧ wc.cell? ⟨bf, 1, none⟩ = some (.int .i64 (P : Nat)) ∧ be < wc.heap.size ∧ bf < wc.heap.size ∧ ExIn wc (W2.heap.size ≤ ·) (.agg A) X ∧ Below W2.heap.size W2 wc
theorem box7_cells {w : World} {b : Nat} {a0 a1 a2 a3 a4 a5 a6 : Value} (h : Box7 w b a0 a1 a2 a3 a4 a5 a6) : ∀ i, i < 7 → w.cell? ⟨b, i, none⟩ = (#[a0, a1, a2, a3, a4, a5, a6] : Array Value)[i]?
  | 0, _ => h.c0
  | 1, _ => h.c1
  | 2, _ => h.c2
  | 3, _ => h.c3
  | 4, _ => h.c4
  | 5, _ => h.c5
  | 6, _ => h.c6
  | i + 7, h => absurd h (by omega)
theorem far1 {w : World} {z b i o : Nat} (h : b ≠ z) (v : Value) : (w.setCell ⟨z, i, none⟩ v).cell? ⟨b, o, none⟩ = w.cell? ⟨b, o, none⟩ := World.cell?_setCell_far w ⟨z, i, none⟩ ⟨b, o, none⟩ v (fun e => h e.symm)
theorem Box2.set {w : World} {b : Nat} {a0 a1 : Value} (h : Box2 w b a0 a1) (v0 v1 : Value) : Box2 ((w.setCell ⟨b, 0, none⟩ v0).setCell ⟨b, 1, none⟩ v1) b v0 v1 := by
  obtain ⟨c0, c1, fz, lt⟩ := h
  refine ⟨?_, ?_, fun o => by simpa using fz o, by simpa [World.setCell] using lt⟩
  all_goals simp [World.cell?_setCell_other, World.cell?_setCell_same, c0, c1]
theorem Box2.far7 {w : World} {b z : Nat} {a0 a1 : Value} (h : Box2 w b a0 a1) (hz : b ≠ z) (v0 v1 v2 v3 v4 v5 v6 : Value) : Box2 (((((((w.setCell ⟨z, 0, none⟩ v0).setCell ⟨z, 1, none⟩ v1).setCell ⟨z, 2, none⟩ v2).setCell ⟨z, 3, none⟩ v3).setCell ⟨z, 4, none⟩ v4).setCell ⟨z, 5, none⟩ v5).setCell ⟨z, 6, none⟩ v6) b a0 a1 := by
  obtain ⟨c0, c1, fz, lt⟩ := h
  refine ⟨?_, ?_, fun o => by simpa using fz o, by simpa [World.setCell] using lt⟩
  all_goals (rw [far1 hz, far1 hz, far1 hz, far1 hz, far1 hz, far1 hz, far1 hz]; assumption)
theorem Box7.far2 {w : World} {b z : Nat} {a0 a1 a2 a3 a4 a5 a6 : Value} (h : Box7 w b a0 a1 a2 a3 a4 a5 a6) (hz : b ≠ z) (v0 v1 : Value) : Box7 ((w.setCell ⟨z, 0, none⟩ v0).setCell ⟨z, 1, none⟩ v1) b a0 a1 a2 a3 a4 a5 a6 := by
  obtain ⟨c0, c1, c2, c3, c4, c5, c6, fz, lt⟩ := h
  refine ⟨?_, ?_, ?_, ?_, ?_, ?_, ?_, fun o => by simpa using fz o, by simpa [World.setCell] using lt⟩
  all_goals (rw [far1 hz, far1 hz]; assumption)
theorem rel5_1 {W2 w1 : World} {o n s : ByteArray} {t k q E1 : Int} {p : Option Addr} {m c P1 : Nat} {X1 : Ex} (hx : ExIn w1 (W2.heap.size ≤ ·) (.agg #[.string o, .string n, .int .i64 t, .int .i64 k, .string s, .slice p m c, .int .i64 q]) X1) (hb : Below W2.heap.size W2 w1) : Rel5 W2 ((w1.alloc (.cells #[.string o, .string n, .int .i64 t, .int .i64 k, .string s, .slice p m c, .int .i64 q] 26)).alloc (.cells #[.int .i64 E1, .int .i64 (P1 : Nat)] 31)) w1.heap.size (w1.heap.size + 1) #[.string o, .string n, .int .i64 t, .int .i64 k, .string s, .slice p m c, .int .i64 q] E1 P1 X1 := by
  have B1 : Below w1.heap.size w1 ((w1.alloc (.cells #[.string o, .string n, .int .i64 t, .int .i64 k, .string s, .slice p m c, .int .i64 q] 26)).alloc (.cells #[.int .i64 E1, .int .i64 (P1 : Nat)] 31)) := ((Below.refl _ _).alloc (Nat.le_refl _) _).alloc (by simp) _
  have F := box2_at (w1.alloc (.cells #[.string o, .string n, .int .i64 t, .int .i64 k, .string s, .slice p m c, .int .i64 q] 26)) (w1.heap.size + 1) (size_al _ _) (.int .i64 E1) (.int .i64 (P1 : Nat)) 31
  exact ⟨box7_cells (Box7.on (box7_at w1 w1.heap.size rfl (.string o) (.string n) (.int .i64 t) (.int .i64 k) (.string s) (.slice p m c) (.int .i64 q) _) (al _ _)), F.c0, F.c1, by simp; omega, F.lt, hx.on B1, hb.trans (B1.mono hb.size)⟩
theorem rel5_2 {W2 w1 : World} {o n s : ByteArray} {t k q E1 : Int} {p : Option Addr} {m c P1 : Nat} {X1 : Ex} (hx : ExIn w1 (W2.heap.size ≤ ·) (.agg #[.string o, .string n, .int .i64 t, .int .i64 k, .string s, .slice p m c, .int .i64 q]) X1) (hb : Below W2.heap.size W2 w1) : Rel5 W2 ((w1.alloc (.cells #[.int .i64 E1, .int .i64 (P1 : Nat)] 31)).alloc (.cells #[.string o, .string n, .int .i64 t, .int .i64 k, .string s, .slice p m c, .int .i64 q] 26)) (w1.heap.size + 1) w1.heap.size #[.string o, .string n, .int .i64 t, .int .i64 k, .string s, .slice p m c, .int .i64 q] E1 P1 X1 := by
  have B1 : Below w1.heap.size w1 ((w1.alloc (.cells #[.int .i64 E1, .int .i64 (P1 : Nat)] 31)).alloc (.cells #[.string o, .string n, .int .i64 t, .int .i64 k, .string s, .slice p m c, .int .i64 q] 26)) := ((Below.refl _ _).alloc (Nat.le_refl _) _).alloc (by simp) _
  have F := Box2.on (box2_at w1 w1.heap.size rfl (.int .i64 E1) (.int .i64 (P1 : Nat)) 31) (al _ (.cells #[.string o, .string n, .int .i64 t, .int .i64 k, .string s, .slice p m c, .int .i64 q] 26))
  have G := box7_at (w1.alloc (.cells #[.int .i64 E1, .int .i64 (P1 : Nat)] 31)) (w1.heap.size + 1) (size_al _ _) (.string o) (.string n) (.int .i64 t) (.int .i64 k) (.string s) (.slice p m c) (.int .i64 q) 26
  exact ⟨box7_cells G, F.c0, F.c1, G.lt, F.lt, hx.on B1, hb.trans (B1.mono hb.size)⟩
theorem rel5_3 {W2 w1 : World} {o n s : ByteArray} {t k q E1 : Int} {p : Option Addr} {m c P1 : Nat} {X1 : Ex} (hx : ExIn w1 (W2.heap.size + 1 ≤ ·) (.agg #[.string o, .string n, .int .i64 t, .int .i64 k, .string s, .slice p m c, .int .i64 q]) X1) (hb : Below W2.heap.size W2 w1) (h7 : Box7 w1 W2.heap.size (.string ⟨#[]⟩) (.string ⟨#[]⟩) (.int .i64 0) (.int .i64 0) (.string ⟨#[]⟩) (.slice none 0 0) (.int .i64 0)) : Rel5 W2 ((((((((w1.setCell ⟨W2.heap.size, 0, none⟩ (.string o)).setCell ⟨W2.heap.size, 1, none⟩ (.string n)).setCell ⟨W2.heap.size, 2, none⟩ (.int .i64 t)).setCell ⟨W2.heap.size, 3, none⟩ (.int .i64 k)).setCell ⟨W2.heap.size, 4, none⟩ (.string s)).setCell ⟨W2.heap.size, 5, none⟩ (.slice p m c)).setCell ⟨W2.heap.size, 6, none⟩ (.int .i64 q)).alloc (.cells #[.int .i64 E1, .int .i64 (P1 : Nat)] 31)) W2.heap.size w1.heap.size #[.string o, .string n, .int .i64 t, .int .i64 k, .string s, .slice p m c, .int .i64 q] E1 P1 X1 := by
  have hz : (((((((w1.setCell ⟨W2.heap.size, 0, none⟩ (.string o)).setCell ⟨W2.heap.size, 1, none⟩ (.string n)).setCell ⟨W2.heap.size, 2, none⟩ (.int .i64 t)).setCell ⟨W2.heap.size, 3, none⟩ (.int .i64 k)).setCell ⟨W2.heap.size, 4, none⟩ (.string s)).setCell ⟨W2.heap.size, 5, none⟩ (.slice p m c)).setCell ⟨W2.heap.size, 6, none⟩ (.int .i64 q)).heap.size = w1.heap.size := by simp [World.setCell]
  have B1 := below_set7 hb (Nat.le_refl _) (.string o) (.string n) (.int .i64 t) (.int .i64 k) (.string s) (.slice p m c) (.int .i64 q)
  have G := Box7.on (Box7.set h7 (.string o) (.string n) (.int .i64 t) (.int .i64 k) (.string s) (.slice p m c) (.int .i64 q)) (al _ (.cells #[.int .i64 E1, .int .i64 (P1 : Nat)] 31))
  have F := box2_at (((((((w1.setCell ⟨W2.heap.size, 0, none⟩ (.string o)).setCell ⟨W2.heap.size, 1, none⟩ (.string n)).setCell ⟨W2.heap.size, 2, none⟩ (.int .i64 t)).setCell ⟨W2.heap.size, 3, none⟩ (.int .i64 k)).setCell ⟨W2.heap.size, 4, none⟩ (.string s)).setCell ⟨W2.heap.size, 5, none⟩ (.slice p m c)).setCell ⟨W2.heap.size, 6, none⟩ (.int .i64 q)) w1.heap.size hz.symm (.int .i64 E1) (.int .i64 (P1 : Nat)) 31
  refine ⟨box7_cells G, F.c0, F.c1, G.lt, F.lt, ExIn.low (fun b h1 h2 => Nat.le_trans (Nat.le_succ _) h2) _ _ ((ExIn.keep (Nat.le_of_eq hz.symm) (fun b o h1 _ => ?_) _ _ hx).on (al _ _)), B1.trans ((al _ _).mono (by rw [hz]; exact hb.size))⟩
  have hne : b ≠ W2.heap.size := by have h1 : W2.heap.size + 1 ≤ b := h1; omega
  rw [far1 hne, far1 hne, far1 hne, far1 hne, far1 hne, far1 hne, far1 hne]
theorem rel5_4 {W2 w1 : World} {o n s : ByteArray} {t k q E1 : Int} {p : Option Addr} {m c P1 : Nat} {X1 : Ex} (hx : ExIn w1 (W2.heap.size + 2 ≤ ·) (.agg #[.string o, .string n, .int .i64 t, .int .i64 k, .string s, .slice p m c, .int .i64 q]) X1) (hb : Below W2.heap.size W2 w1) (h7 : Box7 w1 W2.heap.size (.string ⟨#[]⟩) (.string ⟨#[]⟩) (.int .i64 0) (.int .i64 0) (.string ⟨#[]⟩) (.slice none 0 0) (.int .i64 0)) (h2 : Box2 w1 (W2.heap.size + 1) (.int .i64 0) (.int .i64 0)) : Rel5 W2 (((((((((w1.setCell ⟨W2.heap.size, 0, none⟩ (.string o)).setCell ⟨W2.heap.size, 1, none⟩ (.string n)).setCell ⟨W2.heap.size, 2, none⟩ (.int .i64 t)).setCell ⟨W2.heap.size, 3, none⟩ (.int .i64 k)).setCell ⟨W2.heap.size, 4, none⟩ (.string s)).setCell ⟨W2.heap.size, 5, none⟩ (.slice p m c)).setCell ⟨W2.heap.size, 6, none⟩ (.int .i64 q)).setCell ⟨W2.heap.size + 1, 0, none⟩ (.int .i64 E1)).setCell ⟨W2.heap.size + 1, 1, none⟩ (.int .i64 (P1 : Nat))) W2.heap.size (W2.heap.size + 1) #[.string o, .string n, .int .i64 t, .int .i64 k, .string s, .slice p m c, .int .i64 q] E1 P1 X1 := by
  have hz : (((((((((w1.setCell ⟨W2.heap.size, 0, none⟩ (.string o)).setCell ⟨W2.heap.size, 1, none⟩ (.string n)).setCell ⟨W2.heap.size, 2, none⟩ (.int .i64 t)).setCell ⟨W2.heap.size, 3, none⟩ (.int .i64 k)).setCell ⟨W2.heap.size, 4, none⟩ (.string s)).setCell ⟨W2.heap.size, 5, none⟩ (.slice p m c)).setCell ⟨W2.heap.size, 6, none⟩ (.int .i64 q)).setCell ⟨W2.heap.size + 1, 0, none⟩ (.int .i64 E1)).setCell ⟨W2.heap.size + 1, 1, none⟩ (.int .i64 (P1 : Nat))).heap.size = w1.heap.size := by simp [World.setCell]
  have B1 := below_set7 hb (Nat.le_refl _) (.string o) (.string n) (.int .i64 t) (.int .i64 k) (.string s) (.slice p m c) (.int .i64 q)
  have G := Box7.far2 (z := W2.heap.size + 1) (Box7.set h7 (.string o) (.string n) (.int .i64 t) (.int .i64 k) (.string s) (.slice p m c) (.int .i64 q)) (by omega) (.int .i64 E1) (.int .i64 (P1 : Nat))
  have F := Box2.set (Box2.far7 (z := W2.heap.size) h2 (by omega) (.string o) (.string n) (.int .i64 t) (.int .i64 k) (.string s) (.slice p m c) (.int .i64 q)) (.int .i64 E1) (.int .i64 (P1 : Nat))
  refine ⟨box7_cells G, F.c0, F.c1, G.lt, F.lt, ExIn.low (fun b h1 h2 => Nat.le_trans (Nat.le_add_right _ 2) h2) _ _ (ExIn.keep (Nat.le_of_eq hz.symm) (fun b o h1 _ => ?_) _ _ hx), (B1.setCell (p := ⟨W2.heap.size + 1, 0, none⟩) (by simp) _).setCell (p := ⟨W2.heap.size + 1, 1, none⟩) (by simp) _⟩
  have h1 : W2.heap.size + 2 ≤ b := h1
  have hne : b ≠ W2.heap.size := by omega
  have hne' : b ≠ W2.heap.size + 1 := by omega
  rw [far1 hne', far1 hne', far1 hne, far1 hne, far1 hne, far1 hne, far1 hne, far1 hne, far1 hne]
theorem rel5_5 {W2 w1 : World} {o n s : ByteArray} {t k q E1 : Int} {p : Option Addr} {m c P1 : Nat} {X1 : Ex} (hx : ExIn w1 (W2.heap.size + 1 ≤ ·) (.agg #[.string o, .string n, .int .i64 t, .int .i64 k, .string s, .slice p m c, .int .i64 q]) X1) (hb : Below W2.heap.size W2 w1) (h2 : Box2 w1 W2.heap.size (.int .i64 0) (.int .i64 0)) : Rel5 W2 (((w1.setCell ⟨W2.heap.size, 0, none⟩ (.int .i64 E1)).setCell ⟨W2.heap.size, 1, none⟩ (.int .i64 (P1 : Nat))).alloc (.cells #[.string o, .string n, .int .i64 t, .int .i64 k, .string s, .slice p m c, .int .i64 q] 26)) w1.heap.size W2.heap.size #[.string o, .string n, .int .i64 t, .int .i64 k, .string s, .slice p m c, .int .i64 q] E1 P1 X1 := by
  have hz : ((w1.setCell ⟨W2.heap.size, 0, none⟩ (.int .i64 E1)).setCell ⟨W2.heap.size, 1, none⟩ (.int .i64 (P1 : Nat))).heap.size = w1.heap.size := by simp [World.setCell]
  have B1 : Below W2.heap.size W2 ((w1.setCell ⟨W2.heap.size, 0, none⟩ (.int .i64 E1)).setCell ⟨W2.heap.size, 1, none⟩ (.int .i64 (P1 : Nat))) := (hb.setCell (p := ⟨W2.heap.size, 0, none⟩) (by simp) _).setCell (p := ⟨W2.heap.size, 1, none⟩) (by simp) _
  have F := Box2.on (Box2.set h2 (.int .i64 E1) (.int .i64 (P1 : Nat))) (al _ (.cells #[.string o, .string n, .int .i64 t, .int .i64 k, .string s, .slice p m c, .int .i64 q] 26))
  have G := box7_at ((w1.setCell ⟨W2.heap.size, 0, none⟩ (.int .i64 E1)).setCell ⟨W2.heap.size, 1, none⟩ (.int .i64 (P1 : Nat))) w1.heap.size hz.symm (.string o) (.string n) (.int .i64 t) (.int .i64 k) (.string s) (.slice p m c) (.int .i64 q) 26
  refine ⟨box7_cells G, F.c0, F.c1, G.lt, F.lt, ExIn.low (fun b h1 h2 => Nat.le_trans (Nat.le_succ _) h2) _ _ ((ExIn.keep (Nat.le_of_eq hz.symm) (fun b o h1 _ => ?_) _ _ hx).on (al _ _)), B1.trans ((al _ _).mono (by rw [hz]; exact hb.size))⟩
  have hne : b ≠ W2.heap.size := by have h1 : W2.heap.size + 1 ≤ b := h1; omega
  rw [far1 hne, far1 hne]
theorem rel5_6 {W2 w1 : World} {o n s : ByteArray} {t k q E1 : Int} {p : Option Addr} {m c P1 : Nat} {X1 : Ex} (hx : ExIn w1 (W2.heap.size + 2 ≤ ·) (.agg #[.string o, .string n, .int .i64 t, .int .i64 k, .string s, .slice p m c, .int .i64 q]) X1) (hb : Below W2.heap.size W2 w1) (h7 : Box7 w1 (W2.heap.size + 1) (.string ⟨#[]⟩) (.string ⟨#[]⟩) (.int .i64 0) (.int .i64 0) (.string ⟨#[]⟩) (.slice none 0 0) (.int .i64 0)) (h2 : Box2 w1 W2.heap.size (.int .i64 0) (.int .i64 0)) : Rel5 W2 (((((((((w1.setCell ⟨W2.heap.size + 1, 0, none⟩ (.string o)).setCell ⟨W2.heap.size + 1, 1, none⟩ (.string n)).setCell ⟨W2.heap.size + 1, 2, none⟩ (.int .i64 t)).setCell ⟨W2.heap.size + 1, 3, none⟩ (.int .i64 k)).setCell ⟨W2.heap.size + 1, 4, none⟩ (.string s)).setCell ⟨W2.heap.size + 1, 5, none⟩ (.slice p m c)).setCell ⟨W2.heap.size + 1, 6, none⟩ (.int .i64 q)).setCell ⟨W2.heap.size, 0, none⟩ (.int .i64 E1)).setCell ⟨W2.heap.size, 1, none⟩ (.int .i64 (P1 : Nat))) (W2.heap.size + 1) W2.heap.size #[.string o, .string n, .int .i64 t, .int .i64 k, .string s, .slice p m c, .int .i64 q] E1 P1 X1 := by
  have hz : (((((((((w1.setCell ⟨W2.heap.size + 1, 0, none⟩ (.string o)).setCell ⟨W2.heap.size + 1, 1, none⟩ (.string n)).setCell ⟨W2.heap.size + 1, 2, none⟩ (.int .i64 t)).setCell ⟨W2.heap.size + 1, 3, none⟩ (.int .i64 k)).setCell ⟨W2.heap.size + 1, 4, none⟩ (.string s)).setCell ⟨W2.heap.size + 1, 5, none⟩ (.slice p m c)).setCell ⟨W2.heap.size + 1, 6, none⟩ (.int .i64 q)).setCell ⟨W2.heap.size, 0, none⟩ (.int .i64 E1)).setCell ⟨W2.heap.size, 1, none⟩ (.int .i64 (P1 : Nat))).heap.size = w1.heap.size := by simp [World.setCell]
  have B1 := below_set7 (z := W2.heap.size + 1) hb (Nat.le_succ _) (.string o) (.string n) (.int .i64 t) (.int .i64 k) (.string s) (.slice p m c) (.int .i64 q)
  have G := Box7.far2 (z := W2.heap.size) (Box7.set h7 (.string o) (.string n) (.int .i64 t) (.int .i64 k) (.string s) (.slice p m c) (.int .i64 q)) (by omega) (.int .i64 E1) (.int .i64 (P1 : Nat))
  have F := Box2.set (Box2.far7 (z := W2.heap.size + 1) h2 (by omega) (.string o) (.string n) (.int .i64 t) (.int .i64 k) (.string s) (.slice p m c) (.int .i64 q)) (.int .i64 E1) (.int .i64 (P1 : Nat))
  refine ⟨box7_cells G, F.c0, F.c1, G.lt, F.lt, ExIn.low (fun b h1 h2 => Nat.le_trans (Nat.le_add_right _ 2) h2) _ _ (ExIn.keep (Nat.le_of_eq hz.symm) (fun b o h1 _ => ?_) _ _ hx), (B1.setCell (p := ⟨W2.heap.size, 0, none⟩) (by simp) _).setCell (p := ⟨W2.heap.size, 1, none⟩) (by simp) _⟩
  have h1 : W2.heap.size + 2 ≤ b := h1
  have hne : b ≠ W2.heap.size + 1 := by omega
  have hne' : b ≠ W2.heap.size := by omega
  rw [far1 hne', far1 hne', far1 hne, far1 hne, far1 hne, far1 hne, far1 hne, far1 hne, far1 hne]
theorem lt_al1 (W : World) (o : Obj) : W.heap.size < (W.alloc o).drew.heap.size := by simp
theorem lt_al2 (W : World) (o o' : Obj) : W.heap.size < ((W.alloc o).alloc o').drew.heap.size := by simp; omega
theorem lt_al3 (W : World) (o o' : Obj) : W.heap.size + 1 < ((W.alloc o).alloc o').drew.heap.size := by simp
theorem bdT_of (S T : ByteArray) : ((((⟨#[120, 32]⟩ : ByteArray) ++ S ++ ⟨#[32, 121, 32]⟩) ++ T) ++ ⟨#[32, 122]⟩).data.toList = bdT S.data.toList T.data.toList := by
  simp [bdT]
theorem bdU_of (S T : ByteArray) : ((((⟨#[40, 120, 32]⟩ : ByteArray) ++ S ++ ⟨#[32, 121, 41, 32]⟩) ++ T) ++ ⟨#[32, 122]⟩).data.toList = bdU S.data.toList T.data.toList false := by
  simp [bdU]
theorem bdU_of' (S T : ByteArray) : ((((⟨#[120, 32]⟩ : ByteArray) ++ S ++ ⟨#[32, 40, 121, 32]⟩) ++ T) ++ ⟨#[32, 122, 41]⟩).data.toList = bdU S.data.toList T.data.toList true := by
  simp [bdU]
def bdZ : Bool := bdS.all fun p => bdS.all fun q => decide ((parseP (bdT p q)).1.size ≤ 1000)
set_option maxRecDepth 100000 in
theorem bd_z : bdZ = true := by kernel_rfl
theorem bd_size (a b : Nat) (ha : a < 9) (hb : b < 9) : (parseP (bdT (bdS[a]'ha) (bdS[b]'hb))).1.size ≤ 1000 := by
  have h := bd_z
  rw [bdZ, List.all_eq_true] at h
  have h1 := h (bdS[a]'ha) (List.getElem_mem ha)
  rw [List.all_eq_true] at h1
  exact of_decide_eq_true (h1 (bdS[b]'hb) (List.getElem_mem hb))
set_option maxHeartbeats 4000000 in
set_option maxRecDepth 20000 in
theorem binds_out (a b : Int) (w : World) (h : a < 0 ∨ 8 < a ∨ b < 0 ∨ 8 < b) :
    Calls Tryz.prog 5 #[.int .i64 a, .int .i64 b] w fun e w' => e = .returned (.bool true) ∧ Below w.heap.size w w' := by
  have BB : ∀ o1 o2, Below w.heap.size w ((w.alloc o1).alloc o2) := fun o1 o2 => (((Below.refl _ w).alloc (Nat.le_refl _) o1).alloc (by simp) o2)
  by_cases h1 : a < 0
  · clear h
    go_enter Tryz.func5, Tryz.ntmps5
    go_wp2
    go_ret
    exact ⟨rfl, BB _ _⟩
  · by_cases h2 : 8 < a
    · clear h
      go_enter Tryz.func5, Tryz.ntmps5
      go_wp2
      go_ret
      exact ⟨rfl, BB _ _⟩
    · by_cases h3 : b < 0
      · clear h
        go_enter Tryz.func5, Tryz.ntmps5
        go_wp2
        go_ret
        exact ⟨rfl, BB _ _⟩
      · have h4 : 8 < b := by omega
        clear h
        go_enter Tryz.func5, Tryz.ntmps5
        go_wp2
        go_ret
        exact ⟨rfl, BB _ _⟩
set_option maxHeartbeats 4000000 in
set_option maxRecDepth 20000 in
theorem binds_in (a b : Nat) (w : World) (henv : TEnv w) (hw : SG w) (ha : a < 9) (hb : b < 9) :
    Calls Tryz.prog 5 #[.int .i64 (a : Int), .int .i64 (b : Int)] w fun e w' => e = .returned (.bool true) ∧ Below w.heap.size w w' := by
  have ha8 : (a : Int) ≤ 8 := by omega
  have hb8 : (b : Int) ≤ 8 := by omega
  have ha0 : (0 : Int) ≤ (a : Int) := by omega
  have hb0 : (0 : Int) ≤ (b : Int) := by omega
  obtain ⟨SA, hA, hA1, hA2⟩ := sg_at a ha
  obtain ⟨SB, hB, hB1, hB2⟩ := sg_at b hb
  obtain ⟨LA, hLA, hLA1, hLA2⟩ := lv_at a ha
  obtain ⟨LB, hLB, hLB1, hLB2⟩ := lv_at b hb
  have HBD : Hid (bdC SA.data.toList SB.data.toList LA LB = true) := by
    show _ = _
    rw [hA1, hB1, ← hLA1, ← hLB1]; exact bd_at a b ha hb
  have HZ1 : Hid ((parseP (bdT SA.data.toList SB.data.toList)).1.size ≤ 1000) := by
    show _ ≤ _
    rw [hA1, hB1]; exact bd_size a b ha hb
  have B2 : Below w.heap.size w ((w.alloc (.cells sgV 9)).alloc (.cells lvV 3)) := ((Below.refl _ w).alloc (Nat.le_refl _) _).alloc (by simp) _
  have cSA : ((w.alloc (.cells sgV 9)).alloc (.cells lvV 3)).cell? ⟨w.heap.size, a, none⟩ = some (.string SA) := by
    rw [World.cell?_alloc_lt _ _ _ (by simp), World.cell?_alloc_at _ _ _ _ rfl]; exact hA
  have cSB : ((w.alloc (.cells sgV 9)).alloc (.cells lvV 3)).cell? ⟨w.heap.size, b, none⟩ = some (.string SB) := by
    rw [World.cell?_alloc_lt _ _ _ (by simp), World.cell?_alloc_at _ _ _ _ rfl]; exact hB
  have cLA : ((w.alloc (.cells sgV 9)).alloc (.cells lvV 3)).cell? ⟨w.heap.size + 1, a, none⟩ = some (.int .i64 (LA : Int)) := by
    rw [World.cell?_alloc_at _ _ _ _ (by simp)]; exact hLA
  have cLB : ((w.alloc (.cells sgV 9)).alloc (.cells lvV 3)).cell? ⟨w.heap.size + 1, b, none⟩ = some (.int .i64 (LB : Int)) := by
    rw [World.cell?_alloc_at _ _ _ _ (by simp)]; exact hLB
  have hz2 : w.heap.size + 2 ≤ ((w.alloc (.cells sgV 9)).alloc (.cells lvV 3)).heap.size := by simp
  clear hA hB hLA hLB hA1 hB1 hLA1 hLB1
  have TE := henv.on B2
  have TG := hw.on B2
  clear henv hw
  go_enter Tryz.func5, Tryz.ntmps5
  go_upto_region 5 with fail
  rw [sgV, lvV] at *
  generalize ((w.alloc (.cells #[.string ⟨#[111, 114]⟩, .string ⟨#[97, 110, 100]⟩, .string ⟨#[61]⟩, .string ⟨#[60]⟩, .string ⟨#[43]⟩, .string ⟨#[45]⟩, .string ⟨#[42]⟩, .string ⟨#[47]⟩, .string ⟨#[37]⟩] 9)).alloc (.cells #[.int .i64 0, .int .i64 1, .int .i64 2, .int .i64 2, .int .i64 3, .int .i64 3, .int .i64 4, .int .i64 4, .int .i64 4] 3)) = W2 at *
  have hzA : w.heap.size < W2.heap.size := by omega
  have hzB : w.heap.size + 1 < W2.heap.size := by omega
  have e9a : (a : Int) < 9 := by omega
  have e9b : (b : Int) < 9 := by omega
  have e8a : ¬ (8 : Int) < (a : Int) := by omega
  have e8b : ¬ (8 : Int) < (b : Int) := by omega
  obtain ⟨X1, E1, P1, hP1⟩ : ∃ x E P, parseP ((((⟨#[120, 32]⟩ : ByteArray) ++ SA ++ ⟨#[32, 121, 32]⟩) ++ SB) ++ ⟨#[32, 122]⟩).data.toList = (x, E, P) := ⟨_, _, _, rfl⟩
  have hT1 : ((((⟨#[120, 32]⟩ : ByteArray) ++ SA ++ ⟨#[32, 121, 32]⟩) ++ SB) ++ ⟨#[32, 122]⟩).size ≤ maxLen := by
    simp only [ByteArray.size_append, maxLen, show (⟨#[120, 32]⟩ : ByteArray).size = 2 from rfl, show (⟨#[32, 121, 32]⟩ : ByteArray).size = 3 from rfl, show (⟨#[32, 122]⟩ : ByteArray).size = 2 from rfl]
    omega
  have cP : ∀ W, Below W2.heap.size W2 W → Calls Tryz.prog 7 #[.string ((((⟨#[120, 32]⟩ : ByteArray) ++ SA ++ ⟨#[32, 121, 32]⟩) ++ SB) ++ ⟨#[32, 122]⟩)] W fun e w' => (∃ o n t k s p m c q, e = .returned (.tuple #[.agg #[.string o, .string n, .int .i64 t, .int .i64 k, .string s, .slice p m c, .int .i64 q], .agg #[.int .i64 E1, .int .i64 (P1 : Nat)]]) ∧ Aside (ExIn w' (W.heap.size ≤ ·) (.agg #[.string o, .string n, .int .i64 t, .int .i64 k, .string s, .slice p m c, .int .i64 q]) X1)) ∧ w'.cell? ⟨w.heap.size, a, none⟩ = some (.string SA) ∧ w'.cell? ⟨w.heap.size, b, none⟩ = some (.string SB) ∧ Below W.heap.size W w' := by
    intro W hb
    refine (parse_tree _ W (TE.on hb) (TG.on hb) X1 E1 P1 hP1 hT1).mono ?_
    rintro e w' ⟨⟨v, rfl, hx⟩, b1⟩
    obtain ⟨o, n, t, k, s, p, m, c, q, rfl⟩ := hx.out.agg
    have hs := hb.size
    exact ⟨⟨o, n, t, k, s, p, m, c, q, rfl, hx⟩, by rw [b1.cell (p := ⟨w.heap.size, a, none⟩) (by show w.heap.size < _; omega), hb.cell (p := ⟨w.heap.size, a, none⟩) hzA]; exact cSA, by rw [b1.cell (p := ⟨w.heap.size, b, none⟩) (by show w.heap.size < _; omega), hb.cell (p := ⟨w.heap.size, b, none⟩) hzA]; exact cSB, b1⟩
  have al1 : ∀ o, Below W2.heap.size W2 (W2.alloc o) := fun o => (Below.refl _ _).alloc (Nat.le_refl _) o
  have al2 : ∀ o o', Below W2.heap.size W2 ((W2.alloc o).alloc o') := fun o o' => ((Below.refl _ _).alloc (Nat.le_refl _) o).alloc (by simp) o'
  have cPa : Calls Tryz.prog 7 #[.string ((((⟨#[120, 32]⟩ : ByteArray) ++ SA ++ ⟨#[32, 121, 32]⟩) ++ SB) ++ ⟨#[32, 122]⟩)] W2.drew fun e w' => (∃ o n t k s p m c q, e = .returned (.tuple #[.agg #[.string o, .string n, .int .i64 t, .int .i64 k, .string s, .slice p m c, .int .i64 q], .agg #[.int .i64 E1, .int .i64 (P1 : Nat)]]) ∧ Aside (ExIn w' (W2.heap.size ≤ ·) (.agg #[.string o, .string n, .int .i64 t, .int .i64 k, .string s, .slice p m c, .int .i64 q]) X1)) ∧ w'.cell? ⟨w.heap.size, a, none⟩ = some (.string SA) ∧ w'.cell? ⟨w.heap.size, b, none⟩ = some (.string SB) ∧ Below W2.drew.heap.size W2.drew w' := cP _ (Below.drew (Below.refl _ _))
  have cPb : Calls Tryz.prog 7 #[.string ((((⟨#[120, 32]⟩ : ByteArray) ++ SA ++ ⟨#[32, 121, 32]⟩) ++ SB) ++ ⟨#[32, 122]⟩)] (W2.alloc (.cells #[.string ⟨#[]⟩, .string ⟨#[]⟩, .int .i64 0, .int .i64 0, .string ⟨#[]⟩, .slice none 0 0, .int .i64 0] 26)).drew fun e w' => (∃ o n t k s p m c q, e = .returned (.tuple #[.agg #[.string o, .string n, .int .i64 t, .int .i64 k, .string s, .slice p m c, .int .i64 q], .agg #[.int .i64 E1, .int .i64 (P1 : Nat)]]) ∧ Aside (ExIn w' (W2.heap.size + 1 ≤ ·) (.agg #[.string o, .string n, .int .i64 t, .int .i64 k, .string s, .slice p m c, .int .i64 q]) X1)) ∧ Box7 w' W2.heap.size (.string ⟨#[]⟩) (.string ⟨#[]⟩) (.int .i64 0) (.int .i64 0) (.string ⟨#[]⟩) (.slice none 0 0) (.int .i64 0) ∧ w'.cell? ⟨w.heap.size, a, none⟩ = some (.string SA) ∧ w'.cell? ⟨w.heap.size, b, none⟩ = some (.string SB) ∧ Below (W2.alloc (.cells #[.string ⟨#[]⟩, .string ⟨#[]⟩, .int .i64 0, .int .i64 0, .string ⟨#[]⟩, .slice none 0 0, .int .i64 0] 26)).drew.heap.size (W2.alloc (.cells #[.string ⟨#[]⟩, .string ⟨#[]⟩, .int .i64 0, .int .i64 0, .string ⟨#[]⟩, .slice none 0 0, .int .i64 0] 26)).drew w' := by
    refine (cP _ (Below.drew (al1 _))).mono ?_
    rintro e w' ⟨⟨o, n, t, k, s, p, m, c, q, rfl, hx⟩, c1, c2, b1⟩
    exact ⟨⟨o, n, t, k, s, p, m, c, q, rfl, ExIn.low (fun b h1 h2 => Nat.le_trans (Nat.le_of_eq (by simp)) h2) _ _ hx.out⟩, Box7.on (Box7.drew (box7_at W2 W2.heap.size rfl _ _ _ _ _ _ _ _)) b1, c1, c2, b1⟩
  have cPc : Calls Tryz.prog 7 #[.string ((((⟨#[120, 32]⟩ : ByteArray) ++ SA ++ ⟨#[32, 121, 32]⟩) ++ SB) ++ ⟨#[32, 122]⟩)] (W2.alloc (.cells #[.int .i64 0, .int .i64 0] 31)).drew fun e w' => (∃ o n t k s p m c q, e = .returned (.tuple #[.agg #[.string o, .string n, .int .i64 t, .int .i64 k, .string s, .slice p m c, .int .i64 q], .agg #[.int .i64 E1, .int .i64 (P1 : Nat)]]) ∧ Aside (ExIn w' (W2.heap.size + 1 ≤ ·) (.agg #[.string o, .string n, .int .i64 t, .int .i64 k, .string s, .slice p m c, .int .i64 q]) X1)) ∧ Box2 w' W2.heap.size (.int .i64 0) (.int .i64 0) ∧ w'.cell? ⟨w.heap.size, a, none⟩ = some (.string SA) ∧ w'.cell? ⟨w.heap.size, b, none⟩ = some (.string SB) ∧ Below (W2.alloc (.cells #[.int .i64 0, .int .i64 0] 31)).drew.heap.size (W2.alloc (.cells #[.int .i64 0, .int .i64 0] 31)).drew w' := by
    refine (cP _ (Below.drew (al1 _))).mono ?_
    rintro e w' ⟨⟨o, n, t, k, s, p, m, c, q, rfl, hx⟩, c1, c2, b1⟩
    exact ⟨⟨o, n, t, k, s, p, m, c, q, rfl, ExIn.low (fun b h1 h2 => Nat.le_trans (Nat.le_of_eq (by simp)) h2) _ _ hx.out⟩, Box2.on (Box2.drew (box2_at W2 W2.heap.size rfl _ _ _)) b1, c1, c2, b1⟩
  have cPd : Calls Tryz.prog 7 #[.string ((((⟨#[120, 32]⟩ : ByteArray) ++ SA ++ ⟨#[32, 121, 32]⟩) ++ SB) ++ ⟨#[32, 122]⟩)] ((W2.alloc (.cells #[.string ⟨#[]⟩, .string ⟨#[]⟩, .int .i64 0, .int .i64 0, .string ⟨#[]⟩, .slice none 0 0, .int .i64 0] 26)).alloc (.cells #[.int .i64 0, .int .i64 0] 31)).drew fun e w' => (∃ o n t k s p m c q, e = .returned (.tuple #[.agg #[.string o, .string n, .int .i64 t, .int .i64 k, .string s, .slice p m c, .int .i64 q], .agg #[.int .i64 E1, .int .i64 (P1 : Nat)]]) ∧ Aside (ExIn w' (W2.heap.size + 2 ≤ ·) (.agg #[.string o, .string n, .int .i64 t, .int .i64 k, .string s, .slice p m c, .int .i64 q]) X1)) ∧ Box7 w' W2.heap.size (.string ⟨#[]⟩) (.string ⟨#[]⟩) (.int .i64 0) (.int .i64 0) (.string ⟨#[]⟩) (.slice none 0 0) (.int .i64 0) ∧ Box2 w' (W2.heap.size + 1) (.int .i64 0) (.int .i64 0) ∧ w'.cell? ⟨w.heap.size, a, none⟩ = some (.string SA) ∧ w'.cell? ⟨w.heap.size, b, none⟩ = some (.string SB) ∧ Below ((W2.alloc (.cells #[.string ⟨#[]⟩, .string ⟨#[]⟩, .int .i64 0, .int .i64 0, .string ⟨#[]⟩, .slice none 0 0, .int .i64 0] 26)).alloc (.cells #[.int .i64 0, .int .i64 0] 31)).drew.heap.size ((W2.alloc (.cells #[.string ⟨#[]⟩, .string ⟨#[]⟩, .int .i64 0, .int .i64 0, .string ⟨#[]⟩, .slice none 0 0, .int .i64 0] 26)).alloc (.cells #[.int .i64 0, .int .i64 0] 31)).drew w' := by
    refine (cP _ (Below.drew (al2 _ _))).mono ?_
    rintro e w' ⟨⟨o, n, t, k, s, p, m, c, q, rfl, hx⟩, c1, c2, b1⟩
    exact ⟨⟨o, n, t, k, s, p, m, c, q, rfl, ExIn.low (fun b h1 h2 => Nat.le_trans (Nat.le_of_eq (by simp)) h2) _ _ hx.out⟩, Box7.on (Box7.drew (Box7.on (box7_at W2 W2.heap.size rfl _ _ _ _ _ _ _ _) (al _ _))) b1, Box2.on (Box2.drew (box2_at _ (W2.heap.size + 1) (size_al _ _) _ _ _)) b1, c1, c2, b1⟩
  have cPe : Calls Tryz.prog 7 #[.string ((((⟨#[120, 32]⟩ : ByteArray) ++ SA ++ ⟨#[32, 121, 32]⟩) ++ SB) ++ ⟨#[32, 122]⟩)] ((W2.alloc (.cells #[.int .i64 0, .int .i64 0] 31)).alloc (.cells #[.string ⟨#[]⟩, .string ⟨#[]⟩, .int .i64 0, .int .i64 0, .string ⟨#[]⟩, .slice none 0 0, .int .i64 0] 26)).drew fun e w' => (∃ o n t k s p m c q, e = .returned (.tuple #[.agg #[.string o, .string n, .int .i64 t, .int .i64 k, .string s, .slice p m c, .int .i64 q], .agg #[.int .i64 E1, .int .i64 (P1 : Nat)]]) ∧ Aside (ExIn w' (W2.heap.size + 2 ≤ ·) (.agg #[.string o, .string n, .int .i64 t, .int .i64 k, .string s, .slice p m c, .int .i64 q]) X1)) ∧ Box7 w' (W2.heap.size + 1) (.string ⟨#[]⟩) (.string ⟨#[]⟩) (.int .i64 0) (.int .i64 0) (.string ⟨#[]⟩) (.slice none 0 0) (.int .i64 0) ∧ Box2 w' W2.heap.size (.int .i64 0) (.int .i64 0) ∧ w'.cell? ⟨w.heap.size, a, none⟩ = some (.string SA) ∧ w'.cell? ⟨w.heap.size, b, none⟩ = some (.string SB) ∧ Below ((W2.alloc (.cells #[.int .i64 0, .int .i64 0] 31)).alloc (.cells #[.string ⟨#[]⟩, .string ⟨#[]⟩, .int .i64 0, .int .i64 0, .string ⟨#[]⟩, .slice none 0 0, .int .i64 0] 26)).drew.heap.size ((W2.alloc (.cells #[.int .i64 0, .int .i64 0] 31)).alloc (.cells #[.string ⟨#[]⟩, .string ⟨#[]⟩, .int .i64 0, .int .i64 0, .string ⟨#[]⟩, .slice none 0 0, .int .i64 0] 26)).drew w' := by
    refine (cP _ (Below.drew (al2 _ _))).mono ?_
    rintro e w' ⟨⟨o, n, t, k, s, p, m, c, q, rfl, hx⟩, c1, c2, b1⟩
    exact ⟨⟨o, n, t, k, s, p, m, c, q, rfl, ExIn.low (fun b h1 h2 => Nat.le_trans (Nat.le_of_eq (by simp)) h2) _ _ hx.out⟩, Box7.on (Box7.drew (box7_at _ (W2.heap.size + 1) (size_al _ _) _ _ _ _ _ _ _ _)) b1, Box2.on (Box2.drew (Box2.on (box2_at W2 W2.heap.size rfl _ _ _) (al _ _))) b1, c1, c2, b1⟩
  go_cut [7, 8] (fun s7 s8 wc => ∃ (be bf : Nat) (o n : ByteArray) (t k : Int) (s : ByteArray) (p : Option Addr) (m c : Nat) (q : Int), s7 = .pointer (some ⟨be, 0, none⟩) ∧ s8 = .pointer (some ⟨bf, 0, none⟩) ∧ Aside (∀ i, i < 7 → wc.cell? ⟨be, i, none⟩ = (#[.string o, .string n, .int .i64 t, .int .i64 k, .string s, .slice p m c, .int .i64 q] : Array Value)[i]?) ∧ wc.cell? ⟨bf, 0, none⟩ = some (.int .i64 E1) ∧ wc.cell? ⟨bf, 1, none⟩ = some (.int .i64 (P1 : Nat)) ∧ be < wc.heap.size ∧ bf < wc.heap.size ∧ Aside (ExIn wc (W2.heap.size ≤ ·) (.agg #[.string o, .string n, .int .i64 t, .int .i64 k, .string s, .slice p m c, .int .i64 q]) X1) ∧ Aside (Below W2.heap.size W2 wc))
  case first =>
    have hne : W2.heap.size ≠ w.heap.size := by omega
    have hne1 : W2.heap.size + 1 ≠ w.heap.size := by omega
    have n1 : ¬ 9223372036854775807 < 2 + SA.size := by omega
    have n2 : ¬ 9223372036854775807 < 2 + SA.size + 3 := by omega
    have n3 : ¬ 9223372036854775807 < 2 + SA.size + 3 + SB.size := by omega
    have n4 : ¬ 9223372036854775807 < 2 + SA.size + 3 + SB.size + 2 := by omega
    go_region_held3 (fun w' => w'.cell? ⟨w.heap.size, a, none⟩ = some (.string SA) ∧ w'.cell? ⟨w.heap.size, b, none⟩ = some (.string SB)) (go_keep) (first | (go_at_call 7; first | (refine cPa.mono ?_; rintro e w1 ⟨⟨o, n, t, k, s, p, m, c, q, rfl, hx⟩, c1, c2, b1⟩) | (refine cPb.mono ?_; rintro e w1 ⟨⟨o, n, t, k, s, p, m, c, q, rfl, hx⟩, ⟨x0, x1, x2, x3, x4, x5, x6, xf, xl⟩, c1, c2, b1⟩) | (refine cPc.mono ?_; rintro e w1 ⟨⟨o, n, t, k, s, p, m, c, q, rfl, hx⟩, ⟨y0, y1, yf, yl⟩, c1, c2, b1⟩) | (refine cPd.mono ?_; rintro e w1 ⟨⟨o, n, t, k, s, p, m, c, q, rfl, hx⟩, ⟨x0, x1, x2, x3, x4, x5, x6, xf, xl⟩, ⟨y0, y1, yf, yl⟩, c1, c2, b1⟩) | (refine cPe.mono ?_; rintro e w1 ⟨⟨o, n, t, k, s, p, m, c, q, rfl, hx⟩, ⟨x0, x1, x2, x3, x4, x5, x6, xf, xl⟩, ⟨y0, y1, yf, yl⟩, c1, c2, b1⟩)))
    · go_wp2_with fail
      go_meet
      case rel =>
        obtain ⟨g1, g2, g3, g4, g5, g6, g7⟩ := rel5_1 (W2 := W2) (E1 := E1) (P1 := P1) hx.out ((Below.drew (Below.refl _ _)).trans b1)
        exact ⟨_, _, o, n, t, k, s, p, m, c, q, rfl, rfl, (show Aside _ from g1), g2, g3, g4, g5, (show Aside _ from g6), (show Aside _ from g7)⟩
    · go_wp2_with fail
      go_meet
      case rel =>
        obtain ⟨g1, g2, g3, g4, g5, g6, g7⟩ := rel5_2 (W2 := W2) (E1 := E1) (P1 := P1) hx.out ((Below.drew (Below.refl _ _)).trans b1)
        exact ⟨_, _, o, n, t, k, s, p, m, c, q, rfl, rfl, (show Aside _ from g1), g2, g3, g4, g5, (show Aside _ from g6), (show Aside _ from g7)⟩
    · go_wp2_with fail
      go_meet
      case rel =>
        obtain ⟨g1, g2, g3, g4, g5, g6, g7⟩ := rel5_3 (W2 := W2) (E1 := E1) (P1 := P1) hx.out ((Below.drew (al1 _)).trans (b1.mono (al1 _).size)) ⟨x0, x1, x2, x3, x4, x5, x6, xf, xl⟩
        exact ⟨_, _, o, n, t, k, s, p, m, c, q, rfl, rfl, (show Aside _ from g1), g2, g3, g4, g5, (show Aside _ from g6), (show Aside _ from g7)⟩
    · go_wp2_with fail
      go_meet
      case rel =>
        obtain ⟨g1, g2, g3, g4, g5, g6, g7⟩ := rel5_4 (W2 := W2) (E1 := E1) (P1 := P1) hx.out ((Below.drew (al2 _ _)).trans (b1.mono (al2 _ _).size)) ⟨x0, x1, x2, x3, x4, x5, x6, xf, xl⟩ ⟨y0, y1, yf, yl⟩
        exact ⟨_, _, o, n, t, k, s, p, m, c, q, rfl, rfl, (show Aside _ from g1), g2, g3, g4, g5, (show Aside _ from g6), (show Aside _ from g7)⟩
    · go_wp2_with fail
      go_meet
      case rel =>
        obtain ⟨g1, g2, g3, g4, g5, g6, g7⟩ := rel5_5 (W2 := W2) (E1 := E1) (P1 := P1) hx.out ((Below.drew (al1 _)).trans (b1.mono (al1 _).size)) ⟨y0, y1, yf, yl⟩
        exact ⟨_, _, o, n, t, k, s, p, m, c, q, rfl, rfl, (show Aside _ from g1), g2, g3, g4, g5, (show Aside _ from g6), (show Aside _ from g7)⟩
    · go_wp2_with fail
      go_meet
      case rel =>
        obtain ⟨g1, g2, g3, g4, g5, g6, g7⟩ := rel5_6 (W2 := W2) (E1 := E1) (P1 := P1) hx.out ((Below.drew (al2 _ _)).trans (b1.mono (al2 _ _).size)) ⟨x0, x1, x2, x3, x4, x5, x6, xf, xl⟩ ⟨y0, y1, yf, yl⟩
        exact ⟨_, _, o, n, t, k, s, p, m, c, q, rfl, rfl, (show Aside _ from g1), g2, g3, g4, g5, (show Aside _ from g6), (show Aside _ from g7)⟩
  case rest =>
    obtain ⟨be, bf, o, n, t, k, s, p, m, c, q, rfl, rfl, HC, f0, f1, hbe, hbf, HX, HB⟩ := hcut
    have b2 := HB.out
    have hwz : w.heap.size + 2 ≤ wc.heap.size := by have := b2.size; omega
    have dSA : wc.cell? ⟨w.heap.size, a, none⟩ = some (.string SA) := by rw [b2.cell (p := ⟨w.heap.size, a, none⟩) (by show w.heap.size < _; omega)]; exact cSA
    have dSB : wc.cell? ⟨w.heap.size, b, none⟩ = some (.string SB) := by rw [b2.cell (p := ⟨w.heap.size, b, none⟩) (by show w.heap.size < _; omega)]; exact cSB
    have dLA : wc.cell? ⟨w.heap.size + 1, a, none⟩ = some (.int .i64 (LA : Int)) := by rw [b2.cell (p := ⟨w.heap.size + 1, a, none⟩) (by show w.heap.size + 1 < _; omega)]; exact cLA
    have dLB : wc.cell? ⟨w.heap.size + 1, b, none⟩ = some (.int .i64 (LB : Int)) := by rw [b2.cell (p := ⟨w.heap.size + 1, b, none⟩) (by show w.heap.size + 1 < _; omega)]; exact cLB
    have hz0 : w.heap.size < wc.heap.size := by omega
    have hz1 : w.heap.size + 1 < wc.heap.size := by omega
    have BC : Aside (Below w.heap.size w wc) := B2.trans (b2.mono (by omega))
    have TEc : Aside (TEnv wc) := TE.on b2
    have TGc : Aside (SG wc) := TG.on b2
    have HP1 : Hid (parseP (bdT SA.data.toList SB.data.toList) = (X1, E1, P1)) := by show _ = _; rw [← bdT_of]; exact hP1
    clear b2 HB cSA cSB cLA cLB cP cPa cPb cPc cPd cPe al1 al2 TE TG hP1 hT1 B2
    by_cases h22 : LA = 2 ∧ LB = 2
    · obtain ⟨h1, h2⟩ := h22
      have hbd := HBD.out
      rw [bdC, if_pos ⟨h1, h2⟩, HP1.out, Bool.and_eq_true, decide_eq_true_eq, decide_eq_true_eq] at hbd
      have hE : E1 = 2 := hbd.1
      have hPP : P1 = 5 + SA.data.toList.length := hbd.2
      subst hE
      have hsl : SA.data.toList.length = SA.size := by simp
      rw [hsl] at hPP
      have q1 : ((LA : Int) == 2) = true := by rw [h1]; rfl
      have q2 : ((LB : Int) == 2) = true := by rw [h2]; rfl
      have q3 : ((P1 : Int) == 5 + (SA.size : Int)) = true := by simp; omega
      have hPI : (P1 : Int) = 5 + (SA.size : Int) := by omega
      clear HBD hbd hsl h1 h2 HC HX TEc TGc HP1 HZ1 hPP
      go_wp2
      go_quiet (fail)
      go_wp2
      go_ret
      exact ⟨rfl, below_drewN BC.out _⟩
    · have hbd := HBD.out
      rw [bdC, if_neg h22, HP1.out, Bool.and_eq_true, Bool.and_eq_true, decide_eq_true_eq, decide_eq_true_eq] at hbd
      obtain ⟨hE, hE2, hSM⟩ := hbd
      have hE : E1 = 0 := hE
      subst hE
      have HX1 : Hid (X1.size ≤ 1048576) := by show _ ≤ _; have h := HZ1.out; rw [HP1.out] at h; exact Nat.le_trans h (by decide)
      obtain ⟨X2, E2, P2, hP2⟩ : ∃ x E P, parseP (bdU SA.data.toList SB.data.toList (decide (LA < LB))) = (x, E, P) := ⟨_, _, _, rfl⟩
      rw [hP2] at hE2 hSM
      have hE2 : E2 = 0 := hE2
      subst hE2
      have HSM : Hid (sameE false X1 X2 = true) := hSM
      have c0 : wc.cell? ⟨be, 0, none⟩ = some (.string o) := HC.out 0 (by decide)
      have c1 : wc.cell? ⟨be, 1, none⟩ = some (.string n) := HC.out 1 (by decide)
      have c2 : wc.cell? ⟨be, 2, none⟩ = some (.int .i64 t) := HC.out 2 (by decide)
      have c3 : wc.cell? ⟨be, 3, none⟩ = some (.int .i64 k) := HC.out 3 (by decide)
      have c4 : wc.cell? ⟨be, 4, none⟩ = some (.string s) := HC.out 4 (by decide)
      have c5 : wc.cell? ⟨be, 5, none⟩ = some (.slice p m c) := HC.out 5 (by decide)
      have c6 : wc.cell? ⟨be, 6, none⟩ = some (.int .i64 q) := HC.out 6 (by decide)
      have cQ : ∀ (T : ByteArray) (W : World), T.size ≤ maxLen → parseP T.data.toList = (X2, 0, P2) → Below wc.heap.size wc W → Calls Tryz.prog 7 #[.string T] W fun e w' => (∃ o2 n2 t2 k2 s2 p2 m2 c2' q2, e = .returned (.tuple #[.agg #[.string o2, .string n2, .int .i64 t2, .int .i64 k2, .string s2, .slice p2 m2 c2', .int .i64 q2], .agg #[.int .i64 0, .int .i64 (P2 : Nat)]]) ∧ Aside (ExIn w' (fun _ => True) (.agg #[.string o2, .string n2, .int .i64 t2, .int .i64 k2, .string s2, .slice p2 m2 c2', .int .i64 q2]) X2)) ∧ Below wc.heap.size wc w' := by
        intro T W hT hp hb
        refine (parse_tree T W (TEc.out.on hb) (TGc.out.on hb) X2 0 P2 hp hT).mono ?_
        rintro e w' ⟨⟨v, rfl, hx⟩, b1⟩
        obtain ⟨o2, n2, t2, k2, s2, p2, m2, c2', q2, rfl⟩ := hx.out.agg
        exact ⟨⟨o2, n2, t2, k2, s2, p2, m2, c2', q2, rfl, ExIn.low (fun _ _ _ => trivial) _ _ hx.out⟩, hb.trans (b1.mono hb.size)⟩
      have XA : Aside (ExIn wc (fun _ => True) (.agg #[.string o, .string n, .int .i64 t, .int .i64 k, .string s, .slice p m c, .int .i64 q]) X1) := ExIn.low (fun _ _ _ => trivial) _ _ HX.out
      have CQ : Aside _ := cQ
      have sz1 : ∀ x y z : ByteArray, x.size ≤ 10 → y.size ≤ 10 → z.size ≤ 10 → ((((x ++ SA) ++ y) ++ SB) ++ z).size ≤ maxLen := fun x y z h1 h2 h3 => by
        simp only [ByteArray.size_append, maxLen]; omega
      clear HBD HZ1 HP1 HC HX TEc TGc hSM cQ
      by_cases hlt : LA < LB
      · have hP3 : parseP ((((⟨#[120, 32]⟩ : ByteArray) ++ SA ++ ⟨#[32, 40, 121, 32]⟩) ++ SB) ++ ⟨#[32, 122, 41]⟩).data.toList = (X2, 0, P2) := by rw [bdU_of', ← hP2, decide_eq_true hlt]
        have hz := sz1 ⟨#[120, 32]⟩ ⟨#[32, 40, 121, 32]⟩ ⟨#[32, 122, 41]⟩ (by decide) (by decide) (by decide)
        have HQ3 : Hid (parseP ((((⟨#[120, 32]⟩ : ByteArray) ++ SA ++ ⟨#[32, 40, 121, 32]⟩) ++ SB) ++ ⟨#[32, 122, 41]⟩).data.toList = (X2, 0, P2)) := hP3
        have HQZ : Hid (((((⟨#[120, 32]⟩ : ByteArray) ++ SA ++ ⟨#[32, 40, 121, 32]⟩) ++ SB) ++ ⟨#[32, 122, 41]⟩).size ≤ maxLen) := hz
        have hltz : (LA : Int) < (LB : Int) := by omega
        clear hP2 hP3 hz sz1 hlt
        by_cases hla : LA = 2
        · have q1 : ((LA : Int) == 2) = true := by rw [hla]; rfl
          have q2 : ((LB : Int) == 2) = false := by simp; omega
          clear hla h22
          go_wp2
          go_quiet (fail)
          go_wp2
          go_quiet (fail)
          go_wp2
          go_quiet (fail)
          go_wp2_with fail
          refine (CQ.out _ _ HQZ.out HQ3.out (below_drewN (Below.refl _ _) _)).mono ?_
          rintro e w4 ⟨⟨o2, n2, t2, k2, s2, p2, m2, c2', q2, rfl, hx2⟩, b4⟩
          have hz4 := b4.size
          have hbe4 : be < w4.heap.size := by omega
          have d0 : w4.cell? ⟨be, 0, none⟩ = some (.string o) := by rw [b4.cell (p := ⟨be, 0, none⟩) hbe]; exact c0
          have d1 : w4.cell? ⟨be, 1, none⟩ = some (.string n) := by rw [b4.cell (p := ⟨be, 1, none⟩) hbe]; exact c1
          have d2 : w4.cell? ⟨be, 2, none⟩ = some (.int .i64 t) := by rw [b4.cell (p := ⟨be, 2, none⟩) hbe]; exact c2
          have d3 : w4.cell? ⟨be, 3, none⟩ = some (.int .i64 k) := by rw [b4.cell (p := ⟨be, 3, none⟩) hbe]; exact c3
          have d4 : w4.cell? ⟨be, 4, none⟩ = some (.string s) := by rw [b4.cell (p := ⟨be, 4, none⟩) hbe]; exact c4
          have d5 : w4.cell? ⟨be, 5, none⟩ = some (.slice p m c) := by rw [b4.cell (p := ⟨be, 5, none⟩) hbe]; exact c5
          have d6 : w4.cell? ⟨be, 6, none⟩ = some (.int .i64 q) := by rw [b4.cell (p := ⟨be, 6, none⟩) hbe]; exact c6
          have cS : ∀ W, Below w4.heap.size w4 W → Calls Tryz.prog 14 #[.agg #[.string o, .string n, .int .i64 t, .int .i64 k, .string s, .slice p m c, .int .i64 q], .agg #[.string o2, .string n2, .int .i64 t2, .int .i64 k2, .string s2, .slice p2 m2 c2', .int .i64 q2]] W fun e w' => e = .returned (.bool true) ∧ Below w.heap.size w w' := by
            intro W hb
            refine (treeSame_any X1 X2 (fun _ => True) _ _ W ((XA.out.on b4).on hb) (hx2.out.on hb) HX1.out).mono ?_
            rintro e w' ⟨rfl, b5⟩
            exact ⟨by rw [HSM.out], BC.out.trans ((b4.trans ((hb.mono hz4).trans (b5.mono (Nat.le_trans hz4 hb.size)))).mono BC.out.size)⟩
          clear XA hx2 b4 CQ HQ3 HQZ HSM HX1 c0 c1 c2 c3 c4 c5 c6
          go_wp2_with fail
          refine (cS _ (((Below.refl _ _).alloc (Nat.le_refl _) _).alloc (by simp) _)).mono ?_
          rintro e w5 ⟨rfl, b5⟩
          go_wp2
          go_ret
          exact ⟨rfl, b5⟩
        · have q1 : ((LA : Int) == 2) = false := by simp; omega
          clear hla h22
          go_wp2
          go_quiet (fail)
          go_wp2
          go_quiet (fail)
          go_wp2
          go_quiet (fail)
          go_wp2_with fail
          refine (CQ.out _ _ HQZ.out HQ3.out (below_drewN (Below.refl _ _) _)).mono ?_
          rintro e w4 ⟨⟨o2, n2, t2, k2, s2, p2, m2, c2', q2, rfl, hx2⟩, b4⟩
          have hz4 := b4.size
          have hbe4 : be < w4.heap.size := by omega
          have d0 : w4.cell? ⟨be, 0, none⟩ = some (.string o) := by rw [b4.cell (p := ⟨be, 0, none⟩) hbe]; exact c0
          have d1 : w4.cell? ⟨be, 1, none⟩ = some (.string n) := by rw [b4.cell (p := ⟨be, 1, none⟩) hbe]; exact c1
          have d2 : w4.cell? ⟨be, 2, none⟩ = some (.int .i64 t) := by rw [b4.cell (p := ⟨be, 2, none⟩) hbe]; exact c2
          have d3 : w4.cell? ⟨be, 3, none⟩ = some (.int .i64 k) := by rw [b4.cell (p := ⟨be, 3, none⟩) hbe]; exact c3
          have d4 : w4.cell? ⟨be, 4, none⟩ = some (.string s) := by rw [b4.cell (p := ⟨be, 4, none⟩) hbe]; exact c4
          have d5 : w4.cell? ⟨be, 5, none⟩ = some (.slice p m c) := by rw [b4.cell (p := ⟨be, 5, none⟩) hbe]; exact c5
          have d6 : w4.cell? ⟨be, 6, none⟩ = some (.int .i64 q) := by rw [b4.cell (p := ⟨be, 6, none⟩) hbe]; exact c6
          have cS : ∀ W, Below w4.heap.size w4 W → Calls Tryz.prog 14 #[.agg #[.string o, .string n, .int .i64 t, .int .i64 k, .string s, .slice p m c, .int .i64 q], .agg #[.string o2, .string n2, .int .i64 t2, .int .i64 k2, .string s2, .slice p2 m2 c2', .int .i64 q2]] W fun e w' => e = .returned (.bool true) ∧ Below w.heap.size w w' := by
            intro W hb
            refine (treeSame_any X1 X2 (fun _ => True) _ _ W ((XA.out.on b4).on hb) (hx2.out.on hb) HX1.out).mono ?_
            rintro e w' ⟨rfl, b5⟩
            exact ⟨by rw [HSM.out], BC.out.trans ((b4.trans ((hb.mono hz4).trans (b5.mono (Nat.le_trans hz4 hb.size)))).mono BC.out.size)⟩
          clear XA hx2 b4 CQ HQ3 HQZ HSM HX1 c0 c1 c2 c3 c4 c5 c6
          go_wp2_with fail
          refine (cS _ (((Below.refl _ _).alloc (Nat.le_refl _) _).alloc (by simp) _)).mono ?_
          rintro e w5 ⟨rfl, b5⟩
          go_wp2
          go_ret
          exact ⟨rfl, b5⟩
      · have hP3 : parseP ((((⟨#[40, 120, 32]⟩ : ByteArray) ++ SA ++ ⟨#[32, 121, 41, 32]⟩) ++ SB) ++ ⟨#[32, 122]⟩).data.toList = (X2, 0, P2) := by rw [bdU_of, ← hP2, decide_eq_false hlt]
        have hz := sz1 ⟨#[40, 120, 32]⟩ ⟨#[32, 121, 41, 32]⟩ ⟨#[32, 122]⟩ (by decide) (by decide) (by decide)
        have HQ3 : Hid (parseP ((((⟨#[40, 120, 32]⟩ : ByteArray) ++ SA ++ ⟨#[32, 121, 41, 32]⟩) ++ SB) ++ ⟨#[32, 122]⟩).data.toList = (X2, 0, P2)) := hP3
        have HQZ : Hid (((((⟨#[40, 120, 32]⟩ : ByteArray) ++ SA ++ ⟨#[32, 121, 41, 32]⟩) ++ SB) ++ ⟨#[32, 122]⟩).size ≤ maxLen) := hz
        have hltz : ¬ (LA : Int) < (LB : Int) := by omega
        clear hP2 hP3 hz sz1 hlt
        by_cases hla : LA = 2
        · have q1 : ((LA : Int) == 2) = true := by rw [hla]; rfl
          have q2 : ((LB : Int) == 2) = false := by simp; omega
          clear hla h22
          go_wp2
          go_quiet (fail)
          go_wp2
          go_quiet (fail)
          go_wp2_with fail
          refine (CQ.out _ _ HQZ.out HQ3.out (below_drewN (Below.refl _ _) _)).mono ?_
          rintro e w4 ⟨⟨o2, n2, t2, k2, s2, p2, m2, c2', q2, rfl, hx2⟩, b4⟩
          have hz4 := b4.size
          have hbe4 : be < w4.heap.size := by omega
          have d0 : w4.cell? ⟨be, 0, none⟩ = some (.string o) := by rw [b4.cell (p := ⟨be, 0, none⟩) hbe]; exact c0
          have d1 : w4.cell? ⟨be, 1, none⟩ = some (.string n) := by rw [b4.cell (p := ⟨be, 1, none⟩) hbe]; exact c1
          have d2 : w4.cell? ⟨be, 2, none⟩ = some (.int .i64 t) := by rw [b4.cell (p := ⟨be, 2, none⟩) hbe]; exact c2
          have d3 : w4.cell? ⟨be, 3, none⟩ = some (.int .i64 k) := by rw [b4.cell (p := ⟨be, 3, none⟩) hbe]; exact c3
          have d4 : w4.cell? ⟨be, 4, none⟩ = some (.string s) := by rw [b4.cell (p := ⟨be, 4, none⟩) hbe]; exact c4
          have d5 : w4.cell? ⟨be, 5, none⟩ = some (.slice p m c) := by rw [b4.cell (p := ⟨be, 5, none⟩) hbe]; exact c5
          have d6 : w4.cell? ⟨be, 6, none⟩ = some (.int .i64 q) := by rw [b4.cell (p := ⟨be, 6, none⟩) hbe]; exact c6
          have cS : ∀ W, Below w4.heap.size w4 W → Calls Tryz.prog 14 #[.agg #[.string o, .string n, .int .i64 t, .int .i64 k, .string s, .slice p m c, .int .i64 q], .agg #[.string o2, .string n2, .int .i64 t2, .int .i64 k2, .string s2, .slice p2 m2 c2', .int .i64 q2]] W fun e w' => e = .returned (.bool true) ∧ Below w.heap.size w w' := by
            intro W hb
            refine (treeSame_any X1 X2 (fun _ => True) _ _ W ((XA.out.on b4).on hb) (hx2.out.on hb) HX1.out).mono ?_
            rintro e w' ⟨rfl, b5⟩
            exact ⟨by rw [HSM.out], BC.out.trans ((b4.trans ((hb.mono hz4).trans (b5.mono (Nat.le_trans hz4 hb.size)))).mono BC.out.size)⟩
          clear XA hx2 b4 CQ HQ3 HQZ HSM HX1 c0 c1 c2 c3 c4 c5 c6
          go_wp2_with fail
          refine (cS _ (((Below.refl _ _).alloc (Nat.le_refl _) _).alloc (by simp) _)).mono ?_
          rintro e w5 ⟨rfl, b5⟩
          go_wp2
          go_ret
          exact ⟨rfl, b5⟩
        · have q1 : ((LA : Int) == 2) = false := by simp; omega
          clear hla h22
          go_wp2
          go_quiet (fail)
          go_wp2
          go_quiet (fail)
          go_wp2_with fail
          refine (CQ.out _ _ HQZ.out HQ3.out (below_drewN (Below.refl _ _) _)).mono ?_
          rintro e w4 ⟨⟨o2, n2, t2, k2, s2, p2, m2, c2', q2, rfl, hx2⟩, b4⟩
          have hz4 := b4.size
          have hbe4 : be < w4.heap.size := by omega
          have d0 : w4.cell? ⟨be, 0, none⟩ = some (.string o) := by rw [b4.cell (p := ⟨be, 0, none⟩) hbe]; exact c0
          have d1 : w4.cell? ⟨be, 1, none⟩ = some (.string n) := by rw [b4.cell (p := ⟨be, 1, none⟩) hbe]; exact c1
          have d2 : w4.cell? ⟨be, 2, none⟩ = some (.int .i64 t) := by rw [b4.cell (p := ⟨be, 2, none⟩) hbe]; exact c2
          have d3 : w4.cell? ⟨be, 3, none⟩ = some (.int .i64 k) := by rw [b4.cell (p := ⟨be, 3, none⟩) hbe]; exact c3
          have d4 : w4.cell? ⟨be, 4, none⟩ = some (.string s) := by rw [b4.cell (p := ⟨be, 4, none⟩) hbe]; exact c4
          have d5 : w4.cell? ⟨be, 5, none⟩ = some (.slice p m c) := by rw [b4.cell (p := ⟨be, 5, none⟩) hbe]; exact c5
          have d6 : w4.cell? ⟨be, 6, none⟩ = some (.int .i64 q) := by rw [b4.cell (p := ⟨be, 6, none⟩) hbe]; exact c6
          have cS : ∀ W, Below w4.heap.size w4 W → Calls Tryz.prog 14 #[.agg #[.string o, .string n, .int .i64 t, .int .i64 k, .string s, .slice p m c, .int .i64 q], .agg #[.string o2, .string n2, .int .i64 t2, .int .i64 k2, .string s2, .slice p2 m2 c2', .int .i64 q2]] W fun e w' => e = .returned (.bool true) ∧ Below w.heap.size w w' := by
            intro W hb
            refine (treeSame_any X1 X2 (fun _ => True) _ _ W ((XA.out.on b4).on hb) (hx2.out.on hb) HX1.out).mono ?_
            rintro e w' ⟨rfl, b5⟩
            exact ⟨by rw [HSM.out], BC.out.trans ((b4.trans ((hb.mono hz4).trans (b5.mono (Nat.le_trans hz4 hb.size)))).mono BC.out.size)⟩
          clear XA hx2 b4 CQ HQ3 HQZ HSM HX1 c0 c1 c2 c3 c4 c5 c6
          go_wp2_with fail
          refine (cS _ (((Below.refl _ _).alloc (Nat.le_refl _) _).alloc (by simp) _)).mono ?_
          rintro e w5 ⟨rfl, b5⟩
          go_wp2
          go_ret
          exact ⟨rfl, b5⟩
theorem binds_any (a b : Int) (w : World) (henv : TEnv w) (hw : SG w) :
    Calls Tryz.prog 5 #[.int .i64 a, .int .i64 b] w fun e w' => e = .returned (.bool true) ∧ Below w.heap.size w w' := by
  by_cases h : a < 0 ∨ 8 < a ∨ b < 0 ∨ 8 < b
  · exact binds_out a b w h
  · obtain ⟨na, rfl⟩ : ∃ na : Nat, a = na := ⟨a.toNat, by omega⟩
    obtain ⟨nb, rfl⟩ : ∃ nb : Nat, b = nb := ⟨b.toNat, by omega⟩
    exact binds_in na nb w henv hw (by omega) (by omega)
end Go.Proofs.YtomakklbfjkdpaaGreatDoor
