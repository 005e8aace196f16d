/-
  A whole expression out of a place in memory and into a variable, by the laws on ranges of cells.
-/
import Derived.Test.YtknibfhoecgjlaaGreatDoorGrAn
import Derived.Test.YtknibfhoecgjlaaGreatDoorGrAo
import Derived.Deep.MidRow
namespace Go.Proofs.YtknibfhoecgjlaaGreatDoor
open Go.RowKit
set_option linter.unusedVariables false

theorem range7 {W : World} {b o : Nat} {v0 v1 v2 v3 v4 v5 v6 : Value} (h0 : W.cell? ⟨b, o, none⟩ = some v0) (h1 : W.cell? ⟨b, o + 1, none⟩ = some v1) (h2 : W.cell? ⟨b, o + 2, none⟩ = some v2) (h3 : W.cell? ⟨b, o + 3, none⟩ = some v3) (h4 : W.cell? ⟨b, o + 4, none⟩ = some v4) (h5 : W.cell? ⟨b, o + 5, none⟩ = some v5) (h6 : W.cell? ⟨b, o + 6, none⟩ = some v6) : W.rangeAt b o [v0, v1, v2, v3, v4, v5, v6] := fun j v hv => by
  have hj : j < 7 := by have := (List.getElem?_eq_some_iff.1 hv).1; simpa using this
  have : j = 0 ∨ j = 1 ∨ j = 2 ∨ j = 3 ∨ j = 4 ∨ j = 5 ∨ j = 6 := by omega
  rcases this with rfl | rfl | rfl | rfl | rfl | rfl | rfl
  all_goals (simp at hv; subst hv; assumption)
theorem Box7.range {W : World} {b : Nat} {v0 v1 v2 v3 v4 v5 v6 : Value} (h : Box7 W b v0 v1 v2 v3 v4 v5 v6) : W.rangeAt b 0 [v0, v1, v2, v3, v4, v5, v6] := range7 h.c0 h.c1 h.c2 h.c3 h.c4 h.c5 h.c6
theorem Box7.there {W : World} {b : Nat} {v0 v1 v2 v3 v4 v5 v6 : Value} (h : Box7 W b v0 v1 v2 v3 v4 v5 v6) : W.there b 0 7 := fun j hj => by
  refine ⟨?_, h.fz _⟩
  have : j = 0 ∨ j = 1 ∨ j = 2 ∨ j = 3 ∨ j = 4 ∨ j = 5 ∨ j = 6 := by omega
  rcases this with rfl | rfl | rfl | rfl | rfl | rfl | rfl
  · rw [h.c0]; rfl
  · rw [h.c1]; rfl
  · rw [h.c2]; rfl
  · rw [h.c3]; rfl
  · rw [h.c4]; rfl
  · rw [h.c5]; rfl
  · rw [h.c6]; rfl
theorem size_ex7 : (Tryz.prog.info? 26).map (·.size) = some 7 := by kernel_rfl
/-- Behind a whole expression that was stored into a variable. -/
theorem put7 {w W : World} {z n : Nat} {a0 a1 a2 a3 a4 a5 a6 v0 v1 v2 v3 v4 v5 v6 : Value} (h : Box7 W z a0 a1 a2 a3 a4 a5 a6) (hb : Below n w W) (hn : n ≤ z) :
    Box7 (W.setCells z 0 [v0, v1, v2, v3, v4, v5, v6]) z v0 v1 v2 v3 v4 v5 v6 ∧ Below n w (W.setCells z 0 [v0, v1, v2, v3, v4, v5, v6]) ∧ ∀ (lo : Nat → Prop) (u : Value) (x : Ex), ExIn W lo u x → (∀ b, lo b → b ≠ z) → ExIn (W.setCells z 0 [v0, v1, v2, v3, v4, v5, v6]) lo u x :=
  ⟨h.set v0 v1 v2 v3 v4 v5 v6, below_set7F hb hn v0 v1 v2 v3 v4 v5 v6, fun lo u x hx hl => ExIn.set7 hx hl v0 v1 v2 v3 v4 v5 v6⟩
theorem one7a (o n : ByteArray) (t k : Int) (s : ByteArray) (p : Option Addr) (m c : Nat) (a : Int) : (#[.string o, .string n, .int .i64 t, .int .i64 k, .string s, .slice p m c, .int .i64 a] : Array Value).all (·.oneCell') = true := by
  simp [Value.oneCell']
end Go.Proofs.YtknibfhoecgjlaaGreatDoor
