/-
  What is read of the library's variables, with the handle of the type error; and that an error is told as its number.
-/
import Derived.Test.YtggabncpedcmdaaGreatDoorPrint
import Derived.Test.YtggabncpedcmdaaGreatDoorAs
namespace Go.Proofs.YtggabncpedcmdaaGreatDoor
open Go.RowKit
set_option linter.unusedVariables false

/-- What is read of the library's variables: its tables and errors, and the handle of the type error. -/
structure EnvT (w : World) : Prop where
  env : Env w
  et : w.cell? ⟨0, 0, none⟩ = some (.iface 145 (.agg #[.pointer (some ⟨10, 27, none⟩)]))
theorem cell_lt {w : World} {b o : Nat} {v : Value} (h : w.cell? ⟨b, o, none⟩ = some v) : b < w.heap.size := by
  rcases Nat.lt_or_ge b w.heap.size with h' | h'
  · exact h'
  · simp [World.cell?, Array.getElem?_eq_none h'] at h
theorem EnvT.on {w w' : World} (h : EnvT w) (hb : Below w.heap.size w w') : EnvT w' :=
  ⟨h.env.on hb, by rw [hb.cell (p := ⟨0, 0, none⟩) (cell_lt h.et)]; exact h.et⟩
theorem EnvT.alloc {w : World} (h : EnvT w) (o : Obj) : EnvT (w.alloc o) := h.on ((Below.refl _ _).alloc (Nat.le_refl _) o)
theorem same_any (k : Int) (w : World) (h : EnvT w) :
    Calls Tryz.prog 7 #[errV k, .int .i64 k] w fun e w' => e = .returned (.bool true) ∧ Below w.heap.size w w' := by
  by_cases hk : k = 0
  · subst hk
    exact (same_nil 0 w).mono fun e w' hh => ⟨by rw [hh.1]; rfl, by rw [hh.2]; exact Below.refl _ _⟩
  · rw [errV, if_neg hk]
    exact (same_err k k w h.et).mono fun e w' hh => ⟨by rw [hh.1]; simp, hh.2⟩
end Go.Proofs.YtggabncpedcmdaaGreatDoor
