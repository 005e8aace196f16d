/-
  KdRule, KdRuleB, KdFault, in one text.
-/
import Derived.Test.YtkoejkpjkcejcaaGreatDoorGrAl
import Derived.Test.YtkoejkpjkcejcaaGreatDoorQAs
import Derived.Laws.Rows
namespace Go.Proofs.YtkoejkpjkcejcaaGreatDoor
open Go.RowKit Go.BigFrame
set_option linter.unusedVariables false

end Go.Proofs.YtkoejkpjkcejcaaGreatDoor
namespace Go.Proofs.YtkoejkpjkcejcaaGreatDoor
open Go.RowKit Go.BigFrame
set_option linter.unusedVariables false

/-- Numbers one behind the other. -/
def IntsAt (w : World) (p : Option Addr) (ts : List Int) : Prop := ts.length = 0 ∨ ∃ b off, p = some ⟨b, off, none⟩ ∧ b < w.heap.size ∧ ∀ j (h : j < ts.length), w.cell? ⟨b, off + j, none⟩ = some (.int .i64 ts[j])
theorem IntsAt.on {w w' : World} {p : Option Addr} {ts : List Int} (h : IntsAt w p ts) (hb : Below w.heap.size w w') : IntsAt w' p ts := by
  rcases h with h | ⟨b, off, rfl, hlt, h⟩
  · exact .inl h
  · exact .inr ⟨b, off, rfl, by have := hb.size; omega, fun j hj => by rw [hb.cell (p := ⟨b, off + j, none⟩) hlt]; exact h j hj⟩
theorem all_snoc {ts : List Int} {k : Nat} (h : k < ts.length) : (ts.take (k + 1)).all isTy = ((ts.take k).all isTy && isTy ts[k]) := by
  rw [List.take_succ_eq_append_getElem h, List.all_append]; simp
end Go.Proofs.YtkoejkpjkcejcaaGreatDoor
namespace Go.Proofs.YtkoejkpjkcejcaaGreatDoor
open Go.RowKit Go.BigFrame
set_option linter.unusedVariables false

end Go.Proofs.YtkoejkpjkcejcaaGreatDoor
