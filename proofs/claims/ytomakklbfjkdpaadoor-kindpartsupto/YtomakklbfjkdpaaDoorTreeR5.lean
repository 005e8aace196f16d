/-
  The program's reader of words (package tree): the readings that are several's.
-/
import Derived.Test.YtomakklbfjkdpaaDoorTreeR4
namespace Go.Proofs.YtomakklbfjkdpaaDoor
open Go.RowKit Go.BigFrame
set_option linter.unusedVariables false

theorem strs_alloc (w : World) (n : Nat) (hn : n = w.heap.size) (gs : List (List UInt8)) (cs : Array Value) (t : TypeId) (h : ∀ j (hj : j < gs.length), cs[j]? = some (.string ⟨gs[j].toArray⟩)) : StrsIn (w.alloc (.cells cs t)) n gs :=
  ⟨by simp; omega, fun j hj => by rw [World.cell?_alloc_at _ _ _ _ hn]; exact h j hj⟩
end Go.Proofs.YtomakklbfjkdpaaDoor
