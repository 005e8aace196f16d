/-
  What strings.Clone says of any text: the same text.
-/
import Derived.Test.YtggabncpedcmdaaGreatDoorShelf
import Derived.WalkKit
import Derived.Below
namespace Go.Proofs.YtggabncpedcmdaaGreatDoor
open Go.RowKit

theorem clone_any (s : ByteArray) (w : World) (hs : s.size ≤ 281474976710656) :
    Calls Tryz.prog 88 #[.string s] w fun e w' => e = .returned (.string s) ∧ Below w.heap.size w w' := by
  go_enter Tryz.func88, Tryz.ntmps88
  go_wp2_with fail
  refine (Tryz.stringslite_Clone s _ hs).mono ?_
  rintro e w1 ⟨rfl, b1⟩
  go_wp2
  go_ret
  exact ⟨rfl, b1⟩
end Go.Proofs.YtggabncpedcmdaaGreatDoor
