/-
  A list of columns that is handed in, opened; and what the laid variable of the types' words gives.
-/
import Derived.Test.YtnpinbpjfngknaaGreatDoorLo5
import Derived.Test.YtnpinbpjfngknaaGreatDoorRows
import Derived.Deep.SlicePairs
import Derived.OpenShut
import Derived.Carry
import Derived.ProofKit
namespace Go.Proofs.YtnpinbpjfngknaaGreatDoor
open Go.ChangeShapes Go.WideShapes Go.ChangeAt Go.RowKit Go.Deep

theorem laidOut : laidOutB Tryz.prog = true := by kernel_rfl
theorem cellsStr : Tryz.prog.cellsOf 9 = 1 := by kernel_rfl
theorem cellsInt : Tryz.prog.cellsOf 3 = 1 := by kernel_rfl
end Go.Proofs.YtnpinbpjfngknaaGreatDoor
