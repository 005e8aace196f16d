/-
  EvAp.
-/
import Derived.Test.YtbdnccnfidjiaaaGreatDoorGyAi
import Derived.Test.YtbdnccnfidjiaaaGreatDoorGyAt
import Derived.Test.YtbdnccnfidjiaaaGreatDoorGyAh
import Derived.Test.YtbdnccnfidjiaaaGreatDoorGyAm
import Derived.Deep.RegionWith
namespace Go.Proofs.YtbdnccnfidjiaaaGreatDoor
open Go.RowKit
set_option linter.unusedVariables false
set_option linter.unusedSimpArgs false
set_option maxHeartbeats 8000000
theorem zqd{n B:Nat}{w W:World}(h:Below n w W)(hB:n≤B)(x y z:Value):Below n w (((W.setCell ⟨B,0,none⟩ x).setCell ⟨B,1,none⟩ y).setCell ⟨B,2,none⟩ z) :=
 ((h.setCell (p:=⟨B,0,none⟩) hB _).setCell (p:=⟨B,1,none⟩) hB _).setCell (p:=⟨B,2,none⟩) hB _
end Go.Proofs.YtbdnccnfidjiaaaGreatDoor
