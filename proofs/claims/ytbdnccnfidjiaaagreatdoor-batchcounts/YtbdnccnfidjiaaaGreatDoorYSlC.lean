/-
  SlC.
-/
import Derived.Test.YtbdnccnfidjiaaaGreatDoorYPhW
import Derived.Test.YtbdnccnfidjiaaaGreatDoorGyBb
import Derived.Test.YtbdnccnfidjiaaaGreatDoorGyBh
import Derived.Test.YtbdnccnfidjiaaaGreatDoorGyBi
import Derived.Test.YtbdnccnfidjiaaaGreatDoorYQuC7
import Derived.Test.YtbdnccnfidjiaaaGreatDoorYNgW
import Derived.Test.YtbdnccnfidjiaaaGreatDoorGyBe
namespace Go.Proofs.YtbdnccnfidjiaaaGreatDoor
open Go.RowKit
set_option linter.unusedVariables false
set_option linter.unusedSimpArgs false
set_option maxHeartbeats 8000000
section
open Go.BigFrame
theorem zlP(y:Ex)(hy:y=ex0)(lo:Nat→Prop)(yp:Option Addr)(yc:Nat)(W:World)(h:ExIn W lo (exV y yp yc) y):Calls Tryz.prog 69 #[exV y yp yc] W fun e w'=>(∃v,e=.returned v∧Aside (ExIn w' (W.heap.size≤·) v ex0))∧Below W.heap.size W w':=by
 subst hy
 refine (zeg ex0 lo _ W h (by decide)).mono ?_
 rintro e w' ⟨rfl,hb⟩
 exact⟨⟨_,rfl,(show Aside _ from ztI _ _)⟩,hb⟩
end
end Go.Proofs.YtbdnccnfidjiaaaGreatDoor
