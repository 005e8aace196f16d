/-
  RefNd, TreeSn, EvP.
-/
import Derived.Test.YtbdnccnfidjiaaaGreatDoorGyAm
import Derived.Test.YtbdnccnfidjiaaaGreatDoorGyAc
import Derived.WalkSmall
import Derived.Test.YtbdnccnfidjiaaaGreatDoorGyAb
import Derived.Test.YtbdnccnfidjiaaaGreatDoorGyAe
import Derived.Laws.StructEq
import Derived.Deep.RegionWith
import Derived.Test.YtbdnccnfidjiaaaGreatDoorYLexPure2
import Derived.Test.YtbdnccnfidjiaaaGreatDoorGyAk
import Derived.Test.YtbdnccnfidjiaaaGreatDoorGyAj
import Derived.Test.YtbdnccnfidjiaaaGreatDoorGyAr
namespace Go.Proofs.YtbdnccnfidjiaaaGreatDoor
open Go.RowKit
set_option linter.unusedVariables false
set_option linter.unusedSimpArgs false
set_option maxHeartbeats 8000000
section
open Go.BigFrame
theorem zgS:∀(x:Ex) (d:Nat),(x.pre d).length=x.size:=by
 refine Ex.ind fun op nm vt vn vs pos l ih d=>?_
 rw[Ex.pre,Ex.size,List.length_cons]
 have:∀l:List Ex,(∀y∈l,∀d,(y.pre d).length=y.size)→(Ex.pres (d+1) l).length=Ex.sizes l:=fun l=>by
  induction l with
  | nil=>intro _;rw[Ex.pres,Ex.sizes];rfl
  | cons y ys ihl =>
   intro h
   rw[Ex.pres,Ex.sizes,List.length_append,h y (by simp),ihl fun z hz=>h z (by simp[hz])]
 rw[this l ih]
 omega
theorem zoi:∀(x:Ex) (d m:Nat),(∀q∈x.pre d,q.2≤m)↔d+x.deep≤m+1:=by
 refine Ex.ind fun op nm vt vn vs pos l ih d m=>?_
 have key:∀l:List Ex,(∀y∈l,∀d m,(∀q∈y.pre d,q.2≤m)↔d+y.deep≤m+1)→((∀q∈Ex.pres (d+1) l,q.2≤m)↔(l=[]∨d+1+Ex.deeps l≤m+1)):=fun l=>by
  induction l with
  | nil=>intro _;rw[Ex.pres];simp
  | cons y ys ihl =>
   intro h
   have i2:=ihl fun z hz=>h z (by simp[hz])
   have hy:=h y (by simp) (d+1) m
   rw[Ex.pres,Ex.deeps]
   simp only[List.mem_append]
   constructor
   ·intro hq
    have a1:=hy.1 fun q hq2=>hq q (.inl hq2)
    have a2:=i2.1 fun q hq2=>hq q (.inr hq2)
    right
    rcases a2 with rfl|a2
    ·rw[Ex.deeps];omega
    ·omega
   ·intro hq q hq2
    have hq3:d+1+max y.deep (Ex.deeps ys)≤m+1:=by simpa using hq
    rcases hq2 with hq2|hq2
    ·exact hy.2 (by omega) q hq2
    ·exact i2.2 (.inr (by omega)) q hq2
 rw[Ex.pre,Ex.deep]
 have k:=key l ih
 constructor
 ·intro h
  have h0:=h _ (List.mem_cons_self ..)
  simp only at h0
  have h1:=k.1 fun q hq=>h q (List.mem_cons_of_mem _ hq)
  rcases h1 with rfl|h1
  ·rw[Ex.deeps];omega
  ·omega
 ·intro h q hq
  rcases List.mem_cons.1 hq with rfl|hq
  ·simp only;omega
  ·exact k.2 (.inr (by omega)) q hq
theorem zpz(x:Ex):tgB x=!x.small:=by
 have h:=znd (x.pre 1) 0
 rw[tgB,Ex.small]
 congr 1
 rw[Bool.eq_iff_iff,h,Bool.and_eq_true,decide_eq_true_eq,decide_eq_true_eq,zgS,zoi]
 have hp:1≤x.size:=by rw[←zgS x 1,zrF];simp
 constructor
 ·rintro ⟨h1,h2⟩
  refine⟨?_,by omega⟩
  rcases h1 with h1|h1
  ·have:=congrArg List.length h1
   rw[zgS] at this
   simp at this
   omega
  ·omega
 ·rintro ⟨h1,h2⟩
  exact⟨.inr (by omega),by omega⟩
end
def OkN(x:Ex):Prop:=∀d,∀q∈x.pre d,nodeE q.1=0∧inI q.1.vn
--BEGIN
mutual
def cmP(zs:List (ByteArray×Int))(rs:List V3):Ex→V3×Int
 | .node op nm vt vn vs _ l=>if op.data.toList=[118,97,108] then ((vt,vn,vs),0) else if op.data.toList=[99,111,108] then (rs[(findN nm.data.toList zs).toNat]?.getD noV,0) else combP op.data.toList (cmsP zs rs l)
def cmsP(zs:List (ByteArray×Int))(rs:List V3):List Ex→List (V3×Int)
 | []=>[]
 | x::xs=>cmP zs rs x::cmsP zs rs xs
end
end Go.Proofs.YtbdnccnfidjiaaaGreatDoor
