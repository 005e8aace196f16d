/-
  EvEv, BtP, QuC2, WdC, WdX, QuC3, BtA, BtB, Told.
-/
import Derived.Test.YtopghagjmdbglaaGreatDoorGyAh
import Derived.Test.YtopghagjmdbglaaGreatDoorGyAr
import Derived.Deep.RegionWith
import Derived.Test.YtopghagjmdbglaaGreatDoorGyAj
import Derived.Test.YtopghagjmdbglaaGreatDoorGyAp
import Derived.Test.YtopghagjmdbglaaGreatDoorGyAk
import Derived.Deep.OwnRows
import Derived.Laws.OwnMore
import Derived.Test.YtopghagjmdbglaaGreatDoorGyAn
import Derived.Test.YtopghagjmdbglaaGreatDoorGyAa
namespace Go.Proofs.YtopghagjmdbglaaGreatDoor
open Go.RowKit
set_option linter.unusedVariables false
set_option linter.unusedSimpArgs false
set_option maxHeartbeats 8000000
set_option maxRecDepth 20000
section
open Go.BigFrame
def evP(zs:List (ByteArray×Int))(rs:List V3)(x:Ex):V3×Int:=if (ofP zs x).2.1≠0 then (noV,(ofP zs x).2.1) else if zhm zs rs≠0 then (noV,zhm zs rs) else cmP zs rs x
end
def comP(zs:List Cl)(rs:List V3)(x:Ex):V3×Int:=if noOp x=true then (noV,0) else evP zs rs x
def pasP(zs:List Cl)(rs:List V3)(x:Ex):Bool×Int:=if noOp x=true then (true,0) else ((evP zs rs x).1.2.1 == 1,(evP zs rs x).2)
def gatP(zs:List Cl)(rs:List V3):List V3→List Ex→List V3×Int
 | acc,[]=>(acc,0)
 | acc,x::xs=>if (comP zs rs x).2≠0 then ([],(comP zs rs x).2) else gatP zs rs (acc++[(comP zs rs x).1]) xs
def takP(zs:List Cl)(wh:Ex)(es:List Ex)(rs:List V3):List V3×Bool×Int :=
 if (pasP zs rs wh).2≠0 then ([],false,(pasP zs rs wh).2)
 else if (pasP zs rs wh).1=false then ([],false,0)
 else if (gatP zs rs [] es).2≠0 then ([],false,(gatP zs rs [] es).2)
 else ((gatP zs rs [] es).1,true,0)
theorem zoG{zs:List Cl}{rs:List V3}:∀(es:List Ex) (acc:List V3),(gatP zs rs acc es).2=0→(gatP zs rs acc es).1.length=acc.length+es.length
 | [],acc,_=>by simp[gatP]
 | x::xs,acc,h=>by
  rw[gatP] at h ⊢
  split at h
  ·rename_i h1;exact absurd h h1
  ·rename_i h1
   rw[if_neg h1,zoG xs _ h]
   simp;omega
section
open Go.BigFrame
theorem zla(zs:List Cl)(x:Ex):∃T E,ofT zs x=(T,E)∧((ofP zs x).2.1=E)∧(E=0→(ofP zs x).1=T)∧(E≠0→T=0):=by
 rw[ofT]
 split
 ·rename_i h
  exact⟨_,_,rfl,rfl,fun h0=>absurd h0 h,fun _=>rfl⟩
 ·rename_i h
  exact⟨_,_,rfl,Classical.not_not.1 h,fun _=>rfl,fun h0=>absurd rfl h0⟩
theorem zjs(a:Ag)(lo:Nat→Prop)(ap:Option Addr)(ac:Nat)(vl:Value)(zs:List Cl)(w:World)(henv:KEnv w)(haenv:AEnv w)(hx:ExIn w lo (exV a.arg ap ac) a.arg)(hsz:(a.arg.pre 1).length≤1048576)(hcv:ColsV w vl zs)(T E:Int)(hR:agQ zs a=(T,E)) :
  Calls Tryz.prog 132 #[agV a ap ac,vl] w fun e w'=>e=.returned (.tuple #[.int .i64 T,errV E])∧Below w.heap.size w w':=by
 have b1:=fun o=>(Below.refl w.heap.size w).alloc (Nat.le_refl _) o
 obtain⟨q,c,rfl⟩:=zaO hcv
 obtain⟨T1,E1,h1,h2,h3,h4⟩:=zla zs a.arg
 rw[agQ,h2] at hR
 obtain⟨what,⟨op,nm,vt,vn,vs,pos,l⟩,name⟩:=a
 have cA:=fun o=>zeY what (w.alloc o) (haenv.on (b1 o))
 have cN:=fun o=>zaL _ lo _ (w.alloc o) (hx.on (b1 o))
 have cT:=fun o=>zhC _ lo _ _ zs (w.alloc o) (henv.on (b1 o)) (hx.on (b1 o)) hsz (hcv.on (b1 o)) T1 E1 h1
 simp only[Ex.op,Ex.nm,Ex.vt,Ex.vn,Ex.vs,Ex.args,Ex.pos] at cA cN cT hR ⊢
 clear hx hcv henv haenv h1
 generalize zs.length=NZ at cT ⊢
 have H3:Hid (E1=0→(ofP zs (.node op nm vt vn vs pos l)).1=T1):=h3
 have H4:Hid (E1≠0→T1=0):=h4
 clear h2 h3 h4
 generalize noOp (.node op nm vt vn vs pos l)=NO at cN hR
 generalize (ofP zs (.node op nm vt vn vs pos l)).1=T2 at hR H3
 generalize l.length=NL at cN cT ⊢
 cases hI:isAg what.data.toList
 ·rw[hI] at cA
  rw[hI,if_pos rfl] at hR
  obtain⟨rfl,rfl⟩:=Prod.mk.inj hR
  rw[errV,if_neg (by decide)]
  go_enter Tryz.func132,Tryz.ntmps132
  go_wp2_with fail
  refine (cA _).mono ?_
  rintro e w1 ⟨rfl,rfl⟩
  clear cA cN cT
  go_wp2
  go_ret2
  exact⟨rfl,b1 _⟩
 ·rw[hI] at cA
  rw[hI,if_neg (by decide)] at hR
  by_cases hC:what.data.toList=zcQ
  ·rw[if_pos hC] at hR
   have hq:(what.toList == [99,111,117,110,116])=true:=by rw[Lib.toList_data];simpa using hC
   cases NO
   ·rw[if_neg (by decide)] at hR
    obtain⟨rfl,rfl⟩:=Prod.mk.inj hR
    rw[errV,if_neg (by decide)]
    go_enter Tryz.func132,Tryz.ntmps132
    go_wp2_with fail
    refine (cA _).mono ?_
    rintro e w1 ⟨rfl,rfl⟩
    go_wp2_with fail
    refine (cN _).mono ?_
    rintro e w2 ⟨rfl,b2⟩
    clear cA cN cT
    go_wp2
    go_ret2
    exact⟨rfl,(b1 _).trans (b2.mono (by simp))⟩
   ·rw[if_pos rfl] at hR
    obtain⟨rfl,rfl⟩:=Prod.mk.inj hR
    rw[errV,if_pos rfl]
    go_enter Tryz.func132,Tryz.ntmps132
    go_wp2_with fail
    refine (cA _).mono ?_
    rintro e w1 ⟨rfl,rfl⟩
    go_wp2_with fail
    refine (cN _).mono ?_
    rintro e w2 ⟨rfl,b2⟩
    have k0:=b2.cell (p:=⟨w.heap.size,0,none⟩) (by simp)
    rw[World.cell?_alloc_at _ _ _ _ rfl] at k0
    simp at k0
    have hl:w.heap.size<w2.heap.size:=by have:=b2.size;simp at this;omega
    clear cA cN cT
    go_wp2
    go_ret2
    exact⟨rfl,(b1 _).trans (b2.mono (by simp))⟩
  ·rw[if_neg hC] at hR
   have hq:(what.toList == [99,111,117,110,116])=false:=by rw[Lib.toList_data];simpa using hC
   by_cases hE:E1=0
   ·subst hE
    obtain rfl:=H3.out rfl
    rw[if_neg (by simp)] at hR
    rw[errV,if_pos rfl] at cT
    by_cases hS:what.data.toList=[115,117,109]
    ·have hq2:(what.toList == [115,117,109])=true:=by rw[Lib.toList_data];simpa using hS
     by_cases hT:T2=1
     ·subst hT
      rw[if_neg (by simp)] at hR
      obtain⟨rfl,rfl⟩:=Prod.mk.inj hR
      rw[errV,if_pos rfl]
      go_enter Tryz.func132,Tryz.ntmps132
      go_wp2_with fail
      refine (cA _).mono ?_
      rintro e w1 ⟨rfl,rfl⟩
      go_wp2_with fail
      refine (cT _).mono ?_
      rintro e w2 ⟨rfl,b2⟩
      have k0:=b2.cell (p:=⟨w.heap.size,0,none⟩) (by simp)
      rw[World.cell?_alloc_at _ _ _ _ rfl] at k0
      simp at k0
      have hl:w.heap.size<w2.heap.size:=by have:=b2.size;simp at this;omega
      clear cA cN cT
      go_wp2
      go_ret2
      exact⟨rfl,(b1 _).trans (b2.mono (by simp))⟩
     ·rw[if_pos ⟨hS,hT⟩] at hR
      obtain⟨rfl,rfl⟩:=Prod.mk.inj hR
      rw[errV,if_neg (by decide)]
      have hb:(T2 != 1)=true:=by simpa using hT
      go_enter Tryz.func132,Tryz.ntmps132
      go_wp2_with fail
      refine (cA _).mono ?_
      rintro e w1 ⟨rfl,rfl⟩
      go_wp2_with fail
      refine (cT _).mono ?_
      rintro e w2 ⟨rfl,b2⟩
      have k0:=b2.cell (p:=⟨w.heap.size,0,none⟩) (by simp)
      rw[World.cell?_alloc_at _ _ _ _ rfl] at k0
      simp at k0
      have hl:w.heap.size<w2.heap.size:=by have:=b2.size;simp at this;omega
      clear cA cN cT
      go_wp2
      go_ret2
      exact⟨rfl,(b1 _).trans (b2.mono (by simp))⟩
    ·have hq2:(what.toList == [115,117,109])=false:=by rw[Lib.toList_data];simpa using hS
     rw[if_neg (fun h=>hS h.1)] at hR
     obtain⟨rfl,rfl⟩:=Prod.mk.inj hR
     rw[errV,if_pos rfl]
     go_enter Tryz.func132,Tryz.ntmps132
     go_wp2_with fail
     refine (cA _).mono ?_
     rintro e w1 ⟨rfl,rfl⟩
     go_wp2_with fail
     refine (cT _).mono ?_
     rintro e w2 ⟨rfl,b2⟩
     have k0:=b2.cell (p:=⟨w.heap.size,0,none⟩) (by simp)
     rw[World.cell?_alloc_at _ _ _ _ rfl] at k0
     simp at k0
     have hl:w.heap.size<w2.heap.size:=by have:=b2.size;simp at this;omega
     clear cA cN cT
     go_wp2
     go_ret2
     exact⟨rfl,(b1 _).trans (b2.mono (by simp))⟩
   ·obtain rfl:=H4.out hE
    rw[if_pos hE] at hR
    obtain⟨rfl,rfl⟩:=Prod.mk.inj hR
    rw[errV,if_neg hE] at cT
    rw[errV,if_neg hE]
    go_enter Tryz.func132,Tryz.ntmps132
    go_wp2_with fail
    refine (cA _).mono ?_
    rintro e w1 ⟨rfl,rfl⟩
    go_wp2_with fail
    refine (cT _).mono ?_
    rintro e w2 ⟨rfl,b2⟩
    have k0:=b2.cell (p:=⟨w.heap.size,0,none⟩) (by simp)
    rw[World.cell?_alloc_at _ _ _ _ rfl] at k0
    simp at k0
    have hl:w.heap.size<w2.heap.size:=by have:=b2.size;simp at this;omega
    clear cA cN cT
    go_wp2
    go_ret2
    exact⟨rfl,(b1 _).trans (b2.mono (by simp))⟩
theorem zhv(x:Ex)(lo:Nat→Prop)(v vl:Value)(zs:List Cl)(w:World)(henv:KEnv w)(hx:ExIn w lo v x)(hsz:(x.pre 1).length≤1048576)(hcv:ColsV w vl zs)(E:Int)(hR:whQ zs x=E) :
  Calls Tryz.prog 68 #[v,vl] w fun e w'=>e=.returned (errV E)∧Below w.heap.size w w':=by
 have b1:=fun o=>(Below.refl w.heap.size w).alloc (Nat.le_refl _) o
 obtain⟨q,c,rfl⟩:=zaO hcv
 obtain⟨xp,xc,hxe,-⟩:=id hx.whole
 obtain⟨T1,E1,h1,h2,h3,h4⟩:=zla zs x
 rw[whQ,h2] at hR
 have cN:=fun o=>zaL x lo v (w.alloc o) (hx.on (b1 o))
 have cT:=fun o W (hb:Below w.heap.size (w.alloc o) W)=>zhC x lo v _ zs W (henv.on ((b1 o).trans hb)) (hx.on ((b1 o).trans hb)) hsz (hcv.on ((b1 o).trans hb)) T1 E1 h1
 clear hx hcv henv h1
 subst hxe
 obtain⟨op,nm,vt,vn,vs,pos,l⟩:=x
 simp only[Ex.op,Ex.nm,Ex.vt,Ex.vn,Ex.vs,Ex.args,Ex.pos] at cN cT hR ⊢
 generalize zs.length=NZ at cT ⊢
 have H3:Hid (E1=0→(ofP zs (.node op nm vt vn vs pos l)).1=T1):=h3
 clear h2 h3 h4
 generalize noOp (.node op nm vt vn vs pos l)=NO at cN hR
 generalize (ofP zs (.node op nm vt vn vs pos l)).1=T2 at hR H3
 generalize l.length=NL at cN cT ⊢
 cases NO
 ·rw[if_neg (by decide)] at hR
  by_cases hE:E1=0
  ·subst hE
   obtain rfl:=H3.out rfl
   rw[if_neg (by simp)] at hR
   by_cases hT:T2=2
   ·subst hT
    rw[if_neg (by simp)] at hR
    subst hR
    rw[errV,if_pos rfl] at cT ⊢
    go_enter Tryz.func68,Tryz.ntmps68
    go_wp2_with fail
    refine (cN _).mono ?_
    rintro e w1 ⟨rfl,b2⟩
    have kk:=fun i=>b2.cell (p:=⟨w.heap.size,i,none⟩) (by simp)
    have k0:=kk 0
    have k1:=kk 1
    have k2:=kk 2
    have k3:=kk 3
    have k4:=kk 4
    have k5:=kk 5
    have k6:=kk 6
    rw[World.cell?_alloc_at _ _ _ _ rfl] at k0 k1 k2 k3 k4 k5 k6
    simp at k0 k1 k2 k3 k4 k5 k6
    have hl:w.heap.size<w1.heap.size:=by have:=b2.size;simp at this;omega
    have c2:=cT _ w1 (b2.mono (by simp))
    clear cN cT kk
    go_wp2_with fail
    refine c2.mono ?_
    rintro e w2 ⟨rfl,b3⟩
    go_wp2
    go_ret
    exact⟨rfl,((b1 _).trans (b2.mono (by simp))).trans (b3.mono (by have:=b2.size;simp at this;omega))⟩
   ·rw[if_pos hT] at hR
    subst hR
    have hb:(T2 != 2)=true:=by simpa using hT
    rw[errV,if_pos rfl] at cT
    rw[errV,if_neg (by decide)]
    go_enter Tryz.func68,Tryz.ntmps68
    go_wp2_with fail
    refine (cN _).mono ?_
    rintro e w1 ⟨rfl,b2⟩
    have kk:=fun i=>b2.cell (p:=⟨w.heap.size,i,none⟩) (by simp)
    have k0:=kk 0
    have k1:=kk 1
    have k2:=kk 2
    have k3:=kk 3
    have k4:=kk 4
    have k5:=kk 5
    have k6:=kk 6
    rw[World.cell?_alloc_at _ _ _ _ rfl] at k0 k1 k2 k3 k4 k5 k6
    simp at k0 k1 k2 k3 k4 k5 k6
    have hl:w.heap.size<w1.heap.size:=by have:=b2.size;simp at this;omega
    have c2:=cT _ w1 (b2.mono (by simp))
    clear cN cT kk
    go_wp2_with fail
    refine c2.mono ?_
    rintro e w2 ⟨rfl,b3⟩
    go_wp2
    go_ret
    exact⟨rfl,((b1 _).trans (b2.mono (by simp))).trans (b3.mono (by have:=b2.size;simp at this;omega))⟩
  ·rw[if_pos hE] at hR
   subst hR
   rw[errV,if_neg hE] at cT ⊢
   go_enter Tryz.func68,Tryz.ntmps68
   go_wp2_with fail
   refine (cN _).mono ?_
   rintro e w1 ⟨rfl,b2⟩
   have kk:=fun i=>b2.cell (p:=⟨w.heap.size,i,none⟩) (by simp)
   have k0:=kk 0
   have k1:=kk 1
   have k2:=kk 2
   have k3:=kk 3
   have k4:=kk 4
   have k5:=kk 5
   have k6:=kk 6
   rw[World.cell?_alloc_at _ _ _ _ rfl] at k0 k1 k2 k3 k4 k5 k6
   simp at k0 k1 k2 k3 k4 k5 k6
   have hl:w.heap.size<w1.heap.size:=by have:=b2.size;simp at this;omega
   have c2:=cT _ w1 (b2.mono (by simp))
   clear cN cT kk
   go_wp2_with fail
   refine c2.mono ?_
   rintro e w2 ⟨rfl,b3⟩
   go_wp2
   go_ret
   exact⟨rfl,((b1 _).trans (b2.mono (by simp))).trans (b3.mono (by have:=b2.size;simp at this;omega))⟩
 ·rw[if_pos rfl] at hR
  subst hR
  rw[errV,if_pos rfl]
  go_enter Tryz.func68,Tryz.ntmps68
  go_wp2_with fail
  refine (cN _).mono ?_
  rintro e w1 ⟨rfl,b2⟩
  clear cN cT
  go_wp2
  go_ret
  exact⟨rfl,(b1 _).trans (b2.mono (by simp))⟩
end
def inM(x:Int):Prop:=-9223372036854775808≤x∧x≤9223372036854775807
def ChkC:Prop:=∀(size slide:Int) (w:World),inM size→inM slide→Calls Tryz.prog 100 #[.int .i64 size,.int .i64 slide] w fun e w'=>e=.returned (errV (wdE size slide))∧Below w.heap.size w w'
def StC:Prop:=∀(at_ size slide:Int) (w:World),inM at_→inM size→inM slide→Calls Tryz.prog 110 #[.int .i64 at_,.int .i64 size,.int .i64 slide] w fun e w'=>(∃u,e=.returned (.tuple #[u,errV (stE at_ size slide)])∧IntA w' u (if stE at_ size slide=0 then stP at_ size slide else []))∧Below w.heap.size w w'
theorem zpN:¬(1:Int)=0:=by decide
theorem zih{size slide:Int}(h:wdB size slide):wdE size slide=0:=by rw[wdE,if_pos h]
theorem zlG{size slide:Int}(h:¬wdB size slide):wdE size slide=1:=by rw[wdE,if_neg h]
theorem zto{at_ size slide:Int}(h:wdB size slide)(h2:0≤at_∧at_≤1000000):stE at_ size slide=0:=by rw[stE,if_pos ⟨h,h2⟩]
theorem zpa{at_ size slide:Int}(h:¬(wdB size slide∧0≤at_∧at_≤1000000)):stE at_ size slide=1:=by rw[stE,if_neg h]
def fsP(above slide:Int):Int:=if above<0 then 0 else (above / slide+1)*slide
def cnP(begin_ last slide:Int):Int:=if last<begin_ then 0 else (last-begin_) / slide+1
theorem ztX{a size slide:Int}(hw:wdB size slide):0≤dnK a size slide:=by
 unfold dnK
 split
 ·exact Int.le_refl _
 ·have:=Int.ediv_nonneg (show 0≤a-size by omega) (show 0≤slide by have:=hw.2.2.1;omega)
  omega
theorem fs_dn{a size slide:Int}:fsP (a-size) slide=dnK a size slide*slide:=by
 unfold fsP dnK
 by_cases h:a<size
 ·rw[if_pos (by omega),if_pos h,Int.zero_mul]
 ·rw[if_neg (by omega),if_neg h]
theorem zrA{x k d:Int}(hd:0<d):(x-k*d) / d=x / d-k:=by
 rw[Int.sub_eq_add_neg,←Int.neg_mul,Int.add_mul_ediv_right _ _ (by omega)];omega
theorem zvA{x k d:Int}(hd:0<d):k*d≤x↔k≤x / d:=(Int.le_ediv_iff_mul_le hd).symm
theorem cn_st{at_ size slide:Int}(hw:wdB size slide)(h0:0≤at_):cnP (dnK at_ size slide*slide) at_ slide=(stN at_ size slide:Int):=by
 have hd:0<slide:=by have:=hw.2.2.1;omega
 have hk:=zsp hw h0
 have hp:=zsZ hw h0
 have:=(zvA (x:=at_) (k:=dnK at_ size slide) hd).2 (by omega)
 unfold cnP
 rw[if_neg (by omega),zrA hd]
 omega
theorem zsv{at_ size slide:Int}(hw:wdB size slide)(h0:0≤at_):stP at_ size slide=prg (dnK at_ size slide*slide) slide (stN at_ size slide):=by
 unfold stP stS
 rw[zsp hw h0]
theorem zua{a size slide:Int}(hw:wdB size slide)(ha:a≤1000000):dnK a size slide*slide≤1001000:=by
 have hd:0<slide:=by have:=hw.2.2.1;omega
 unfold dnK
 obtain⟨s1,s2,s3,s4,s5⟩:=hw
 split
 ·rw[Int.zero_mul];omega
 ·obtain⟨h1,h2⟩:=zav (a:=a-size) hd
  rw[Int.add_mul,Int.one_mul];omega
def fillC(s d:Int)(n k:Nat):List Value:=(List.range n).map fun (i:Nat)=>if i<k then .int .i64 (s+(i:Int)*d) else .int .i64 0
theorem ziC(s d:Int)(n:Nat):fillC s d n 0=(madeCells #[.int .i64 0] n).toList:=by
 simp[fillC,madeCells]
 intro a _
 have:a % 1=0:=Nat.mod_one a
 simp[this]
theorem zlY(s d:Int)(n:Nat):fillC s d n n=intC (prg s d n):=by
 unfold fillC intC prg
 rw[List.map_map]
 apply List.map_congr_left
 intro i hi
 rw[List.mem_range] at hi
 simp[hi]
theorem zjH(s d:Int)(n k:Nat)(hk:k<n):(fillC s d n k).set k (.int .i64 (s+(k:Int)*d))=fillC s d n (k+1):=by
 apply List.ext_getElem
 ·simp[fillC]
 ·intro i h1 h2
  simp only[fillC,List.length_map,List.length_range] at h2
  rw[List.getElem_set]
  simp only[fillC,List.getElem_map,List.getElem_range]
  by_cases h:k=i
  ·subst h;simp
  ·rw[if_neg h]
   by_cases h3:i<k
   ·rw[if_pos h3,if_pos (by omega)]
   ·rw[if_neg h3,if_neg (by omega)]
theorem zbp(n l m:Int)(w:World):Calls Tryz.prog 128 #[.int .i64 n,.int .i64 l,.int .i64 m] w fun e w'=>e=.returned (.bool (decide (l≤n∧n≤m)))∧w'=w:=by
 by_cases h1:l≤n
 ·by_cases h2:n≤m
  ·have hd:decide (l≤n∧n≤m)=true:=decide_eq_true ⟨h1,h2⟩
   rw[hd]
   clear hd
   go_enter Tryz.func128,Tryz.ntmps128
   go_wp2
   go_ret
   exact⟨rfl,rfl⟩
  ·have hd:decide (l≤n∧n≤m)=false:=decide_eq_false (fun h=>h2 h.2)
   rw[hd]
   clear hd
   go_enter Tryz.func128,Tryz.ntmps128
   go_wp2
   go_ret
   exact⟨rfl,rfl⟩
 ·have hd:decide (l≤n∧n≤m)=false:=decide_eq_false (fun h=>h1 h.1)
  rw[hd]
  clear hd
  go_enter Tryz.func128,Tryz.ntmps128
  go_wp2
  go_ret
  exact⟨rfl,rfl⟩
theorem zis(x d:Int)(w:World)(h1:1≤d)(h2:d≤1000)(h3:x≤1000000):Calls Tryz.prog 142 #[.int .i64 x,.int .i64 d] w fun e w'=>e=.returned (.int .i64 (fsP x d))∧w'=w:=by
 by_cases h:x<0
 ·rw[fsP,if_pos h]
  go_enter Tryz.func142,Tryz.ntmps142
  go_wp2
  go_ret
  exact⟨rfl,rfl⟩
 ·rw[fsP,if_neg h]
  have htd:x.tdiv d=x / d:=Int.tdiv_eq_ediv_of_nonneg (by omega)
  have hq:=Int.ediv_nonneg (show 0≤x by omega) (show 0≤d by omega)
  have hdd:0<d:=by omega
  obtain⟨m1,m2⟩:=zav (a:=x) hdd
  have hl:x / d≤1000000:=by
   have:=Int.mul_le_mul_of_nonneg_left h1 hq
   omega
  generalize x / d=q at htd hq m1 m2 hl ⊢
  have hm:(q+1)*d≤1001000:=by rw[Int.add_mul,Int.one_mul];omega
  have hm0:0≤(q+1)*d:=Int.mul_nonneg (by omega) (by omega)
  have hwr:IntKind.i64.wrap ((q+1)*d)=(q+1)*d:=by rw[IntKind.wrap_i64];omega
  have hd0:¬d=0:=by omega
  go_enter Tryz.func142,Tryz.ntmps142
  go_wp2
  go_ret
  exact⟨rfl,rfl⟩
theorem zfE(s l d:Int)(w:World)(h1:1≤d)(h2:d≤1000)(h3:0≤s)(h4:s≤1001000)(h5:l≤1001000)(h6:-2000≤l):Calls Tryz.prog 171 #[.int .i64 s,.int .i64 l,.int .i64 d] w fun e w'=>e=.returned (.int .i64 (cnP s l d))∧w'=w:=by
 by_cases h:l<s
 ·rw[cnP,if_pos h]
  go_enter Tryz.func171,Tryz.ntmps171
  go_wp2
  go_ret
  exact⟨rfl,rfl⟩
 ·rw[cnP,if_neg h]
  have htd:(l-s).tdiv d=(l-s) / d:=Int.tdiv_eq_ediv_of_nonneg (by omega)
  have hq:=Int.ediv_nonneg (show 0≤l-s by omega) (show 0≤d by omega)
  have hdd:0<d:=by omega
  obtain⟨m1,m2⟩:=zav (a:=l-s) hdd
  have hl:(l-s) / d≤1001000:=by
   have:=Int.mul_le_mul_of_nonneg_left h1 hq
   omega
  generalize (l-s) / d=q at htd hq m1 m2 hl ⊢
  have hd0:¬d=0:=by omega
  go_enter Tryz.func171,Tryz.ntmps171
  go_wp2
  go_ret
  exact⟨rfl,rfl⟩
theorem zrc(s l d:Int)(n:Nat)(w:World)(h1:1≤d)(h2:d≤1000)(h3:0≤s)(h4:s≤1001000)(h5:l≤1001000)(h6:-2000≤l)(hn:cnP s l d=(n:Int))(hn2:n≤300) :
  Calls Tryz.prog 141 #[.int .i64 s,.int .i64 l,.int .i64 d] w fun e w'=>(∃u,e=.returned u∧IntA w' u (prg s d n))∧Below w.heap.size w w':=by
 have c:=zfE s l d w h1 h2 h3 h4 h5 h6
 rw[hn] at c
 have hmk:=run_make_row' (P:=Tryz.prog) 22 3 (.int .i64 0) 8 Tryz.underlying22 zhP rfl .i64 .i64 n (by omega) (by omega)
 clear hn
 go_enter Tryz.func141,Tryz.ntmps141
 go_wp2_with fail
 refine c.mono ?_
 rintro e w1 ⟨rfl,rfl⟩
 clear c
 go_wp2
 go_loopg [16] n (fun gg s16 wr=>∃kk:Nat,kk≤n∧n-kk≤gg∧s16=.int .i64 kk∧Aside (wr.ownsRow w1.heap.size 3 1 (.slice (some ⟨w1.heap.size,0,none⟩) n n) n (fillC s d n kk))∧Aside (Below w1.heap.size w1 wr))
 case atStart =>
  refine⟨0,Nat.zero_le _,by omega,rfl,?_,?_⟩
  ·show World.ownsRow _ _ _ _ _ _ _
   rw[ziC]
   have o1:=World.ownsRow_lit (base:=w1.heap.size) (e:=3) (size:=1) w1 (madeCells #[.int .i64 0] n) n (Nat.le_refl _) (by unfold maxLen;omega) (by rw[size_madeCells,Nat.mul_one])
   exact o1
  ·exact (Below.refl _ w1).alloc (Nat.le_refl _) _
 case round =>
  obtain⟨kk,hkk,hg,rfl,OW,BW⟩:=hrel
  by_cases hlt:kk<n
  ·have hltz:(kk:Int)<(n:Int):=by omega
   have h0z:(0:Int)≤(kk:Int):=by omega
   have hmb:(kk:Int)*d≤300000:=by
    have:=Int.mul_le_mul_of_nonneg_left h2 h0z
    omega
   have hm0:0≤(kk:Int)*d:=Int.mul_nonneg h0z (by omega)
   have hw1:IntKind.i64.wrap ((kk:Int)*d)=(kk:Int)*d:=by rw[IntKind.wrap_i64];omega
   have hw2:IntKind.i64.wrap (s+(kk:Int)*d)=s+(kk:Int)*d:=by rw[IntKind.wrap_i64];omega
   have hfz:wr.frozen? ⟨w1.heap.size,kk,none⟩=false:=OW.out.frozenAt kk
   have hce:wr.cell? ⟨w1.heap.size,kk,none⟩=some (.int .i64 0):=by
    rw[OW.out.cellAt kk (by omega)]
    simp[fillC,hlt]
   have hst:=(OW.out.stored kk (.int .i64 (s+(kk:Int)*d)))
   rw[zjH s d n kk hlt] at hst
   have OW2:Aside ((wr.setCell ⟨w1.heap.size,kk,none⟩ (.int .i64 (s+(kk:Int)*d))).ownsRow w1.heap.size 3 1 (.slice (some ⟨w1.heap.size,0,none⟩) n n) n (fillC s d n (kk+1))):=hst.1
   have BW2:Aside (Below w1.heap.size w1 (wr.setCell ⟨w1.heap.size,kk,none⟩ (.int .i64 (s+(kk:Int)*d)))):=BW.out.setCell (Nat.le_refl _) _
   clear hst OW BW
   go_wp2
   go_roundg (n-(kk+1))
   case measure=>omega
   case rel=>exact⟨kk+1,by omega,by omega,by go_num,OW2,BW2⟩
  ·have hltz:¬(kk:Int)<(n:Int):=by omega
   obtain rfl:kk=n:=by omega
   have I2:Aside (IntA wr (.slice (some ⟨w1.heap.size,0,none⟩) kk kk) (prg s d kk)):=by
    refine zms (B:=w1.heap.size) (zkO _ _ _) (by omega) ?_
    rw[←zlY]
    exact OW.out
   clear OW
   go_wp2
   go_ret
   exact⟨⟨_,rfl,I2.out⟩,BW.out⟩
theorem chkX:ChkC:=fun size slide w m1 m2=>by
 have c1:=zbp size 1 1000
 have c2:=zbp slide 1 size
 by_cases h1:1≤size∧size≤1000
 ·rw[decide_eq_true h1] at c1
  by_cases h2:1≤slide∧slide≤size
  ·rw[decide_eq_true h2] at c2
   obtain⟨a1,a2⟩:=h1
   obtain⟨b1,b2⟩:=h2
   have hw:IntKind.i64.wrap (10*slide)=10*slide:=by rw[IntKind.wrap_i64];omega
   by_cases h3:size≤10*slide
   ·rw[zih ⟨a1,a2,b1,b2,h3⟩,show errV 0=.nilIface from rfl]
    go_enter Tryz.func100,Tryz.ntmps100
    go_wp2_with fail
    refine (c1 _).mono ?_
    rintro e w1 ⟨rfl,rfl⟩
    clear c1
    go_wp2_with fail
    refine (c2 _).mono ?_
    rintro e w1 ⟨rfl,rfl⟩
    clear c2
    go_wp2
    go_ret
    exact⟨rfl,Below.refl _ _⟩
   ·rw[zlG (fun h=>h3 h.2.2.2.2),show errV 1=.iface 35 (.int .i64 1) from rfl]
    go_enter Tryz.func100,Tryz.ntmps100
    go_wp2_with fail
    refine (c1 _).mono ?_
    rintro e w1 ⟨rfl,rfl⟩
    clear c1
    go_wp2_with fail
    refine (c2 _).mono ?_
    rintro e w1 ⟨rfl,rfl⟩
    clear c2
    go_wp2
    go_ret
    exact⟨rfl,Below.refl _ _⟩
  ·rw[decide_eq_false h2] at c2
   rw[zlG (fun h=>h2 ⟨h.2.2.1,h.2.2.2.1⟩),show errV 1=.iface 35 (.int .i64 1) from rfl]
   clear h1 h2
   go_enter Tryz.func100,Tryz.ntmps100
   go_wp2_with fail
   refine (c1 _).mono ?_
   rintro e w1 ⟨rfl,rfl⟩
   clear c1
   go_wp2_with fail
   refine (c2 _).mono ?_
   rintro e w1 ⟨rfl,rfl⟩
   clear c2
   go_wp2
   go_ret
   exact⟨rfl,Below.refl _ _⟩
 ·rw[decide_eq_false h1] at c1
  rw[zlG (fun h=>h1 ⟨h.1,h.2.1⟩),show errV 1=.iface 35 (.int .i64 1) from rfl]
  clear h1 c2
  go_enter Tryz.func100,Tryz.ntmps100
  go_wp2_with fail
  refine (c1 _).mono ?_
  rintro e w1 ⟨rfl,rfl⟩
  clear c1
  go_wp2
  go_ret
  exact⟨rfl,Below.refl _ _⟩
theorem stX:StC:=fun at_ size slide w m1 m2 m3=>by
 have c1:=chkX size slide w m2 m3
 by_cases h1:wdB size slide
 ·rw[zih h1,show errV 0=.nilIface from rfl] at c1
  by_cases h2:0≤at_∧at_≤1000000
  ·rw[zto h1 h2,if_pos rfl,show errV 0=.nilIface from rfl,zsv h1 h2.1]
   have f1:=ztX (a:=at_) h1
   have f2:=zua (a:=at_) h1 h2.2
   have f3:=zqR h1 h2.1
   have f4:=cn_st h1 h2.1
   have c2:=zbp at_ 0 1000000
   rw[decide_eq_true h2] at c2
   obtain⟨s1,s2,s3,s4,s5⟩:=h1
   obtain⟨a1,a2⟩:=h2
   have f5:=Int.mul_nonneg f1 (show 0≤slide by omega)
   have c3:=fun W=>zis (at_-size) slide W s3 (by omega) (by omega)
   rw[fs_dn] at c3
   have c4:=fun W=>zrc (dnK at_ size slide*slide) at_ slide (stN at_ size slide) W s3 (by omega) f5 f2 (by omega) (by omega) f4 (by omega)
   generalize dnK at_ size slide*slide=K at *
   generalize stN at_ size slide=Z at *
   clear f1 f2 f3 f4 f5
   go_enter Tryz.func110,Tryz.ntmps110
   go_wp2_with fail
   refine c1.mono ?_
   rintro e w1 ⟨rfl,B1⟩
   clear c1
   have BB:Aside (Below w.heap.size w w1):=B1
   clear B1
   go_wp2_with fail
   refine (c2 _).mono ?_
   rintro e w2 ⟨rfl,rfl⟩
   clear c2
   go_wp2_with fail
   refine (c3 _).mono ?_
   rintro e w3 ⟨rfl,rfl⟩
   clear c3
   go_wp2_with fail
   refine (c4 _).mono ?_
   rintro e w4 ⟨⟨u,rfl,I4⟩,B4⟩
   clear c4
   have I5:Aside (IntA w4 u (prg K slide Z)):=I4
   have B5:Aside (Below w.heap.size w w4):=BB.out.trans (B4.mono BB.out.size)
   clear I4 B4 BB
   go_wp2
   go_ret2
   exact⟨⟨_,rfl,I5.out⟩,B5.out⟩
  ·rw[zpa (fun h=>h2 h.2),if_neg zpN,show errV 1=.iface 35 (.int .i64 1) from rfl]
   have c2:=zbp at_ 0 1000000
   rw[decide_eq_false h2] at c2
   clear h1 h2
   go_enter Tryz.func110,Tryz.ntmps110
   go_wp2_with fail
   refine c1.mono ?_
   rintro e w1 ⟨rfl,B1⟩
   clear c1
   have BB:Aside (Below w.heap.size w w1):=B1
   clear B1
   go_wp2_with fail
   refine (c2 _).mono ?_
   rintro e w2 ⟨rfl,rfl⟩
   clear c2
   go_wp2
   go_ret2
   exact⟨⟨_,rfl,IntA.nil _⟩,BB.out⟩
 ·rw[zlG h1,show errV 1=.iface 35 (.int .i64 1) from rfl] at c1
  rw[zpa (fun h=>h1 h.1),if_neg zpN,show errV 1=.iface 35 (.int .i64 1) from rfl]
  clear h1
  go_enter Tryz.func110,Tryz.ntmps110
  go_wp2_with fail
  refine c1.mono ?_
  rintro e w1 ⟨rfl,B1⟩
  clear c1
  have BB:Aside (Below w.heap.size w w1):=B1
  clear B1
  go_wp2
  go_ret2
  exact⟨⟨_,rfl,IntA.nil _⟩,BB.out⟩
section
open Go.BigFrame
theorem zht:(Tryz.prog.info? 34).map (·.size)=some 14:=by kernel_rfl
theorem zaM:(Tryz.prog.info? 30).map (·.size)=some 7:=by kernel_rfl
theorem zgX:(Tryz.prog.info? 92).map (·.size)=some 9:=by kernel_rfl
theorem zaW(w:World)(cs:Array Value)(t:TypeId):(w.alloc (.cells cs t)).heap[w.heap.size]?=some (.cells cs t (0,0)):=by
 show (w.heap.push _)[_]?=_
 rw[Array.getElem?_push_size]
structure QV(QC:Array Value)(q:Qy)(cp:Option Addr)(cc:Nat)(np:Option Addr)(nc:Nat)(gp:Option Addr)(gc:Nat)(ap:Option Addr)(ac:Nat):Prop where
 size:QC.size=14
 c8:QC[8]?=some (.slice cp q.cols.length cc)
 c9:QC[9]?=some (.slice np q.names.length nc)
 c10:QC[10]?=some (.slice gp q.group.length gc)
 c11:QC[11]?=some (.int .i64 q.size)
 c12:QC[12]?=some (.int .i64 q.slide)
 c13:QC[13]?=some (.slice ap q.aggs.length ac)
theorem qv_of(q:Qy)(wp:Option Addr)(wc:Nat)(cp:Option Addr)(cc:Nat)(np:Option Addr)(nc:Nat)(gp:Option Addr)(gc:Nat)(ap:Option Addr)(ac:Nat):QV (qyC q wp wc cp cc np nc gp gc ap ac) q cp cc np nc gp gc ap ac:=⟨rfl,rfl,rfl,rfl,rfl,rfl,rfl⟩
theorem zgV(QC:Array Value)(q:Qy)(cp:Option Addr)(cc:Nat)(np:Option Addr)(nc:Nat)(gp:Option Addr)(gc:Nat)(ap:Option Addr)(ac:Nat)(w:World)(h:QV QC q cp cc np nc gp gc ap ac) :
  Calls Tryz.prog 99 #[.agg QC] w fun e w'=>e=.returned (.bool (togQ q))∧Below w.heap.size w w':=by
 obtain⟨hs,h8,h9,h10,h11,h12,h13⟩:=h
 clear hs
 obtain⟨R,hR⟩:∃R,togQ q=R:=⟨_,rfl⟩
 have hR2:=hR
 rw[togQ] at hR2
 rw[hR]
 clear hR
 obtain⟨frm,whr,cols,names,group,size,slide,aggs⟩:=q
 simp only at h8 h9 h10 h11 h12 h13 hR2
 generalize cols.length=NC at h8 hR2
 generalize names.length=NN at h9 hR2
 generalize group.length=NG at h10 hR2
 generalize aggs.length=NA at h13 hR2
 by_cases hz:size=0
 ·subst hz
  rw[if_neg (by simp)] at hR2
  by_cases g1:slide=0
  ·subst g1
   by_cases g2:NA=0
   ·subst g2
    by_cases g3:NG=0
    ·subst g3
     by_cases g4:NN=NC
     ·subst g4
      obtain rfl:true=R:=by simpa using hR2
      go_enter Tryz.func99,Tryz.ntmps99
      go_wp2
      go_ret
      exact⟨rfl,(Below.refl _ _).alloc (Nat.le_refl _) _⟩
     ·obtain rfl:false=R:=by simpa [g4] using hR2
      have hb:((NN:Int) == (NC:Int))=false:=by simp;omega
      clear hR2 g4
      go_enter Tryz.func99,Tryz.ntmps99
      go_wp2
      go_ret
      exact⟨rfl,(Below.refl _ _).alloc (Nat.le_refl _) _⟩
    ·obtain rfl:false=R:=by simpa [g3] using hR2
     have hb:((NG:Int) == 0)=false:=by simp;omega
     clear hR2 g3
     go_enter Tryz.func99,Tryz.ntmps99
     go_wp2
     go_ret
     exact⟨rfl,(Below.refl _ _).alloc (Nat.le_refl _) _⟩
   ·obtain rfl:false=R:=by simpa [g2] using hR2
    have hb:((NA:Int) == 0)=false:=by simp;omega
    clear hR2 g2
    go_enter Tryz.func99,Tryz.ntmps99
    go_wp2
    go_ret
    exact⟨rfl,(Below.refl _ _).alloc (Nat.le_refl _) _⟩
  ·obtain rfl:false=R:=by simpa [g1] using hR2
   have hb:(slide == 0)=false:=by simpa using g1
   clear hR2 g1
   go_enter Tryz.func99,Tryz.ntmps99
   go_wp2
   go_ret
   exact⟨rfl,(Below.refl _ _).alloc (Nat.le_refl _) _⟩
 ·rw[if_pos hz] at hR2
  have hb:(size != 0)=true:=by simpa using hz
  by_cases h1:NC=0
  ·subst h1
   by_cases h2:NN=0
   ·subst h2
    obtain rfl:true=R:=by simpa using hR2
    clear hz hR2
    go_enter Tryz.func99,Tryz.ntmps99
    go_wp2
    go_ret
    exact⟨rfl,(Below.refl _ _).alloc (Nat.le_refl _) _⟩
   ·obtain rfl:false=R:=by simpa [h2] using hR2
    have hb2:((NN:Int) == 0)=false:=by simp;omega
    clear hz hR2 h2
    go_enter Tryz.func99,Tryz.ntmps99
    go_wp2
    go_ret
    exact⟨rfl,(Below.refl _ _).alloc (Nat.le_refl _) _⟩
  ·obtain rfl:false=R:=by simpa [h1] using hR2
   have hb2:((NC:Int) == 0)=false:=by simp;omega
   clear hz hR2 h1
   go_enter Tryz.func99,Tryz.ntmps99
   go_wp2
   go_ret
   exact⟨rfl,(Below.refl _ _).alloc (Nat.le_refl _) _⟩
theorem zjf(QC:Array Value)(q:Qy)(cp:Option Addr)(cc:Nat)(np:Option Addr)(nc:Nat)(gp:Option Addr)(gc:Nat)(ap:Option Addr)(ac:Nat)(w:World)(h:QV QC q cp cc np nc gp gc ap ac)(m1:inM q.size)(m2:inM q.slide)(l1:q.cols.length≤1048576)(l2:q.group.length≤1048576)(l3:q.aggs.length≤1048576)(E:Int)(hE:formQ q=E) :
  Calls Tryz.prog 67 #[.agg QC] w fun e w'=>e=.returned (errV E)∧Below w.heap.size w w':=by
 have b1:=(Below.refl w.heap.size w).alloc (Nat.le_refl _) (.cells QC 34)
 have cG:=zgV QC q cp cc np nc gp gc ap ac (w.alloc (.cells QC 34)) h
 have cW:=fun W=>chkX q.size q.slide W m1 m2
 have hblk:=zaW w QC 34
 have hs14:(Tryz.prog.info? 34).map (·.size)=some QC.size:=by rw[h.size];exact zht
 obtain⟨hs,h8,h9,h10,h11,h12,h13⟩:=h
 clear hs
 rw[formQ] at hE
 obtain⟨frm,whr,cols,names,group,size,slide,aggs⟩:=q
 simp only at h8 h9 h10 h11 h12 h13 hE cW l1 l2 l3
 generalize togQ ⟨frm,whr,cols,names,group,size,slide,aggs⟩=TG at cG hE
 generalize cols.length=NC at h8 hE l1
 generalize group.length=NG at h10 hE l2
 generalize aggs.length=NA at h13 hE l3
 generalize names.length=NN at h9
 clear m1 m2
 obtain⟨CC,hCC⟩:∃CC,CC=QC:=⟨_,rfl⟩
 have hld:∀{ops:Array Oper} {rest:List Oper} {op:Oper} {a:Act} {Q:Exit→Act→World→Prop} (hgd:op.guard=none) (x:Operand) (ho:op.op=.load 34 x) (hx:a.eval x=.pointer (some ⟨w.heap.size,0,none⟩)),wpList Tryz.prog ops Q rest (a.put op.dst (.agg QC)) (w.alloc (.cells QC 34))→wpList Tryz.prog ops Q (op::rest) a (w.alloc (.cells QC 34)):=fun hgd x ho hx=>wpList_load_row hgd 34 x ho w.heap.size hx _ QC _ _ hblk Tryz.underlying34 rfl hs14
 clear hblk hs14 hCC
 cases TG
 ·rw[if_pos rfl] at hE
  subst hE
  rw[errV,if_neg (by decide)]
  go_enter Tryz.func67,Tryz.ntmps67
  go_wp2_with (refine hld rfl _ rfl rfl ?_)
  go_wp2_with fail
  refine cG.mono ?_
  rintro e w1 ⟨rfl,b2⟩
  clear hld cG cW
  go_wp2
  go_ret
  exact⟨rfl,b1.trans (b2.mono (by simp))⟩
 ·rw[if_neg (by decide)] at hE
  have KK:∀W,Below (w.alloc (.cells QC 34)).heap.size (w.alloc (.cells QC 34)) W→W.cell? ⟨w.heap.size,8,none⟩=some (.slice cp NC cc)∧W.cell? ⟨w.heap.size,10,none⟩=some (.slice gp NG gc)∧W.cell? ⟨w.heap.size,11,none⟩=some (.int .i64 size)∧W.cell? ⟨w.heap.size,12,none⟩=some (.int .i64 slide)∧W.cell? ⟨w.heap.size,13,none⟩=some (.slice ap NA ac):=fun W hb=>by
   have kk:=fun i=>hb.cell (p:=⟨w.heap.size,i,none⟩) (by simp)
   refine⟨?_,?_,?_,?_,?_⟩
   all_goals (rw[kk,World.cell?_alloc_at _ _ _ _ rfl];assumption)
  by_cases hz:size=0
  ·subst hz
   rw[if_neg (by simp)] at hE
   by_cases h0:NC+NG+NA=0
   ·rw[if_pos h0] at hE
    subst hE
    rw[errV,if_neg (by decide)]
    obtain⟨rfl,rfl,rfl⟩:NC=0∧NG=0∧NA=0:=by omega
    go_enter Tryz.func67,Tryz.ntmps67
    go_wp2_with (refine hld rfl _ rfl rfl ?_)
    go_wp2_with fail
    refine cG.mono ?_
    rintro e w1 ⟨rfl,b2⟩
    have B1:Below w.heap.size w w1:=b1.trans (b2.mono (by simp))
    have hl1:w.heap.size<w1.heap.size:=by have:=b2.size;simp at this;omega
    obtain⟨k8,k10,k11,k12,k13⟩:=KK _ b2
    clear hld cG
    clear cW
    go_wp2
    go_ret
    exact⟨rfl,B1⟩
   ·rw[if_neg h0] at hE
    by_cases h6:6<NC+NG+NA
    ·rw[if_pos h6] at hE
     subst hE
     rw[errV,if_neg (by decide)]
     have hn0:((NC:Int)+(NG:Int)+(NA:Int) == 0)=false:=by simp;omega
     have hn6:(6:Int)<(NC:Int)+(NG:Int)+(NA:Int):=by omega
     go_enter Tryz.func67,Tryz.ntmps67
     go_wp2_with (refine hld rfl _ rfl rfl ?_)
     go_wp2_with fail
     refine cG.mono ?_
     rintro e w1 ⟨rfl,b2⟩
     have B1:Below w.heap.size w w1:=b1.trans (b2.mono (by simp))
     have hl1:w.heap.size<w1.heap.size:=by have:=b2.size;simp at this;omega
     obtain⟨k8,k10,k11,k12,k13⟩:=KK _ b2
     clear hld cG
     clear cW
     go_wp2
     go_ret
     exact⟨rfl,B1⟩
    ·rw[if_neg h6] at hE
     subst hE
     rw[errV,if_pos rfl]
     have hn0:((NC:Int)+(NG:Int)+(NA:Int) == 0)=false:=by simp;omega
     have hn6:¬(6:Int)<(NC:Int)+(NG:Int)+(NA:Int):=by omega
     go_enter Tryz.func67,Tryz.ntmps67
     go_wp2_with (refine hld rfl _ rfl rfl ?_)
     go_wp2_with fail
     refine cG.mono ?_
     rintro e w1 ⟨rfl,b2⟩
     have B1:Below w.heap.size w w1:=b1.trans (b2.mono (by simp))
     have hl1:w.heap.size<w1.heap.size:=by have:=b2.size;simp at this;omega
     obtain⟨k8,k10,k11,k12,k13⟩:=KK _ b2
     clear hld cG
     clear cW
     go_wp2
     go_ret
     exact⟨rfl,B1⟩
  ·have hb:(size != 0)=true:=by simpa using hz
   by_cases hw:wdB size slide
   ·rw[if_neg (fun h=>h.2 hw)] at hE
    rw[zih hw,errV,if_pos rfl] at cW
    by_cases h0:NC+NG+NA=0
    ·rw[if_pos h0] at hE
     subst hE
     rw[errV,if_neg (by decide)]
     obtain⟨rfl,rfl,rfl⟩:NC=0∧NG=0∧NA=0:=by omega
     go_enter Tryz.func67,Tryz.ntmps67
     go_wp2_with (refine hld rfl _ rfl rfl ?_)
     go_wp2_with fail
     refine cG.mono ?_
     rintro e w1 ⟨rfl,b2⟩
     have B1:Below w.heap.size w w1:=b1.trans (b2.mono (by simp))
     have hl1:w.heap.size<w1.heap.size:=by have:=b2.size;simp at this;omega
     obtain⟨k8,k10,k11,k12,k13⟩:=KK _ b2
     clear hld cG
     go_wp2_with fail
     refine (cW w1).mono ?_
     rintro e w2 ⟨rfl,b3⟩
     clear cW
     have B2:Below w.heap.size w w2:=B1.trans (b3.mono (by omega))
     have hl2:w.heap.size<w2.heap.size:=by have:=b3.size;omega
     rw[←b3.cell (p:=⟨w.heap.size,8,none⟩) hl1] at k8
     rw[←b3.cell (p:=⟨w.heap.size,10,none⟩) hl1] at k10
     rw[←b3.cell (p:=⟨w.heap.size,13,none⟩) hl1] at k13
     go_wp2
     go_ret
     exact⟨rfl,B2⟩
    ·rw[if_neg h0] at hE
     by_cases h6:6<NC+NG+NA
     ·rw[if_pos h6] at hE
      subst hE
      rw[errV,if_neg (by decide)]
      have hn0:((NC:Int)+(NG:Int)+(NA:Int) == 0)=false:=by simp;omega
      have hn6:(6:Int)<(NC:Int)+(NG:Int)+(NA:Int):=by omega
      go_enter Tryz.func67,Tryz.ntmps67
      go_wp2_with (refine hld rfl _ rfl rfl ?_)
      go_wp2_with fail
      refine cG.mono ?_
      rintro e w1 ⟨rfl,b2⟩
      have B1:Below w.heap.size w w1:=b1.trans (b2.mono (by simp))
      have hl1:w.heap.size<w1.heap.size:=by have:=b2.size;simp at this;omega
      obtain⟨k8,k10,k11,k12,k13⟩:=KK _ b2
      clear hld cG
      go_wp2_with fail
      refine (cW w1).mono ?_
      rintro e w2 ⟨rfl,b3⟩
      clear cW
      have B2:Below w.heap.size w w2:=B1.trans (b3.mono (by omega))
      have hl2:w.heap.size<w2.heap.size:=by have:=b3.size;omega
      rw[←b3.cell (p:=⟨w.heap.size,8,none⟩) hl1] at k8
      rw[←b3.cell (p:=⟨w.heap.size,10,none⟩) hl1] at k10
      rw[←b3.cell (p:=⟨w.heap.size,13,none⟩) hl1] at k13
      go_wp2
      go_ret
      exact⟨rfl,B2⟩
     ·rw[if_neg h6] at hE
      subst hE
      rw[errV,if_pos rfl]
      have hn0:((NC:Int)+(NG:Int)+(NA:Int) == 0)=false:=by simp;omega
      have hn6:¬(6:Int)<(NC:Int)+(NG:Int)+(NA:Int):=by omega
      go_enter Tryz.func67,Tryz.ntmps67
      go_wp2_with (refine hld rfl _ rfl rfl ?_)
      go_wp2_with fail
      refine cG.mono ?_
      rintro e w1 ⟨rfl,b2⟩
      have B1:Below w.heap.size w w1:=b1.trans (b2.mono (by simp))
      have hl1:w.heap.size<w1.heap.size:=by have:=b2.size;simp at this;omega
      obtain⟨k8,k10,k11,k12,k13⟩:=KK _ b2
      clear hld cG
      go_wp2_with fail
      refine (cW w1).mono ?_
      rintro e w2 ⟨rfl,b3⟩
      clear cW
      have B2:Below w.heap.size w w2:=B1.trans (b3.mono (by omega))
      have hl2:w.heap.size<w2.heap.size:=by have:=b3.size;omega
      rw[←b3.cell (p:=⟨w.heap.size,8,none⟩) hl1] at k8
      rw[←b3.cell (p:=⟨w.heap.size,10,none⟩) hl1] at k10
      rw[←b3.cell (p:=⟨w.heap.size,13,none⟩) hl1] at k13
      go_wp2
      go_ret
      exact⟨rfl,B2⟩
   ·rw[if_pos ⟨hz,hw⟩] at hE
    subst hE
    rw[zlG hw] at cW
    rw[errV,if_neg (by decide)] at cW ⊢
    go_enter Tryz.func67,Tryz.ntmps67
    go_wp2_with (refine hld rfl _ rfl rfl ?_)
    go_wp2_with fail
    refine cG.mono ?_
    rintro e w1 ⟨rfl,b2⟩
    have B1:Below w.heap.size w w1:=b1.trans (b2.mono (by simp))
    have hl1:w.heap.size<w1.heap.size:=by have:=b2.size;simp at this;omega
    obtain⟨k8,k10,k11,k12,k13⟩:=KK _ b2
    clear hld cG
    go_wp2_with fail
    refine (cW w1).mono ?_
    rintro e w2 ⟨rfl,b3⟩
    clear cW
    go_wp2
    go_ret
    exact⟨rfl,B1.trans (b3.mono (by omega))⟩
theorem zjX:(Tryz.prog.info? 97).map (·.size)=some 9:=by kernel_rfl
theorem zgC{W:World}{b:Nat}{cs:Array Value}{t:TypeId}{d:TypeDesc}(hb:Blk W b cs t)(hu:Tryz.prog.underlying t=some d)(hd:d.isRow=true)(hs:(Tryz.prog.info? t).map (·.size)=some cs.size) :
  ∀{ops:Array Oper}{rest:List Oper}{op:Oper}{a:Act}{Q:Exit→Act→World→Prop}(hgd:op.guard=none)(x:Operand)(ho:op.op=.load t x)(hx:a.eval x=.pointer (some ⟨b,0,none⟩)),wpList Tryz.prog ops Q rest (a.put op.dst (.agg cs)) W→wpList Tryz.prog ops Q (op::rest) a W :=
 fun hgd x ho hx h=>zal hgd t x ho b 0 hx cs t hb cs.toList (fun j v hv=>by rw[Nat.zero_add];simpa using hv) d hu hd (by rw[hs,Array.length_toList]) h
theorem zeO{w:World}{lo:Nat→Prop}{XC:Array Value}{x:Ex}(h:ExIn w lo (.agg XC) x):XC.size=7:=by
 obtain⟨o1,n1,t1,k1,s1,p1,m1,c1,a1,e⟩:=h.agg
 injection e with e
 rw[e]
 rfl
theorem come3(w:World)(SC XC:Array Value):Below w.heap.size w (((w.alloc (.cells SC 97)).alloc (.cells XC 30)).alloc (.cells #[.int .i64 0,.int .i64 0,.string ⟨#[]⟩] 27))∧∀W,Below (w.heap.size+3) (((w.alloc (.cells SC 97)).alloc (.cells XC 30)).alloc (.cells #[.int .i64 0,.int .i64 0,.string ⟨#[]⟩] 27)) W→Blk W w.heap.size SC 97∧Blk W (w.heap.size+1) XC 30∧Blk W (w.heap.size+2) #[.int .i64 0,.int .i64 0,.string ⟨#[]⟩] 27∧w.heap.size+3≤W.heap.size∧Below w.heap.size w W:=by
 have b0:=(Below.refl w.heap.size w).alloc (Nat.le_refl _) (.cells SC 97)
 have b1:=b0.alloc (by simp) (.cells XC 30)
 have b2:=b1.alloc (by simp;omega) (.cells #[.int .i64 0,.int .i64 0,.string ⟨#[]⟩] 27)
 refine⟨b2,fun W hb=>?_⟩
 have hz:=hb.size
 simp at hz
 have k0:=zac w SC 97
 have k1:=zac (w.alloc (.cells SC 97)) XC 30
 have k2:=zac ((w.alloc (.cells SC 97)).alloc (.cells XC 30)) #[.int .i64 0,.int .i64 0,.string ⟨#[]⟩] 27
 rw[show (w.alloc (.cells SC 97)).heap.size=w.heap.size+1 by simp] at k1
 rw[show ((w.alloc (.cells SC 97)).alloc (.cells XC 30)).heap.size=w.heap.size+2 by simp] at k2
 have a1:∀(X:World) o,Below X.heap.size X (X.alloc o):=fun X o=>(Below.refl _ _).alloc (Nat.le_refl _) o
 refine⟨(((k0.on (a1 _ _)).on (a1 _ _))).keep (hb.block _ (by omega)),(k1.on (a1 _ _)).keep (hb.block _ (by omega)),k2.keep (hb.block _ (by omega)),hz,b2.trans (hb.mono (by omega))⟩
theorem ztZ(x:Ex)(lo:Nat→Prop)(XC SC:Array Value)(vl vr:Value)(zs:List Cl)(rs:List V3)(w:World)(hx:ExIn w lo (.agg XC) x)(hS0:SC[0]?=some vl)(hcv:ColsV w vl zs)(t k:Int)(s:ByteArray)(E:Int)(hR:comP zs rs x=((t,k,s),E))(hEv:noOp x=false→evP zs rs x=((t,k,s),E)→∀W,Below w.heap.size w W→Calls Tryz.prog 133 #[.agg XC,vl,vr] W fun e w'=>e=.returned (.tuple #[.agg #[.int .i64 t,.int .i64 k,.string s],errV E])∧Below W.heap.size W w') :
  Calls Tryz.prog 106 #[.agg SC,.agg XC,vr] w fun e w'=>e=.returned (.tuple #[.agg #[.int .i64 t,.int .i64 k,.string s],errV E])∧Below w.heap.size w w':=by
 have hX7:=zeO hx
 obtain⟨b1,box⟩:=come3 w SC XC
 have cN:=fun W (hb:Below w.heap.size w W)=>zaL x lo (.agg XC) W (hx.on hb)
 have hs7:(Tryz.prog.info? 30).map (·.size)=some XC.size:=by rw[hX7];kernel_rfl
 have hld:=fun W (hb:Blk W (w.heap.size+1) XC 30)=>@zgC W _ _ _ _ hb Tryz.underlying30 rfl hs7
 obtain⟨z1,z2,rfl⟩:=zaO hcv
 rw[comP] at hR
 by_cases hn:noOp x=true
 ·rw[if_pos hn] at hR
  simp only[noV,Prod.mk.injEq] at hR
  obtain⟨⟨rfl,rfl,rfl⟩,rfl⟩:=hR
  rw[errV,if_pos rfl]
  rw[hn] at cN
  clear hx hcv hS0 hs7 hEv
  go_enter Tryz.func106,Tryz.ntmps106
  go_wp2_with (refine hld _ (box _ (Below.refl _ _)).2.1 rfl _ rfl rfl ?_)
  go_wp2_with fail
  refine (cN _ b1).mono ?_
  rintro e w1 ⟨rfl,b2⟩
  obtain⟨k0,k1,k2,hl,B⟩:=box w1 (b2.mono (by simp))
  have f0:=k2.cell 0
  have f1:=k2.cell 1
  have f2:=k2.cell 2
  have ff:=fun o=>k2.frozen o
  have hl2:w.heap.size+2<w1.heap.size:=by omega
  simp at f0 f1 f2
  clear cN hld box k0 k1 k2 b2
  go_wp2
  refine bodyPost_ret (v:=.tuple #[.agg #[.int .i64 0,.int .i64 0,.string ⟨#[]⟩],.nilIface]) (by simp[results,Tryz.results106,go_sem,World.cell?_setCell_other,World.cell?_setCell_same,f0,f1,f2]) rfl ⟨rfl,?_⟩
  exact ztn B (by omega) _ _ _
 ·have hnb:noOp x=false:=by simpa using hn
  rw[if_neg hn] at hR
  rw[hnb] at cN
  have cE:=hEv hnb hR
  clear hx hcv hs7 hR hn hnb hEv
  generalize errV E=RV at *
  go_enter Tryz.func106,Tryz.ntmps106
  go_wp2_with (refine hld _ (box _ (Below.refl _ _)).2.1 rfl _ rfl rfl ?_)
  go_wp2_with fail
  refine (cN _ b1).mono ?_
  rintro e w1 ⟨rfl,b2⟩
  have B3:=b2.mono (show w.heap.size+3≤_ by simp)
  obtain⟨k0,k1,k2,hl,B⟩:=box w1 B3
  have hs0:=k0.cell 0
  rw[hS0] at hs0
  have hl0:w.heap.size<w1.heap.size:=by omega
  clear cN
  go_wp2_with (refine hld _ k1 rfl _ rfl rfl ?_)
  go_wp2_with fail
  refine (cE _ B).mono ?_
  rintro e w2 ⟨rfl,b4⟩
  obtain⟨k0',k1',k2',hl',B'⟩:=box w2 (B3.trans (b4.mono hl))
  have f0:=k2'.cell 0
  have f1:=k2'.cell 1
  have f2:=k2'.cell 2
  have ff:=fun o=>k2'.frozen o
  have hl2:w.heap.size+2<w2.heap.size:=by omega
  simp at f0 f1 f2
  clear cE hld box k0 k1 k2 k0' k1' k2' b2 b4 B3 hs0 hS0
  go_wp2
  refine bodyPost_ret (v:=.tuple #[.agg #[.int .i64 t,.int .i64 k,.string s],RV]) (by simp[results,Tryz.results106,go_sem,World.cell?_setCell_other,World.cell?_setCell_same,f0,f1,f2]) rfl ⟨rfl,?_⟩
  exact ztn B' (by omega) _ _ _
theorem ld_ex{W:World}{b o:Nat}{cs XC:Array Value}{T:TypeId}(hb:Blk W b cs T)(hr:∀j v,XC[j]?=some v→cs[o+j]?=some v)(h7:XC.size=7) :
  ∀{ops:Array Oper}{rest:List Oper}{op:Oper}{a:Act}{Q:Exit→Act→World→Prop}(hgd:op.guard=none)(x:Operand)(ho:op.op=.load 30 x)(hx:a.eval x=.pointer (some ⟨b,o,none⟩)),wpList Tryz.prog ops Q rest (a.put op.dst (.agg XC)) W→wpList Tryz.prog ops Q (op::rest) a W :=
 fun hgd x ho hx h=>zal hgd 30 x ho b o hx cs T hb XC.toList (by simpa using hr) _ Tryz.underlying30 rfl (by rw[Array.length_toList,h7];kernel_rfl) h
structure SvIs(SC:Array Value)(vl:Value)(XC:Array Value)(cv:Value):Prop where
 size:SC.size=9
 s0:SC[0]?=some vl
 ex:∀j v,XC[j]?=some v→SC[1+j]?=some v
 s8:SC[8]?=some cv
theorem zpe(x:Ex)(lo:Nat→Prop)(XC SC:Array Value)(vl vr cv:Value)(zs:List Cl)(rs:List V3)(w:World)(hx:ExIn w lo (.agg XC) x)(hS:SvIs SC vl XC cv)(hcv:ColsV w vl zs)(P:Bool)(E:Int)(hR:pasP zs rs x=(P,E))(hEv:noOp x=false→∀t k s E',evP zs rs x=((t,k,s),E')→∀W,Below w.heap.size w W→Calls Tryz.prog 133 #[.agg XC,vl,vr] W fun e w'=>e=.returned (.tuple #[.agg #[.int .i64 t,.int .i64 k,.string s],errV E'])∧Below W.heap.size W w') :
  Calls Tryz.prog 105 #[.agg SC,vr] w fun e w'=>e=.returned (.tuple #[.bool P,errV E])∧Below w.heap.size w w':=by
 have hX7:=zeO hx
 have b1:=(Below.refl w.heap.size w).alloc (Nat.le_refl _) (.cells SC 97)
 have hbk:∀W,Below (w.heap.size+1) (w.alloc (.cells SC 97)) W→Blk W w.heap.size SC 97:=fun W hb=>(zac w SC _).keep (hb.block _ (by omega))
 have cN:=fun W (hb:Below w.heap.size w W)=>zaL x lo (.agg XC) W (hx.on hb)
 have hldx:=fun W (hb:Below (w.heap.size+1) (w.alloc (.cells SC 97)) W)=>@ld_ex W _ 1 _ _ _ (hbk W hb) hS.ex hX7
 have hlds:=fun W (hb:Below (w.heap.size+1) (w.alloc (.cells SC 97)) W)=>@zgC W _ _ _ _ (hbk W hb) Tryz.underlying97 rfl (by rw[hS.size];exact zjX)
 rw[pasP] at hR
 by_cases hn:noOp x=true
 ·rw[if_pos hn] at hR
  obtain⟨rfl,rfl⟩:=Prod.mk.inj hR
  rw[errV,if_pos rfl]
  rw[hn] at cN
  clear hx hcv hS hbk hEv
  go_enter Tryz.func105,Tryz.ntmps105
  go_wp2_with (refine hldx _ (Below.refl _ _) rfl _ rfl rfl ?_)
  go_wp2_with fail
  refine (cN _ b1).mono ?_
  rintro e w1 ⟨rfl,b2⟩
  have B:=b1.trans (b2.mono (by simp))
  clear cN hldx hlds b2
  go_wp2
  go_ret2
  exact⟨rfl,B⟩
 ·have hnb:noOp x=false:=by simpa using hn
  rw[if_neg hn] at hR
  rw[hnb] at cN
  obtain⟨t,k,s,E',hev⟩:∃t k s E',evP zs rs x=((t,k,s),E'):=⟨_,_,_,_,rfl⟩
  rw[hev] at hR
  obtain⟨rfl,rfl⟩:=Prod.mk.inj hR
  have cE:=fun W (hb:Below w.heap.size w W)=>ztZ x lo XC SC vl vr zs rs W (hx.on hb) hS.s0 (hcv.on hb) t k s E' (by rw[comP,if_neg hn,hev]) (fun h1 h2 V hV=>hEv h1 t k s E' h2 V (hb.trans (hV.mono hb.size)))
  clear hx hcv hR hn hnb hS hbk hev hEv
  generalize errV E'=RV at *
  go_enter Tryz.func105,Tryz.ntmps105
  go_wp2_with (refine hldx _ (Below.refl _ _) rfl _ rfl rfl ?_)
  go_wp2_with fail
  refine (cN _ b1).mono ?_
  rintro e w1 ⟨rfl,b2⟩
  have B3:=b2.mono (show w.heap.size+1≤_ by simp)
  have B:=b1.trans (b2.mono (by simp))
  have hl:w.heap.size+1≤w1.heap.size:=by have:=B3.size;simpa using this
  clear cN
  go_wp2_with (first|(refine hlds _ B3 rfl _ rfl rfl ?_)|(refine hldx _ B3 rfl _ rfl rfl ?_))
  go_wp2_with fail
  refine (cE _ B).mono ?_
  rintro e w2 ⟨rfl,b4⟩
  have B':=B.trans (b4.mono (by omega))
  have hl2:w.heap.size≤w2.heap.size:=B'.size
  clear cE hldx hlds b2 b4 B3
  go_wp2
  go_ret2
  exact⟨rfl,B'.alloc hl2 _⟩
def FrV(B:Nat)(W:World)(u:Value)(T:List V3):Prop:=∃q c,u=.slice q T.length c∧zah W q T∧(T.length=0∨∃b off,q=some ⟨b,off,none⟩∧B≤b)
theorem FrV.own{B n:Nat}{W:World}{u:Value}{T:List V3}(hn:T.length=n)(h:W.ownsRow B 27 3 u n (zan T)):FrV B W u T:=by
 subst hn
 obtain⟨q,c,rfl⟩:=zaa h
 refine⟨q,c,rfl,zev rfl h,?_⟩
 rcases h.2 with ⟨e1,h0⟩|⟨g,cap,cur,e1,hb,_⟩
 ·exact .inl h0
 ·injection e1 with e1
  subst e1
  exact .inr ⟨g,0,rfl,hb⟩
theorem FrV.nil(B:Nat)(W:World):FrV B W (.slice none 0 0) []:=⟨none,0,rfl,.inl rfl,.inl rfl⟩
theorem zpg{zs:List Cl}{rs acc:List V3}{es:List Ex}{k:Nat}(h:k<es.length):gatP zs rs acc (es.drop k)=if (comP zs rs es[k]).2≠0 then ([],(comP zs rs es[k]).2) else gatP zs rs (acc++[(comP zs rs es[k]).1]) (es.drop (k+1)):=by
 rw[List.drop_eq_getElem_cons h,gatP]
theorem zvp(x:Ex)(es:List Ex)(lo:Nat→Prop)(XC SC:Array Value)(vl vr:Value)(cp:Option Addr)(cc:Nat)(zs:List Cl)(rs:List V3)(w:World)(hx:ExIn w lo (.agg XC) x)(hes:zat w lo (.slice cp es.length cc) es)(hel:es.length≤1048576)(hS:SvIs SC vl XC (.slice cp es.length cc))(hcv:ColsV w vl zs)(T:List V3)(P:Bool)(E:Int)(hR:takP zs x es rs=(T,P,E))(hEvx:noOp x=false→∀t k s E',evP zs rs x=((t,k,s),E')→∀W,Below w.heap.size w W→Calls Tryz.prog 133 #[.agg XC,vl,vr] W fun e w'=>e=.returned (.tuple #[.agg #[.int .i64 t,.int .i64 k,.string s],errV E'])∧Below W.heap.size W w')(hEvs:∀y∈es,noOp y=false→∀YC t k s E',evP zs rs y=((t,k,s),E')→∀W,Below w.heap.size w W→ExIn W lo (.agg YC) y→Calls Tryz.prog 133 #[.agg YC,vl,vr] W fun e w'=>e=.returned (.tuple #[.agg #[.int .i64 t,.int .i64 k,.string s],errV E'])∧Below W.heap.size W w') :
  Calls Tryz.prog 71 #[.agg SC,vr] w fun e w'=>(∃u,e=.returned (.tuple #[u,.bool P,errV E])∧Aside (FrV w.heap.size w' u T))∧Below w.heap.size w w':=by
 have b1:=(Below.refl w.heap.size w).alloc (Nat.le_refl _) (.cells SC 97)
 have hbk:∀W,Below (w.heap.size+1) (w.alloc (.cells SC 97)) W→Blk W w.heap.size SC 97:=fun W hb=>(zac w SC _).keep (hb.block _ (by omega))
 have hlds:=fun W (hb:Below (w.heap.size+1) (w.alloc (.cells SC 97)) W)=>@zgC W _ _ _ _ (hbk W hb) Tryz.underlying97 rfl (by rw[hS.size];exact zjX)
 have hc8:∀W,Below (w.heap.size+1) (w.alloc (.cells SC 97)) W→W.cell? ⟨w.heap.size,8,none⟩=some (.slice cp es.length cc):=fun W hb=>by rw[(hbk W hb).cell];exact hS.s8
 obtain⟨PP,PE,hpa⟩:∃PP PE,pasP zs rs x=(PP,PE):=⟨_,_,rfl⟩
 have cP:=zpe x lo XC SC vl vr _ zs rs _ (hx.on b1) hS (hcv.on b1) PP PE hpa (fun h1 t k s E' h2 V hV=>hEvx h1 t k s E' h2 V (b1.trans (hV.mono b1.size)))
 rw[takP,hpa] at hR
 have hs0:=hS.s0
 clear hpa hx hbk hS hEvx
 by_cases hE:PE=0
 ·subst hE
  rw[errV,if_pos rfl] at cP
  rw[if_neg (by simp)] at hR
  cases PP
  ·rw[if_pos rfl] at hR
   simp only[Prod.mk.injEq] at hR
   obtain⟨rfl,rfl,rfl⟩:=hR
   rw[errV,if_pos rfl]
   clear hc8 hes hel hcv hEvs
   go_enter Tryz.func71,Tryz.ntmps71
   go_wp2_with (refine hlds _ (Below.refl _ _) rfl _ rfl rfl ?_)
   go_wp2_with fail
   refine cP.mono ?_
   rintro e w1 ⟨rfl,b2⟩
   have B:=b1.trans (b2.mono (by simp))
   clear cP hlds b2
   go_wp2
   exact bodyPost_ret (v:=.tuple #[.slice none 0 0,.bool false,.nilIface]) (by simp[results,Tryz.results71,go_sem]) rfl ⟨⟨_,rfl,(show Aside _ from FrV.nil _ _)⟩,B⟩
  ·rw[if_neg (by simp)] at hR
   obtain⟨G,GE,hg⟩:∃G GE,gatP zs rs [] es=(G,GE):=⟨_,_,rfl⟩
   have hGl:=zoG (zs:=zs) (rs:=rs) es []
   rw[hg] at hR hGl
   have HG:Hid (gatP zs rs [] es=(G,GE)):=hg
   have HGL:Hid (GE=0→G.length=es.length):=by simpa [Hid] using hGl
   have HR:Hid ((if GE≠0 then ([],false,GE) else (G,true,0))=(T,P,E)):=hR
   have cE:=fun W (hb:Below w.heap.size w W) y (hm:y∈es) YC hy t k s E' hc=>ztZ y lo YC SC vl vr zs rs W hy hs0 (hcv.on hb) t k s E' hc (fun h1 h2 V hV=>hEvs y hm h1 YC t k s E' h2 V (hb.trans (hV.mono hb.size)) (hy.on hV))
   have HES:Aside (zat w lo (.slice cp es.length cc) es):=hes
   have HCE:=(show Aside _ from cE)
   obtain⟨N,hN⟩:∃N,es.length=N:=⟨_,rfl⟩
   have HN:Hid (es.length=N):=hN
   rw[hN] at hc8 HES hel HGL
   clear hg hGl hR hes hcv cE hN hEvs
   go_enter Tryz.func71,Tryz.ntmps71
   go_wp2_with (refine hlds _ (Below.refl _ _) rfl _ rfl rfl ?_)
   go_wp2_with fail
   refine cP.mono ?_
   rintro e w1 ⟨rfl,b2⟩
   have BQ1:Below (w.heap.size+1) (w.alloc (.cells SC 97)) w1:=b2.mono (by simp)
   have hs1:w.heap.size+1≤w1.heap.size:=by have:=BQ1.size;simpa using this
   have hcell:=hc8 _ BQ1
   clear cP b2 hc8
   have hnz:(N:Int)≤1048576:=by omega
   go_wp2
   go_loopg [9,11,12,13,30] N (fun gg s9 _ _ _ s30 wr=>∃(kk:Nat) (acc:List V3) (u:Value),kk≤N∧N-kk≤gg∧s30=.int .i64 (kk:Int)∧s9=u∧Aside (wr.ownsRow w1.heap.size 27 3 u kk (zan acc))∧Aside (Below w1.heap.size w1 wr)∧Hid (acc.length=kk)∧Hid (gatP zs rs acc (es.drop kk)=(G,GE)))
   case atStart=>exact⟨0,[],.slice none 0 0,Nat.zero_le _,by omega,rfl,rfl,(show Aside _ from World.ownsRow_nil _ _ _ _),(show Aside _ from Below.refl _ _),(show Hid _ from rfl),HG⟩
   case round =>
    obtain⟨kk,acc,u,hkk,hgk,rfl,hu,OJ,BJ,HOL,HC⟩:=hrel
    obtain rfl:u=_:=hu.symm
    clear HG
    have hbs:=BJ.out.size
    have BQ:Below (w.heap.size+1) (w.alloc (.cells SC 97)) wr:=BQ1.trans (BJ.out.mono hs1)
    have Bw:Below w.heap.size w wr:=b1.trans (BQ.mono (by omega))
    by_cases hlt:kk<N
    ·have hltz:(kk:Int)<(N:Int):=by omega
     have h0z:(0:Int)≤(kk:Int):=by omega
     have hk2:kk<es.length:=by rw[HN.out];exact hlt
     have hAr:=HES.out.onB Bw
     obtain⟨ba,oa,yp,yc,rfl,hbl,hlo,hrg,hEx⟩:=zfn hAr hk2
     have hym:=List.getElem_mem hk2
     have HC2:=HC.out
     rw[zpg hk2] at HC2
     have HC3:Hid _:=HC2
     clear HC HC2 hAr HES hcell
     generalize es[kk]=y at hrg hEx hym HC3
     obtain⟨t,k,s,E',hcm⟩:∃t k s E',comP zs rs y=((t,k,s),E'):=⟨_,_,_,_,rfl⟩
     have HC4:=HC3.out
     rw[hcm] at HC4
     have HC5:Hid _:=HC4
     clear HC3 HC4
     have BX:=Bw.alloc Bw.size (.cells #[.string y.op,.string y.nm,.int .i64 y.vt,.int .i64 y.vn,.string y.vs,.slice yp y.args.length yc,.int .i64 y.pos] 30)
     have BQX:=BQ.alloc (by omega) (.cells #[.string y.op,.string y.nm,.int .i64 y.vt,.int .i64 y.vn,.string y.vs,.slice yp y.args.length yc,.int .i64 y.pos] 30)
     have BJX:=BJ.out.alloc hbs (.cells #[.string y.op,.string y.nm,.int .i64 y.vt,.int .i64 y.vn,.string y.vs,.slice yp y.args.length yc,.int .i64 y.pos] 30)
     have cE:=HCE.out _ BX y hym _ (hEx.on ((Below.refl _ _).alloc (Nat.le_refl _) _)) t k s E' hcm
     have hldy:=@zgC (wr.alloc (.cells #[.string y.op,.string y.nm,.int .i64 y.vt,.int .i64 y.vn,.string y.vs,.slice yp y.args.length yc,.int .i64 y.pos] 30)) wr.heap.size _ 30 _ (zaW wr _ _) Tryz.underlying30 rfl (by kernel_rfl)
     clear hEx hym hcm hlo
     by_cases hE:E'=0
     ·subst hE
      rw[errV,if_pos rfl] at cE
      have HC6:Hid (gatP zs rs (acc++[(t,k,s)]) (es.drop (kk+1))=(G,GE)):=by
       have:=HC5.out
       rwa [if_neg (by simp)] at this
      clear HC5
      obtain⟨uq,uc,rfl⟩:=zaa OJ.out
      go_wp2_with (first|(refine wpList_load_mid rfl 30 _ rfl ba (oa+kk*7) rfl _ _ hrg Tryz.underlying30 rfl zaM ?_)|(refine hlds _ BQX rfl _ rfl rfl ?_)|(refine hldy rfl _ rfl rfl ?_))
      go_wp2_with fail
      refine cE.mono ?_
      rintro e w2 ⟨rfl,b3⟩
      have hs2:=b3.size
      simp at hs2
      clear cE hldy hlds hrg
      have O2:=((zab (zab OJ.out ((Below.refl _ _).alloc (Nat.le_refl _) _)) b3))
      have BJ2:=BJX.trans (b3.mono (by simp;omega))
      have a1:∀(X:World) o,Below X.heap.size X (X.alloc o):=fun X o=>(Below.refl _ _).alloc (Nat.le_refl _) o
      have O3:=zab O2 (a1 w2 (.cells #[.int .i64 t,.int .i64 k,.string s] 27))
      have BJ3:=BJ2.alloc (by omega) (.cells #[.int .i64 t,.int .i64 k,.string s] 27)
      have O4:=zab O3 (a1 _ (.cells #[.int .i64 t,.int .i64 k,.string s] 27))
      have BJ4:=BJ3.alloc (by simp;omega) (.cells #[.int .i64 t,.int .i64 k,.string s] 27)
      have HO4:=(show Aside _ from O4)
      have HJ4:=(show Aside _ from BJ4)
      clear O2 O3 O4 BJ2 BJ3 BJ4 OJ BJ BJX BQX BX b3
      go_wp2_with (at_builtin;refine zaB rfl _ _ rfl w1.heap.size _ kk acc rfl HO4.out (w2.heap.size+1) 1 t k s rfl (news1 (by simp) _) (by omega) (by simp;omega) ?_)
      intro q' c' w4 ho hg
      have hown4:∀m,(Value.slice uq kk uc).ownBlock=some m→w1.heap.size≤m:=fun m hm=>(World.ownsRow.lt HO4.out m hm).1
      have B6:Aside (Below w1.heap.size w1 w4):=HJ4.out.grown hg (by simp;omega) hown4
      have O6:Aside (w4.ownsRow w1.heap.size 27 3 (.slice q' (kk+1) c') (kk+1) (zan (acc++[(t,k,s)]))):=ho
      have HL6:Hid ((acc++[(t,k,s)]).length=kk+1):=by show _=_;rw[List.length_append,HOL.out];rfl
      clear ho hg HO4 HJ4 hown4 HOL
      go_wp2
      go_roundg (N-(kk+1))
      case measure=>omega
      case rel=>exact⟨kk+1,acc++[(t,k,s)],_,by omega,by omega,by go_num,rfl,O6,B6,HL6,HC6⟩
     ·rw[errV,if_neg hE] at cE
      have he:=HC5.out
      rw[if_pos hE] at he
      obtain⟨rfl,rfl⟩:=Prod.mk.inj he
      have he2:=HR.out
      rw[if_pos hE] at he2
      simp only[Prod.mk.injEq] at he2
      obtain⟨rfl,rfl,rfl⟩:=he2
      clear HC5 he HR
      go_wp2_with (first|(refine wpList_load_mid rfl 30 _ rfl ba (oa+kk*7) rfl _ _ hrg Tryz.underlying30 rfl zaM ?_)|(refine hlds _ BQX rfl _ rfl rfl ?_)|(refine hldy rfl _ rfl rfl ?_))
      go_wp2_with fail
      refine cE.mono ?_
      rintro e w2 ⟨rfl,b3⟩
      have hs2:=b3.size
      simp at hs2
      have BX2:=(BX.trans (b3.mono (by simp;omega))).alloc (by omega) (.cells #[.int .i64 t,.int .i64 k,.string s] 27)
      clear cE hldy hlds hrg HCE BQX BJX BX b3
      go_wp2
      refine bodyPost_ret (v:=.tuple #[.slice none 0 0,.bool false,.iface 35 (.int .i64 E')]) (by simp[results,Tryz.results71,go_sem]) rfl ⟨⟨_,?_,(show Aside _ from FrV.nil _ _)⟩,BX2⟩
      rw[errV,if_neg hE]
    ·have hltz:¬(kk:Int)<(N:Int):=by omega
     obtain rfl:kk=N:=by omega
     have he:=HC.out
     rw[List.drop_eq_nil_of_le (by rw[HN.out];exact Nat.le_refl _),gatP] at he
     obtain⟨rfl,rfl⟩:=Prod.mk.inj he
     have he2:=HR.out
     rw[if_neg (by simp)] at he2
     simp only[Prod.mk.injEq] at he2
     obtain⟨rfl,rfl,rfl⟩:=he2
     have F:=FrV.own HOL.out OJ.out
     have F2:Aside (FrV w.heap.size wr u acc):=by
      obtain⟨q,c,e1,e2,e3⟩:=F
      refine⟨q,c,e1,e2,?_⟩
      rcases e3 with e3|⟨b,off,e3,e4⟩
      ·exact .inl e3
      ·exact .inr ⟨b,off,e3,by omega⟩
     clear OJ BJ HCE hlds HC he F
     go_wp2
     refine bodyPost_ret (v:=.tuple #[u,.bool true,.nilIface]) (by simp[results,Tryz.results71,go_sem]) rfl ⟨⟨u,?_,F2⟩,Bw⟩
     rw[errV,if_pos rfl]
 ·rw[errV,if_neg hE] at cP
  rw[if_pos hE] at hR
  simp only[Prod.mk.injEq] at hR
  obtain⟨rfl,rfl,rfl⟩:=hR
  rw[errV,if_neg hE]
  clear hc8 hes hel hcv hEvs
  go_enter Tryz.func71,Tryz.ntmps71
  go_wp2_with (refine hlds _ (Below.refl _ _) rfl _ rfl rfl ?_)
  go_wp2_with fail
  refine cP.mono ?_
  rintro e w1 ⟨rfl,b2⟩
  have B:=b1.trans (b2.mono (by simp))
  clear cP hlds b2
  go_wp2
  exact bodyPost_ret (v:=.tuple #[.slice none 0 0,.bool false,.iface 35 (.int .i64 PE)]) (by simp[results,Tryz.results71,go_sem]) rfl ⟨⟨_,rfl,(show Aside _ from FrV.nil _ _)⟩,B⟩
end
def EtAt(w:World):Prop:=w.cell? ⟨4,0,none⟩=some (.iface 127 (.agg #[.pointer (some ⟨12,42,none⟩)]))
theorem EtAt.on{w w':World}(h:EtAt w)(hb:Below w.heap.size w w'):EtAt w':=by
 have hl:4<w.heap.size:=by
  rcases Nat.lt_or_ge 4 w.heap.size with h'|h'
  ·exact h'
  ·rw[EtAt] at h;simp[World.cell?,Array.getElem?_eq_none h'] at h
 rw[EtAt,hb.cell (p:=⟨4,0,none⟩) hl]
 exact h
end Go.Proofs.YtopghagjmdbglaaGreatDoor
