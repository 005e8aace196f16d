/-
  QuC2, QuC3, QuC4, QuC5, QuC6.
-/
import Derived.Test.YtbdnccnfidjiaaaGreatDoorGyAm
import Derived.Test.YtbdnccnfidjiaaaGreatDoorGyAo
import Derived.Deep.MidRow
import Derived.Deep.QuietTactic
import Derived.Deep.RegionHeld3
import Derived.Test.YtbdnccnfidjiaaaGreatDoorGyAl
import Derived.Test.YtbdnccnfidjiaaaGreatDoorGyAh
namespace Go.Proofs.YtbdnccnfidjiaaaGreatDoor
open Go.RowKit
set_option linter.unusedVariables false
set_option linter.unusedSimpArgs false
set_option maxHeartbeats 8000000
section
open Go.BigFrame
theorem zkn(zs:List Cl)(x:Ex):∃T E,ofT zs x=(T,E)∧((ofP zs x).2.1=E)∧(E=0→(ofP zs x).1=T)∧(E≠0→T=0):=by
 rw[ofT]
 split
 ·rename_i h
  exact⟨_,_,rfl,rfl,fun h0=>absurd h0 h,fun _=>rfl⟩
 ·rename_i h
  exact⟨_,_,rfl,Classical.not_not.1 h,fun _=>rfl,fun h0=>absurd rfl h0⟩
set_option maxRecDepth 20000 in
theorem ziE{L:Ex→Prop}(a:Ag)(lo:Nat→Prop)(ap:Option Addr)(ac:Nat)(vl:Value)(zs:List Cl)(w:World)(henv:TyEnv L w)(hLa:a.what.data.toList=zcb∨L a.arg)(haenv:AEnv w)(hx:ExIn w lo (exV a.arg ap ac) a.arg)(hsz:(a.arg.pre 1).length≤1048576)(hcv:ColsV w vl zs)(T E:Int)(hR:agQ zs a=(T,E)) :
  Calls Tryz.prog 127 #[agV a ap ac,vl] w fun e w'=>e=.returned (.tuple #[.int .i64 T,errV E])∧Below w.heap.size w w':=by
 have b1:=fun o=>(Below.refl w.heap.size w).alloc (Nat.le_refl _) o
 obtain⟨q,c,rfl⟩:=zaO hcv
 obtain⟨T1,E1,h1,h2,h3,h4⟩:=zkn zs a.arg
 rw[agQ,h2] at hR
 obtain⟨what,⟨op,nm,vt,vn,vs,pos,l⟩,name⟩:=a
 have cA:=fun o=>zem what (w.alloc o) (haenv.on (b1 o))
 have cN:=fun o=>zaG _ lo _ (w.alloc o) (hx.on (b1 o))
 have cT:=fun hL o=>zhc _ lo _ _ zs (w.alloc o) (henv.on (b1 o)) hL (hx.on (b1 o)) hsz (hcv.on (b1 o)) T1 E1 h1
 simp only[Ex.op,Ex.nm,Ex.vt,Ex.vn,Ex.vs,Ex.args,Ex.pos] at cA cN cT hR ⊢
 clear hx hcv henv haenv h1
 generalize zs.length=NZ at cT ⊢
 have H3:Hid (E1=0→(ofP zs (.node op nm vt vn vs pos l)).1=T1):=h3
 have H4:Hid (E1≠0→T1=0):=h4
 clear h2 h3 h4
 generalize noOp (.node op nm vt vn vs pos l)=NO at cN hR
 generalize (ofP zs (.node op nm vt vn vs pos l)).1=T2 at hR H3
 generalize l.length=NL at cN cT ⊢
 cases hI:isAg what.data.toList
 ·rw[hI] at cA
  rw[hI,if_pos rfl] at hR
  obtain⟨rfl,rfl⟩:=Prod.mk.inj hR
  rw[errV,if_neg (by decide)]
  go_enter Tryz.func127,Tryz.ntmps127
  go_wp2_with fail
  refine (cA _).mono ?_
  rintro e w1 ⟨rfl,rfl⟩
  clear cA cN cT
  go_wp2
  go_ret2
  exact⟨rfl,b1 _⟩
 ·rw[hI] at cA
  rw[hI,if_neg (by decide)] at hR
  by_cases hC:what.data.toList=zcb
  ·rw[if_pos hC] at hR
   have hq:(what.toList == [99,111,117,110,116])=true:=by rw[Lib.toList_data];simpa using hC
   cases NO
   ·rw[if_neg (by decide)] at hR
    obtain⟨rfl,rfl⟩:=Prod.mk.inj hR
    rw[errV,if_neg (by decide)]
    go_enter Tryz.func127,Tryz.ntmps127
    go_wp2_with fail
    refine (cA _).mono ?_
    rintro e w1 ⟨rfl,rfl⟩
    go_wp2_with fail
    refine (cN _).mono ?_
    rintro e w2 ⟨rfl,b2⟩
    clear cA cN cT
    go_wp2
    go_ret2
    exact⟨rfl,(b1 _).trans (b2.mono (by simp))⟩
   ·rw[if_pos rfl] at hR
    obtain⟨rfl,rfl⟩:=Prod.mk.inj hR
    rw[errV,if_pos rfl]
    go_enter Tryz.func127,Tryz.ntmps127
    go_wp2_with fail
    refine (cA _).mono ?_
    rintro e w1 ⟨rfl,rfl⟩
    go_wp2_with fail
    refine (cN _).mono ?_
    rintro e w2 ⟨rfl,b2⟩
    have k0:=b2.cell (p:=⟨w.heap.size,0,none⟩) (by simp)
    rw[World.cell?_alloc_at _ _ _ _ rfl] at k0
    simp at k0
    have hl:w.heap.size<w2.heap.size:=by have:=b2.size;simp at this;omega
    clear cA cN cT
    go_wp2
    go_ret2
    exact⟨rfl,(b1 _).trans (b2.mono (by simp))⟩
  ·rw[if_neg hC] at hR
   have cT:=cT (hLa.resolve_left hC)
   have hq:(what.toList == [99,111,117,110,116])=false:=by rw[Lib.toList_data];simpa using hC
   by_cases hE:E1=0
   ·subst hE
    obtain rfl:=H3.out rfl
    rw[if_neg (by simp)] at hR
    rw[errV,if_pos rfl] at cT
    by_cases hS:what.data.toList=[115,117,109]
    ·have hq2:(what.toList == [115,117,109])=true:=by rw[Lib.toList_data];simpa using hS
     by_cases hT:T2=1
     ·subst hT
      rw[if_neg (by simp)] at hR
      obtain⟨rfl,rfl⟩:=Prod.mk.inj hR
      rw[errV,if_pos rfl]
      go_enter Tryz.func127,Tryz.ntmps127
      go_wp2_with fail
      refine (cA _).mono ?_
      rintro e w1 ⟨rfl,rfl⟩
      go_wp2_with fail
      refine (cT _).mono ?_
      rintro e w2 ⟨rfl,b2⟩
      have k0:=b2.cell (p:=⟨w.heap.size,0,none⟩) (by simp)
      rw[World.cell?_alloc_at _ _ _ _ rfl] at k0
      simp at k0
      have hl:w.heap.size<w2.heap.size:=by have:=b2.size;simp at this;omega
      clear cA cN cT
      go_wp2
      go_ret2
      exact⟨rfl,(b1 _).trans (b2.mono (by simp))⟩
     ·rw[if_pos ⟨hS,hT⟩] at hR
      obtain⟨rfl,rfl⟩:=Prod.mk.inj hR
      rw[errV,if_neg (by decide)]
      have hb:(T2 != 1)=true:=by simpa using hT
      go_enter Tryz.func127,Tryz.ntmps127
      go_wp2_with fail
      refine (cA _).mono ?_
      rintro e w1 ⟨rfl,rfl⟩
      go_wp2_with fail
      refine (cT _).mono ?_
      rintro e w2 ⟨rfl,b2⟩
      have k0:=b2.cell (p:=⟨w.heap.size,0,none⟩) (by simp)
      rw[World.cell?_alloc_at _ _ _ _ rfl] at k0
      simp at k0
      have hl:w.heap.size<w2.heap.size:=by have:=b2.size;simp at this;omega
      clear cA cN cT
      go_wp2
      go_ret2
      exact⟨rfl,(b1 _).trans (b2.mono (by simp))⟩
    ·have hq2:(what.toList == [115,117,109])=false:=by rw[Lib.toList_data];simpa using hS
     rw[if_neg (fun h=>hS h.1)] at hR
     obtain⟨rfl,rfl⟩:=Prod.mk.inj hR
     rw[errV,if_pos rfl]
     go_enter Tryz.func127,Tryz.ntmps127
     go_wp2_with fail
     refine (cA _).mono ?_
     rintro e w1 ⟨rfl,rfl⟩
     go_wp2_with fail
     refine (cT _).mono ?_
     rintro e w2 ⟨rfl,b2⟩
     have k0:=b2.cell (p:=⟨w.heap.size,0,none⟩) (by simp)
     rw[World.cell?_alloc_at _ _ _ _ rfl] at k0
     simp at k0
     have hl:w.heap.size<w2.heap.size:=by have:=b2.size;simp at this;omega
     clear cA cN cT
     go_wp2
     go_ret2
     exact⟨rfl,(b1 _).trans (b2.mono (by simp))⟩
   ·obtain rfl:=H4.out hE
    rw[if_pos hE] at hR
    obtain⟨rfl,rfl⟩:=Prod.mk.inj hR
    rw[errV,if_neg hE] at cT
    rw[errV,if_neg hE]
    go_enter Tryz.func127,Tryz.ntmps127
    go_wp2_with fail
    refine (cA _).mono ?_
    rintro e w1 ⟨rfl,rfl⟩
    go_wp2_with fail
    refine (cT _).mono ?_
    rintro e w2 ⟨rfl,b2⟩
    have k0:=b2.cell (p:=⟨w.heap.size,0,none⟩) (by simp)
    rw[World.cell?_alloc_at _ _ _ _ rfl] at k0
    simp at k0
    have hl:w.heap.size<w2.heap.size:=by have:=b2.size;simp at this;omega
    clear cA cN cT
    go_wp2
    go_ret2
    exact⟨rfl,(b1 _).trans (b2.mono (by simp))⟩
theorem zgf{L:Ex→Prop}(x:Ex)(lo:Nat→Prop)(v vl:Value)(zs:List Cl)(w:World)(henv:TyEnv L w)(hLw:noOp x=true∨L x)(hx:ExIn w lo v x)(hsz:(x.pre 1).length≤1048576)(hcv:ColsV w vl zs)(E:Int)(hR:whQ zs x=E) :
  Calls Tryz.prog 63 #[v,vl] w fun e w'=>e=.returned (errV E)∧Below w.heap.size w w':=by
 have b1:=fun o=>(Below.refl w.heap.size w).alloc (Nat.le_refl _) o
 obtain⟨q,c,rfl⟩:=zaO hcv
 obtain⟨xp,xc,hxe,-⟩:=id hx.whole
 obtain⟨T1,E1,h1,h2,h3,h4⟩:=zkn zs x
 rw[whQ,h2] at hR
 have cN:=fun o=>zaG x lo v (w.alloc o) (hx.on (b1 o))
 have cT:=fun hL o W (hb:Below w.heap.size (w.alloc o) W)=>zhc x lo v _ zs W (henv.on ((b1 o).trans hb)) hL (hx.on ((b1 o).trans hb)) hsz (hcv.on ((b1 o).trans hb)) T1 E1 h1
 clear hx hcv henv h1
 subst hxe
 obtain⟨op,nm,vt,vn,vs,pos,l⟩:=x
 simp only[Ex.op,Ex.nm,Ex.vt,Ex.vn,Ex.vs,Ex.args,Ex.pos] at cN cT hR ⊢
 generalize zs.length=NZ at cT ⊢
 have H3:Hid (E1=0→(ofP zs (.node op nm vt vn vs pos l)).1=T1):=h3
 clear h2 h3 h4
 generalize noOp (.node op nm vt vn vs pos l)=NO at cN hR hLw
 generalize (ofP zs (.node op nm vt vn vs pos l)).1=T2 at hR H3
 generalize l.length=NL at cN cT ⊢
 cases NO
 ·have cT:=cT (hLw.resolve_left (by decide))
  rw[if_neg (by decide)] at hR
  by_cases hE:E1=0
  ·subst hE
   obtain rfl:=H3.out rfl
   rw[if_neg (by simp)] at hR
   by_cases hT:T2=2
   ·subst hT
    rw[if_neg (by simp)] at hR
    subst hR
    rw[errV,if_pos rfl] at cT ⊢
    go_enter Tryz.func63,Tryz.ntmps63
    go_wp2_with fail
    refine (cN _).mono ?_
    rintro e w1 ⟨rfl,b2⟩
    have kk:=fun i=>b2.cell (p:=⟨w.heap.size,i,none⟩) (by simp)
    have k0:=kk 0
    have k1:=kk 1
    have k2:=kk 2
    have k3:=kk 3
    have k4:=kk 4
    have k5:=kk 5
    have k6:=kk 6
    rw[World.cell?_alloc_at _ _ _ _ rfl] at k0 k1 k2 k3 k4 k5 k6
    simp at k0 k1 k2 k3 k4 k5 k6
    have hl:w.heap.size<w1.heap.size:=by have:=b2.size;simp at this;omega
    have c2:=cT _ w1 (b2.mono (by simp))
    clear cN cT kk
    go_wp2_with fail
    refine c2.mono ?_
    rintro e w2 ⟨rfl,b3⟩
    go_wp2
    go_ret
    exact⟨rfl,((b1 _).trans (b2.mono (by simp))).trans (b3.mono (by have:=b2.size;simp at this;omega))⟩
   ·rw[if_pos hT] at hR
    subst hR
    have hb:(T2 != 2)=true:=by simpa using hT
    rw[errV,if_pos rfl] at cT
    rw[errV,if_neg (by decide)]
    go_enter Tryz.func63,Tryz.ntmps63
    go_wp2_with fail
    refine (cN _).mono ?_
    rintro e w1 ⟨rfl,b2⟩
    have kk:=fun i=>b2.cell (p:=⟨w.heap.size,i,none⟩) (by simp)
    have k0:=kk 0
    have k1:=kk 1
    have k2:=kk 2
    have k3:=kk 3
    have k4:=kk 4
    have k5:=kk 5
    have k6:=kk 6
    rw[World.cell?_alloc_at _ _ _ _ rfl] at k0 k1 k2 k3 k4 k5 k6
    simp at k0 k1 k2 k3 k4 k5 k6
    have hl:w.heap.size<w1.heap.size:=by have:=b2.size;simp at this;omega
    have c2:=cT _ w1 (b2.mono (by simp))
    clear cN cT kk
    go_wp2_with fail
    refine c2.mono ?_
    rintro e w2 ⟨rfl,b3⟩
    go_wp2
    go_ret
    exact⟨rfl,((b1 _).trans (b2.mono (by simp))).trans (b3.mono (by have:=b2.size;simp at this;omega))⟩
  ·rw[if_pos hE] at hR
   subst hR
   rw[errV,if_neg hE] at cT ⊢
   go_enter Tryz.func63,Tryz.ntmps63
   go_wp2_with fail
   refine (cN _).mono ?_
   rintro e w1 ⟨rfl,b2⟩
   have kk:=fun i=>b2.cell (p:=⟨w.heap.size,i,none⟩) (by simp)
   have k0:=kk 0
   have k1:=kk 1
   have k2:=kk 2
   have k3:=kk 3
   have k4:=kk 4
   have k5:=kk 5
   have k6:=kk 6
   rw[World.cell?_alloc_at _ _ _ _ rfl] at k0 k1 k2 k3 k4 k5 k6
   simp at k0 k1 k2 k3 k4 k5 k6
   have hl:w.heap.size<w1.heap.size:=by have:=b2.size;simp at this;omega
   have c2:=cT _ w1 (b2.mono (by simp))
   clear cN cT kk
   go_wp2_with fail
   refine c2.mono ?_
   rintro e w2 ⟨rfl,b3⟩
   go_wp2
   go_ret
   exact⟨rfl,((b1 _).trans (b2.mono (by simp))).trans (b3.mono (by have:=b2.size;simp at this;omega))⟩
 ·rw[if_pos rfl] at hR
  subst hR
  rw[errV,if_pos rfl]
  go_enter Tryz.func63,Tryz.ntmps63
  go_wp2_with fail
  refine (cN _).mono ?_
  rintro e w1 ⟨rfl,b2⟩
  clear cN cT
  go_wp2
  go_ret
  exact⟨rfl,(b1 _).trans (b2.mono (by simp))⟩
theorem zgT:(Tryz.prog.info? 34).map (·.size)=some 14:=by kernel_rfl
theorem zbf:(Tryz.prog.info? 31).map (·.size)=some 7:=by kernel_rfl
theorem zgR:(Tryz.prog.info? 87).map (·.size)=some 9:=by kernel_rfl
theorem zbb(w:World)(cs:Array Value)(t:TypeId):(w.alloc (.cells cs t)).heap[w.heap.size]?=some (.cells cs t (0,0)):=by
 show (w.heap.push _)[_]?=_
 rw[Array.getElem?_push_size]
structure QV(QC:Array Value)(q:Qy)(cp:Option Addr)(cc:Nat)(np:Option Addr)(nc:Nat)(gp:Option Addr)(gc:Nat)(ap:Option Addr)(ac:Nat):Prop where
 size:QC.size=14
 c8:QC[8]?=some (.slice cp q.cols.length cc)
 c9:QC[9]?=some (.slice np q.names.length nc)
 c10:QC[10]?=some (.slice gp q.group.length gc)
 c11:QC[11]?=some (.int .i64 q.size)
 c12:QC[12]?=some (.int .i64 q.slide)
 c13:QC[13]?=some (.slice ap q.aggs.length ac)
theorem qv_of(q:Qy)(wp:Option Addr)(wc:Nat)(cp:Option Addr)(cc:Nat)(np:Option Addr)(nc:Nat)(gp:Option Addr)(gc:Nat)(ap:Option Addr)(ac:Nat):QV (qyC q wp wc cp cc np nc gp gc ap ac) q cp cc np nc gp gc ap ac:=⟨rfl,rfl,rfl,rfl,rfl,rfl,rfl⟩
set_option maxRecDepth 20000 in
theorem zgv(QC:Array Value)(q:Qy)(cp:Option Addr)(cc:Nat)(np:Option Addr)(nc:Nat)(gp:Option Addr)(gc:Nat)(ap:Option Addr)(ac:Nat)(w:World)(h:QV QC q cp cc np nc gp gc ap ac) :
  Calls Tryz.prog 94 #[.agg QC] w fun e w'=>e=.returned (.bool (togQ q))∧Below w.heap.size w w':=by
 obtain⟨hs,h8,h9,h10,h11,h12,h13⟩:=h
 clear hs
 obtain⟨R,hR⟩:∃R,togQ q=R:=⟨_,rfl⟩
 have hR2:=hR
 rw[togQ] at hR2
 rw[hR]
 clear hR
 obtain⟨frm,whr,cols,names,group,size,slide,aggs⟩:=q
 simp only at h8 h9 h10 h11 h12 h13 hR2
 generalize cols.length=NC at h8 hR2
 generalize names.length=NN at h9 hR2
 generalize group.length=NG at h10 hR2
 generalize aggs.length=NA at h13 hR2
 by_cases hz:size=0
 ·subst hz
  rw[if_neg (by simp)] at hR2
  by_cases g1:slide=0
  ·subst g1
   by_cases g2:NA=0
   ·subst g2
    by_cases g3:NG=0
    ·subst g3
     by_cases g4:NN=NC
     ·subst g4
      obtain rfl:true=R:=by simpa using hR2
      go_enter Tryz.func94,Tryz.ntmps94
      go_wp2
      go_ret
      exact⟨rfl,(Below.refl _ _).alloc (Nat.le_refl _) _⟩
     ·obtain rfl:false=R:=by simpa [g4] using hR2
      have hb:((NN:Int) == (NC:Int))=false:=by simp;omega
      clear hR2 g4
      go_enter Tryz.func94,Tryz.ntmps94
      go_wp2
      go_ret
      exact⟨rfl,(Below.refl _ _).alloc (Nat.le_refl _) _⟩
    ·obtain rfl:false=R:=by simpa [g3] using hR2
     have hb:((NG:Int) == 0)=false:=by simp;omega
     clear hR2 g3
     go_enter Tryz.func94,Tryz.ntmps94
     go_wp2
     go_ret
     exact⟨rfl,(Below.refl _ _).alloc (Nat.le_refl _) _⟩
   ·obtain rfl:false=R:=by simpa [g2] using hR2
    have hb:((NA:Int) == 0)=false:=by simp;omega
    clear hR2 g2
    go_enter Tryz.func94,Tryz.ntmps94
    go_wp2
    go_ret
    exact⟨rfl,(Below.refl _ _).alloc (Nat.le_refl _) _⟩
  ·obtain rfl:false=R:=by simpa [g1] using hR2
   have hb:(slide == 0)=false:=by simpa using g1
   clear hR2 g1
   go_enter Tryz.func94,Tryz.ntmps94
   go_wp2
   go_ret
   exact⟨rfl,(Below.refl _ _).alloc (Nat.le_refl _) _⟩
 ·rw[if_pos hz] at hR2
  have hb:(size != 0)=true:=by simpa using hz
  by_cases h1:NC=0
  ·subst h1
   by_cases h2:NN=0
   ·subst h2
    obtain rfl:true=R:=by simpa using hR2
    clear hz hR2
    go_enter Tryz.func94,Tryz.ntmps94
    go_wp2
    go_ret
    exact⟨rfl,(Below.refl _ _).alloc (Nat.le_refl _) _⟩
   ·obtain rfl:false=R:=by simpa [h2] using hR2
    have hb2:((NN:Int) == 0)=false:=by simp;omega
    clear hz hR2 h2
    go_enter Tryz.func94,Tryz.ntmps94
    go_wp2
    go_ret
    exact⟨rfl,(Below.refl _ _).alloc (Nat.le_refl _) _⟩
  ·obtain rfl:false=R:=by simpa [h1] using hR2
   have hb2:((NC:Int) == 0)=false:=by simp;omega
   clear hz hR2 h1
   go_enter Tryz.func94,Tryz.ntmps94
   go_wp2
   go_ret
   exact⟨rfl,(Below.refl _ _).alloc (Nat.le_refl _) _⟩
set_option maxRecDepth 20000 in
theorem zhZ(QC:Array Value)(q:Qy)(cp:Option Addr)(cc:Nat)(np:Option Addr)(nc:Nat)(gp:Option Addr)(gc:Nat)(ap:Option Addr)(ac:Nat)(w:World)(h:QV QC q cp cc np nc gp gc ap ac)(m1:inM q.size)(m2:inM q.slide)(l1:q.cols.length≤1048576)(l2:q.group.length≤1048576)(l3:q.aggs.length≤1048576)(E:Int)(hE:formQ q=E) :
  Calls Tryz.prog 62 #[.agg QC] w fun e w'=>e=.returned (errV E)∧Below w.heap.size w w':=by
 have b1:=(Below.refl w.heap.size w).alloc (Nat.le_refl _) (.cells QC 34)
 have cG:=zgv QC q cp cc np nc gp gc ap ac (w.alloc (.cells QC 34)) h
 have cW:=fun W=>chkX q.size q.slide W m1 m2
 have hblk:=zbb w QC 34
 have hs14:(Tryz.prog.info? 34).map (·.size)=some QC.size:=by rw[h.size];exact zgT
 obtain⟨hs,h8,h9,h10,h11,h12,h13⟩:=h
 clear hs
 rw[formQ] at hE
 obtain⟨frm,whr,cols,names,group,size,slide,aggs⟩:=q
 simp only at h8 h9 h10 h11 h12 h13 hE cW l1 l2 l3
 generalize togQ ⟨frm,whr,cols,names,group,size,slide,aggs⟩=TG at cG hE
 generalize cols.length=NC at h8 hE l1
 generalize group.length=NG at h10 hE l2
 generalize aggs.length=NA at h13 hE l3
 generalize names.length=NN at h9
 clear m1 m2
 obtain⟨CC,hCC⟩:∃CC,CC=QC:=⟨_,rfl⟩
 have hld:∀{ops:Array Oper} {rest:List Oper} {op:Oper} {a:Act} {Q:Exit→Act→World→Prop} (hgd:op.guard=none) (x:Operand) (ho:op.op=.load 34 x) (hx:a.eval x=.pointer (some ⟨w.heap.size,0,none⟩)),wpList Tryz.prog ops Q rest (a.put op.dst (.agg QC)) (w.alloc (.cells QC 34))→wpList Tryz.prog ops Q (op::rest) a (w.alloc (.cells QC 34)):=fun hgd x ho hx=>wpList_load_row hgd 34 x ho w.heap.size hx _ QC _ _ hblk Tryz.underlying34 rfl hs14
 clear hblk hs14 hCC
 cases TG
 ·rw[if_pos rfl] at hE
  subst hE
  rw[errV,if_neg (by decide)]
  go_enter Tryz.func62,Tryz.ntmps62
  go_wp2_with (refine hld rfl _ rfl rfl ?_)
  go_wp2_with fail
  refine cG.mono ?_
  rintro e w1 ⟨rfl,b2⟩
  clear hld cG cW
  go_wp2
  go_ret
  exact⟨rfl,b1.trans (b2.mono (by simp))⟩
 ·rw[if_neg (by decide)] at hE
  have KK:∀W,Below (w.alloc (.cells QC 34)).heap.size (w.alloc (.cells QC 34)) W→W.cell? ⟨w.heap.size,8,none⟩=some (.slice cp NC cc)∧W.cell? ⟨w.heap.size,10,none⟩=some (.slice gp NG gc)∧W.cell? ⟨w.heap.size,11,none⟩=some (.int .i64 size)∧W.cell? ⟨w.heap.size,12,none⟩=some (.int .i64 slide)∧W.cell? ⟨w.heap.size,13,none⟩=some (.slice ap NA ac):=fun W hb=>by
   have kk:=fun i=>hb.cell (p:=⟨w.heap.size,i,none⟩) (by simp)
   refine⟨?_,?_,?_,?_,?_⟩
   all_goals (rw[kk,World.cell?_alloc_at _ _ _ _ rfl];assumption)
  by_cases hz:size=0
  ·subst hz
   rw[if_neg (by simp)] at hE
   by_cases h0:NC+NG+NA=0
   ·rw[if_pos h0] at hE
    subst hE
    rw[errV,if_neg (by decide)]
    obtain⟨rfl,rfl,rfl⟩:NC=0∧NG=0∧NA=0:=by omega
    go_enter Tryz.func62,Tryz.ntmps62
    go_wp2_with (refine hld rfl _ rfl rfl ?_)
    go_wp2_with fail
    refine cG.mono ?_
    rintro e w1 ⟨rfl,b2⟩
    have B1:Below w.heap.size w w1:=b1.trans (b2.mono (by simp))
    have hl1:w.heap.size<w1.heap.size:=by have:=b2.size;simp at this;omega
    obtain⟨k8,k10,k11,k12,k13⟩:=KK _ b2
    clear hld cG
    clear cW
    go_wp2
    go_ret
    exact⟨rfl,B1⟩
   ·rw[if_neg h0] at hE
    by_cases h6:6<NC+NG+NA
    ·rw[if_pos h6] at hE
     subst hE
     rw[errV,if_neg (by decide)]
     have hn0:((NC:Int)+(NG:Int)+(NA:Int) == 0)=false:=by simp;omega
     have hn6:(6:Int)<(NC:Int)+(NG:Int)+(NA:Int):=by omega
     go_enter Tryz.func62,Tryz.ntmps62
     go_wp2_with (refine hld rfl _ rfl rfl ?_)
     go_wp2_with fail
     refine cG.mono ?_
     rintro e w1 ⟨rfl,b2⟩
     have B1:Below w.heap.size w w1:=b1.trans (b2.mono (by simp))
     have hl1:w.heap.size<w1.heap.size:=by have:=b2.size;simp at this;omega
     obtain⟨k8,k10,k11,k12,k13⟩:=KK _ b2
     clear hld cG
     clear cW
     go_wp2
     go_ret
     exact⟨rfl,B1⟩
    ·rw[if_neg h6] at hE
     subst hE
     rw[errV,if_pos rfl]
     have hn0:((NC:Int)+(NG:Int)+(NA:Int) == 0)=false:=by simp;omega
     have hn6:¬(6:Int)<(NC:Int)+(NG:Int)+(NA:Int):=by omega
     go_enter Tryz.func62,Tryz.ntmps62
     go_wp2_with (refine hld rfl _ rfl rfl ?_)
     go_wp2_with fail
     refine cG.mono ?_
     rintro e w1 ⟨rfl,b2⟩
     have B1:Below w.heap.size w w1:=b1.trans (b2.mono (by simp))
     have hl1:w.heap.size<w1.heap.size:=by have:=b2.size;simp at this;omega
     obtain⟨k8,k10,k11,k12,k13⟩:=KK _ b2
     clear hld cG
     clear cW
     go_wp2
     go_ret
     exact⟨rfl,B1⟩
  ·have hb:(size != 0)=true:=by simpa using hz
   by_cases hw:wdB size slide
   ·rw[if_neg (fun h=>h.2 hw)] at hE
    rw[zhT hw,errV,if_pos rfl] at cW
    by_cases h0:NC+NG+NA=0
    ·rw[if_pos h0] at hE
     subst hE
     rw[errV,if_neg (by decide)]
     obtain⟨rfl,rfl,rfl⟩:NC=0∧NG=0∧NA=0:=by omega
     go_enter Tryz.func62,Tryz.ntmps62
     go_wp2_with (refine hld rfl _ rfl rfl ?_)
     go_wp2_with fail
     refine cG.mono ?_
     rintro e w1 ⟨rfl,b2⟩
     have B1:Below w.heap.size w w1:=b1.trans (b2.mono (by simp))
     have hl1:w.heap.size<w1.heap.size:=by have:=b2.size;simp at this;omega
     obtain⟨k8,k10,k11,k12,k13⟩:=KK _ b2
     clear hld cG
     go_wp2_with fail
     refine (cW w1).mono ?_
     rintro e w2 ⟨rfl,b3⟩
     clear cW
     have B2:Below w.heap.size w w2:=B1.trans (b3.mono (by omega))
     have hl2:w.heap.size<w2.heap.size:=by have:=b3.size;omega
     rw[←b3.cell (p:=⟨w.heap.size,8,none⟩) hl1] at k8
     rw[←b3.cell (p:=⟨w.heap.size,10,none⟩) hl1] at k10
     rw[←b3.cell (p:=⟨w.heap.size,13,none⟩) hl1] at k13
     go_wp2
     go_ret
     exact⟨rfl,B2⟩
    ·rw[if_neg h0] at hE
     by_cases h6:6<NC+NG+NA
     ·rw[if_pos h6] at hE
      subst hE
      rw[errV,if_neg (by decide)]
      have hn0:((NC:Int)+(NG:Int)+(NA:Int) == 0)=false:=by simp;omega
      have hn6:(6:Int)<(NC:Int)+(NG:Int)+(NA:Int):=by omega
      go_enter Tryz.func62,Tryz.ntmps62
      go_wp2_with (refine hld rfl _ rfl rfl ?_)
      go_wp2_with fail
      refine cG.mono ?_
      rintro e w1 ⟨rfl,b2⟩
      have B1:Below w.heap.size w w1:=b1.trans (b2.mono (by simp))
      have hl1:w.heap.size<w1.heap.size:=by have:=b2.size;simp at this;omega
      obtain⟨k8,k10,k11,k12,k13⟩:=KK _ b2
      clear hld cG
      go_wp2_with fail
      refine (cW w1).mono ?_
      rintro e w2 ⟨rfl,b3⟩
      clear cW
      have B2:Below w.heap.size w w2:=B1.trans (b3.mono (by omega))
      have hl2:w.heap.size<w2.heap.size:=by have:=b3.size;omega
      rw[←b3.cell (p:=⟨w.heap.size,8,none⟩) hl1] at k8
      rw[←b3.cell (p:=⟨w.heap.size,10,none⟩) hl1] at k10
      rw[←b3.cell (p:=⟨w.heap.size,13,none⟩) hl1] at k13
      go_wp2
      go_ret
      exact⟨rfl,B2⟩
     ·rw[if_neg h6] at hE
      subst hE
      rw[errV,if_pos rfl]
      have hn0:((NC:Int)+(NG:Int)+(NA:Int) == 0)=false:=by simp;omega
      have hn6:¬(6:Int)<(NC:Int)+(NG:Int)+(NA:Int):=by omega
      go_enter Tryz.func62,Tryz.ntmps62
      go_wp2_with (refine hld rfl _ rfl rfl ?_)
      go_wp2_with fail
      refine cG.mono ?_
      rintro e w1 ⟨rfl,b2⟩
      have B1:Below w.heap.size w w1:=b1.trans (b2.mono (by simp))
      have hl1:w.heap.size<w1.heap.size:=by have:=b2.size;simp at this;omega
      obtain⟨k8,k10,k11,k12,k13⟩:=KK _ b2
      clear hld cG
      go_wp2_with fail
      refine (cW w1).mono ?_
      rintro e w2 ⟨rfl,b3⟩
      clear cW
      have B2:Below w.heap.size w w2:=B1.trans (b3.mono (by omega))
      have hl2:w.heap.size<w2.heap.size:=by have:=b3.size;omega
      rw[←b3.cell (p:=⟨w.heap.size,8,none⟩) hl1] at k8
      rw[←b3.cell (p:=⟨w.heap.size,10,none⟩) hl1] at k10
      rw[←b3.cell (p:=⟨w.heap.size,13,none⟩) hl1] at k13
      go_wp2
      go_ret
      exact⟨rfl,B2⟩
   ·rw[if_pos ⟨hz,hw⟩] at hE
    subst hE
    rw[zlr hw] at cW
    rw[errV,if_neg (by decide)] at cW ⊢
    go_enter Tryz.func62,Tryz.ntmps62
    go_wp2_with (refine hld rfl _ rfl rfl ?_)
    go_wp2_with fail
    refine cG.mono ?_
    rintro e w1 ⟨rfl,b2⟩
    have B1:Below w.heap.size w w1:=b1.trans (b2.mono (by simp))
    have hl1:w.heap.size<w1.heap.size:=by have:=b2.size;simp at this;omega
    obtain⟨k8,k10,k11,k12,k13⟩:=KK _ b2
    clear hld cG
    go_wp2_with fail
    refine (cW w1).mono ?_
    rintro e w2 ⟨rfl,b3⟩
    clear cW
    go_wp2
    go_ret
    exact⟨rfl,B1.trans (b3.mono (by omega))⟩
theorem znM{w:World}{lo:Nat→Prop}{p:Option Addr}{l:List Ag}(h:AgsIs w lo p l){j:Nat}(hj:j<l.length):∃ba oa yp yc,p=some ⟨ba,oa,none⟩∧ba<w.heap.size∧lo ba∧w.rangeAt ba (oa+j*9) [.string l[j].what,.string l[j].arg.op,.string l[j].arg.nm,.int .i64 l[j].arg.vt,.int .i64 l[j].arg.vn,.string l[j].arg.vs,.slice yp l[j].arg.args.length yc,.int .i64 l[j].arg.pos,.string l[j].name]∧ExIn w lo (exV l[j].arg yp yc) l[j].arg:=by
 obtain⟨-,h⟩:=h
 rcases h with h0|⟨ba,oa,e,hbl,hlo,hE⟩
 ·exact absurd h0 (by omega)
 ·obtain⟨yp,yc,c0,c1,c2,c3,c4,c5,c6,c7,c8,hx⟩:=hE j hj
  refine⟨ba,oa,yp,yc,e,hbl,hlo,fun k v hv=>?_,hx⟩
  have hk:k<9:=by have:=(List.getElem?_eq_some_iff.1 hv).1;simpa using this
  have:k=0∨k=1∨k=2∨k=3∨k=4∨k=5∨k=6∨k=7∨k=8:=by omega
  rcases this with rfl|rfl|rfl|rfl|rfl|rfl|rfl|rfl|rfl
  all_goals (simp at hv;subst hv;assumption)
theorem zdn{w w':World}{b o:Nat}{cs:List Value}(h:w.rangeAt b o cs)(hb:b<w.heap.size)(hw:Below w.heap.size w w'):w'.rangeAt b o cs:=fun j v hv=>by
 rw[hw.cell (p:=⟨b,o+j,none⟩) hb];exact h j v hv
set_option maxRecDepth 20000 in
theorem zld{L:Ex→Prop}(q:Qy)(lo:Nat→Prop)(wp:Option Addr)(wc:Nat)(cp:Option Addr)(cc:Nat)(np:Option Addr)(nc:Nat)(gp:Option Addr)(gc:Nat)(ap:Option Addr)(ac:Nat)(QC:Array Value)(hQ:QV QC q cp cc np nc gp gc ap ac)(vl:Value)(zs:List Cl)(w:World)(henv:TyEnv L w)(hB:QyBe w lo q wp wc cp cc np nc gp gc ap ac)(hcv:ColsV w vl zs)(i:Nat)(hi:i<q.cols.length)(hL:∀x∈q.cols,L x)(hsz:(q.cols[i].pre 1).length≤1048576)(T E:Int)(hR:tyAt zs q i=(T,E)) :
  Calls Tryz.prog 99 #[.agg QC,.int .i64 (i:Int),vl] w fun e w'=>e=.returned (.tuple #[.int .i64 T,errV E])∧Below w.heap.size w w':=by
 have b1:=(Below.refl w.heap.size w).alloc (Nat.le_refl _) (.cells QC 34)
 obtain⟨z1,z2,rfl⟩:=zaO hcv
 obtain⟨ba,oa,yp,yc,rfl,hbl,-,hrg,hx⟩:=zez hB.cols hi
 have hR2:ofT zs q.cols[i]=(T,E):=by
  rw[tyAt,if_pos hi,List.getElem?_eq_getElem hi] at hR
  exact hR
 have cT:=zhc _ lo _ _ zs _ (henv.on b1) (hL _ (List.getElem_mem hi)) (hx.on b1) hsz (hcv.on b1) T E hR2
 have hrg2:=zdn hrg hbl b1
 have hclen:=hB.clen
 obtain⟨hs,h8,-⟩:=hQ
 clear hs hR hR2 hx hrg hcv henv hB hsz hL
 generalize q.cols[i]=x at cT hrg2
 obtain⟨op,nm,vt,vn,vs,pos,l⟩:=x
 simp only[exV,Ex.op,Ex.nm,Ex.vt,Ex.vn,Ex.vs,Ex.args,Ex.pos] at cT hrg2
 generalize l.length=NL at cT hrg2
 generalize q.cols.length=NC at h8 hi hclen
 generalize zs.length=NZ at cT ⊢
 have hld:∀{ops:Array Oper} {rest:List Oper} {op':Oper} {a:Act} {Q:Exit→Act→World→Prop} (hgd:op'.guard=none) (x:Operand) (ho:op'.op=.load 31 x) (hx:a.eval x=.pointer (some ⟨ba,oa+i*7,none⟩)),wpList Tryz.prog ops Q rest (a.put op'.dst (.agg #[.string op,.string nm,.int .i64 vt,.int .i64 vn,.string vs,.slice yp NL yc,.int .i64 pos])) (w.alloc (.cells QC 34))→wpList Tryz.prog ops Q (op'::rest) a (w.alloc (.cells QC 34)):=fun hgd x ho hx=>wpList_load_mid hgd 31 x ho ba (oa+i*7) hx _ _ hrg2 Tryz.underlying31 rfl zbf
 have hiz:(i:Int)<(NC:Int):=by omega
 have h0z:(0:Int)≤(i:Int):=by omega
 clear hrg2
 go_enter Tryz.func99,Tryz.ntmps99
 go_wp2_with (refine hld rfl _ rfl rfl ?_)
 go_wp2_with fail
 refine cT.mono ?_
 rintro e w1 ⟨rfl,b2⟩
 clear hld cT
 go_wp2
 go_ret2
 exact⟨rfl,b1.trans (b2.mono (by simp))⟩
set_option maxRecDepth 20000 in
theorem zlc{L:Ex→Prop}(q:Qy)(lo:Nat→Prop)(wp:Option Addr)(wc:Nat)(cp:Option Addr)(cc:Nat)(np:Option Addr)(nc:Nat)(gp:Option Addr)(gc:Nat)(ap:Option Addr)(ac:Nat)(QC:Array Value)(hQ:QV QC q cp cc np nc gp gc ap ac)(vl:Value)(zs:List Cl)(w:World)(henv:TyEnv L w)(haenv:AEnv w)(hB:QyBe w lo q wp wc cp cc np nc gp gc ap ac)(hcv:ColsV w vl zs)(k:Nat)(hk:k<q.aggs.length)(hc0:q.cols.length=0)(hg6:q.group.length≤6)(hL:∀a∈q.aggs,a.what.data.toList=zcb∨L a.arg)(hsz:(q.aggs[k].arg.pre 1).length≤1048576)(T E:Int)(hR:tyAt zs q (q.group.length+k)=(T,E)) :
  Calls Tryz.prog 99 #[.agg QC,.int .i64 ((q.group.length+k:Nat):Int),vl] w fun e w'=>e=.returned (.tuple #[.int .i64 T,errV E])∧Below w.heap.size w w':=by
 have b1:=(Below.refl w.heap.size w).alloc (Nat.le_refl _) (.cells QC 34)
 obtain⟨z1,z2,rfl⟩:=zaO hcv
 obtain⟨ba,oa,yp,yc,rfl,hbl,-,hrg,hx⟩:=znM hB.aggs hk
 have hR2:agQ zs q.aggs[k]=(T,E):=by
  rw[tyAt,if_neg (by omega),if_neg (by omega),Nat.add_sub_cancel_left,List.getElem?_eq_getElem hk] at hR
  exact hR
 have cT:=ziE _ lo yp yc _ zs _ (henv.on b1) (hL _ (List.getElem_mem hk)) (haenv.on b1) (hx.on b1) hsz (hcv.on b1) T E hR2
 have hrg2:=zdn hrg hbl b1
 have halen:=hB.aggs.1
 obtain⟨hs,h8,-,h10,-,-,h13⟩:=hQ
 clear hs hR hR2 hx hrg hcv henv haenv hB hsz hL
 rw[hc0] at h8
 clear hc0
 generalize q.aggs[k]=x at cT hrg2
 obtain⟨what,⟨op,nm,vt,vn,vs,pos,l⟩,name⟩:=x
 simp only[agV,exV,Ex.op,Ex.nm,Ex.vt,Ex.vn,Ex.vs,Ex.args,Ex.pos] at cT hrg2
 generalize l.length=NL at cT hrg2
 generalize q.aggs.length=NA at h13 hk halen
 generalize q.group.length=NG at h10 hg6 ⊢
 generalize zs.length=NZ at cT ⊢
 have hld:∀{ops:Array Oper} {rest:List Oper} {op':Oper} {a:Act} {Q:Exit→Act→World→Prop} (hgd:op'.guard=none) (x:Operand) (ho:op'.op=.load 87 x) (hx:a.eval x=.pointer (some ⟨ba,oa+k*9,none⟩)),wpList Tryz.prog ops Q rest (a.put op'.dst (.agg #[.string what,.string op,.string nm,.int .i64 vt,.int .i64 vn,.string vs,.slice yp NL yc,.int .i64 pos,.string name])) (w.alloc (.cells QC 34))→wpList Tryz.prog ops Q (op'::rest) a (w.alloc (.cells QC 34)):=fun hgd x ho hx=>wpList_load_mid hgd 87 x ho ba (oa+k*9) hx _ _ hrg2 Tryz.underlying87 rfl zgR
 have hiz:(k:Int)<(NA:Int):=by omega
 have h0z:(0:Int)≤(k:Int):=by omega
 have e0:((NG+k:Nat):Int)-(NG:Int)=(k:Int):=by omega
 obtain⟨I,hI⟩:∃I:Int,((NG+k:Nat):Int)=I:=⟨_,rfl⟩
 have hwr:IntKind.i64.wrap (I-(NG:Int))=(k:Int):=by rw[←hI,e0,IntKind.wrap_i64];omega
 have hi1:¬I<0:=by omega
 have hi2:¬I<(NG:Int):=by omega
 rw[hI]
 clear hrg2 e0 hI
 go_enter Tryz.func99,Tryz.ntmps99
 go_wp2_with (refine hld rfl _ rfl rfl ?_)
 go_wp2_with fail
 refine cT.mono ?_
 rintro e w1 ⟨rfl,b2⟩
 clear hld cT
 go_wp2
 go_ret2
 exact⟨rfl,b1.trans (b2.mono (by simp))⟩
set_option maxRecDepth 20000 in
theorem zhb(q:Qy)(lo:Nat→Prop)(wp:Option Addr)(wc:Nat)(cp:Option Addr)(cc:Nat)(np:Option Addr)(nc:Nat)(gp:Option Addr)(gc:Nat)(ap:Option Addr)(ac:Nat)(QC:Array Value)(hQ:QV QC q cp cc np nc gp gc ap ac)(vl:Value)(zs:List Cl)(w:World)(hB:QyBe w lo q wp wc cp cc np nc gp gc ap ac)(hcv:ColsV w vl zs)(hz0:zs.length≠0)(hz6:zs.length≤6)(i:Nat)(hi:i<q.group.length)(hc0:q.cols.length=0)(hg6:q.group.length≤6)(T E:Int)(hR:tyAt zs q i=(T,E)) :
  Calls Tryz.prog 99 #[.agg QC,.int .i64 (i:Int),vl] w fun e w'=>e=.returned (.tuple #[.int .i64 T,errV E])∧Below w.heap.size w w':=by
 have b1:=(Below.refl w.heap.size w).alloc (Nat.le_refl _) (.cells QC 34)
 obtain⟨z1,z2,rfl⟩:=zaO hcv
 have hR2:grT zs (q.group.take i) q.group[i]=(T,E):=by
  rw[tyAt,if_neg (by omega),if_pos hi,List.getElem?_eq_getElem hi] at hR
  exact hR
 have hst:=hB.group
 obtain⟨gb,go,rfl,hgl,hgc⟩:=zeM hst hi
 have hcell:=hgc i hi
 obtain⟨p1,c1,hsl,hst1⟩:=ziA hst rfl (Nat.le_of_lt hi)
 have hlt:(q.group.take i).length=i:=by rw[List.length_take];omega
 have cT:=fun W (hb:Below w.heap.size w W)=>zfQ q.group[i] p1 i c1 (q.group.take i) _ zs W hlt (hst1.on hb) (by omega) (hcv.on hb) hz0 hz6 T E hR2
 rw[←b1.cell (p:=⟨gb,go+i,none⟩) hgl] at hcell
 obtain⟨hs,h8,-,h10,-⟩:=hQ
 clear hs hR hR2 hcv hB hgc hst hst1 hlt
 rw[hc0] at h8
 clear hc0
 generalize q.group[i]=x at cT hcell
 generalize q.group.length=NG at h10 hi hg6 hsl
 generalize zs.length=NZ at cT ⊢
 have hiz:(i:Int)<(NG:Int):=by omega
 have h0z:(0:Int)≤(i:Int):=by omega
 have hgl1:gb<w.heap.size+1:=by omega
 go_enter Tryz.func99,Tryz.ntmps99
 go_wp2
 go_region_with (go_at_call 126;refine (cT _ (by repeat (first|exact b1|apply below_drewN|refine Below.drew ?_))).mono ?_;rintro e' w1 ⟨rfl,b2⟩)
 all_goals
  go_wp2
  go_ret2
  exact⟨rfl,(Below.drew b1).trans (b2.mono (by simp))⟩
theorem zmo(w:World)(g:Nat)(hg:g=w.heap.size)(u v:Value)(a b:List ByteArray)(ha:StsA w u a)(hb:StsA w v b)(t:TypeId):zhV (w.alloc (.cells #[u,v] t)) g 0 [a,b]:=by
 subst hg
 have hal:=(Below.refl w.heap.size w).alloc (Nat.le_refl _) (.cells #[u,v] t)
 refine⟨by simp,fun j hj=>?_⟩
 have:j=0∨j=1:=by simp at hj;omega
 rcases this with rfl|rfl
 ·exact⟨u,by rw[World.cell?_alloc_at _ _ _ _ rfl];rfl,ha.on hal⟩
 ·exact⟨v,by rw[World.cell?_alloc_at _ _ _ _ rfl];rfl,hb.on hal⟩
def nmK(NM:List ByteArray)(l:List Ag)(kk:Nat):List Value:=(NM++(l.take kk).map (·.name)).map .string
set_option maxRecDepth 20000 in
theorem zri(q:Qy)(lo:Nat→Prop)(wp:Option Addr)(wc:Nat)(cp:Option Addr)(cc:Nat)(np:Option Addr)(nc:Nat)(gp:Option Addr)(gc:Nat)(ap:Option Addr)(ac:Nat)(QC:Array Value)(hQ:QV QC q cp cc np nc gp gc ap ac)(w:World)(hB:QyBe w lo q wp wc cp cc np nc gp gc ap ac)(h1:q.names.length≤6)(h2:q.group.length≤6)(h3:q.aggs.length≤6) :
  Calls Tryz.prog 98 #[.agg QC] w fun e w'=>(∃v,e=.returned v∧Aside (StsA w' v (zaT q)))∧Below w.heap.size w w':=by
 have b1:=(Below.refl w.heap.size w).alloc (Nat.le_refl _) (.cells QC 34)
 obtain⟨hs,h8,h9,h10,h11,h12,h13⟩:=hQ
 clear hs h8 h11 h12
 have HAG:Aside (AgsIs w lo ap q.aggs):=hB.aggs
 have cC:=zib (w.heap.size+1) 0 2 2 [q.names,q.group] ((w.alloc (.cells QC 34)).alloc (.cells #[.slice np q.names.length nc,.slice gp q.group.length gc] 23)) rfl (zmo _ _ (by simp) _ _ _ _ (hB.names.on b1) (hB.group.on b1) _) (by simp;omega) (by decide)
 have HL0:Hid ([q.names,q.group].flatten=q.names++q.group):=by show _=_;simp
 rw[show stT [q.names,q.group] 2=[q.names,q.group].flatten.map Value.string from zsa [q.names,q.group],HL0.out] at cC
 rw[List.length_append] at cC
 obtain⟨NM,hNM⟩:∃NM,q.names++q.group=NM:=⟨_,rfl⟩
 obtain⟨NA,hNA⟩:∃NA,q.aggs.length=NA:=⟨_,rfl⟩
 have HNA:Hid (q.aggs.length=NA):=hNA
 have HNM:Hid (q.names++q.group=NM):=hNM
 obtain⟨L0,hL0⟩:∃L0,q.names.length+q.group.length=L0:=⟨_,rfl⟩
 have HL:Hid (NM.length=L0):=by show _=_;rw[←hNM,List.length_append];exact hL0
 rw[hNM,hL0] at cC
 rw[hNA] at h13
 generalize q.names.length=NN at h9 cC h1 hL0
 generalize q.group.length=NG at h10 cC h2 hL0
 have hLL:L0≤12:=by omega
 have h3':NA≤6:=by omega
 clear hB hNM hNA hL0 HL0
 go_enter Tryz.func98,Tryz.ntmps98
 go_wp2_with fail
 refine cC.mono ?_
 rintro e w1 ⟨⟨v,rfl,OW⟩,b2⟩
 obtain⟨B0,hB0⟩:∃B0,((w.alloc (.cells QC 34)).alloc (.cells #[.slice np NN nc,.slice gp NG gc] 23)).heap.size=B0:=⟨_,rfl⟩
 have hB1:w.heap.size+2=B0:=by rw[←hB0];simp
 have bW:Below w.heap.size w w1:=(b1.alloc (by simp) _).trans (b2.mono (by simp;omega))
 have hs1:B0≤w1.heap.size:=by rw[←hB0];exact b2.size
 have k13:=b2.cell (p:=⟨w.heap.size,13,none⟩) (by simp;omega)
 rw[World.cell?_alloc_past _ _ _ (by simp),World.cell?_alloc_at _ _ _ _ rfl,h13] at k13
 have hl1:w.heap.size<w1.heap.size:=by omega
 rw[hB0] at OW
 have HB1:Hid (w.heap.size+2=B0):=hB1
 clear cC b1 b2 h9 h10 h13 hB0 hB1
 go_wp2
 go_loopg [3,5,15] NA (fun gg s3 _ s15 wr=>∃(kk:Nat) (u:Value),kk≤NA∧NA-kk≤gg∧s15=.int .i64 (kk:Int)∧s3=u∧Aside (wr.ownsRow B0 9 1 u (L0+kk) (nmK NM q.aggs kk))∧Aside (Below w.heap.size w wr)∧B0≤wr.heap.size)
 case atStart=>exact⟨0,v,Nat.zero_le _,by omega,rfl,rfl,(show Aside _ from (show World.ownsRow _ _ _ _ _ _ _ from by rw[nmK];simpa using OW.out)),(show Aside _ from bW),hs1⟩
 case round =>
  obtain⟨kk,u,hkk,hgk,rfl,hu,OJ,BJ,hsz⟩:=hrel
  obtain rfl:u=_:=hu.symm
  clear OW bW hs1 k13 hl1
  by_cases hlt:kk<NA
  ·have hltz:(kk:Int)<(NA:Int):=by omega
   have h0z:(0:Int)≤(kk:Int):=by omega
   have hk2:kk<q.aggs.length:=by rw[HNA.out];exact hlt
   obtain⟨ba,oa,yp,yc,rfl,hbl,-,hrg,-⟩:=znM HAG.out hk2
   have hrg2:=zdn hrg hbl BJ.out
   have HT:Hid (NM++(q.aggs.take kk).map (·.name)++[q.aggs[kk].name]=NM++(q.aggs.take (kk+1)).map (·.name)):=by
    show _=_
    rw[List.take_succ_eq_append_getElem hk2,List.map_append,List.append_assoc]
    rfl
   clear hrg
   generalize q.aggs[kk]=x at hrg2 HT
   obtain⟨what,⟨op,nm,vt,vn,vs,pos,l⟩,name⟩:=x
   simp only[Ex.op,Ex.nm,Ex.vt,Ex.vn,Ex.vs,Ex.args,Ex.pos] at hrg2 HT
   generalize l.length=NL at hrg2
   have hld:∀{ops:Array Oper} {rest:List Oper} {op':Oper} {a:Act} {Q:Exit→Act→World→Prop} (hgd:op'.guard=none) (x:Operand) (ho:op'.op=.load 87 x) (hx:a.eval x=.pointer (some ⟨ba,oa+kk*9,none⟩)),wpList Tryz.prog ops Q rest (a.put op'.dst (.agg #[.string what,.string op,.string nm,.int .i64 vt,.int .i64 vn,.string vs,.slice yp NL yc,.int .i64 pos,.string name])) wr→wpList Tryz.prog ops Q (op'::rest) a wr:=fun hgd x ho hx=>wpList_load_mid hgd 87 x ho ba (oa+kk*9) hx _ _ hrg2 Tryz.underlying87 rfl zgR
   clear hrg2
   have bA:=(Below.refl wr.heap.size wr).alloc (Nat.le_refl _) (.cells #[.string what,.string op,.string nm,.int .i64 vt,.int .i64 vn,.string vs,.slice yp NL yc,.int .i64 pos,.string name] 87)
   have hone:=zsf (wr.alloc (.cells #[.string what,.string op,.string nm,.int .i64 vt,.int .i64 vn,.string vs,.slice yp NL yc,.int .i64 pos,.string name] 87)) name (wr.heap.size+1) (by simp)
   have O2:=(OJ.out.alloc (.cells #[.string what,.string op,.string nm,.int .i64 vt,.int .i64 vn,.string vs,.slice yp NL yc,.int .i64 pos,.string name] 87)).alloc (.cells #[.string name] 9)
   have bb:=bA.alloc (by simp) (.cells #[.string name] 9)
   have BW:=BJ.out.trans (bb.mono BJ.out.size)
   obtain⟨uq,uc,rfl⟩:=zaa O2
   go_wp2_with (first|(at_builtin;refine zaX rfl _ _ rfl B0 _ _ (NM++(q.aggs.take kk).map (·.name)) rfl O2 _ [name] rfl hone (L0+(kk+1)) (nmK NM q.aggs (kk+1)) (by simp;omega) (by rw[HT.out];rfl) (by omega) (by simp;omega) ?_)|(refine hld rfl _ rfl rfl ?_))
   intro v' w2 ho hb
   have O3:Aside (w2.ownsRow B0 9 1 v' (L0+(kk+1)) (nmK NM q.aggs (kk+1))):=ho
   have B3:Aside (Below w.heap.size w w2):=BW.trans (hb.mono (by have:=HB1.out;omega))
   have hs2:B0≤w2.heap.size:=by have:=hb.size;simp at this;omega
   clear ho hb OJ BJ hone O2 hld BW bb bA
   go_wp2
   go_roundg (NA-(kk+1))
   case measure=>omega
   case rel=>exact⟨kk+1,v',by omega,by omega,by go_num,rfl,O3,B3,hs2⟩
  ·have hltz:¬(kk:Int)<(NA:Int):=by omega
   obtain rfl:kk=NA:=by omega
   have O2:Aside (StsA wr u (zaT q)):=by
    show StsA _ _ _
    have:=OJ.out
    rw[nmK,List.take_of_length_le (by rw[HNA.out];exact Nat.le_refl _),←HNM.out,List.append_assoc] at this
    exact znx (by rw[zaT,←List.append_assoc,List.length_append,HNM.out,HL.out,List.length_map,HNA.out]) (by omega) this
   have B2:=BJ.out
   clear OJ BJ
   go_wp2
   go_ret
   exact⟨⟨u,rfl,O2⟩,B2⟩
structure QyA(q:Qy):Prop where
 wn:(q.whr.pre 1).length≤1048576
 cn:∀x∈q.cols,(x.pre 1).length≤1048576
 an:∀a∈q.aggs,(a.arg.pre 1).length≤1048576
 ns:∀s∈zaT q,s.size≤1048576
 z1:inM q.size
 z2:inM q.slide
def OkF(q:Qy):Prop:=(q.aggs.length=0∧q.group.length=0∧q.names.length=q.cols.length∧q.cols.length≤6)∨(q.cols.length=0∧q.names.length=0∧q.group.length+q.aggs.length≤6)
theorem zqN{q:Qy}(h:formQ q=0):OkF q:=by
 rw[formQ] at h
 split at h
 ·exact absurd h (by decide)
 ·rename_i h1
  have h1:togQ q=true:=by simpa using h1
  split at h
  ·exact absurd h (by decide)
  ·split at h
   ·exact absurd h (by decide)
   ·split at h
    ·exact absurd h (by decide)
    ·rename_i h6
     rw[togQ] at h1
     split at h1
     ·simp only[Bool.and_eq_true,decide_eq_true_eq] at h1
      exact .inr ⟨h1.1,h1.2,by omega⟩
     ·simp only[Bool.and_eq_true,decide_eq_true_eq] at h1
      exact .inl ⟨h1.2.1,h1.2.2.1,h1.2.2.2,by omega⟩
theorem zbN{q:Qy}:(zaT q).length=q.names.length+(q.group.length+q.aggs.length):=by rw[zaT,List.length_append,List.length_append,List.length_map]
theorem zpC{L:Ex→Prop}(q:Qy)(lo:Nat→Prop)(wp:Option Addr)(wc:Nat)(cp:Option Addr)(cc:Nat)(np:Option Addr)(nc:Nat)(gp:Option Addr)(gc:Nat)(ap:Option Addr)(ac:Nat)(QC:Array Value)(hQ:QV QC q cp cc np nc gp gc ap ac)(vl:Value)(zs:List Cl)(w:World)(henv:TyEnv L w)(haenv:AEnv w)(hB:QyBe w lo q wp wc cp cc np nc gp gc ap ac)(hcv:ColsV w vl zs)(hz:schE zs=0)(hA:QyA q)(hO:OkF q)(hL:TyL L q)(i:Nat)(hi:i<(zaT q).length)(T E:Int)(hR:tyAt zs q i=(T,E)) :
  Calls Tryz.prog 99 #[.agg QC,.int .i64 (i:Int),vl] w fun e w'=>e=.returned (.tuple #[.int .i64 T,errV E])∧Below w.heap.size w w':=by
 rw[zbN] at hi
 obtain⟨hz1,hz2,-⟩:=zeF hz
 rcases hO with ⟨h1,h2,h3,h4⟩|⟨h1,h2,h3⟩
 ·have hic:i<q.cols.length:=by omega
  exact zld q lo wp wc cp cc np nc gp gc ap ac QC hQ vl zs w henv hB hcv i hic hL.2.1 (hA.cn _ (List.getElem_mem hic)) T E hR
 ·by_cases hg:i<q.group.length
  ·exact zhb q lo wp wc cp cc np nc gp gc ap ac QC hQ vl zs w hB hcv hz1 hz2 i hg h1 (by omega) T E hR
  ·obtain⟨k,rfl⟩:∃k,i=q.group.length+k:=⟨i-q.group.length,by omega⟩
   have hk:k<q.aggs.length:=by omega
   exact zlc q lo wp wc cp cc np nc gp gc ap ac QC hQ vl zs w henv haenv hB hcv k hk h1 (by omega) hL.2.2 (hA.an _ (List.getElem_mem hk)) T E hR
theorem zod{zs:List Cl}{q:Qy}{k:Nat}{out:List Cl}{ns:List ByteArray}(h:k<ns.length):clQ zs q k out (ns.drop k)=if (tyAt zs q k).2≠0 then ([],(tyAt zs q k).2) else clQ zs q (k+1) (out++[(ns[k],(tyAt zs q k).1)]) (ns.drop (k+1)):=by
 rw[List.drop_eq_getElem_cons h,clQ]
set_option maxRecDepth 20000 in
theorem zlI{L:Ex→Prop}(q:Qy)(lo:Nat→Prop)(wp:Option Addr)(wc:Nat)(cp:Option Addr)(cc:Nat)(np:Option Addr)(nc:Nat)(gp:Option Addr)(gc:Nat)(ap:Option Addr)(ac:Nat)(QC:Array Value)(hQ:QV QC q cp cc np nc gp gc ap ac)(vl:Value)(zs:List Cl)(w:World)(henv:TyEnv L w)(haenv:AEnv w)(hB:QyBe w lo q wp wc cp cc np nc gp gc ap ac)(hcv:ColsV w vl zs)(hz:schE zs=0)(hA:QyA q)(hO:OkF q)(hL:TyL L q)(RL:List Cl)(RE:Int)(hR:clQ zs q 0 [] (zaT q)=(RL,RE)) :
  Calls Tryz.prog 64 #[.agg QC,vl] w fun e w'=>(∃u,e=.returned (.tuple #[u,errV RE])∧Aside (ColsV w' u RL))∧Below w.heap.size w w':=by
 have b1:=(Below.refl w.heap.size w).alloc (Nat.le_refl _) (.cells QC 34)
 have hn6:(zaT q).length≤6:=by rw[zbN];rcases hO with h|h<;>omega
 obtain⟨z1,z2,rfl⟩:=zaO hcv
 have cN:=zri q lo wp wc cp cc np nc gp gc ap ac QC hQ _ (hB.on b1) (by rw[zbN] at hn6;omega) (by rw[zbN] at hn6;omega) (by rw[zbN] at hn6;omega)
 have cT:=fun W (hb:Below w.heap.size w W)=>zpC q lo wp wc cp cc np nc gp gc ap ac QC hQ _ zs W (henv.on hb) (haenv.on hb) (hB.on hb) (hcv.on hb) hz hA hO hL
 have hs14:(Tryz.prog.info? 34).map (·.size)=some QC.size:=by rw[hQ.size];exact zgT
 have hns:=hA.ns
 have hld:∀W,Below (w.heap.size+1) (w.alloc (.cells QC 34)) W→∀{ops:Array Oper} {rest:List Oper} {op:Oper} {a:Act} {Q:Exit→Act→World→Prop} (hgd:op.guard=none) (x:Operand) (ho:op.op=.load 34 x) (hx:a.eval x=.pointer (some ⟨w.heap.size,0,none⟩)),wpList Tryz.prog ops Q rest (a.put op.dst (.agg QC)) W→wpList Tryz.prog ops Q (op::rest) a W:=fun W hb=>fun hgd x ho hx=>wpList_load_row hgd 34 x ho w.heap.size hx _ QC _ _ (by rw[hb.block _ (Nat.lt_succ_self _)];exact zbb w QC _) Tryz.underlying34 rfl hs14
 clear hQ hB hcv henv haenv hA hO hs14 hz hL
 have HR:Hid (clQ zs q 0 [] (zaT q)=(RL,RE)):=hR
 generalize zs.length=NZ at cT ⊢
 obtain⟨ns,hns0⟩:∃ns,zaT q=ns:=⟨_,rfl⟩
 rw[hns0] at cN cT hns hn6 HR
 clear hR hns0
 obtain⟨N,hN⟩:∃N,ns.length=N:=⟨_,rfl⟩
 have HN:Hid (ns.length=N):=hN
 rw[hN] at hn6 cT
 have HT:=(show Aside _ from cT)
 clear hN cT
 go_enter Tryz.func64,Tryz.ntmps64
 go_wp2_with (refine hld _ (Below.refl _ _) rfl _ rfl rfl ?_)
 go_wp2_with fail
 refine cN.mono ?_
 rintro e w1 ⟨⟨nv,rfl,hST⟩,b2⟩
 obtain⟨np',nc',rfl⟩:=zgV hST.out
 rw[HN.out] at hST
 rw[HN.out]
 have hs1:w.heap.size+1≤w1.heap.size:=by have:=b2.size;simpa using this
 have BQ1:Below (w.heap.size+1) (w.alloc (.cells QC 34)) w1:=b2.mono (by simp)
 have HS1:Aside (StsA w1 (.slice np' N nc') ns):=hST.out
 clear cN hST b2
 have hnz:(N:Int)≤6:=by omega
 go_wp2
 go_loopg [6,7,8,9,10,14] N (fun gg s6 _ _ _ _ s14 wr=>∃(kk:Nat) (out:List Cl) (u:Value),kk≤N∧N-kk≤gg∧s14=.int .i64 (kk:Int)∧s6=u∧Aside (wr.ownsRow w1.heap.size 25 2 u kk (colC out))∧Aside (Below w1.heap.size w1 wr)∧Hid (out.length=kk)∧Hid (∀z∈out,z.1.size≤maxLen)∧Hid (clQ zs q kk out (ns.drop kk)=(RL,RE)))
 case atStart=>exact⟨0,[],.slice none 0 0,Nat.zero_le _,by omega,rfl,rfl,(show Aside _ from World.ownsRow_nil _ _ _ _),(show Aside _ from Below.refl _ _),(show Hid _ from rfl),(show Hid _ from fun z hz=>by cases hz),HR⟩
 case round =>
  obtain⟨kk,out,u,hkk,hgk,rfl,hu,OJ,BJ,HOL,HOS,HC⟩:=hrel
  obtain rfl:u=_:=hu.symm
  clear HR
  have hbs:=BJ.out.size
  by_cases hlt:kk<N
  ·have hltz:(kk:Int)<(N:Int):=by omega
   have h0z:(0:Int)≤(kk:Int):=by omega
   have hk2:kk<ns.length:=by rw[HN.out];exact hlt
   obtain⟨nb,no,rfl,hnl,hnc⟩:=zeM HS1.out hk2
   have hcell:=hnc kk hk2
   rw[←BJ.out.cell (p:=⟨nb,no+kk,none⟩) hnl] at hcell
   have hnl2:nb<wr.heap.size:=by omega
   have BQ:Below (w.heap.size+1) (w.alloc (.cells QC 34)) wr:=BQ1.trans (BJ.out.mono hs1)
   have Bw:Below w.heap.size w wr:=b1.trans (BQ.mono (by omega))
   obtain⟨T1,E1,hty⟩:∃T1 E1,tyAt zs q kk=(T1,E1):=⟨_,_,rfl⟩
   have cT:=HT.out wr Bw kk hlt T1 E1 hty
   have HC2:Hid ((if E1≠0 then ([],E1) else clQ zs q (kk+1) (out++[(ns[kk],T1)]) (ns.drop (kk+1)))=(RL,RE)):=by
    show _=_
    rw[←HC.out,zod hk2,hty]
   have hsk:ns[kk].size≤1048576:=hns _ (List.getElem_mem hk2)
   clear hnc HC hty HS1
   generalize ns[kk]=nm at hcell HC2 hsk
   by_cases hE:E1=0
   ·subst hE
    rw[errV,if_pos rfl] at cT
    have HC3:Hid (clQ zs q (kk+1) (out++[(nm,T1)]) (ns.drop (kk+1))=(RL,RE)):=by
     show _=_
     rw[←HC2.out,if_neg (by simp)]
    clear HC2
    obtain⟨uq,uc,rfl⟩:=zaa OJ.out
    go_wp2_with (refine hld _ BQ rfl _ rfl rfl ?_)
    go_wp2_with fail
    refine cT.mono ?_
    rintro e w2 ⟨rfl,b3⟩
    have cC:=zbj nm w2 (by omega)
    clear hld cT
    go_wp2_with fail
    refine cC.mono ?_
    rintro e w3 ⟨rfl,b4⟩
    have hs2:=b3.size
    have hs3:=b4.size
    have b5:Below wr.heap.size wr w3:=b3.trans (b4.mono hs2)
    have O2:=(zac OJ.out b5).alloc (.cells #[.string nm,.int .i64 T1] 25)
    have B5:Below w1.heap.size w1 (w3.alloc (.cells #[.string nm,.int .i64 T1] 25)):=(BJ.out.trans (b5.mono hbs)).alloc (by omega) _
    go_wp2_with (at_builtin;refine zcz rfl _ _ rfl w1.heap.size _ kk out rfl O2 w3.heap.size 1 nm T1 rfl (by rw[World.cell?_alloc_at _ _ _ _ rfl];rfl) (by rw[World.cell?_alloc_at _ _ _ _ rfl];rfl) (colC (out++[(nm,T1)])) rfl (by omega) (by simp;omega) ?_)
    intro v' w4 ho hb
    have O3:Aside (w4.ownsRow w1.heap.size 25 2 v' (kk+1) (colC (out++[(nm,T1)]))):=ho
    have B6:Aside (Below w1.heap.size w1 w4):=B5.trans hb
    have HO2:Hid ((out++[(nm,T1)]).length=kk+1):=by show _=_;rw[List.length_append,HOL.out];rfl
    have HO3:Hid (∀z∈out++[(nm,T1)],z.1.size≤maxLen):=by
     intro z hz
     rcases List.mem_append.1 hz with h|h
     ·exact HOS.out z h
     ·rw[List.mem_singleton.1 h];exact Nat.le_trans hsk (by decide)
    clear ho hb OJ BJ O2 B5 b5 cC HOL HOS
    go_wp2
    go_roundg (N-(kk+1))
    case measure=>omega
    case rel=>exact⟨kk+1,out++[(nm,T1)],v',by omega,by omega,by go_num,rfl,O3,B6,HO2,HO3,HC3⟩
   ·rw[errV,if_neg hE] at cT
    have he:=HC2.out
    rw[if_pos hE] at he
    obtain⟨rfl,rfl⟩:=Prod.mk.inj he
    go_wp2_with (refine hld _ BQ rfl _ rfl rfl ?_)
    go_wp2_with fail
    refine cT.mono ?_
    rintro e w2 ⟨rfl,b3⟩
    clear hld HT cT
    go_wp2
    go_ret2
    refine⟨⟨_,?_,(show Aside _ from ⟨none,0,rfl,.inl rfl⟩)⟩,Bw.trans (b3.mono (by omega))⟩
    rw[errV,if_neg hE]
    rfl
  ·have hltz:¬(kk:Int)<(N:Int):=by omega
   obtain rfl:kk=N:=by omega
   have he:=HC.out
   rw[List.drop_eq_nil_of_le (by rw[HN.out];exact Nat.le_refl _),clQ] at he
   obtain⟨rfl,rfl⟩:=Prod.mk.inj he
   have O2:Aside (ColsV wr u out):=zjo HOL.out HOS.out OJ.out
   have B2:Below w.heap.size w wr:=b1.trans ((BQ1.trans (BJ.out.mono hs1)).mono (by omega))
   clear OJ BJ HT hld HC he
   go_wp2
   go_ret2
   refine⟨⟨u,?_,O2⟩,B2⟩
   rw[errV,if_pos rfl]
   rfl
end
end Go.Proofs.YtbdnccnfidjiaaaGreatDoor
