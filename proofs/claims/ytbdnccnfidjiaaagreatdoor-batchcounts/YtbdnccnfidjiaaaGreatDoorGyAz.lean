/-
  BsS, InG, InGu, FdS, FnS, GfS.
-/
import Derived.Test.YtbdnccnfidjiaaaGreatDoorGyAl
import Derived.Test.YtbdnccnfidjiaaaGreatDoorGyAi
import Derived.Test.YtbdnccnfidjiaaaGreatDoorGyAj
import Derived.Laws.CopyOwn
import Derived.Lib.AppendZeros
import Derived.Lib.Overlaps
import Derived.Shelf.Spec.SlicesInsert
import Derived.Lib.AppendZerosOnto
import Derived.Deep.RegionLaw
import Derived.Deep.DeepCutAuto
import Derived.Test.YtbdnccnfidjiaaaGreatDoorGyAc
import Derived.Test.YtbdnccnfidjiaaaGreatDoorGyAy
namespace Go.Proofs.YtbdnccnfidjiaaaGreatDoor
open Go.RowKit
set_option linter.unusedVariables false
set_option linter.unusedSimpArgs false
set_option maxHeartbeats 8000000
section
open Go.BigFrame
set_option maxRecDepth 20000 in
theorem znW(fn:FuncId)(hent:∀(args:Array Value) (W:World),Sem.run Tryz.prog (callFunc fn args) W=.ok (.enter fn args) W)(caps:Array Value)(b off n c:Nat)(tg:Value)(ps:Nat→Value)(cs:Nat→Int)(w:World)(hn:n≤1000000)
  (hb:b<w.heap.size)(hp:∀j,j<n→w.cell? ⟨b,off+j,none⟩=some (ps j))(k:Nat)(hk:k≤n)(h1:∀j,j<k→cs j<0)(h2:∀j,k≤j→j<n→0≤cs j)
  (hc:∀j,j<n→∀W,Below w.heap.size w W→Calls Tryz.prog fn (#[ps j,tg]++caps) W fun e w'=>e=.returned (.int .i64 (cs j))∧Below W.heap.size W w') :
  Calls Tryz.prog 167 #[.slice (some ⟨b,off,none⟩) n c,tg,.func (.func fn) #[] caps] w fun e w'=>e=.returned (.tuple #[.int .i64 (k:Int),.bool (decide (k<n)&&(cs k == 0))])∧Below w.heap.size w w':=by
 have HP:=(show Aside _ from hp)
 have HC:=(show Aside _ from hc)
 have H1:=(show Aside _ from h1)
 have H2:=(show Aside _ from h2)
 have hnz:(n:Int)≤1000000:=by omega
 clear hp hc h1 h2
 go_enter Tryz.func167,Tryz.ntmps167
 go_wp2
 go_loopg [9,10,11] n (fun gg s9 s10 _ wr=>∃i j:Nat,i≤k∧k≤j∧j≤n∧j-i≤gg∧s9=.int .i64 (i:Int)∧s10=.int .i64 (j:Int)∧Aside (Below w.heap.size w wr))
 case atStart=>exact⟨0,n,Nat.zero_le _,hk,Nat.le_refl _,by omega,rfl,rfl,(show Aside _ from Below.refl _ _)⟩
 case round =>
  obtain⟨i,j,hi,hj,hjn,hg,rfl,rfl,BW⟩:=hrel
  have hiz:(i:Int)≤1000000:=by omega
  have hjz:(j:Int)≤1000000:=by omega
  have hi0:(0:Int)≤(i:Int):=by omega
  have hj0:(0:Int)≤(j:Int):=by omega
  by_cases hlt:i<j
  ·have hltz:(i:Int)<(j:Int):=by omega
   have hm:(i+j) / 2<n:=by omega
   have hcell:=HP.out _ hm
   rw[←BW.out.cell (p:=⟨b,off+(i+j) / 2,none⟩) hb] at hcell
   have cC:=HC.out _ hm wr BW.out
   by_cases hneg:cs ((i+j) / 2)<0
   ·have hk2:(i+j) / 2<k:=by
     rcases Nat.lt_or_ge ((i+j) / 2) k with h|h
     ·exact h
     ·have:=H2.out _ h hm;omega
    generalize cs ((i+j) / 2)=cv at cC hneg
    go_wp2_with fail
    refine cC.mono ?_
    rintro e w1 ⟨rfl,b1⟩
    have BW2:Aside (Below w.heap.size w w1):=BW.out.trans (b1.mono BW.out.size)
    clear cC b1 BW hcell
    go_wp2
    go_roundg (j-((i+j) / 2+1))
    case measure=>omega
    case rel=>exact⟨(i+j) / 2+1,j,by omega,hj,hjn,by omega,by (first|go_num|(congr 1;omega)),rfl,BW2⟩
   ·have hk2:k≤(i+j) / 2:=by
     rcases Nat.lt_or_ge ((i+j) / 2) k with h|h
     ·exact absurd (H1.out _ h) hneg
     ·exact h
    generalize cs ((i+j) / 2)=cv at cC hneg
    go_wp2_with fail
    refine cC.mono ?_
    rintro e w1 ⟨rfl,b1⟩
    have BW2:Aside (Below w.heap.size w w1):=BW.out.trans (b1.mono BW.out.size)
    clear cC b1 BW hcell
    go_wp2
    go_roundg ((i+j) / 2-i)
    case measure=>omega
    case rel=>exact⟨i,(i+j) / 2,hi,hk2,by omega,by omega,rfl,by (first|go_num|(congr 1;omega)),BW2⟩
  ·have hltz:¬(i:Int)<(j:Int):=by omega
   obtain rfl:k=i:=by omega
   obtain rfl:k=j:=by omega
   clear H1 H2
   by_cases hn2:k<n
   ·have hnz2:(k:Int)<(n:Int):=by omega
    have hcell:=HP.out _ hn2
    rw[←BW.out.cell (p:=⟨b,off+k,none⟩) hb] at hcell
    have cC:=HC.out _ hn2 wr BW.out
    have hd:decide (k<n)=true:=by simpa using hn2
    go_wp2_with fail
    refine cC.mono ?_
    rintro e w1 ⟨rfl,b1⟩
    have BW2:=BW.out.trans (b1.mono BW.out.size)
    clear cC b1 BW hcell HP HC
    go_wp2
    go_ret2
    refine⟨?_,BW2⟩
    rw[hd,Bool.true_and]
    rfl
   ·have hnz2:¬(k:Int)<(n:Int):=by omega
    have hd:decide (k<n)=false:=by simpa using hn2
    go_wp2
    go_ret2
    refine⟨?_,BW.out⟩
    first|rfl|(rw[hd,Bool.false_and];rfl)|(simp[hn2];rfl)
theorem zng:(Tryz.prog.info? 249).map (fun i=>(i.zero,i.size,i.bytes))=some (some (.pointer none),1,8):=by kernel_rfl
set_option maxRecDepth 20000 in
theorem zih(base:Nat)(q:Option Addr)(n c:Nat)(xs:List Value)(ge:Nat)(e:Value)(w:World)(hown:w.ownsRow base 249 1 (.slice q n c) n xs)(hge:Blk w ge #[e] 249)(he:e.oneCell'=true)(hn:n≤100000)(hbase:base≤w.heap.size) :
  Calls Tryz.prog 196 #[.slice q n c,.int .i64 (n:Int),.slice (some ⟨ge,0,none⟩) 1 1] w fun r w'=>∃q' c',r=.returned (.slice q' (n+1) c')∧Aside (w'.ownsRow base 249 1 (.slice q' (n+1) c') (n+1) (xs++[e]))∧Aside (w.grownBy w' (Value.slice q n c).ownBlock)∧((Value.slice q' (n+1) c').ownBlock=(Value.slice q n c).ownBlock∨(Value.slice q' (n+1) c').ownBlock=some w.heap.size):=by
 have hnz:(n:Int)≤100000:=by omega
 have hn0:(0:Int)≤(n:Int):=by omega
 have hc:n≤c:=by
  rcases hown.2 with ⟨e1,h0⟩|⟨g,cap,cur,e1,hb,hg,hnc,hm,_⟩
  ·omega
  ·injection e1 with _ _ e3
   omega
 have hcz:(n:Int)≤(c:Int):=by omega
 have HO:=(show Aside _ from hown)
 have hce:∀j u,([e]:List Value)[j]?=some u→w.cell? ((⟨ge,0,none⟩:Addr).add j)=some u:=fun j u hu=>by
  have hj:j=0:=by have:=(List.getElem?_eq_some_iff.1 hu).1;simp at this;omega
  subst hj
  rw[Go.WideShapes.add_plain]
  have:w.cell? ⟨ge,0,none⟩=some e:=hge.cell 0
  simpa using this.trans hu
 have HCE:=(show Aside _ from hce)
 clear hown hge hce hc
 obtain⟨i0,hinf,hz0,hz1,hzz⟩:=info_parts zng
 by_cases hcn:c=n
 ·subst hcn
  clear hcz
  go_enter Tryz.func196,Tryz.ntmps196
  go_wp2_with (at_builtin;refine zad rfl _ _ 175 rfl base 249 i0 _ 1 8 Tryz.underlying175 hinf hz0 hz1 hzz rfl (by decide) _ c xs rfl HO.out ⟨ge,0,none⟩ 1 1 [e] rfl rfl HCE.out (fun u hu=>by rw[List.mem_singleton.1 hu];exact he) (by decide) (by unfold maxLen;omega) (by omega) hbase ?_)
  intro v' w' o1 o2 o3
  obtain⟨q',c',rfl⟩:∃q' c',v'=.slice q' (c+1) c':=by
   rcases o1.2 with ⟨_,h0⟩|⟨g',cap,cur,e,_⟩
   ·omega
   ·exact⟨_,_,e⟩
  have H1:=(show Aside _ from o1)
  have H2:=(show Aside _ from o2)
  have H3:Hid (_∨_):=o3
  clear o1 o2 o3 HO
  go_wp2
  go_ret
  exact⟨q',c',rfl,H1,H2,H3.out⟩
 ·have hcnz:¬(c:Int)=(n:Int):=by omega
  have hcl:(n:Int)<(c:Int):=by omega
  go_enter Tryz.func196,Tryz.ntmps196
  go_wp2_with (at_builtin;refine zad rfl _ _ 175 rfl base 249 i0 _ 1 8 Tryz.underlying175 hinf hz0 hz1 hzz rfl (by decide) (.slice q n c) n xs rfl HO.out ⟨ge,0,none⟩ 1 1 [e] rfl rfl HCE.out (fun u hu=>by rw[List.mem_singleton.1 hu];exact he) (by decide) (by unfold maxLen;omega) (by omega) hbase ?_)
  intro v' w' o1 o2 o3
  obtain⟨q',c',rfl⟩:∃q' c',v'=.slice q' (n+1) c':=by
   rcases o1.2 with ⟨_,h0⟩|⟨g',cap,cur,e,_⟩
   ·omega
   ·exact⟨_,_,e⟩
  have H1:=(show Aside _ from o1)
  have H2:=(show Aside _ from o2)
  have H3:Hid (_∨_):=o3
  clear o1 o2 o3 HO
  go_wp2
  go_ret
  exact⟨q',c',rfl,H1,H2,H3.out⟩
set_option maxRecDepth 20000 in
theorem zgy(g n c i:Nat)(cur:Array Value)(xs:List Value)(ge:Nat)(e:Value)(w:World)(hg:w.heap[g]?=some (.cells cur 249 (0,0)))(hcs:cur.size=c)(htk:cur.toList.take n=xs)(hxs:xs.length=n)(hge:Blk w ge #[e] 249)(hne:ge≠g)(he:e.oneCell'=true)(hx1:∀x∈xs,x.oneCell'=true)(hi:i<n)(hn:n≤100000)(hroom:n+1≤c)(hc:c≤maxLen) :
  Calls Tryz.prog 196 #[.slice (some ⟨g,0,none⟩) n c,.int .i64 (i:Int),.slice (some ⟨ge,0,none⟩) 1 1] w fun r w'=>r=.returned (.slice (some ⟨g,0,none⟩) (n+1) c)∧Hid (w'.heap[g]?=some (.cells (splice (splice cur.toList (i+1) ((cur.toList.drop i).take (n-i))) i [e]).toArray 249 (0,0)))∧Kp (·=g) w w':=by
 have hnz:(n:Int)≤100000:=by omega
 have hn0:(0:Int)≤(n:Int):=by omega
 have hi0:(0:Int)≤(i:Int):=by omega
 have hiz:(i:Int)<(n:Int):=by omega
 have hrz:(n:Int)+1≤(c:Int):=by omega
 unfold maxLen at hc
 have hicz:¬(c:Int)=(i:Int):=by omega
 have hni:¬(i:Int)=(n:Int):=by omega
 go_enter Tryz.func196,Tryz.ntmps196
 have hoc:((i:Int)+1)≤(c:Int):=by omega
 have hz:∀w,(Go.sizeOf 249).run Tryz.prog w=.ok 1 w:=fun w=>by kernel_rfl
 have hsh1:w.shape? ge=some (249,1):=by
  unfold Blk at hge
  simp[World.shape?,hge]
 have hsh2:w.shape? g=some (249,c):=by
  simp[World.shape?,hg,hcs]
 have hov:∀lb cb,Sem.run Tryz.prog (callFunc 219 #[.slice (some ⟨ge,0,none⟩) 1 1,.slice (some ⟨g,i+1,none⟩) lb cb]) w=.ok (.value (.bool false)) w:=fun lb cb=>by
  have h:=@run_callFunc_extern Tryz.prog 219 _ (Extern.SlicesOverlaps.overlaps #[175,175] #[4]) Tryz.func219 (by kernel_rfl) (by kernel_rfl) (by kernel_rfl) (by kernel_rfl) #[.slice (some ⟨ge,0,none⟩) 1 1,.slice (some ⟨g,i+1,none⟩) lb cb] w
  rw[h,Lib.run_overlaps_apart w _ _ _ Tryz.underlying175 1 hz ⟨ge,0,none⟩ ⟨g,i+1,none⟩ 1 1 lb cb hne _ _ 1 c hsh1 hsh2 (by omega) (hge.frozen 0) (hge.frozen 1)]
  rfl
 obtain⟨L,hL⟩:∃L,cur.toList=L:=⟨_,rfl⟩
 have hgL:w.heap[g]?=some (.cells L.toArray 249 (0,0)):=by rw[hg,←hL]
 have hLc:L.length=c:=by rw[←hL,Array.length_toList,hcs]
 obtain⟨CS,hCS⟩:∃CS,(L.drop i).take (n-i)=CS:=⟨_,rfl⟩
 have hCl:CS.length=n-i:=by rw[←hCS,List.length_take,List.length_drop];omega
 have hCc:∀j u,CS[j]?=some u→w.cell? ((⟨g,i,none⟩:Addr).add j)=some u:=fun j u hu=>by
  have hj:j<n-i:=by have:=(List.getElem?_eq_some_iff.1 hu).1;omega
  rw[Go.WideShapes.add_plain]
  rw[←hCS,List.getElem?_take_of_lt hj,List.getElem?_drop] at hu
  simp only[World.cell?,hgL]
  simpa using hu
 have hC1:∀u∈CS,u.oneCell'=true:=fun u hu=>by
  rw[←hCS] at hu
  exact hx1 u (by rw[←htk,hL];exact List.mem_of_mem_drop (by rw[List.drop_take];exact hu))
 have hsz1:(Tryz.prog.info? 249).map (·.size)=some 1:=by kernel_rfl
 rw[hL,hCS]
 have HC:=(show Aside _ from hCc)
 have HG:=(show Aside _ from hgL)
 have HC1:=(show Aside _ from hC1)
 have HCL:Hid (CS.length=n-i):=hCl
 have HLC:Hid (L.length=c):=hLc
 have HGE:=(show Aside _ from hge)
 clear hL hCS hx1 hz hsh1 hsh2 hcs htk hg hgL hCc hC1 hCl hLc hge
 have hw1:IntKind.i64.wrap ((i:Int)+1)=(i:Int)+1:=by rw[IntKind.wrap_i64];omega
 have hb1:(0:Int)≤(i:Int)+1:=by omega
 have htn:((i:Int)+1).toNat=i+1:=by omega
 have hb2:¬(c=i+1):=by omega
 have hb3:(i:Int)≤(n:Int)+1:=by omega
 have hb4:¬(c=i):=by omega
 have hb5:(i:Int)+1≤(n:Int)+1:=by omega
 have hb6:(n:Int)+1≤(c:Int):=by omega
 have hcp1:∀ty dc sc,(Builtin.copy_ #[175,175] ty #[.slice (some ⟨g,i+1,none⟩) (n-i) dc,.slice (some ⟨g,i,none⟩) (n+1-i) sc]).run Tryz.prog w.drew=.ok (goInt CS.length) (w.drew.setRow g (L.toArray.toList.take (i+1)++CS++L.toArray.toList.drop (i+1+CS.length)).toArray):=fun ty dc sc =>
  run_copy_row (P:=Tryz.prog) w.drew _ _ ty 249 g (i+1) (n-i) dc ⟨g,i,none⟩ (n+1-i) sc L.toArray _ CS Tryz.underlying175 hsz1 HG.out (by rw[HCL.out];simp only[Nat.min_def];split<;>omega) HC.out (by rw[HCL.out];have:=HLC.out;simp;omega) HC1.out
 obtain⟨W1,hW1⟩:∃W1,W1=w.drew.setRow g (L.toArray.toList.take (i+1)++CS++L.toArray.toList.drop (i+1+CS.length)).toArray:=⟨_,rfl⟩
 have HW1:Hid (W1.heap[g]?=some (.cells (splice L (i+1) CS).toArray 249 (0,0))):=by
  show _=_
  rw[hW1]
  simpa [splice] using setRow_heap w.drew g _ _ _ _ HG.out
 have HB1:Aside (Kp (·=g) w W1):=by
  rw[hW1]
  exact zbk (S:=fun x=>x=g) (Kp.refl _ w).drew rfl _
 have HE1:Aside (W1.cell? ⟨ge,0,none⟩=some e):=by
  rw[hW1]
  have:(w.drew.setRow g (L.toArray.toList.take (i+1)++CS++L.toArray.toList.drop (i+1+CS.length)).toArray).heap[ge]?=w.heap[ge]?:=setRow_other w.drew g ge _ hne
  simp only[World.cell?,this]
  exact Blk.cell HGE.out 0
 rw[←hW1] at hcp1
 have hov2:=hov (n-i) (c-(i+1))
 have mixed:Tryz.prog.follows .mixedOrders=true:=by kernel_rfl
 have hl1:(splice L (i+1) CS).length=c:=by rw[length_splice _ _ _ (by rw[HCL.out,HLC.out];omega),HLC.out]
 have hcp2:∀ty dc,(Builtin.copy_ #[175,175] ty #[.slice (some ⟨g,i,none⟩) (n+1-i) dc,.slice (some ⟨ge,0,none⟩) 1 1]).run Tryz.prog W1=.ok (goInt ([e]:List Value).length) (W1.setRow g ((splice L (i+1) CS).toArray.toList.take i++[e]++(splice L (i+1) CS).toArray.toList.drop (i+([e]:List Value).length)).toArray):=fun ty dc =>
  run_copy_row (P:=Tryz.prog) W1 _ _ ty 249 g i (n+1-i) dc ⟨ge,0,none⟩ 1 1 (splice L (i+1) CS).toArray _ [e] Tryz.underlying175 hsz1 HW1.out (by simp only[List.length_singleton,Nat.min_def];split<;>omega) (fun j u hu=>by
   have hj:j=0:=by have:=(List.getElem?_eq_some_iff.1 hu).1;simp at this;omega
   subst hj
   rw[Go.WideShapes.add_plain]
   exact HE1.out.trans (by simpa using hu)) (by simp only[List.length_singleton,List.size_toArray,hl1];omega) (fun u hu=>by rw[List.mem_singleton.1 hu];exact he)
 obtain⟨W2,hW2⟩:∃W2,W2=W1.setRow g ((splice L (i+1) CS).toArray.toList.take i++[e]++(splice L (i+1) CS).toArray.toList.drop (i+([e]:List Value).length)).toArray:=⟨_,rfl⟩
 have HW2:Hid (W2.heap[g]?=some (.cells (splice (splice L (i+1) CS) i [e]).toArray 249 (0,0))):=by
  show _=_
  rw[hW2]
  simpa [splice] using setRow_heap W1 g _ _ _ _ HW1.out
 have HB2:Aside (Kp (·=g) w W2):=by
  rw[hW2]
  exact zbk (S:=fun x=>x=g) HB1.out rfl _
 rw[←hW2] at hcp2
 clear hW1 hW2 hov HW1 HB1 HE1 hl1 HC HG HC1 HCL HLC HGE
 go_wp2
 go_region_law_o (refine step_copy_runI rfl _ _ 175 175 rfl _ _ (by simp[Act.eval,Act.put]) (by simp[Act.eval,Act.put]) (hcp1 _ _ _) ?_)
 go_wp2_with (at_builtin;refine wpList_copy_runI _ rfl _ _ 175 175 rfl _ _ rfl rfl (hcp2 _ _) ?_)
 go_ret
 exact⟨rfl,HW2,HB2.out⟩
set_option maxRecDepth 20000 in
theorem zgx(base g n c i:Nat)(cur:Array Value)(xs:List Value)(ge:Nat)(e:Value)(w:World)(hg:w.heap[g]?=some (.cells cur 249 (0,0)))(hcs:cur.size=c)(htk:cur.toList.take n=xs)(hxs:xs.length=n)(hge:Blk w ge #[e] 249)(he:e.oneCell'=true)(hx1:∀x∈xs,x.oneCell'=true)(hi:i<n)(hn:n≤100000)(hroom:c<n+1)(hnc:n≤c)(hB:base≤w.heap.size) :
  Calls Tryz.prog 196 #[.slice (some ⟨g,0,none⟩) n c,.int .i64 (i:Int),.slice (some ⟨ge,0,none⟩) 1 1] w fun r w'=>∃G ROW,r=.returned (.slice (some ⟨w.heap.size,0,none⟩) (n+1) G)∧Hid (w'.heap[w.heap.size]?=some (.cells (splice (splice ROW i [e]) (i+1) (xs.drop i)).toArray 249 (0,0))∧ROW.length=G∧ROW.take i=xs.take i∧n+1≤G∧G≤maxLen)∧Below base w w':=by
 have hnz:(n:Int)≤100000:=by omega
 have hn0:(0:Int)≤(n:Int):=by omega
 have hi0:(0:Int)≤(i:Int):=by omega
 have hiz:(i:Int)<(n:Int):=by omega
 have hni:¬(i:Int)=(n:Int):=by omega
 obtain rfl:c=n:=by omega
 have hsz1:(Tryz.prog.info? 249).map (·.size)=some 1:=by kernel_rfl
 have mixed:Tryz.prog.follows .mixedOrders=true:=by kernel_rfl
 obtain⟨i0,hinf,hz0,hzs,hzb⟩:=info_parts zng
 have hgl:g<w.heap.size:=(Array.getElem?_eq_some_iff.1 hg).1
 have hcell:∀j u,xs[j]?=some u→w.cell? ⟨g,j,none⟩=some u:=fun j u hu=>by
  have hj:j<c:=by have:=(List.getElem?_eq_some_iff.1 hu).1;omega
  rw[←htk,List.getElem?_take_of_lt hj] at hu
  simp only[World.cell?,hg]
  simpa using hu
 have hold:(Builtin.firstCells i0.size i (.slice (some ⟨g,0,none⟩) i c)).run Tryz.prog w.drew=.ok (xs.take i).toArray w.drew:=by
  rw[hzs]
  exact run_firstCells_some w.drew 1 i ⟨g,0,none⟩ i c (xs.take i) (by rw[List.length_take];omega) (fun j u hj=>by
   rw[Addr.add_lit,Nat.zero_add]
   rw[List.getElem?_take] at hj
   split at hj
   ·exact hcell j u hj
   ·cases hj)
 have hrz:=fun ty=>Lib.run_append_grow_zeros (P:=Tryz.prog) w 175 3 ty 249 i0 _ .i64 .i64 Tryz.underlying175 Tryz.underlying3 hinf hz0 (some ⟨g,0,none⟩) i c (xs.take i) hold (c+1-i) (by omega) (by omega) (by omega) (by omega) (by rw[hzb];omega) (by rw[hzb];exact growslice_fits (by omega) (by omega))
 have hik:i+(c+1-i)=c+1:=by omega
 have hkk:((c+1-i:Nat):Int)=(c:Int)+1-(i:Int):=by omega
 rw[hik] at hrz
 simp only[hkk] at hrz
 obtain⟨G,hG⟩:∃G,grownCap w (c+1) c 249=G:=⟨_,rfl⟩
 have hG1:c+1≤G:=by rw[←hG];exact grownCap_ge w _ _ _
 have hG2:G≤maxLen:=by rw[←hG];exact grownCap_le_maxLen w _ _ _ (by unfold maxLen;omega)
 rw[hG] at hrz
 obtain⟨RA,hRA⟩:∃RA:Array Value,(xs.take i).toArray++Builtin.zeroCells (Value.pointer none).cells (c+1-i)++Builtin.zeroCells (Value.pointer none).cells (G-(c+1))=RA:=⟨_,rfl⟩
 have hRl:RA.toList.length=G:=by
  rw[←hRA]
  simp[Builtin.zeroCells,Value.cells]
  omega
 have hRt:RA.toList.take i=xs.take i:=by
  rw[←hRA]
  simp only[Array.toList_append,List.append_assoc]
  rw[List.take_append_of_le_length (by simp;omega)]
  rw[List.take_take,Nat.min_self]
 rw[hRA] at hrz
 obtain⟨W1,hW1⟩:∃W1,w.drew.alloc (.cells RA 249)=W1:=⟨_,rfl⟩
 rw[hW1] at hrz
 have HW1:Hid (W1.heap[w.heap.size]?=some (.cells RA 249 (0,0))):=by
  show _=_
  rw[←hW1]
  exact zab w.drew RA _
 have HB1:Aside (Below base w W1):=by
  rw[←hW1]
  exact (Below.drew (Below.refl _ w)).alloc hB _
 have hold1:∀b,b<w.heap.size→W1.heap[b]?=w.heap[b]?:=fun b hb=>by
  rw[←hW1]
  show (w.heap.push _)[b]?=_
  rw[Array.getElem?_push_lt hb,Array.getElem?_eq_getElem hb]
 obtain⟨R1,hR1⟩:∃R1,splice RA.toList i [e]=R1:=⟨_,rfl⟩
 have hR1l:R1.length=G:=by rw[←hR1,length_splice _ _ _ (by simp[hRl];omega),hRl]
 have hcp1:∀ty dc,(Builtin.copy_ #[175,175] ty #[.slice (some ⟨w.heap.size,i,none⟩) (c+1-i) dc,.slice (some ⟨ge,0,none⟩) 1 1]).run Tryz.prog W1=.ok (goInt ([e]:List Value).length) (W1.setRow w.heap.size (RA.toList.take i++[e]++RA.toList.drop (i+([e]:List Value).length)).toArray):=fun ty dc =>
  run_copy_row (P:=Tryz.prog) W1 _ _ ty 249 w.heap.size i (c+1-i) dc ⟨ge,0,none⟩ 1 1 RA _ [e] Tryz.underlying175 hsz1 HW1.out (by simp only[List.length_singleton,Nat.min_def];split<;>omega) (fun j u hu=>by
   have hj:j=0:=by have:=(List.getElem?_eq_some_iff.1 hu).1;simp at this;omega
   subst hj
   rw[Go.WideShapes.add_plain]
   have:W1.cell? ⟨ge,0,none⟩=some e:=by
    simp only[World.cell?,hold1 ge hge.lt]
    exact Blk.cell hge 0
   exact this.trans (by simpa using hu)) (by have:RA.size=G:=(by simpa using hRl);simp only[List.length_singleton];omega) (fun u hu=>by rw[List.mem_singleton.1 hu];exact he)
 obtain⟨W2,hW2⟩:∃W2,W1.setRow w.heap.size (RA.toList.take i++[e]++RA.toList.drop (i+([e]:List Value).length)).toArray=W2:=⟨_,rfl⟩
 rw[hW2] at hcp1
 have HW2:Hid (W2.heap[w.heap.size]?=some (.cells R1.toArray 249 (0,0))):=by
  show _=_
  rw[←hW2,←hR1]
  simpa [splice] using setRow_heap W1 w.heap.size _ _ _ _ HW1.out
 have HB2:Aside (Below base w W2):=by
  rw[←hW2]
  exact below_setRow HB1.out hB _
 have hold2:∀b,b<w.heap.size→W2.heap[b]?=w.heap[b]?:=fun b hb=>by
  rw[←hW2,setRow_other W1 w.heap.size b _ (by omega)]
  exact hold1 b hb
 obtain⟨XD,hXD⟩:∃XD,xs.drop i=XD:=⟨_,rfl⟩
 have hXl:XD.length=c-i:=by rw[←hXD,List.length_drop,hxs]
 have hcp2:∀ty dc sc,(Builtin.copy_ #[175,175] ty #[.slice (some ⟨w.heap.size,i+1,none⟩) (c-i) dc,.slice (some ⟨g,i,none⟩) (c-i) sc]).run Tryz.prog W2.drew=.ok (goInt XD.length) (W2.drew.setRow w.heap.size (R1.toArray.toList.take (i+1)++XD++R1.toArray.toList.drop (i+1+XD.length)).toArray):=fun ty dc sc =>
  run_copy_row (P:=Tryz.prog) W2.drew _ _ ty 249 w.heap.size (i+1) (c-i) dc ⟨g,i,none⟩ (c-i) sc R1.toArray _ XD Tryz.underlying175 hsz1 HW2.out (by rw[hXl];simp) (fun j u hu=>by
   rw[Go.WideShapes.add_plain]
   have h1:w.cell? ⟨g,i+j,none⟩=some u:=hcell (i+j) u (by rw[←hXD,List.getElem?_drop] at hu;exact hu)
   simp only[World.cell?] at h1 ⊢
   have h2:W2.drew.heap[g]?=w.heap[g]?:=hold2 g hgl
   rw[h2]
   exact h1) (by simp only[List.size_toArray,hR1l,hXl];omega) (fun u hu=>by rw[←hXD] at hu;exact hx1 u (List.mem_of_mem_drop hu))
 obtain⟨W3,hW3⟩:∃W3,W2.drew.setRow w.heap.size (R1.toArray.toList.take (i+1)++XD++R1.toArray.toList.drop (i+1+XD.length)).toArray=W3:=⟨_,rfl⟩
 rw[hW3] at hcp2
 have HW3:Hid (W3.heap[w.heap.size]?=some (.cells (splice R1 (i+1) XD).toArray 249 (0,0))):=by
  show _=_
  rw[←hW3]
  simpa [splice] using setRow_heap W2.drew w.heap.size _ _ _ _ HW2.out
 have HB3:Aside (Below base w W3):=by
  rw[←hW3]
  exact below_setRow (Below.drew HB2.out) hB _
 have HF:Hid (RA.toList.length=G∧RA.toList.take i=xs.take i∧splice RA.toList i [e]=R1∧xs.drop i=XD∧G≤maxLen):=⟨hRl,hRt,hR1,hXD,hG2⟩
 have hGz:(c:Int)+1≤(G:Int):=by omega
 have hb1:(0:Int)≤(i:Int)+1:=by omega
 have htn:((i:Int)+1).toNat=i+1:=by omega
 have hw1:IntKind.i64.wrap ((i:Int)+1)=(i:Int)+1:=by rw[IntKind.wrap_i64];omega
 have hGi:¬(G=i):=by omega
 have hGim:¬(G=i+1):=by omega
 have hci:¬(c=i):=by omega
 have hb3:(i:Int)≤(c:Int):=by omega
 unfold maxLen at hG2
 have hHH:=w.heap.size
 clear hW1 hW2 hW3 hold hold1 hold2 hcell hik hkk hG hRA hRl hRt hR1 hR1l hXD hXl HW1 HW2 HB1 HB2 hge hg hcs htk hx1 hinf hz0 hzs hzb hHH
 go_enter Tryz.func196,Tryz.ntmps196
 go_wp2_with (first
  | (at_builtin;refine Lib.wpList_append_run _ rfl _ _ _ _ rfl _ _ rfl rfl _ _ (hrz _) ?_)
  | (at_builtin;refine wpList_copy_runI _ rfl _ _ 175 175 rfl _ _ rfl rfl (hcp1 _ _) ?_))
 go_region_law_o (refine step_copy_runI rfl _ _ 175 175 rfl _ _ (by simp[Act.eval,Act.put]) (by simp[Act.eval,Act.put]) (hcp2 _ _ _) ?_)
 go_wp2
 go_ret
 obtain⟨f1,f2,f3,f4,f5⟩:=HF.out
 refine⟨G,RA.toList,rfl,?_,HB3.out⟩
 exact⟨by rw[f3,f4];exact HW3.out,f1,f2,by omega,f5⟩
theorem zig(base:Nat)(q:Option Addr)(n c i:Nat)(xs:List Value)(ge:Nat)(e:Value)(w:World)(hown:w.ownsRow base 249 1 (.slice q n c) n xs)(hx1:∀x∈xs,x.oneCell'=true)(hge:Blk w ge #[e] 249)(hne:(Value.slice q n c).ownBlock≠some ge)(he:e.oneCell'=true)(hi:i≤n)(hn:n≤100000)(hbase:base≤w.heap.size) :
  Calls Tryz.prog 196 #[.slice q n c,.int .i64 (i:Int),.slice (some ⟨ge,0,none⟩) 1 1] w fun r w'=>∃q' c',r=.returned (.slice q' (n+1) c')∧Aside (w'.ownsRow base 249 1 (.slice q' (n+1) c') (n+1) (xs.take i++e::xs.drop i))∧Aside (Kp (fun k=>(Value.slice q n c).ownBlock=some k) w w')∧Aside ((Value.slice q' (n+1) c').ownBlock=(Value.slice q n c).ownBlock∨(Value.slice q' (n+1) c').ownBlock=some w.heap.size):=by
 have hxl:xs.length=n:=by have:=hown.1;omega
 by_cases hin:i=n
 ·subst hin
  refine (zih base q i c xs ge e w hown hge he hn hbase).mono ?_
  rintro r w' ⟨q',c',rfl,ho,hg,hb⟩
  refine⟨q',c',rfl,?_,(show Aside _ from (Kp.refl _ w).grown hg.out (fun k hk _=>hk)),(show Aside _ from hb)⟩
  rw[List.take_of_length_le (by omega),List.drop_of_length_le (by omega)]
  exact ho
 ·have hlt:i<n:=by omega
  rcases hown.2 with ⟨e1,h0⟩|⟨g,cap,cur,e1,hb,hg,hnc,hm,hcs,htk⟩
  ·omega
  injection e1 with e1 _ e3
  subst e1
  subst e3
  simp only[Nat.mul_one] at hcs htk
  by_cases hroom:n+1≤c
  ·refine (zgy g n c i cur xs ge e w hg hcs htk hxl hge (fun h=>hne (by rw[h];rfl)) he hx1 hlt hn hroom hm).mono ?_
   rintro r w' ⟨rfl,ho,hk⟩
   refine⟨_,_,rfl,?_,(show Aside _ from hk.mono (fun k _ hs=>by rw[show k=g from hs];rfl)),(show Aside _ from .inl rfl)⟩
   refine (show Aside _ from ⟨by simp;omega,.inr ⟨g,c,_,rfl,hb,ho.out,hroom,hm,?_,?_⟩⟩)
   ·simp only[List.size_toArray]
    rw[←hcs,←Array.length_toList]
    exact (by have hL:cur.toList.length=c:=(by rw[Array.length_toList,hcs]);rw[zjV hL hlt (by omega),hL];omega)
   ·have hL:cur.toList.length=c:=by rw[Array.length_toList,hcs]
    rw[Nat.mul_one]
    exact zhv hL htk hlt hroom
  ·refine (zgx w.heap.size g n c i cur xs ge e w hg hcs htk hxl hge he hx1 hlt hn (by omega) hnc (Nat.le_refl _)).mono ?_
   rintro r w' ⟨G,ROW,rfl,ho,hk⟩
   obtain⟨h1,h2,h3,h4,h5⟩:=ho.out
   refine⟨_,_,rfl,?_,(show Aside _ from ?_),(show Aside _ from .inr rfl)⟩
   ·refine (show Aside _ from ⟨by simp;omega,.inr ⟨_,G,_,rfl,hbase,h1,h4,h5,?_,?_⟩⟩)
    ·simp only[List.size_toArray]
     rw[zjW h2 hxl hlt h4];omega
    ·rw[Nat.mul_one]
     exact zhw h2 h3 hxl hlt h4
   ·exact Kp.of_below hk
theorem zqL(z:Nat)(f t:Int)(w:World)(hz:w.cell? ⟨z,0,none⟩=some (.int .i64 f)) :
  Calls Tryz.prog 168 #[.pointer (some ⟨z,0,none⟩),.int .i64 t] w fun e w'=>e=.returned (.int .i64 (cmpI f t))∧Below w.heap.size w w':=by
 have hc:=zmX f t w
 go_enter Tryz.func168,Tryz.ntmps168
 go_wp2_with fail
 refine hc.mono ?_
 rintro e w' ⟨rfl,rfl⟩
 clear hc
 go_wp2
 go_ret
 exact⟨rfl,Below.refl _ _⟩

theorem zmW{x y:Int}:cmpI x y<0↔x<y:=by
 unfold cmpI
 split
 ·simp_all
 ·split<;>simp_all
theorem zoe{x y:Int}:(cmpI x y == 0)=(x == y):=by
 unfold cmpI
 split
 ·next h =>
  have:¬x=y:=by omega
  simp[this]
 ·split
  ·next h =>
   have:¬x=y:=by omega
   simp[this]
  ·have:x=y:=by omega
   simp[this]

theorem ztd(gb b n c:Nat)(zs:Nat→Nat)(fs:Nat→Int)(t:Int)(w:World)(hg:w.cell? ⟨gb,16,none⟩=some (.slice (some ⟨b,0,none⟩) n c))(hn:n≤1000000)(hb:b<w.heap.size)
  (hp:∀j,j<n→w.cell? ⟨b,j,none⟩=some (.pointer (some ⟨zs j,0,none⟩)))(hz:∀j,j<n→w.cell? ⟨zs j,0,none⟩=some (.int .i64 (fs j)))
  (k:Nat)(hk:k≤n)(h1:∀j,j<k→fs j<t)(h2:∀j,k≤j→j<n→t≤fs j) :
  Calls Tryz.prog 140 #[.pointer (some ⟨gb,0,none⟩),.int .i64 t] w fun e w'=>e=.returned (.tuple #[.int .i64 (k:Int),.bool (decide (k<n)&&(fs k == t))])∧Below w.heap.size w w':=by
 have hlt:∀j,j<n→zs j<w.heap.size:=fun j hj=>by
  rcases Nat.lt_or_ge (zs j) w.heap.size with h|h
  ·exact h
  ·have:=hz j hj
   simp[World.cell?,Array.getElem?_eq_none h] at this
 have hC:=znW 168 (fun args W=>by kernel_rfl) #[] b 0 n c (.int .i64 t) (fun j=>.pointer (some ⟨zs j,0,none⟩)) (fun j=>cmpI (fs j) t) w hn hb (fun j hj=>by rw[Nat.zero_add];exact hp j hj) k hk (fun j hj=>zmW.2 (h1 j hj)) (fun j hj hjn=>by
   have:=h2 j hj hjn
   rcases Int.lt_or_le (cmpI (fs j) t) 0 with h|h
   ·have:=zmW.1 h;omega
   ·exact h) (fun j hj W hW=>by
   have hcell:W.cell? ⟨zs j,0,none⟩=some (.int .i64 (fs j)):=by rw[hW.cell (p:=⟨zs j,0,none⟩) (hlt j hj)];exact hz j hj
   exact zqL (zs j) (fs j) t W hcell)
 have hk0:(cmpI (fs k) t == 0)=(fs k == t):=zoe
 rw[hk0] at hC
 generalize (decide (k<n)&&(fs k == t))=r at hC
 have hw:=w.heap.size
 clear hp hz h1 h2 hlt hk0
 go_enter Tryz.func140,Tryz.ntmps140
 go_wp2_with fail
 refine hC.mono ?_
 rintro e w' ⟨rfl,hB⟩
 have HB:=(show Aside _ from hB)
 clear hC hB hg
 go_wp2
 go_ret2
 exact⟨rfl,HB.out⟩
theorem zlF(a:Option Addr)(c:Nat)(tg:Value)(f:Value)(w:World) :
  Calls Tryz.prog 167 #[.slice a 0 c,tg,f] w fun e w'=>e=.returned (.tuple #[.int .i64 0,.bool false])∧w'=w:=by
 go_enter Tryz.func167,Tryz.ntmps167
 go_wp2
 go_loopg [9,10,11] 0 (fun gg s9 s10 _ wr=>s9=.int .i64 0∧s10=.int .i64 0∧wr=w)
 case atStart=>exact⟨rfl,rfl,rfl⟩
 case round =>
  obtain⟨rfl,rfl,rfl⟩:=hrel
  go_wp2
  go_ret2
  exact⟨rfl,rfl⟩
theorem zjc(a:Option Addr)(c:Nat)(tg:Value)(f:Value)(w:World) :
  Calls Tryz.prog 190 #[.slice a 0 c,tg,f] w fun e w'=>e=.returned (.tuple #[.int .i64 0,.bool false])∧w'=w:=by
 go_enter Tryz.func190,Tryz.ntmps190
 go_wp2
 go_loopg [9,10,11] 0 (fun gg s9 s10 _ wr=>s9=.int .i64 0∧s10=.int .i64 0∧wr=w)
 case atStart=>exact⟨rfl,rfl,rfl⟩
 case round =>
  obtain⟨rfl,rfl,rfl⟩:=hrel
  go_wp2
  go_ret2
  exact⟨rfl,rfl⟩
theorem zqM(gb:Nat)(a:Option Addr)(c:Nat)(t:Int)(w:World)(hg:w.cell? ⟨gb,16,none⟩=some (.slice a 0 c)) :
  Calls Tryz.prog 140 #[.pointer (some ⟨gb,0,none⟩),.int .i64 t] w fun e w'=>e=.returned (.tuple #[.int .i64 0,.bool false])∧w'=w:=by
 have hC:=zlF a c (.int .i64 t) (.func (.func 168) #[] #[]) w
 go_enter Tryz.func140,Tryz.ntmps140
 go_wp2_with fail
 refine hC.mono ?_
 rintro e w' ⟨rfl,rfl⟩
 clear hC
 go_wp2
 go_ret2
 exact⟨rfl,rfl⟩
theorem znc(sb:Nat)(a:Option Addr)(c:Nat)(u:Value)(w:World)(hs:w.cell? ⟨sb,1,none⟩=some (.slice a 0 c)) :
  Calls Tryz.prog 170 #[.pointer (some ⟨sb,0,none⟩),u] w fun e w'=>e=.returned (.tuple #[.int .i64 0,.bool false])∧w'=w:=by
 have hC:=zjc a c u (.func (.func 191) #[] #[]) w
 go_enter Tryz.func170,Tryz.ntmps170
 go_wp2_with fail
 refine hC.mono ?_
 rintro e w' ⟨rfl,rfl⟩
 clear hC
 go_wp2
 go_ret2
 exact⟨rfl,rfl⟩
theorem zjQ(sb:Nat)(a:Option Addr)(c:Nat)(u:Value)(w:World)(hs:w.cell? ⟨sb,1,none⟩=some (.slice a 0 c)) :
  Calls Tryz.prog 141 #[.pointer (some ⟨sb,0,none⟩),u] w fun e w'=>e=.returned (.bool true)∧w'=w:=by
 have hC:=znc sb a c u w hs
 go_enter Tryz.func141,Tryz.ntmps141
 go_wp2_with fail
 refine hC.mono ?_
 rintro e w' ⟨rfl,rfl⟩
 clear hC
 go_wp2
 go_ret
 exact⟨rfl,rfl⟩
theorem zfp(sb b n c m:Nat)(zs:Nat→Nat)(K:Nat→List V3)(q2:Option Addr)(c2:Nat)(ls:List V3)(av tv:Value)(w:World)(hs:w.cell? ⟨sb,1,none⟩=some (.slice (some ⟨b,0,none⟩) n c))(hK:zlv w b n m zs K)(hl:ls.length=m)(h2:zaf w q2 ls)(hs2:∀v∈ls,v.2.2.size≤maxLen)
  (k:Nat)(hk:k<n)(hb1:∀j,j<k→keyC (K j) ls<0)(hb2:∀j,k≤j→j<n→0≤keyC (K j) ls)(h0:keyC (K k) ls=0) :
  Calls Tryz.prog 173 #[.pointer (some ⟨sb,0,none⟩),.slice q2 m c2,av,tv] w fun e w'=>e=.returned (.tuple #[.pointer (some ⟨zs k,0,none⟩),.nilIface])∧Below w.heap.size w w':=by
 have hsl:sb<w.heap.size:=by
  rcases Nat.lt_or_ge sb w.heap.size with h|h
  ·exact h
  ·simp[World.cell?,Array.getElem?_eq_none h] at hs
 have hC:=zov sb b n c m zs K q2 c2 ls w hs hK hl h2 hs2 k (by omega) hb1 hb2
 rw[h0,show (decide (k<n)&&((0:Int) == 0))=true by simp[hk]] at hC
 have hp:=hK.ptr k hk
 have hbl:=hK.lt
 have hn:=hK.le
 generalize zs k=z at hp ⊢
 clear hb1 hb2 hK h2 hs2 hl h0
 have hkz:(k:Int)<(n:Int):=by omega
 have hk0:(0:Int)≤(k:Int):=by omega
 go_enter Tryz.func173,Tryz.ntmps173
 go_wp2_with fail
 refine hC.mono ?_
 rintro e w' ⟨rfl,hB⟩
 have hs':w'.cell? ⟨sb,1,none⟩=some (.slice (some ⟨b,0,none⟩) n c):=by rw[hB.cell (p:=⟨sb,1,none⟩) hsl];exact hs
 have hp':w'.cell? ⟨b,k,none⟩=some (.pointer (some ⟨z,0,none⟩)):=by rw[hB.cell (p:=⟨b,k,none⟩) hbl];exact hp
 have HB:=(show Aside _ from hB)
 clear hC hB hs hp
 go_wp2
 go_ret2
 exact⟨rfl,HB.out⟩
end
end Go.Proofs.YtbdnccnfidjiaaaGreatDoor
