/-
  InS, DeS, InSu.
-/
import Derived.Test.YtbdnccnfidjiaaaGreatDoorGyAz
import Derived.Test.YtbdnccnfidjiaaaGreatDoorGyAi
import Derived.Test.YtbdnccnfidjiaaaGreatDoorGyAj
import Derived.Laws.CopyOwn
import Derived.Lib.AppendZeros
import Derived.Lib.Overlaps
import Derived.Shelf.Spec.SlicesInsert
import Derived.Lib.AppendZerosOnto
import Derived.Deep.RegionLaw
import Derived.Deep.DeepCutAuto
import Derived.Lib.SliceRun
namespace Go.Proofs.YtbdnccnfidjiaaaGreatDoor
open Go.RowKit
set_option linter.unusedVariables false
set_option linter.unusedSimpArgs false
set_option maxHeartbeats 8000000
section
open Go.BigFrame
theorem zjT:(Tryz.prog.info? 147).map (fun i=>(i.zero,i.size,i.bytes))=some (some (.pointer none),1,8):=by kernel_rfl
set_option maxRecDepth 20000 in
theorem zij(base:Nat)(q:Option Addr)(n c:Nat)(xs:List Value)(ge:Nat)(e:Value)(w:World)(hown:w.ownsRow base 147 1 (.slice q n c) n xs)(hge:Blk w ge #[e] 147)(he:e.oneCell'=true)(hn:n≤100000)(hbase:base≤w.heap.size) :
  Calls Tryz.prog 172 #[.slice q n c,.int .i64 (n:Int),.slice (some ⟨ge,0,none⟩) 1 1] w fun r w'=>∃q' c',r=.returned (.slice q' (n+1) c')∧Aside (w'.ownsRow base 147 1 (.slice q' (n+1) c') (n+1) (xs++[e]))∧Aside (w.grownBy w' (Value.slice q n c).ownBlock)∧((Value.slice q' (n+1) c').ownBlock=(Value.slice q n c).ownBlock∨(Value.slice q' (n+1) c').ownBlock=some w.heap.size):=by
 have hnz:(n:Int)≤100000:=by omega
 have hn0:(0:Int)≤(n:Int):=by omega
 have hc:n≤c:=by
  rcases hown.2 with ⟨e1,h0⟩|⟨g,cap,cur,e1,hb,hg,hnc,hm,_⟩
  ·omega
  ·injection e1 with _ _ e3
   omega
 have hcz:(n:Int)≤(c:Int):=by omega
 have HO:=(show Aside _ from hown)
 have hce:∀j u,([e]:List Value)[j]?=some u→w.cell? ((⟨ge,0,none⟩:Addr).add j)=some u:=fun j u hu=>by
  have hj:j=0:=by have:=(List.getElem?_eq_some_iff.1 hu).1;simp at this;omega
  subst hj
  rw[Go.WideShapes.add_plain]
  have:w.cell? ⟨ge,0,none⟩=some e:=hge.cell 0
  simpa using this.trans hu
 have HCE:=(show Aside _ from hce)
 clear hown hge hce hc
 obtain⟨i0,hinf,hz0,hz1,hzz⟩:=info_parts zjT
 by_cases hcn:c=n
 ·subst hcn
  clear hcz
  go_enter Tryz.func172,Tryz.ntmps172
  go_wp2_with (at_builtin;refine zad rfl _ _ 139 rfl base 147 i0 _ 1 8 Tryz.underlying139 hinf hz0 hz1 hzz rfl (by decide) _ c xs rfl HO.out ⟨ge,0,none⟩ 1 1 [e] rfl rfl HCE.out (fun u hu=>by rw[List.mem_singleton.1 hu];exact he) (by decide) (by unfold maxLen;omega) (by omega) hbase ?_)
  intro v' w' o1 o2 o3
  obtain⟨q',c',rfl⟩:∃q' c',v'=.slice q' (c+1) c':=by
   rcases o1.2 with ⟨_,h0⟩|⟨g',cap,cur,e,_⟩
   ·omega
   ·exact⟨_,_,e⟩
  have H1:=(show Aside _ from o1)
  have H2:=(show Aside _ from o2)
  have H3:Hid (_∨_):=o3
  clear o1 o2 o3 HO
  go_wp2
  go_ret
  exact⟨q',c',rfl,H1,H2,H3.out⟩
 ·have hcnz:¬(c:Int)=(n:Int):=by omega
  have hcl:(n:Int)<(c:Int):=by omega
  go_enter Tryz.func172,Tryz.ntmps172
  go_wp2_with (at_builtin;refine zad rfl _ _ 139 rfl base 147 i0 _ 1 8 Tryz.underlying139 hinf hz0 hz1 hzz rfl (by decide) (.slice q n c) n xs rfl HO.out ⟨ge,0,none⟩ 1 1 [e] rfl rfl HCE.out (fun u hu=>by rw[List.mem_singleton.1 hu];exact he) (by decide) (by unfold maxLen;omega) (by omega) hbase ?_)
  intro v' w' o1 o2 o3
  obtain⟨q',c',rfl⟩:∃q' c',v'=.slice q' (n+1) c':=by
   rcases o1.2 with ⟨_,h0⟩|⟨g',cap,cur,e,_⟩
   ·omega
   ·exact⟨_,_,e⟩
  have H1:=(show Aside _ from o1)
  have H2:=(show Aside _ from o2)
  have H3:Hid (_∨_):=o3
  clear o1 o2 o3 HO
  go_wp2
  go_ret
  exact⟨q',c',rfl,H1,H2,H3.out⟩
set_option maxRecDepth 20000 in
theorem zgA(g n c i:Nat)(cur:Array Value)(xs:List Value)(ge:Nat)(e:Value)(w:World)(hg:w.heap[g]?=some (.cells cur 147 (0,0)))(hcs:cur.size=c)(htk:cur.toList.take n=xs)(hxs:xs.length=n)(hge:Blk w ge #[e] 147)(hne:ge≠g)(he:e.oneCell'=true)(hx1:∀x∈xs,x.oneCell'=true)(hi:i<n)(hn:n≤100000)(hroom:n+1≤c)(hc:c≤maxLen) :
  Calls Tryz.prog 172 #[.slice (some ⟨g,0,none⟩) n c,.int .i64 (i:Int),.slice (some ⟨ge,0,none⟩) 1 1] w fun r w'=>r=.returned (.slice (some ⟨g,0,none⟩) (n+1) c)∧Hid (w'.heap[g]?=some (.cells (splice (splice cur.toList (i+1) ((cur.toList.drop i).take (n-i))) i [e]).toArray 147 (0,0)))∧Kp (·=g) w w':=by
 have hnz:(n:Int)≤100000:=by omega
 have hn0:(0:Int)≤(n:Int):=by omega
 have hi0:(0:Int)≤(i:Int):=by omega
 have hiz:(i:Int)<(n:Int):=by omega
 have hrz:(n:Int)+1≤(c:Int):=by omega
 unfold maxLen at hc
 have hicz:¬(c:Int)=(i:Int):=by omega
 have hni:¬(i:Int)=(n:Int):=by omega
 go_enter Tryz.func172,Tryz.ntmps172
 have hoc:((i:Int)+1)≤(c:Int):=by omega
 have hz:∀w,(Go.sizeOf 147).run Tryz.prog w=.ok 1 w:=fun w=>by kernel_rfl
 have hsh1:w.shape? ge=some (147,1):=by
  unfold Blk at hge
  simp[World.shape?,hge]
 have hsh2:w.shape? g=some (147,c):=by
  simp[World.shape?,hg,hcs]
 have hov:∀lb cb,Sem.run Tryz.prog (callFunc 193 #[.slice (some ⟨ge,0,none⟩) 1 1,.slice (some ⟨g,i+1,none⟩) lb cb]) w=.ok (.value (.bool false)) w:=fun lb cb=>by
  have h:=@run_callFunc_extern Tryz.prog 193 _ (Extern.SlicesOverlaps.overlaps #[139,139] #[4]) Tryz.func193 (by kernel_rfl) (by kernel_rfl) (by kernel_rfl) (by kernel_rfl) #[.slice (some ⟨ge,0,none⟩) 1 1,.slice (some ⟨g,i+1,none⟩) lb cb] w
  rw[h,Lib.run_overlaps_apart w _ _ _ Tryz.underlying139 1 hz ⟨ge,0,none⟩ ⟨g,i+1,none⟩ 1 1 lb cb hne _ _ 1 c hsh1 hsh2 (by omega) (hge.frozen 0) (hge.frozen 1)]
  rfl
 obtain⟨L,hL⟩:∃L,cur.toList=L:=⟨_,rfl⟩
 have hgL:w.heap[g]?=some (.cells L.toArray 147 (0,0)):=by rw[hg,←hL]
 have hLc:L.length=c:=by rw[←hL,Array.length_toList,hcs]
 obtain⟨CS,hCS⟩:∃CS,(L.drop i).take (n-i)=CS:=⟨_,rfl⟩
 have hCl:CS.length=n-i:=by rw[←hCS,List.length_take,List.length_drop];omega
 have hCc:∀j u,CS[j]?=some u→w.cell? ((⟨g,i,none⟩:Addr).add j)=some u:=fun j u hu=>by
  have hj:j<n-i:=by have:=(List.getElem?_eq_some_iff.1 hu).1;omega
  rw[Go.WideShapes.add_plain]
  rw[←hCS,List.getElem?_take_of_lt hj,List.getElem?_drop] at hu
  simp only[World.cell?,hgL]
  simpa using hu
 have hC1:∀u∈CS,u.oneCell'=true:=fun u hu=>by
  rw[←hCS] at hu
  exact hx1 u (by rw[←htk,hL];exact List.mem_of_mem_drop (by rw[List.drop_take];exact hu))
 have hsz1:(Tryz.prog.info? 147).map (·.size)=some 1:=by kernel_rfl
 rw[hL,hCS]
 have HC:=(show Aside _ from hCc)
 have HG:=(show Aside _ from hgL)
 have HC1:=(show Aside _ from hC1)
 have HCL:Hid (CS.length=n-i):=hCl
 have HLC:Hid (L.length=c):=hLc
 have HGE:=(show Aside _ from hge)
 clear hL hCS hx1 hz hsh1 hsh2 hcs htk hg hgL hCc hC1 hCl hLc hge
 have hw1:IntKind.i64.wrap ((i:Int)+1)=(i:Int)+1:=by rw[IntKind.wrap_i64];omega
 have hb1:(0:Int)≤(i:Int)+1:=by omega
 have htn:((i:Int)+1).toNat=i+1:=by omega
 have hb2:¬(c=i+1):=by omega
 have hb3:(i:Int)≤(n:Int)+1:=by omega
 have hb4:¬(c=i):=by omega
 have hb5:(i:Int)+1≤(n:Int)+1:=by omega
 have hb6:(n:Int)+1≤(c:Int):=by omega
 have hcp1:∀ty dc sc,(Builtin.copy_ #[139,139] ty #[.slice (some ⟨g,i+1,none⟩) (n-i) dc,.slice (some ⟨g,i,none⟩) (n+1-i) sc]).run Tryz.prog w.drew=.ok (goInt CS.length) (w.drew.setRow g (L.toArray.toList.take (i+1)++CS++L.toArray.toList.drop (i+1+CS.length)).toArray):=fun ty dc sc =>
  run_copy_row (P:=Tryz.prog) w.drew _ _ ty 147 g (i+1) (n-i) dc ⟨g,i,none⟩ (n+1-i) sc L.toArray _ CS Tryz.underlying139 hsz1 HG.out (by rw[HCL.out];simp only[Nat.min_def];split<;>omega) HC.out (by rw[HCL.out];have:=HLC.out;simp;omega) HC1.out
 obtain⟨W1,hW1⟩:∃W1,W1=w.drew.setRow g (L.toArray.toList.take (i+1)++CS++L.toArray.toList.drop (i+1+CS.length)).toArray:=⟨_,rfl⟩
 have HW1:Hid (W1.heap[g]?=some (.cells (splice L (i+1) CS).toArray 147 (0,0))):=by
  show _=_
  rw[hW1]
  simpa [splice] using setRow_heap w.drew g _ _ _ _ HG.out
 have HB1:Aside (Kp (·=g) w W1):=by
  rw[hW1]
  exact zbk (S:=fun x=>x=g) (Kp.refl _ w).drew rfl _
 have HE1:Aside (W1.cell? ⟨ge,0,none⟩=some e):=by
  rw[hW1]
  have:(w.drew.setRow g (L.toArray.toList.take (i+1)++CS++L.toArray.toList.drop (i+1+CS.length)).toArray).heap[ge]?=w.heap[ge]?:=setRow_other w.drew g ge _ hne
  simp only[World.cell?,this]
  exact Blk.cell HGE.out 0
 rw[←hW1] at hcp1
 have hov2:=hov (n-i) (c-(i+1))
 have mixed:Tryz.prog.follows .mixedOrders=true:=by kernel_rfl
 have hl1:(splice L (i+1) CS).length=c:=by rw[length_splice _ _ _ (by rw[HCL.out,HLC.out];omega),HLC.out]
 have hcp2:∀ty dc,(Builtin.copy_ #[139,139] ty #[.slice (some ⟨g,i,none⟩) (n+1-i) dc,.slice (some ⟨ge,0,none⟩) 1 1]).run Tryz.prog W1=.ok (goInt ([e]:List Value).length) (W1.setRow g ((splice L (i+1) CS).toArray.toList.take i++[e]++(splice L (i+1) CS).toArray.toList.drop (i+([e]:List Value).length)).toArray):=fun ty dc =>
  run_copy_row (P:=Tryz.prog) W1 _ _ ty 147 g i (n+1-i) dc ⟨ge,0,none⟩ 1 1 (splice L (i+1) CS).toArray _ [e] Tryz.underlying139 hsz1 HW1.out (by simp only[List.length_singleton,Nat.min_def];split<;>omega) (fun j u hu=>by
   have hj:j=0:=by have:=(List.getElem?_eq_some_iff.1 hu).1;simp at this;omega
   subst hj
   rw[Go.WideShapes.add_plain]
   exact HE1.out.trans (by simpa using hu)) (by simp only[List.length_singleton,List.size_toArray,hl1];omega) (fun u hu=>by rw[List.mem_singleton.1 hu];exact he)
 obtain⟨W2,hW2⟩:∃W2,W2=W1.setRow g ((splice L (i+1) CS).toArray.toList.take i++[e]++(splice L (i+1) CS).toArray.toList.drop (i+([e]:List Value).length)).toArray:=⟨_,rfl⟩
 have HW2:Hid (W2.heap[g]?=some (.cells (splice (splice L (i+1) CS) i [e]).toArray 147 (0,0))):=by
  show _=_
  rw[hW2]
  simpa [splice] using setRow_heap W1 g _ _ _ _ HW1.out
 have HB2:Aside (Kp (·=g) w W2):=by
  rw[hW2]
  exact zbk (S:=fun x=>x=g) HB1.out rfl _
 rw[←hW2] at hcp2
 clear hW1 hW2 hov HW1 HB1 HE1 hl1 HC HG HC1 HCL HLC HGE
 go_wp2
 go_region_law_o (refine step_copy_runI rfl _ _ 139 139 rfl _ _ (by simp[Act.eval,Act.put]) (by simp[Act.eval,Act.put]) (hcp1 _ _ _) ?_)
 go_wp2_with (at_builtin;refine wpList_copy_runI _ rfl _ _ 139 139 rfl _ _ rfl rfl (hcp2 _ _) ?_)
 go_ret
 exact⟨rfl,HW2,HB2.out⟩
set_option maxRecDepth 20000 in
theorem zgz(base g n c i:Nat)(cur:Array Value)(xs:List Value)(ge:Nat)(e:Value)(w:World)(hg:w.heap[g]?=some (.cells cur 147 (0,0)))(hcs:cur.size=c)(htk:cur.toList.take n=xs)(hxs:xs.length=n)(hge:Blk w ge #[e] 147)(he:e.oneCell'=true)(hx1:∀x∈xs,x.oneCell'=true)(hi:i<n)(hn:n≤100000)(hroom:c<n+1)(hnc:n≤c)(hB:base≤w.heap.size) :
  Calls Tryz.prog 172 #[.slice (some ⟨g,0,none⟩) n c,.int .i64 (i:Int),.slice (some ⟨ge,0,none⟩) 1 1] w fun r w'=>∃G ROW,r=.returned (.slice (some ⟨w.heap.size,0,none⟩) (n+1) G)∧Hid (w'.heap[w.heap.size]?=some (.cells (splice (splice ROW i [e]) (i+1) (xs.drop i)).toArray 147 (0,0))∧ROW.length=G∧ROW.take i=xs.take i∧n+1≤G∧G≤maxLen)∧Below base w w':=by
 have hnz:(n:Int)≤100000:=by omega
 have hn0:(0:Int)≤(n:Int):=by omega
 have hi0:(0:Int)≤(i:Int):=by omega
 have hiz:(i:Int)<(n:Int):=by omega
 have hni:¬(i:Int)=(n:Int):=by omega
 obtain rfl:c=n:=by omega
 have hsz1:(Tryz.prog.info? 147).map (·.size)=some 1:=by kernel_rfl
 have mixed:Tryz.prog.follows .mixedOrders=true:=by kernel_rfl
 obtain⟨i0,hinf,hz0,hzs,hzb⟩:=info_parts zjT
 have hgl:g<w.heap.size:=(Array.getElem?_eq_some_iff.1 hg).1
 have hcell:∀j u,xs[j]?=some u→w.cell? ⟨g,j,none⟩=some u:=fun j u hu=>by
  have hj:j<c:=by have:=(List.getElem?_eq_some_iff.1 hu).1;omega
  rw[←htk,List.getElem?_take_of_lt hj] at hu
  simp only[World.cell?,hg]
  simpa using hu
 have hold:(Builtin.firstCells i0.size i (.slice (some ⟨g,0,none⟩) i c)).run Tryz.prog w.drew=.ok (xs.take i).toArray w.drew:=by
  rw[hzs]
  exact run_firstCells_some w.drew 1 i ⟨g,0,none⟩ i c (xs.take i) (by rw[List.length_take];omega) (fun j u hj=>by
   rw[Addr.add_lit,Nat.zero_add]
   rw[List.getElem?_take] at hj
   split at hj
   ·exact hcell j u hj
   ·cases hj)
 have hrz:=fun ty=>Lib.run_append_grow_zeros (P:=Tryz.prog) w 139 3 ty 147 i0 _ .i64 .i64 Tryz.underlying139 Tryz.underlying3 hinf hz0 (some ⟨g,0,none⟩) i c (xs.take i) hold (c+1-i) (by omega) (by omega) (by omega) (by omega) (by rw[hzb];omega) (by rw[hzb];exact growslice_fits (by omega) (by omega))
 have hik:i+(c+1-i)=c+1:=by omega
 have hkk:((c+1-i:Nat):Int)=(c:Int)+1-(i:Int):=by omega
 rw[hik] at hrz
 simp only[hkk] at hrz
 obtain⟨G,hG⟩:∃G,grownCap w (c+1) c 147=G:=⟨_,rfl⟩
 have hG1:c+1≤G:=by rw[←hG];exact grownCap_ge w _ _ _
 have hG2:G≤maxLen:=by rw[←hG];exact grownCap_le_maxLen w _ _ _ (by unfold maxLen;omega)
 rw[hG] at hrz
 obtain⟨RA,hRA⟩:∃RA:Array Value,(xs.take i).toArray++Builtin.zeroCells (Value.pointer none).cells (c+1-i)++Builtin.zeroCells (Value.pointer none).cells (G-(c+1))=RA:=⟨_,rfl⟩
 have hRl:RA.toList.length=G:=by
  rw[←hRA]
  simp[Builtin.zeroCells,Value.cells]
  omega
 have hRt:RA.toList.take i=xs.take i:=by
  rw[←hRA]
  simp only[Array.toList_append,List.append_assoc]
  rw[List.take_append_of_le_length (by simp;omega)]
  rw[List.take_take,Nat.min_self]
 rw[hRA] at hrz
 obtain⟨W1,hW1⟩:∃W1,w.drew.alloc (.cells RA 147)=W1:=⟨_,rfl⟩
 rw[hW1] at hrz
 have HW1:Hid (W1.heap[w.heap.size]?=some (.cells RA 147 (0,0))):=by
  show _=_
  rw[←hW1]
  exact zab w.drew RA _
 have HB1:Aside (Below base w W1):=by
  rw[←hW1]
  exact (Below.drew (Below.refl _ w)).alloc hB _
 have hold1:∀b,b<w.heap.size→W1.heap[b]?=w.heap[b]?:=fun b hb=>by
  rw[←hW1]
  show (w.heap.push _)[b]?=_
  rw[Array.getElem?_push_lt hb,Array.getElem?_eq_getElem hb]
 obtain⟨R1,hR1⟩:∃R1,splice RA.toList i [e]=R1:=⟨_,rfl⟩
 have hR1l:R1.length=G:=by rw[←hR1,length_splice _ _ _ (by simp[hRl];omega),hRl]
 have hcp1:∀ty dc,(Builtin.copy_ #[139,139] ty #[.slice (some ⟨w.heap.size,i,none⟩) (c+1-i) dc,.slice (some ⟨ge,0,none⟩) 1 1]).run Tryz.prog W1=.ok (goInt ([e]:List Value).length) (W1.setRow w.heap.size (RA.toList.take i++[e]++RA.toList.drop (i+([e]:List Value).length)).toArray):=fun ty dc =>
  run_copy_row (P:=Tryz.prog) W1 _ _ ty 147 w.heap.size i (c+1-i) dc ⟨ge,0,none⟩ 1 1 RA _ [e] Tryz.underlying139 hsz1 HW1.out (by simp only[List.length_singleton,Nat.min_def];split<;>omega) (fun j u hu=>by
   have hj:j=0:=by have:=(List.getElem?_eq_some_iff.1 hu).1;simp at this;omega
   subst hj
   rw[Go.WideShapes.add_plain]
   have:W1.cell? ⟨ge,0,none⟩=some e:=by
    simp only[World.cell?,hold1 ge hge.lt]
    exact Blk.cell hge 0
   exact this.trans (by simpa using hu)) (by have:RA.size=G:=(by simpa using hRl);simp only[List.length_singleton];omega) (fun u hu=>by rw[List.mem_singleton.1 hu];exact he)
 obtain⟨W2,hW2⟩:∃W2,W1.setRow w.heap.size (RA.toList.take i++[e]++RA.toList.drop (i+([e]:List Value).length)).toArray=W2:=⟨_,rfl⟩
 rw[hW2] at hcp1
 have HW2:Hid (W2.heap[w.heap.size]?=some (.cells R1.toArray 147 (0,0))):=by
  show _=_
  rw[←hW2,←hR1]
  simpa [splice] using setRow_heap W1 w.heap.size _ _ _ _ HW1.out
 have HB2:Aside (Below base w W2):=by
  rw[←hW2]
  exact below_setRow HB1.out hB _
 have hold2:∀b,b<w.heap.size→W2.heap[b]?=w.heap[b]?:=fun b hb=>by
  rw[←hW2,setRow_other W1 w.heap.size b _ (by omega)]
  exact hold1 b hb
 obtain⟨XD,hXD⟩:∃XD,xs.drop i=XD:=⟨_,rfl⟩
 have hXl:XD.length=c-i:=by rw[←hXD,List.length_drop,hxs]
 have hcp2:∀ty dc sc,(Builtin.copy_ #[139,139] ty #[.slice (some ⟨w.heap.size,i+1,none⟩) (c-i) dc,.slice (some ⟨g,i,none⟩) (c-i) sc]).run Tryz.prog W2.drew=.ok (goInt XD.length) (W2.drew.setRow w.heap.size (R1.toArray.toList.take (i+1)++XD++R1.toArray.toList.drop (i+1+XD.length)).toArray):=fun ty dc sc =>
  run_copy_row (P:=Tryz.prog) W2.drew _ _ ty 147 w.heap.size (i+1) (c-i) dc ⟨g,i,none⟩ (c-i) sc R1.toArray _ XD Tryz.underlying139 hsz1 HW2.out (by rw[hXl];simp) (fun j u hu=>by
   rw[Go.WideShapes.add_plain]
   have h1:w.cell? ⟨g,i+j,none⟩=some u:=hcell (i+j) u (by rw[←hXD,List.getElem?_drop] at hu;exact hu)
   simp only[World.cell?] at h1 ⊢
   have h2:W2.drew.heap[g]?=w.heap[g]?:=hold2 g hgl
   rw[h2]
   exact h1) (by simp only[List.size_toArray,hR1l,hXl];omega) (fun u hu=>by rw[←hXD] at hu;exact hx1 u (List.mem_of_mem_drop hu))
 obtain⟨W3,hW3⟩:∃W3,W2.drew.setRow w.heap.size (R1.toArray.toList.take (i+1)++XD++R1.toArray.toList.drop (i+1+XD.length)).toArray=W3:=⟨_,rfl⟩
 rw[hW3] at hcp2
 have HW3:Hid (W3.heap[w.heap.size]?=some (.cells (splice R1 (i+1) XD).toArray 147 (0,0))):=by
  show _=_
  rw[←hW3]
  simpa [splice] using setRow_heap W2.drew w.heap.size _ _ _ _ HW2.out
 have HB3:Aside (Below base w W3):=by
  rw[←hW3]
  exact below_setRow (Below.drew HB2.out) hB _
 have HF:Hid (RA.toList.length=G∧RA.toList.take i=xs.take i∧splice RA.toList i [e]=R1∧xs.drop i=XD∧G≤maxLen):=⟨hRl,hRt,hR1,hXD,hG2⟩
 have hGz:(c:Int)+1≤(G:Int):=by omega
 have hb1:(0:Int)≤(i:Int)+1:=by omega
 have htn:((i:Int)+1).toNat=i+1:=by omega
 have hw1:IntKind.i64.wrap ((i:Int)+1)=(i:Int)+1:=by rw[IntKind.wrap_i64];omega
 have hGi:¬(G=i):=by omega
 have hGim:¬(G=i+1):=by omega
 have hci:¬(c=i):=by omega
 have hb3:(i:Int)≤(c:Int):=by omega
 unfold maxLen at hG2
 have hHH:=w.heap.size
 clear hW1 hW2 hW3 hold hold1 hold2 hcell hik hkk hG hRA hRl hRt hR1 hR1l hXD hXl HW1 HW2 HB1 HB2 hge hg hcs htk hx1 hinf hz0 hzs hzb hHH
 go_enter Tryz.func172,Tryz.ntmps172
 go_wp2_with (first
  | (at_builtin;refine Lib.wpList_append_run _ rfl _ _ _ _ rfl _ _ rfl rfl _ _ (hrz _) ?_)
  | (at_builtin;refine wpList_copy_runI _ rfl _ _ 139 139 rfl _ _ rfl rfl (hcp1 _ _) ?_))
 go_region_law_o (refine step_copy_runI rfl _ _ 139 139 rfl _ _ (by simp[Act.eval,Act.put]) (by simp[Act.eval,Act.put]) (hcp2 _ _ _) ?_)
 go_wp2
 go_ret
 obtain⟨f1,f2,f3,f4,f5⟩:=HF.out
 refine⟨G,RA.toList,rfl,?_,HB3.out⟩
 exact⟨by rw[f3,f4];exact HW3.out,f1,f2,by omega,f5⟩
theorem zdo{P:Program}{ops:Array Oper}{o:Oper}{a:Act}{w:World}{K:Act→World→Prop}{Q:Exit→Act→World→Prop}{E:Prop}
  (hg:o.guard=none)(s x:Operand)(sT xT:TypeId)(hop:o.op=Op.call { callee:=Callee.builtin Builtin.append,args:=#[s,x],argTypes:=#[sT,xT] })
  (v u:Value)(hd:a.eval s=v)(hx:a.eval x=u){v':Value}{w':World}(hr:(Builtin.append_ #[sT,xT] o.type #[v,u]).run P w=.ok v' w')(hK:K (a.put o.dst v') w') :
  if Region.wanted o (yielded ops a.tmps)=true then Oper.wp P o a w K Q else E:=by
 have hw:Region.wanted o (yielded ops a.tmps)=true:=by simp[Region.wanted,hg]
 rw[if_pos hw]
 unfold Oper.wp
 simp[execOp,hop,resolve,invoke,builtin,hd,hx,hr,Result.andThen]
 exact hK

theorem zfJ{P:Program}(w:World)(t e ty:TypeId)(z:Value)(ht:P.underlying t=some (.slice e))(hv:∀w,(zeroValue e).run P w=.ok z w)(hz:z.cells=#[z])(h1:z.oneCell'=true)(g o n c:Nat)(cur:Array Value)(t':TypeId)(hg:w.heap[g]?=some (.cells cur t' (0,0)))(hn:0<n)(hfit:o+n≤cur.size) :
  (Builtin.clear_ #[t] ty #[.slice (some ⟨g,o,none⟩) n c]).run P w=.ok (.tuple #[]) (w.setRow g (cur.toList.take o++List.replicate n z++cur.toList.drop (o+n)).toArray):=by
 have hzc:(Builtin.zeroCells z.cells n).toList=List.replicate n z:=by
  rw[hz]
  simp[Builtin.zeroCells]
  apply List.ext_getElem
  ·simp
  ·intro i h1 h2
   simp[Nat.mod_one]
 have hst:=run_storeCells_at P g o t' (List.replicate n z) 0 cur w hg (by simpa using hfit) (by intro v hv';rw[List.eq_of_mem_replicate hv'];exact h1)
 simp only[Nat.add_zero,List.length_replicate] at hst
 obtain⟨m,rfl⟩:∃m,n=m+1:=⟨n-1,by omega⟩
 simp[Builtin.clear_,run_underlying ht,hv,hzc,hst]

theorem zgo(a:Option Addr)(n c:Nat)(w:World)(hn:n≤c) :
  Calls Tryz.prog 111 #[.slice a n c,.int .i64 0,.int .i64 0] w fun r w'=>r=.returned (.slice a n c)∧w'=w:=by
 have hn0:(0:Int)≤(n:Int):=by omega
 go_enter Tryz.func111,Tryz.ntmps111
 go_wp2
 all_goals (go_ret;exact⟨rfl,rfl⟩)

set_option maxRecDepth 20000 in
theorem zgp(g n c j:Nat)(cur:Array Value)(w:World)(hg:w.heap[g]?=some (.cells cur 147 (0,0)))(hcs:cur.size=c)(hx1:∀x∈cur.toList.take n,x.oneCell'=true)(hj0:0<j)(hj:j≤n)(hn:n≤100000)(hnc:n≤c)(hc:c≤maxLen) :
  Calls Tryz.prog 111 #[.slice (some ⟨g,0,none⟩) n c,.int .i64 0,.int .i64 (j:Int)] w fun r w'=>r=.returned (.slice (some ⟨g,0,none⟩) (n-j) c)∧Hid (w'.heap[g]?=some (.cells (splice (splice cur.toList 0 ((cur.toList.take n).drop j)) (n-j) (List.replicate j (Value.pointer none))).toArray 147 (0,0)))∧Kp (·=g) w w':=by
 unfold maxLen at hc
 have hnz:(n:Int)≤100000:=by omega
 have hjz:(0:Int)<(j:Int):=by omega
 have hj1:(j:Int)≤(n:Int):=by omega
 have hncz:(n:Int)≤(c:Int):=by omega
 have hjcz:(j:Int)≤(c:Int):=by omega
 have hne0:¬((0:Int)=(j:Int)):=by omega
 obtain⟨L,hL⟩:∃L,cur.toList=L:=⟨_,rfl⟩
 have hgL:w.heap[g]?=some (.cells L.toArray 147 (0,0)):=by rw[hg,←hL]
 have hLc:L.length=c:=by rw[←hL,Array.length_toList,hcs]
 obtain⟨XD,hXD⟩:∃XD,(L.take n).drop j=XD:=⟨_,rfl⟩
 have hXl:XD.length=n-j:=by rw[←hXD,List.length_drop,List.length_take];omega
 obtain⟨i0,hinf,hz0,hzs,hzb⟩:=info_parts zjT
 have hsz:i0.size=1:=hzs
 rw[hL,hXD]
 obtain⟨ad,had,hsrc⟩:∃ad:Addr,(if c=j then some (⟨g,0,none⟩:Addr) else some ⟨g,j,none⟩)=some ad∧Hid (∀t u,XD[t]?=some u→w.drew.cell? (ad.add t)=some u):=by
  by_cases h:c=j
  ·refine⟨⟨g,0,none⟩,by simp[h],fun t u hu=>?_⟩
   have h0:XD.length=0:=by rw[hXl];omega
   rw[List.length_eq_zero_iff.1 h0] at hu
   simp at hu
  ·refine⟨⟨g,j,none⟩,by simp[h],fun t u hu=>?_⟩
   have ht:t<n-j:=by
    have:=(List.getElem?_eq_some_iff.1 hu).1
    rwa [hXl] at this
   rw[←hXD,List.getElem?_drop,List.getElem?_take_of_lt (by omega)] at hu
   rw[Go.WideShapes.add_plain]
   have hd:w.drew.heap[g]?=some (.cells L.toArray 147 (0,0)):=hgL
   simp only[World.cell?,hd]
   simpa using hu
 have hX1:∀u∈XD,u.oneCell'=true:=fun u hu=>by
  rw[←hXD] at hu
  exact hx1 u (by rw[hL];exact List.mem_of_mem_drop hu)
 have hgd:w.drew.heap[g]?=some (.cells L.toArray 147 (0,0)):=hgL
 have hap:∀ty mc,(Builtin.append_ #[139,139] ty #[.slice (some ⟨g,0,none⟩) 0 c,.slice (some ad) (n-j) mc]).run Tryz.prog w.drew=.ok (.slice (some ⟨g,0,none⟩) (n-j) c) (w.drew.setRow g (splice L 0 XD).toArray):=fun ty mc=>by
  have h:=run_append_room (P:=Tryz.prog) w.drew _ ty _ i0 Tryz.underlying139 hinf g 0 c L.toArray hgd ad (n-j) mc XD (by rw[hsz,hXl];omega) hsrc.out hX1 (by omega) (by rw[hXl,List.size_toArray,hLc];omega)
  simpa [splice] using h
 obtain⟨R1,hR1⟩:∃R1,splice L 0 XD=R1:=⟨_,rfl⟩
 have hR1l:R1.length=c:=by rw[←hR1,length_splice _ _ _ (by rw[hXl,hLc];omega),hLc]
 rw[hR1] at hap
 obtain⟨W1,hW1⟩:∃W1,w.drew.setRow g R1.toArray=W1:=⟨_,rfl⟩
 rw[hW1] at hap
 have HW1:Hid (W1.heap[g]?=some (.cells R1.toArray 147 (0,0))):=by
  show _=_
  rw[←hW1]
  exact setRow_heap w.drew g _ _ _ _ hgd
 have HB1:Aside (Kp (·=g) w W1):=by
  rw[←hW1]
  exact zbk (S:=fun x=>x=g) (Kp.refl _ w).drew rfl _
 have hcl:∀ty cc,(Builtin.clear_ #[139] ty #[.slice (some ⟨g,n-j,none⟩) (n-(n-j)) cc]).run Tryz.prog W1=.ok (.tuple #[]) (W1.setRow g (splice R1 (n-j) (List.replicate j (Value.pointer none))).toArray):=fun ty cc=>by
  have h:=zfJ (P:=Tryz.prog) W1 _ _ ty (Value.pointer none) Tryz.underlying139 (fun w=>by kernel_rfl) (by kernel_rfl) rfl g (n-j) (n-(n-j)) cc R1.toArray _ HW1.out (by omega) (by rw[List.size_toArray,hR1l];omega)
  have hk:n-(n-j)=j:=by omega
  rw[hk] at h ⊢
  simpa [splice] using h
 obtain⟨W2,hW2⟩:∃W2,W1.setRow g (splice R1 (n-j) (List.replicate j (Value.pointer none))).toArray=W2:=⟨_,rfl⟩
 rw[hW2] at hcl
 have HW2:Hid (W2.heap[g]?=some (.cells (splice R1 (n-j) (List.replicate j (Value.pointer none))).toArray 147 (0,0))):=by
  show _=_
  rw[←hW2]
  exact setRow_heap W1 g _ _ _ _ HW1.out
 have HB2:Aside (Kp (·=g) w W2):=by
  rw[←hW2]
  exact zbk (S:=fun x=>x=g) HB1.out rfl _
 have hb1:(0:Int)≤(n:Int):=by omega
 have hb2:((n-j:Nat):Int)≤(n:Int):=by omega
 have hb3:¬(c=n-j):=by omega
 have hb4:(0:Int)≤((n-j:Nat):Int):=by omega
 have hb5:(0:Int)≤(c:Int):=by omega
 have mixed:Tryz.prog.follows .mixedOrders=true:=by kernel_rfl
 rw[hR1]
 clear hW1 hW2 HW1 HB1 hR1 hR1l hsrc hX1 hXD hXl hL hgL hgd hg hcs hx1 hLc hinf hz0 hzs hzb hsz
 go_enter Tryz.func111,Tryz.ntmps111
 go_wp2_with fail
 go_region_law_o (refine zdo rfl _ _ 139 139 rfl _ _ (by simp[Act.eval,Act.put]) (by simp[Act.eval,Act.put,had]) (hap _ (c-j)) ?_)
 go_wp2
 go_ret
 exact⟨rfl,HW2,HB2.out⟩
theorem zii(base:Nat)(q:Option Addr)(n c i:Nat)(xs:List Value)(ge:Nat)(e:Value)(w:World)(hown:w.ownsRow base 147 1 (.slice q n c) n xs)(hx1:∀x∈xs,x.oneCell'=true)(hge:Blk w ge #[e] 147)(hne:(Value.slice q n c).ownBlock≠some ge)(he:e.oneCell'=true)(hi:i≤n)(hn:n≤100000)(hbase:base≤w.heap.size) :
  Calls Tryz.prog 172 #[.slice q n c,.int .i64 (i:Int),.slice (some ⟨ge,0,none⟩) 1 1] w fun r w'=>∃q' c',r=.returned (.slice q' (n+1) c')∧Aside (w'.ownsRow base 147 1 (.slice q' (n+1) c') (n+1) (xs.take i++e::xs.drop i))∧Aside (Kp (fun k=>(Value.slice q n c).ownBlock=some k) w w')∧Aside ((Value.slice q' (n+1) c').ownBlock=(Value.slice q n c).ownBlock∨(Value.slice q' (n+1) c').ownBlock=some w.heap.size):=by
 have hxl:xs.length=n:=by have:=hown.1;omega
 by_cases hin:i=n
 ·subst hin
  refine (zij base q i c xs ge e w hown hge he hn hbase).mono ?_
  rintro r w' ⟨q',c',rfl,ho,hg,hb⟩
  refine⟨q',c',rfl,?_,(show Aside _ from (Kp.refl _ w).grown hg.out (fun k hk _=>hk)),(show Aside _ from hb)⟩
  rw[List.take_of_length_le (by omega),List.drop_of_length_le (by omega)]
  exact ho
 ·have hlt:i<n:=by omega
  rcases hown.2 with ⟨e1,h0⟩|⟨g,cap,cur,e1,hb,hg,hnc,hm,hcs,htk⟩
  ·omega
  injection e1 with e1 _ e3
  subst e1
  subst e3
  simp only[Nat.mul_one] at hcs htk
  by_cases hroom:n+1≤c
  ·refine (zgA g n c i cur xs ge e w hg hcs htk hxl hge (fun h=>hne (by rw[h];rfl)) he hx1 hlt hn hroom hm).mono ?_
   rintro r w' ⟨rfl,ho,hk⟩
   refine⟨_,_,rfl,?_,(show Aside _ from hk.mono (fun k _ hs=>by rw[show k=g from hs];rfl)),(show Aside _ from .inl rfl)⟩
   refine (show Aside _ from ⟨by simp;omega,.inr ⟨g,c,_,rfl,hb,ho.out,hroom,hm,?_,?_⟩⟩)
   ·simp only[List.size_toArray]
    rw[←hcs,←Array.length_toList]
    exact (by have hL:cur.toList.length=c:=(by rw[Array.length_toList,hcs]);rw[zjV hL hlt (by omega),hL];omega)
   ·have hL:cur.toList.length=c:=by rw[Array.length_toList,hcs]
    rw[Nat.mul_one]
    exact zhv hL htk hlt hroom
  ·refine (zgz w.heap.size g n c i cur xs ge e w hg hcs htk hxl hge he hx1 hlt hn (by omega) hnc (Nat.le_refl _)).mono ?_
   rintro r w' ⟨G,ROW,rfl,ho,hk⟩
   obtain⟨h1,h2,h3,h4,h5⟩:=ho.out
   refine⟨_,_,rfl,?_,(show Aside _ from ?_),(show Aside _ from .inr rfl)⟩
   ·refine (show Aside _ from ⟨by simp;omega,.inr ⟨_,G,_,rfl,hbase,h1,h4,h5,?_,?_⟩⟩)
    ·simp only[List.size_toArray]
     rw[zjW h2 hxl hlt h4];omega
    ·rw[Nat.mul_one]
     exact zhw h2 h3 hxl hlt h4
   ·exact Kp.of_below hk
end
end Go.Proofs.YtbdnccnfidjiaaaGreatDoor
