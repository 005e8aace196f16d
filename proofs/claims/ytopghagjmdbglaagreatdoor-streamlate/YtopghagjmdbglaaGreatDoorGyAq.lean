/-
  InS, InSu, OtC, OuA, RgInv, RgCa.
-/
import Derived.Test.YtopghagjmdbglaaGreatDoorGyAk
import Derived.Test.YtopghagjmdbglaaGreatDoorGyAf
import Derived.Laws.CopyOwn
import Derived.Lib.AppendZeros
import Derived.Lib.Overlaps
import Derived.Shelf.Spec.SlicesInsert
import Derived.Lib.AppendZerosOnto
import Derived.Deep.RegionLaw
import Derived.Deep.DeepCutAuto
import Derived.Test.YtopghagjmdbglaaGreatDoorGyAl
import Derived.Test.YtopghagjmdbglaaGreatDoorGyAh
import Derived.Test.YtopghagjmdbglaaGreatDoorGyAp
import Derived.Laws.AppendOwnNone
import Derived.RegionTactic
namespace Go.Proofs.YtopghagjmdbglaaGreatDoor
open Go.RowKit
set_option linter.unusedVariables false
set_option linter.unusedSimpArgs false
set_option maxHeartbeats 8000000
set_option maxRecDepth 20000
section
open Go.BigFrame
theorem zka:(Tryz.prog.info? 152).map (fun i=>(i.zero,i.size,i.bytes))=some (some (.pointer none),1,8):=by kernel_rfl
theorem ziZ(base:Nat)(q:Option Addr)(n c:Nat)(xs:List Value)(ge:Nat)(e:Value)(w:World)(hown:w.ownsRow base 152 1 (.slice q n c) n xs)(hge:Blk w ge #[e] 152)(he:e.oneCell'=true)(hn:n≤100000)(hbase:base≤w.heap.size) :
  Calls Tryz.prog 177 #[.slice q n c,.int .i64 (n:Int),.slice (some ⟨ge,0,none⟩) 1 1] w fun r w'=>∃q' c',r=.returned (.slice q' (n+1) c')∧Aside (w'.ownsRow base 152 1 (.slice q' (n+1) c') (n+1) (xs++[e]))∧Aside (w.grownBy w' (Value.slice q n c).ownBlock)∧((Value.slice q' (n+1) c').ownBlock=(Value.slice q n c).ownBlock∨(Value.slice q' (n+1) c').ownBlock=some w.heap.size):=by
 have hnz:(n:Int)≤100000:=by omega
 have hn0:(0:Int)≤(n:Int):=by omega
 have hc:n≤c:=by
  rcases hown.2 with ⟨e1,h0⟩|⟨g,cap,cur,e1,hb,hg,hnc,hm,_⟩
  ·omega
  ·injection e1 with _ _ e3
   omega
 have hcz:(n:Int)≤(c:Int):=by omega
 have HO:=(show Aside _ from hown)
 have hce:∀j u,([e]:List Value)[j]?=some u→w.cell? ((⟨ge,0,none⟩:Addr).add j)=some u:=fun j u hu=>by
  have hj:j=0:=by have:=(List.getElem?_eq_some_iff.1 hu).1;simp at this;omega
  subst hj
  rw[Go.WideShapes.add_plain]
  have:w.cell? ⟨ge,0,none⟩=some e:=hge.cell 0
  simpa using this.trans hu
 have HCE:=(show Aside _ from hce)
 clear hown hge hce hc
 obtain⟨i0,hinf,hz0,hz1,hzz⟩:=info_parts zka
 by_cases hcn:c=n
 ·subst hcn
  clear hcz
  go_enter Tryz.func177,Tryz.ntmps177
  go_wp2_with (at_builtin;refine zae rfl _ _ 108 rfl base 152 i0 _ 1 8 Tryz.underlying108 hinf hz0 hz1 hzz rfl (by decide) _ c xs rfl HO.out ⟨ge,0,none⟩ 1 1 [e] rfl rfl HCE.out (fun u hu=>by rw[List.mem_singleton.1 hu];exact he) (by decide) (by unfold maxLen;omega) (by omega) hbase ?_)
  intro v' w' o1 o2 o3
  obtain⟨q',c',rfl⟩:∃q' c',v'=.slice q' (c+1) c':=by
   rcases o1.2 with ⟨_,h0⟩|⟨g',cap,cur,e,_⟩
   ·omega
   ·exact⟨_,_,e⟩
  have H1:=(show Aside _ from o1)
  have H2:=(show Aside _ from o2)
  have H3:Hid (_∨_):=o3
  clear o1 o2 o3 HO
  go_wp2
  go_ret
  exact⟨q',c',rfl,H1,H2,H3.out⟩
 ·have hcnz:¬(c:Int)=(n:Int):=by omega
  have hcl:(n:Int)<(c:Int):=by omega
  go_enter Tryz.func177,Tryz.ntmps177
  go_wp2_with (at_builtin;refine zae rfl _ _ 108 rfl base 152 i0 _ 1 8 Tryz.underlying108 hinf hz0 hz1 hzz rfl (by decide) (.slice q n c) n xs rfl HO.out ⟨ge,0,none⟩ 1 1 [e] rfl rfl HCE.out (fun u hu=>by rw[List.mem_singleton.1 hu];exact he) (by decide) (by unfold maxLen;omega) (by omega) hbase ?_)
  intro v' w' o1 o2 o3
  obtain⟨q',c',rfl⟩:∃q' c',v'=.slice q' (n+1) c':=by
   rcases o1.2 with ⟨_,h0⟩|⟨g',cap,cur,e,_⟩
   ·omega
   ·exact⟨_,_,e⟩
  have H1:=(show Aside _ from o1)
  have H2:=(show Aside _ from o2)
  have H3:Hid (_∨_):=o3
  clear o1 o2 o3 HO
  go_wp2
  go_ret
  exact⟨q',c',rfl,H1,H2,H3.out⟩
theorem zhM(g n c i:Nat)(cur:Array Value)(xs:List Value)(ge:Nat)(e:Value)(w:World)(hg:w.heap[g]?=some (.cells cur 152 (0,0)))(hcs:cur.size=c)(htk:cur.toList.take n=xs)(hxs:xs.length=n)(hge:Blk w ge #[e] 152)(hne:ge≠g)(he:e.oneCell'=true)(hx1:∀x∈xs,x.oneCell'=true)(hi:i<n)(hn:n≤100000)(hroom:n+1≤c)(hc:c≤maxLen) :
  Calls Tryz.prog 177 #[.slice (some ⟨g,0,none⟩) n c,.int .i64 (i:Int),.slice (some ⟨ge,0,none⟩) 1 1] w fun r w'=>r=.returned (.slice (some ⟨g,0,none⟩) (n+1) c)∧Hid (w'.heap[g]?=some (.cells (splice (splice cur.toList (i+1) ((cur.toList.drop i).take (n-i))) i [e]).toArray 152 (0,0)))∧Kp (·=g) w w':=by
 have hnz:(n:Int)≤100000:=by omega
 have hn0:(0:Int)≤(n:Int):=by omega
 have hi0:(0:Int)≤(i:Int):=by omega
 have hiz:(i:Int)<(n:Int):=by omega
 have hrz:(n:Int)+1≤(c:Int):=by omega
 unfold maxLen at hc
 have hicz:¬(c:Int)=(i:Int):=by omega
 have hni:¬(i:Int)=(n:Int):=by omega
 go_enter Tryz.func177,Tryz.ntmps177
 have hoc:((i:Int)+1)≤(c:Int):=by omega
 have hz:∀w,(Go.sizeOf 152).run Tryz.prog w=.ok 1 w:=fun w=>by kernel_rfl
 have hsh1:w.shape? ge=some (152,1):=by
  unfold Blk at hge
  simp[World.shape?,hge]
 have hsh2:w.shape? g=some (152,c):=by
  simp[World.shape?,hg,hcs]
 have hov:∀lb cb,Sem.run Tryz.prog (callFunc 198 #[.slice (some ⟨ge,0,none⟩) 1 1,.slice (some ⟨g,i+1,none⟩) lb cb]) w=.ok (.value (.bool false)) w:=fun lb cb=>by
  have h:=@run_callFunc_extern Tryz.prog 198 _ (Extern.SlicesOverlaps.overlaps #[108,108] #[4]) Tryz.func198 (by kernel_rfl) (by kernel_rfl) (by kernel_rfl) (by kernel_rfl) #[.slice (some ⟨ge,0,none⟩) 1 1,.slice (some ⟨g,i+1,none⟩) lb cb] w
  rw[h,Lib.run_overlaps_apart w _ _ _ Tryz.underlying108 1 hz ⟨ge,0,none⟩ ⟨g,i+1,none⟩ 1 1 lb cb hne _ _ 1 c hsh1 hsh2 (by omega) (hge.frozen 0) (hge.frozen 1)]
  rfl
 obtain⟨L,hL⟩:∃L,cur.toList=L:=⟨_,rfl⟩
 have hgL:w.heap[g]?=some (.cells L.toArray 152 (0,0)):=by rw[hg,←hL]
 have hLc:L.length=c:=by rw[←hL,Array.length_toList,hcs]
 obtain⟨CS,hCS⟩:∃CS,(L.drop i).take (n-i)=CS:=⟨_,rfl⟩
 have hCl:CS.length=n-i:=by rw[←hCS,List.length_take,List.length_drop];omega
 have hCc:∀j u,CS[j]?=some u→w.cell? ((⟨g,i,none⟩:Addr).add j)=some u:=fun j u hu=>by
  have hj:j<n-i:=by have:=(List.getElem?_eq_some_iff.1 hu).1;omega
  rw[Go.WideShapes.add_plain]
  rw[←hCS,List.getElem?_take_of_lt hj,List.getElem?_drop] at hu
  simp only[World.cell?,hgL]
  simpa using hu
 have hC1:∀u∈CS,u.oneCell'=true:=fun u hu=>by
  rw[←hCS] at hu
  exact hx1 u (by rw[←htk,hL];exact List.mem_of_mem_drop (by rw[List.drop_take];exact hu))
 have hsz1:(Tryz.prog.info? 152).map (·.size)=some 1:=by kernel_rfl
 rw[hL,hCS]
 have HC:=(show Aside _ from hCc)
 have HG:=(show Aside _ from hgL)
 have HC1:=(show Aside _ from hC1)
 have HCL:Hid (CS.length=n-i):=hCl
 have HLC:Hid (L.length=c):=hLc
 have HGE:=(show Aside _ from hge)
 clear hL hCS hx1 hz hsh1 hsh2 hcs htk hg hgL hCc hC1 hCl hLc hge
 have hw1:IntKind.i64.wrap ((i:Int)+1)=(i:Int)+1:=by rw[IntKind.wrap_i64];omega
 have hb1:(0:Int)≤(i:Int)+1:=by omega
 have htn:((i:Int)+1).toNat=i+1:=by omega
 have hb2:¬(c=i+1):=by omega
 have hb3:(i:Int)≤(n:Int)+1:=by omega
 have hb4:¬(c=i):=by omega
 have hb5:(i:Int)+1≤(n:Int)+1:=by omega
 have hb6:(n:Int)+1≤(c:Int):=by omega
 have hcp1:∀ty dc sc,(Builtin.copy_ #[108,108] ty #[.slice (some ⟨g,i+1,none⟩) (n-i) dc,.slice (some ⟨g,i,none⟩) (n+1-i) sc]).run Tryz.prog w.drew=.ok (goInt CS.length) (w.drew.setRow g (L.toArray.toList.take (i+1)++CS++L.toArray.toList.drop (i+1+CS.length)).toArray):=fun ty dc sc =>
  run_copy_row (P:=Tryz.prog) w.drew _ _ ty 152 g (i+1) (n-i) dc ⟨g,i,none⟩ (n+1-i) sc L.toArray _ CS Tryz.underlying108 hsz1 HG.out (by rw[HCL.out];simp only[Nat.min_def];split<;>omega) HC.out (by rw[HCL.out];have:=HLC.out;simp;omega) HC1.out
 obtain⟨W1,hW1⟩:∃W1,W1=w.drew.setRow g (L.toArray.toList.take (i+1)++CS++L.toArray.toList.drop (i+1+CS.length)).toArray:=⟨_,rfl⟩
 have HW1:Hid (W1.heap[g]?=some (.cells (splice L (i+1) CS).toArray 152 (0,0))):=by
  show _=_
  rw[hW1]
  simpa [splice] using setRow_heap w.drew g _ _ _ _ HG.out
 have HB1:Aside (Kp (·=g) w W1):=by
  rw[hW1]
  exact zbE (S:=fun x=>x=g) (Kp.refl _ w).drew rfl _
 have HE1:Aside (W1.cell? ⟨ge,0,none⟩=some e):=by
  rw[hW1]
  have:(w.drew.setRow g (L.toArray.toList.take (i+1)++CS++L.toArray.toList.drop (i+1+CS.length)).toArray).heap[ge]?=w.heap[ge]?:=setRow_other w.drew g ge _ hne
  simp only[World.cell?,this]
  exact Blk.cell HGE.out 0
 rw[←hW1] at hcp1
 have hov2:=hov (n-i) (c-(i+1))
 have mixed:Tryz.prog.follows .mixedOrders=true:=by kernel_rfl
 have hl1:(splice L (i+1) CS).length=c:=by rw[length_splice _ _ _ (by rw[HCL.out,HLC.out];omega),HLC.out]
 have hcp2:∀ty dc,(Builtin.copy_ #[108,108] ty #[.slice (some ⟨g,i,none⟩) (n+1-i) dc,.slice (some ⟨ge,0,none⟩) 1 1]).run Tryz.prog W1=.ok (goInt ([e]:List Value).length) (W1.setRow g ((splice L (i+1) CS).toArray.toList.take i++[e]++(splice L (i+1) CS).toArray.toList.drop (i+([e]:List Value).length)).toArray):=fun ty dc =>
  run_copy_row (P:=Tryz.prog) W1 _ _ ty 152 g i (n+1-i) dc ⟨ge,0,none⟩ 1 1 (splice L (i+1) CS).toArray _ [e] Tryz.underlying108 hsz1 HW1.out (by simp only[List.length_singleton,Nat.min_def];split<;>omega) (fun j u hu=>by
   have hj:j=0:=by have:=(List.getElem?_eq_some_iff.1 hu).1;simp at this;omega
   subst hj
   rw[Go.WideShapes.add_plain]
   exact HE1.out.trans (by simpa using hu)) (by simp only[List.length_singleton,List.size_toArray,hl1];omega) (fun u hu=>by rw[List.mem_singleton.1 hu];exact he)
 obtain⟨W2,hW2⟩:∃W2,W2=W1.setRow g ((splice L (i+1) CS).toArray.toList.take i++[e]++(splice L (i+1) CS).toArray.toList.drop (i+([e]:List Value).length)).toArray:=⟨_,rfl⟩
 have HW2:Hid (W2.heap[g]?=some (.cells (splice (splice L (i+1) CS) i [e]).toArray 152 (0,0))):=by
  show _=_
  rw[hW2]
  simpa [splice] using setRow_heap W1 g _ _ _ _ HW1.out
 have HB2:Aside (Kp (·=g) w W2):=by
  rw[hW2]
  exact zbE (S:=fun x=>x=g) HB1.out rfl _
 rw[←hW2] at hcp2
 clear hW1 hW2 hov HW1 HB1 HE1 hl1 HC HG HC1 HCL HLC HGE
 go_wp2
 go_region_law_o (refine step_copy_runI rfl _ _ 108 108 rfl _ _ (by simp[Act.eval,Act.put]) (by simp[Act.eval,Act.put]) (hcp1 _ _ _) ?_)
 go_wp2_with (at_builtin;refine wpList_copy_runI _ rfl _ _ 108 108 rfl _ _ rfl rfl (hcp2 _ _) ?_)
 go_ret
 exact⟨rfl,HW2,HB2.out⟩
theorem zhk(base g n c i:Nat)(cur:Array Value)(xs:List Value)(ge:Nat)(e:Value)(w:World)(hg:w.heap[g]?=some (.cells cur 152 (0,0)))(hcs:cur.size=c)(htk:cur.toList.take n=xs)(hxs:xs.length=n)(hge:Blk w ge #[e] 152)(he:e.oneCell'=true)(hx1:∀x∈xs,x.oneCell'=true)(hi:i<n)(hn:n≤100000)(hroom:c<n+1)(hnc:n≤c)(hB:base≤w.heap.size) :
  Calls Tryz.prog 177 #[.slice (some ⟨g,0,none⟩) n c,.int .i64 (i:Int),.slice (some ⟨ge,0,none⟩) 1 1] w fun r w'=>∃G ROW,r=.returned (.slice (some ⟨w.heap.size,0,none⟩) (n+1) G)∧Hid (w'.heap[w.heap.size]?=some (.cells (splice (splice ROW i [e]) (i+1) (xs.drop i)).toArray 152 (0,0))∧ROW.length=G∧ROW.take i=xs.take i∧n+1≤G∧G≤maxLen)∧Below base w w':=by
 have hnz:(n:Int)≤100000:=by omega
 have hn0:(0:Int)≤(n:Int):=by omega
 have hi0:(0:Int)≤(i:Int):=by omega
 have hiz:(i:Int)<(n:Int):=by omega
 have hni:¬(i:Int)=(n:Int):=by omega
 obtain rfl:c=n:=by omega
 have hsz1:(Tryz.prog.info? 152).map (·.size)=some 1:=by kernel_rfl
 have mixed:Tryz.prog.follows .mixedOrders=true:=by kernel_rfl
 obtain⟨i0,hinf,hz0,hzs,hzb⟩:=info_parts zka
 have hgl:g<w.heap.size:=(Array.getElem?_eq_some_iff.1 hg).1
 have hcell:∀j u,xs[j]?=some u→w.cell? ⟨g,j,none⟩=some u:=fun j u hu=>by
  have hj:j<c:=by have:=(List.getElem?_eq_some_iff.1 hu).1;omega
  rw[←htk,List.getElem?_take_of_lt hj] at hu
  simp only[World.cell?,hg]
  simpa using hu
 have hold:(Builtin.firstCells i0.size i (.slice (some ⟨g,0,none⟩) i c)).run Tryz.prog w.drew=.ok (xs.take i).toArray w.drew:=by
  rw[hzs]
  exact run_firstCells_some w.drew 1 i ⟨g,0,none⟩ i c (xs.take i) (by rw[List.length_take];omega) (fun j u hj=>by
   rw[Addr.add_lit,Nat.zero_add]
   rw[List.getElem?_take] at hj
   split at hj
   ·exact hcell j u hj
   ·cases hj)
 have hrz:=fun ty=>Lib.run_append_grow_zeros (P:=Tryz.prog) w 108 3 ty 152 i0 _ .i64 .i64 Tryz.underlying108 Tryz.underlying3 hinf hz0 (some ⟨g,0,none⟩) i c (xs.take i) hold (c+1-i) (by omega) (by omega) (by omega) (by omega) (by rw[hzb];omega) (by rw[hzb];exact growslice_fits (by omega) (by omega))
 have hik:i+(c+1-i)=c+1:=by omega
 have hkk:((c+1-i:Nat):Int)=(c:Int)+1-(i:Int):=by omega
 rw[hik] at hrz
 simp only[hkk] at hrz
 obtain⟨G,hG⟩:∃G,grownCap w (c+1) c 152=G:=⟨_,rfl⟩
 have hG1:c+1≤G:=by rw[←hG];exact grownCap_ge w _ _ _
 have hG2:G≤maxLen:=by rw[←hG];exact grownCap_le_maxLen w _ _ _ (by unfold maxLen;omega)
 rw[hG] at hrz
 obtain⟨RA,hRA⟩:∃RA:Array Value,(xs.take i).toArray++Builtin.zeroCells (Value.pointer none).cells (c+1-i)++Builtin.zeroCells (Value.pointer none).cells (G-(c+1))=RA:=⟨_,rfl⟩
 have hRl:RA.toList.length=G:=by
  rw[←hRA]
  simp[Builtin.zeroCells,Value.cells]
  omega
 have hRt:RA.toList.take i=xs.take i:=by
  rw[←hRA]
  simp only[Array.toList_append,List.append_assoc]
  rw[List.take_append_of_le_length (by simp;omega)]
  rw[List.take_take,Nat.min_self]
 rw[hRA] at hrz
 obtain⟨W1,hW1⟩:∃W1,w.drew.alloc (.cells RA 152)=W1:=⟨_,rfl⟩
 rw[hW1] at hrz
 have HW1:Hid (W1.heap[w.heap.size]?=some (.cells RA 152 (0,0))):=by
  show _=_
  rw[←hW1]
  exact zac w.drew RA _
 have HB1:Aside (Below base w W1):=by
  rw[←hW1]
  exact (Below.drew (Below.refl _ w)).alloc hB _
 have hold1:∀b,b<w.heap.size→W1.heap[b]?=w.heap[b]?:=fun b hb=>by
  rw[←hW1]
  show (w.heap.push _)[b]?=_
  rw[Array.getElem?_push_lt hb,Array.getElem?_eq_getElem hb]
 obtain⟨R1,hR1⟩:∃R1,splice RA.toList i [e]=R1:=⟨_,rfl⟩
 have hR1l:R1.length=G:=by rw[←hR1,length_splice _ _ _ (by simp[hRl];omega),hRl]
 have hcp1:∀ty dc,(Builtin.copy_ #[108,108] ty #[.slice (some ⟨w.heap.size,i,none⟩) (c+1-i) dc,.slice (some ⟨ge,0,none⟩) 1 1]).run Tryz.prog W1=.ok (goInt ([e]:List Value).length) (W1.setRow w.heap.size (RA.toList.take i++[e]++RA.toList.drop (i+([e]:List Value).length)).toArray):=fun ty dc =>
  run_copy_row (P:=Tryz.prog) W1 _ _ ty 152 w.heap.size i (c+1-i) dc ⟨ge,0,none⟩ 1 1 RA _ [e] Tryz.underlying108 hsz1 HW1.out (by simp only[List.length_singleton,Nat.min_def];split<;>omega) (fun j u hu=>by
   have hj:j=0:=by have:=(List.getElem?_eq_some_iff.1 hu).1;simp at this;omega
   subst hj
   rw[Go.WideShapes.add_plain]
   have:W1.cell? ⟨ge,0,none⟩=some e:=by
    simp only[World.cell?,hold1 ge hge.lt]
    exact Blk.cell hge 0
   exact this.trans (by simpa using hu)) (by have:RA.size=G:=by simpa using hRl
                        simp only[List.length_singleton];omega) (fun u hu=>by rw[List.mem_singleton.1 hu];exact he)
 obtain⟨W2,hW2⟩:∃W2,W1.setRow w.heap.size (RA.toList.take i++[e]++RA.toList.drop (i+([e]:List Value).length)).toArray=W2:=⟨_,rfl⟩
 rw[hW2] at hcp1
 have HW2:Hid (W2.heap[w.heap.size]?=some (.cells R1.toArray 152 (0,0))):=by
  show _=_
  rw[←hW2,←hR1]
  simpa [splice] using setRow_heap W1 w.heap.size _ _ _ _ HW1.out
 have HB2:Aside (Below base w W2):=by
  rw[←hW2]
  exact below_setRow HB1.out hB _
 have hold2:∀b,b<w.heap.size→W2.heap[b]?=w.heap[b]?:=fun b hb=>by
  rw[←hW2,setRow_other W1 w.heap.size b _ (by omega)]
  exact hold1 b hb
 obtain⟨XD,hXD⟩:∃XD,xs.drop i=XD:=⟨_,rfl⟩
 have hXl:XD.length=c-i:=by rw[←hXD,List.length_drop,hxs]
 have hcp2:∀ty dc sc,(Builtin.copy_ #[108,108] ty #[.slice (some ⟨w.heap.size,i+1,none⟩) (c-i) dc,.slice (some ⟨g,i,none⟩) (c-i) sc]).run Tryz.prog W2.drew=.ok (goInt XD.length) (W2.drew.setRow w.heap.size (R1.toArray.toList.take (i+1)++XD++R1.toArray.toList.drop (i+1+XD.length)).toArray):=fun ty dc sc =>
  run_copy_row (P:=Tryz.prog) W2.drew _ _ ty 152 w.heap.size (i+1) (c-i) dc ⟨g,i,none⟩ (c-i) sc R1.toArray _ XD Tryz.underlying108 hsz1 HW2.out (by rw[hXl];simp) (fun j u hu=>by
   rw[Go.WideShapes.add_plain]
   have h1:w.cell? ⟨g,i+j,none⟩=some u:=hcell (i+j) u (by rw[←hXD,List.getElem?_drop] at hu;exact hu)
   simp only[World.cell?] at h1 ⊢
   have h2:W2.drew.heap[g]?=w.heap[g]?:=hold2 g hgl
   rw[h2]
   exact h1) (by simp only[List.size_toArray,hR1l,hXl];omega) (fun u hu=>by rw[←hXD] at hu;exact hx1 u (List.mem_of_mem_drop hu))
 obtain⟨W3,hW3⟩:∃W3,W2.drew.setRow w.heap.size (R1.toArray.toList.take (i+1)++XD++R1.toArray.toList.drop (i+1+XD.length)).toArray=W3:=⟨_,rfl⟩
 rw[hW3] at hcp2
 have HW3:Hid (W3.heap[w.heap.size]?=some (.cells (splice R1 (i+1) XD).toArray 152 (0,0))):=by
  show _=_
  rw[←hW3]
  simpa [splice] using setRow_heap W2.drew w.heap.size _ _ _ _ HW2.out
 have HB3:Aside (Below base w W3):=by
  rw[←hW3]
  exact below_setRow (Below.drew HB2.out) hB _
 have HF:Hid (RA.toList.length=G∧RA.toList.take i=xs.take i∧splice RA.toList i [e]=R1∧xs.drop i=XD∧G≤maxLen):=⟨hRl,hRt,hR1,hXD,hG2⟩
 have hGz:(c:Int)+1≤(G:Int):=by omega
 have hb1:(0:Int)≤(i:Int)+1:=by omega
 have htn:((i:Int)+1).toNat=i+1:=by omega
 have hw1:IntKind.i64.wrap ((i:Int)+1)=(i:Int)+1:=by rw[IntKind.wrap_i64];omega
 have hGi:¬(G=i):=by omega
 have hGim:¬(G=i+1):=by omega
 have hci:¬(c=i):=by omega
 have hb3:(i:Int)≤(c:Int):=by omega
 unfold maxLen at hG2
 have hHH:=w.heap.size
 clear hW1 hW2 hW3 hold hold1 hold2 hcell hik hkk hG hRA hRl hRt hR1 hR1l hXD hXl HW1 HW2 HB1 HB2 hge hg hcs htk hx1 hinf hz0 hzs hzb hHH
 go_enter Tryz.func177,Tryz.ntmps177
 go_wp2_with (first
  | (at_builtin;refine Lib.wpList_append_run _ rfl _ _ _ _ rfl _ _ rfl rfl _ _ (hrz _) ?_)
  | (at_builtin;refine wpList_copy_runI _ rfl _ _ 108 108 rfl _ _ rfl rfl (hcp1 _ _) ?_))
 go_region_law_o (refine step_copy_runI rfl _ _ 108 108 rfl _ _ (by simp[Act.eval,Act.put]) (by simp[Act.eval,Act.put]) (hcp2 _ _ _) ?_)
 go_wp2
 go_ret
 obtain⟨f1,f2,f3,f4,f5⟩:=HF.out
 refine⟨G,RA.toList,rfl,?_,HB3.out⟩
 exact⟨by rw[f3,f4];exact HW3.out,f1,f2,by omega,f5⟩
theorem ziN(base:Nat)(q:Option Addr)(n c i:Nat)(xs:List Value)(ge:Nat)(e:Value)(w:World)(hown:w.ownsRow base 152 1 (.slice q n c) n xs)(hx1:∀x∈xs,x.oneCell'=true)(hge:Blk w ge #[e] 152)(hne:(Value.slice q n c).ownBlock≠some ge)(he:e.oneCell'=true)(hi:i≤n)(hn:n≤100000)(hbase:base≤w.heap.size) :
  Calls Tryz.prog 177 #[.slice q n c,.int .i64 (i:Int),.slice (some ⟨ge,0,none⟩) 1 1] w fun r w'=>∃q' c',r=.returned (.slice q' (n+1) c')∧Aside (w'.ownsRow base 152 1 (.slice q' (n+1) c') (n+1) (xs.take i++e::xs.drop i))∧Aside (Kp (fun k=>(Value.slice q n c).ownBlock=some k) w w')∧Aside ((Value.slice q' (n+1) c').ownBlock=(Value.slice q n c).ownBlock∨(Value.slice q' (n+1) c').ownBlock=some w.heap.size):=by
 have hxl:xs.length=n:=by have:=hown.1;omega
 by_cases hin:i=n
 ·subst hin
  refine (ziZ base q i c xs ge e w hown hge he hn hbase).mono ?_
  rintro r w' ⟨q',c',rfl,ho,hg,hb⟩
  refine⟨q',c',rfl,?_,(show Aside _ from (Kp.refl _ w).grown hg.out (fun k hk _=>hk)),(show Aside _ from hb)⟩
  rw[List.take_of_length_le (by omega),List.drop_of_length_le (by omega)]
  exact ho
 ·have hlt:i<n:=by omega
  rcases hown.2 with ⟨e1,h0⟩|⟨g,cap,cur,e1,hb,hg,hnc,hm,hcs,htk⟩
  ·omega
  injection e1 with e1 _ e3
  subst e1
  subst e3
  simp only[Nat.mul_one] at hcs htk
  by_cases hroom:n+1≤c
  ·refine (zhM g n c i cur xs ge e w hg hcs htk hxl hge (fun h=>hne (by rw[h];rfl)) he hx1 hlt hn hroom hm).mono ?_
   rintro r w' ⟨rfl,ho,hk⟩
   refine⟨_,_,rfl,?_,(show Aside _ from hk.mono (fun k _ hs=>by rw[show k=g from hs];rfl)),(show Aside _ from .inl rfl)⟩
   refine (show Aside _ from ⟨by simp;omega,.inr ⟨g,c,_,rfl,hb,ho.out,hroom,hm,?_,?_⟩⟩)
   ·simp only[List.size_toArray]
    rw[←hcs,←Array.length_toList]
    exact (by have hL:cur.toList.length=c:=by rw[Array.length_toList,hcs]
         rw[zlI hL hlt (by omega),hL];omega)
   ·have hL:cur.toList.length=c:=by rw[Array.length_toList,hcs]
    rw[Nat.mul_one]
    exact zib hL htk hlt hroom
  ·refine (zhk w.heap.size g n c i cur xs ge e w hg hcs htk hxl hge he hx1 hlt hn (by omega) hnc (Nat.le_refl _)).mono ?_
   rintro r w' ⟨G,ROW,rfl,ho,hk⟩
   obtain⟨h1,h2,h3,h4,h5⟩:=ho.out
   refine⟨_,_,rfl,?_,(show Aside _ from ?_),(show Aside _ from .inr rfl)⟩
   ·refine (show Aside _ from ⟨by simp;omega,.inr ⟨_,G,_,rfl,hbase,h1,h4,h5,?_,?_⟩⟩)
    ·simp only[List.size_toArray]
     rw[zjV h2 hxl hlt h4];omega
    ·rw[Nat.mul_one]
     exact zik h2 h3 hxl hlt h4
   ·exact Kp.of_below hk
theorem zlv:(Tryz.prog.info? 52).map (fun i=>(i.zero,i.size,i.bytes))=some (some (.agg #[.slice none 0 0,.int .i64 0,.int .i64 0]),3,40):=by kernel_rfl
def OffR(k:Option Nat)(rq:Option Addr)(r:List V3):Prop:=r.length=0∨∃b off,rq=some ⟨b,off,none⟩∧some b≠k
def OtCs(W:World)(k:Option Nat)(cs:List Value)(l:List Ot):Prop:=cs.length=l.length*3∧∀j (h:j<l.length),∃rq rc,cs[j*3]?=some (.slice rq l[j].1.length rc)∧cs[j*3+1]?=some (.int .i64 l[j].2.1)∧cs[j*3+2]?=some (.int .i64 l[j].2.2)∧zah W rq l[j].1∧OffR k rq l[j].1
theorem OtCs.nil(W:World)(k:Option Nat):OtCs W k [] []:=⟨rfl,fun j h=>absurd h (by simp)⟩
theorem OtCs.on{W W':World}{k:Option Nat}{cs:List Value}{l:List Ot}(h:OtCs W k cs l)(hb:Below W.heap.size W W'):OtCs W' k cs l :=
 ⟨h.1,fun j hj=>by
  obtain⟨rq,rc,h1,h2,h3,h4,h5⟩:=h.2 j hj
  exact⟨rq,rc,h1,h2,h3,h4.on hb,h5⟩⟩
theorem zcl{W W':World}{k:Option Nat}{rq:Option Addr}{r:List V3}(h:zah W rq r)(ho:OffR k rq r)(hg:W.grownBy W' k)(hs:W.heap.size≤W'.heap.size):zah W' rq r:=by
 rcases h with h|⟨b,off,rfl,hl,h⟩
 ·exact .inl h
 ·rcases ho with ho|⟨b2,off2,e,hne⟩
  ·exact .inl ho
  ·injection e with e
   injection e with e1 e2
   subst e1
   have hk:W'.heap[b]?=W.heap[b]?:=hg.block b hl hne
   have kc:∀o,W'.cell? ⟨b,o,none⟩=W.cell? ⟨b,o,none⟩:=fun o=>World.cell?_of_block (w:=W) (a:=⟨b,o,none⟩) hk
   refine .inr ⟨b,off,rfl,by omega,fun j hj=>?_⟩
   obtain⟨h1,h2,h3⟩:=h j hj
   exact⟨by rw[kc];exact h1,by rw[kc];exact h2,by rw[kc];exact h3⟩
theorem OtCs.push{W W':World}{k k':Option Nat}{cs:List Value}{l:List Ot}{o:Ot}{rq:Option Addr}{rc:Nat}(h:OtCs W k cs l)(hv:zah W rq o.1)(ho:OffR k rq o.1)(hg:W.grownBy W' k)(hs:W.heap.size≤W'.heap.size)(hk:k'=k∨k'=some W.heap.size):OtCs W' k' (cs++[.slice rq o.1.length rc,.int .i64 o.2.1,.int .i64 o.2.2]) (l++[o]):=by
 have off':∀{q:Option Addr} {r:List V3},zah W q r→OffR k q r→OffR k' q r:=fun {q r} hv ho=>by
  rcases hk with rfl|rfl
  ·exact ho
  ·rcases hv with hv|⟨b,off,e,hl,-⟩
   ·exact .inl hv
   ·exact .inr ⟨b,off,e,by intro e;injection e with e;omega⟩
 refine⟨by rw[List.length_append,List.length_append,h.1];simp;omega,fun j hj=>?_⟩
 by_cases hj2:j<l.length
 ·obtain⟨rq',rc',h1,h2,h3,h4,h5⟩:=h.2 j hj2
  have e:(l++[o])[j]=l[j]:=List.getElem_append_left hj2
  rw[e]
  have hl:=h.1
  refine⟨rq',rc',?_,?_,?_,zcl h4 h5 hg hs,off' h4 h5⟩
  ·rw[List.getElem?_append_left (by omega)];exact h1
  ·rw[List.getElem?_append_left (by omega)];exact h2
  ·rw[List.getElem?_append_left (by omega)];exact h3
 ·have hjl:j=l.length:=by simp at hj;omega
  subst hjl
  have e:(l++[o])[l.length]=o:=by simp
  rw[e]
  have hl:=h.1
  refine⟨rq,rc,?_,?_,?_,zcl hv ho hg hs,off' hv ho⟩
  ·rw[List.getElem?_append_right (by omega),hl,Nat.sub_self];rfl
  ·rw[List.getElem?_append_right (by omega),hl,show l.length*3+1-l.length*3=1 by omega];rfl
  ·rw[List.getElem?_append_right (by omega),hl,show l.length*3+2-l.length*3=2 by omega];rfl
theorem zcT{w:World}{ops:Array Oper}{rest:List Oper}{o:Oper}{a:Act}{Q:Exit→Act→World→Prop}(hgd:o.guard=none)(s x:Operand)
  (ho:o.op=.call { callee:=.builtin .append,args:=#[s,x],argTypes:=#[45,45] })
  (base:Nat)(v:Value)(n:Nat)(cs:List Value)(hs:a.eval s=v)(hown:w.ownsRow base 52 3 v n cs)
  (g:Nat)(rq:Option Addr)(rl rc:Nat)(e f:Int)(hx:a.eval x=.slice (some ⟨g,0,none⟩) 1 1)(h0:w.cell? ⟨g,0,none⟩=some (.slice rq rl rc))(h1:w.cell? ⟨g,1,none⟩=some (.int .i64 e))(h2:w.cell? ⟨g,2,none⟩=some (.int .i64 f))
  (hsm:n≤1000000)(hbase:base≤w.heap.size)
  (h:∀q' c' w',w'.ownsRow base 52 3 (.slice q' (n+1) c') (n+1) (cs++[.slice rq rl rc,.int .i64 e,.int .i64 f])→w.grownBy w' v.ownBlock→((Value.slice q' (n+1) c').ownBlock=v.ownBlock∨(Value.slice q' (n+1) c').ownBlock=some w.heap.size)→wpList Tryz.prog ops Q rest (a.put o.dst (.slice q' (n+1) c')) w'):wpList Tryz.prog ops Q (o::rest) a w:=by
 obtain⟨i0,hi,hz0,hz1,hzz⟩:=info_parts zlv
 refine zae hgd s x 45 ho base 52 i0 _ 3 40 Tryz.underlying45 hi hz0 hz1 hzz rfl (by decide) v n cs hs hown ⟨g,0,none⟩ 1 1 [.slice rq rl rc,.int .i64 e,.int .i64 f] hx rfl (fun j u hu=>?_) (fun u hu=>?_) (by decide) (by unfold maxLen;omega) (by omega) hbase (fun v' w' o1 o2 o3=>?_)
 ·rw[Go.WideShapes.add_plain]
  have hj:j<3:=by have:=(List.getElem?_eq_some_iff.1 hu).1;simpa using this
  have:j=0∨j=1∨j=2:=by omega
  rcases this with rfl|rfl|rfl
  ·have hu:some (Value.slice rq rl rc)=some u:=hu
   injection hu with hu
   subst hu
   exact h0
  ·have hu:some (Value.int .i64 e)=some u:=hu
   injection hu with hu
   subst hu
   exact h1
  ·have hu:some (Value.int .i64 f)=some u:=hu
   injection hu with hu
   subst hu
   exact h2
 ·simp at hu
  rcases hu with rfl|rfl|rfl<;>rfl
 ·obtain⟨q',c',rfl⟩:=zaa o1
  exact h q' c' w' o1 o2 o3
def OutsV(W:World)(u:Value)(l:List Ot):Prop:=∃q c,u=.slice q l.length c∧(l.length=0∨∃b,q=some ⟨b,0,none⟩∧b<W.heap.size∧∀j (h:j<l.length),∃rq rc,W.cell? ⟨b,j*3,none⟩=some (.slice rq l[j].1.length rc)∧W.cell? ⟨b,j*3+1,none⟩=some (.int .i64 l[j].2.1)∧W.cell? ⟨b,j*3+2,none⟩=some (.int .i64 l[j].2.2)∧zah W rq l[j].1)
theorem OutsV.own{W:World}{B n:Nat}{u:Value}{cs:List Value}{l:List Ot}{k:Option Nat}(hn:l.length=n)(h:W.ownsRow B 52 3 u n cs)(hc:OtCs W k cs l):OutsV W u l:=by
 subst hn
 obtain⟨q,c,rfl⟩:=zaa h
 refine⟨q,c,rfl,?_⟩
 rcases h.2 with ⟨e1,h0⟩|⟨g,cap,cur,e1,hb,hg,_⟩
 ·exact .inl h0
 ·injection e1 with e1
  subst e1
  refine .inr ⟨g,rfl,(Array.getElem?_eq_some_iff.1 hg).1,fun j hj=>?_⟩
  obtain⟨rq,rc,a0,a1,a2,a3,-⟩:=hc.2 j hj
  have h1:=h.cells (g:=g) rfl _ _ a0
  have h2:=h.cells (g:=g) rfl _ _ a1
  have h3:=h.cells (g:=g) rfl _ _ a2
  rw[Go.WideShapes.add_plain] at h1 h2 h3
  exact⟨rq,rc,by simpa using h1,by simpa [Nat.add_assoc] using h2,by simpa [Nat.add_assoc] using h3,a3⟩
def FrC(B:Nat)(cs:List Value):Prop:=∀j rq n rc,cs[j*3]?=some (.slice rq n rc)→n=0∨∃b off,rq=some ⟨b,off,none⟩∧B≤b
theorem FrC.nil(B:Nat):FrC B []:=fun j rq n rc h=>by simp at h
theorem FrC.append{B B2:Nat}{cs ds:List Value}{n:Nat}(hn:cs.length=n*3)(h:FrC B cs)(k:FrC B2 ds)(hB:B≤B2):FrC B (cs++ds):=fun j rq m rc e=>by
 by_cases hj:j<n
 ·rw[List.getElem?_append_left (by omega)] at e
  exact h j rq m rc e
 ·rw[List.getElem?_append_right (by omega),hn,show j*3-n*3=(j-n)*3 by omega] at e
  rcases k _ rq m rc e with h|⟨b,off,e1,e2⟩
  ·exact .inl h
  ·exact .inr ⟨b,off,e1,by omega⟩
structure OutsF(B:Nat)(W:World)(u:Value)(l:List Ot):Prop where
 own:∃cs,W.ownsRow B 52 3 u l.length cs∧OtCs W u.ownBlock cs l∧FrC B cs
 non:l=[]→u=.slice none 0 0
theorem OutsF.nil(B:Nat)(W:World):OutsF B W (.slice none 0 0) []:=⟨⟨[],World.ownsRow_nil _ _ _ _,OtCs.nil _ _,FrC.nil _⟩,fun _=>rfl⟩
theorem OutsF.form{B:Nat}{W:World}{u:Value}{l:List Ot}(h:OutsF B W u l):∃q c,u=.slice q l.length c:=by
 obtain⟨cs,h1,-⟩:=h.own
 exact zaa h1
theorem OutsF.v{B:Nat}{W:World}{u:Value}{l:List Ot}(h:OutsF B W u l):OutsV W u l:=by
 obtain⟨cs,h1,h2,-⟩:=h.own
 exact OutsV.own rfl h1 h2
theorem OutsF.on{B:Nat}{W W':World}{u:Value}{l:List Ot}(h:OutsF B W u l)(hb:Below W.heap.size W W'):OutsF B W' u l:=by
 obtain⟨cs,h1,h2,h3⟩:=h.own
 exact⟨⟨cs,zab h1 hb,h2.on hb,h3⟩,h.non⟩
theorem OutsF.lt{B:Nat}{W:World}{u:Value}{l:List Ot}(h:OutsF B W u l):∀k,u.ownBlock=some k→B≤k∧k<W.heap.size:=by
 obtain⟨cs,h1,-⟩:=h.own
 exact fun k hk=>World.ownsRow.lt h1 k hk
theorem OutsF.low{B B':Nat}{W:World}{u:Value}{l:List Ot}(h:OutsF B W u l)(hB:B'≤B):OutsF B' W u l:=by
 obtain⟨cs,h1,h2,h3⟩:=h.own
 refine⟨⟨cs,⟨h1.1,h1.2.imp id (fun ⟨g,cap,cur,e,hbg,r⟩=>⟨g,cap,cur,e,Nat.le_trans hB hbg,r⟩)⟩,h2,fun j rq n rc e=>?_⟩,h.non⟩
 rcases h3 j rq n rc e with h|⟨b,off,e1,e2⟩
 ·exact .inl h
 ·exact .inr ⟨b,off,e1,by omega⟩
theorem zek{S:Nat→Prop}{W W':World}{rq:Option Addr}{r:List V3}(h:zah W rq r)(hk:Kp S W W')(ho:r.length=0∨∀b off,rq=some ⟨b,off,none⟩→¬S b):zah W' rq r:=by
 rcases h with h|⟨b,off,rfl,hl,h⟩
 ·exact .inl h
 ·rcases ho with ho|ho
  ·exact .inl ho
  ·have kc:∀o,W'.cell? ⟨b,o,none⟩=W.cell? ⟨b,o,none⟩:=fun o=>hk.cell o hl (ho b off rfl)
   refine .inr ⟨b,off,rfl,by have:=hk.size;omega,fun j hj=>?_⟩
   obtain⟨h1,h2,h3⟩:=h j hj
   exact⟨by rw[kc];exact h1,by rw[kc];exact h2,by rw[kc];exact h3⟩
theorem OutsF.kp{S:Nat→Prop}{B:Nat}{W W':World}{u:Value}{l:List Ot}(h:OutsF B W u l)(hk:Kp S W W')(hS:∀k,S k→k<B):OutsF B W' u l:=by
 obtain⟨cs,h1,h2,h3⟩:=h.own
 refine⟨⟨cs,?_,⟨h2.1,fun j hj=>?_⟩,h3⟩,h.non⟩
 ·refine⟨h1.1,?_⟩
  rcases h1.2 with hn|⟨g,cap,cur,rfl,h1,hgg,rest⟩
  ·exact .inl hn
  ·exact .inr ⟨g,cap,cur,rfl,h1,by rw[hk.kept g (Array.getElem?_eq_some_iff.1 hgg).1 (fun hs=>by have:=hS g hs;omega)];exact hgg,rest⟩
 ·obtain⟨rq,rc,a1,a2,a3,a4,a5⟩:=h2.2 j hj
  refine⟨rq,rc,a1,a2,a3,zek a4 hk ?_,a5⟩
  rcases h3 j rq _ rc a1 with h|⟨b,off,e1,e2⟩
  ·exact .inl h
  ·refine .inr fun b' off' e hs=>?_
   rw[e1] at e
   injection e with e
   injection e with e _
   subst e
   have:=hS b hs
   omega
theorem OtCs.append{W W':World}{k k2 k':Option Nat}{cs ds:List Value}{l m:List Ot}{B2:Nat}(h:OtCs W k cs l)(h2:OtCs W k2 ds m)(hf:FrC B2 ds)(hB2:∀i,k=some i→i<B2)(hg:W.grownBy W' k)(hs:W.heap.size≤W'.heap.size)(hk:k'=k∨k'=some W.heap.size):OtCs W' k' (cs++ds) (l++m):=by
 have off':∀{q:Option Addr} {r:List V3},zah W q r→OffR k q r→OffR k' q r:=fun {q r} hv ho=>by
  rcases hk with rfl|rfl
  ·exact ho
  ·rcases hv with hv|⟨b,off,e,hl,-⟩
   ·exact .inl hv
   ·exact .inr ⟨b,off,e,by intro e;injection e with e;omega⟩
 have hl:=h.1
 refine⟨by rw[List.length_append,List.length_append,h.1,h2.1];omega,fun j hj=>?_⟩
 by_cases hj2:j<l.length
 ·obtain⟨rq',rc',h1,h2,h3,h4,h5⟩:=h.2 j hj2
  have e:(l++m)[j]=l[j]:=List.getElem_append_left hj2
  rw[e]
  refine⟨rq',rc',?_,?_,?_,zcl h4 h5 hg hs,off' h4 h5⟩
  ·rw[List.getElem?_append_left (by omega)];exact h1
  ·rw[List.getElem?_append_left (by omega)];exact h2
  ·rw[List.getElem?_append_left (by omega)];exact h3
 ·have hj3:j-l.length<m.length:=by rw[List.length_append] at hj;omega
  obtain⟨rq',rc',g1,g2,g3,g4,g5⟩:=h2.2 (j-l.length) hj3
  have e:(l++m)[j]=m[j-l.length]:=List.getElem_append_right (by omega)
  rw[e]
  have ho:OffR k rq' m[j-l.length].1:=by
   rcases hf _ rq' _ rc' g1 with h|⟨b,off,e1,e2⟩
   ·exact .inl h
   ·exact .inr ⟨b,off,e1,fun e=>by have:=hB2 b e.symm;omega⟩
  refine⟨rq',rc',?_,?_,?_,zcl g4 ho hg hs,off' g4 ho⟩
  ·rw[List.getElem?_append_right (by omega),hl,show j*3-l.length*3=(j-l.length)*3 by omega];exact g1
  ·rw[List.getElem?_append_right (by omega),hl,show j*3+1-l.length*3=(j-l.length)*3+1 by omega];exact g2
  ·rw[List.getElem?_append_right (by omega),hl,show j*3+2-l.length*3=(j-l.length)*3+2 by omega];exact g3
theorem zrn{W:World}{k:Option Nat}{cs:List Value}{l:List Ot}(h:OtCs W k cs l):∀u∈cs,u.oneCell'=true:=by
 intro u hu
 obtain⟨i,hi⟩:=List.mem_iff_getElem?.1 hu
 have hil:i<cs.length:=(List.getElem?_eq_some_iff.1 hi).1
 rw[h.1] at hil
 obtain⟨rq,rc,h1,h2,h3,-⟩:=h.2 (i / 3) (by omega)
 have:i=i / 3*3∨i=i / 3*3+1∨i=i / 3*3+2:=by omega
 rcases this with e|e|e
 ·rw[e,h1] at hi;injection hi with hi;rw[←hi];rfl
 ·rw[e,h2] at hi;injection hi with hi;rw[←hi];rfl
 ·rw[e,h3] at hi;injection hi with hi;rw[←hi];rfl
theorem zbb{w:World}{ops:Array Oper}{rest:List Oper}{o:Oper}{a:Act}{Q:Exit→Act→World→Prop}(hgd:o.guard=none)(s x:Operand)
  (ho:o.op=.call { callee:=.builtin .append,args:=#[s,x],argTypes:=#[45,45] })
  (base:Nat)(v:Value)(l:List Ot)(hs:a.eval s=v)(hA:OutsF base w v l)(B2:Nat)(u:Value)(m:List Ot)(hx:a.eval x=u)(hF:OutsF B2 w u m)(hB2:∀k,v.ownBlock=some k→k<B2)(hbB:base≤B2)(hsm:l.length+m.length≤1000000)(hbase:base≤w.heap.size)
  (h:∀v' w',OutsF base w' v' (l++m)→w.grownBy w' v.ownBlock→(v'.ownBlock=v.ownBlock∨v'.ownBlock=some w.heap.size)→wpList Tryz.prog ops Q rest (a.put o.dst v') w'):wpList Tryz.prog ops Q (o::rest) a w:=by
 obtain⟨i0,hi,hz0,hz1,hzz⟩:=info_parts zlv
 obtain⟨cs,o1,o2,o3⟩:=hA.own
 by_cases hm:m=[]
 ·subst hm
  refine wpList_append_own_none hgd s x 45 ho base 52 i0 3 Tryz.underlying45 hi v l.length cs hs o1 (by rw[hx,hF.non rfl]) ?_
  exact h v w (by rw[List.append_nil];exact hA) (World.grownBy.refl w _) (.inl rfl)
 ·obtain⟨ds,p1,p2,p3⟩:=hF.own
  obtain⟨q,c,rfl⟩:=hF.form
  have hml:0<m.length:=List.length_pos_iff.2 hm
  obtain⟨g,cap,e⟩:∃g cap,(Value.slice q m.length c)=.slice (some ⟨g,0,none⟩) m.length cap:=by
   rcases p1.2 with ⟨_,h0⟩|⟨g,cap,cur,e,-⟩
   ·omega
   ·exact⟨g,cap,e⟩
  injection e with e1 _ e2
  subst e1
  subst e2
  refine zae hgd s x 45 ho base 52 i0 _ 3 40 Tryz.underlying45 hi hz0 hz1 hzz rfl (by decide) v l.length cs hs o1 ⟨g,0,none⟩ m.length c ds hx p1.1 (fun j u hu=>p1.cells (g:=g) rfl j u hu) (zrn p2) hml (by unfold maxLen;omega) (by omega) hbase (fun v' w' q1 q2 q3=>?_)
  have hsz:=q2.size
  refine h v' w' ⟨⟨cs++ds,by rw[List.length_append];exact q1,OtCs.append o2 p2 p3 hB2 q2 hsz q3,FrC.append (by rw[o1.1]) o3 p3 hbB⟩,fun hn=>?_⟩ q2 q3
  exact absurd (List.append_eq_nil_iff.1 hn).2 hm
end
section
open Go
section
variable {P : Program} {ops : Array Oper} {Q : Exit → Act → World → Prop} {md : Region.Mode}
theorem zhT{p q:Nat→Bool}:∀(l:List Nat),(∀j∈l,q j=true→p j=true)→(∃i∈l,p i=true∧q i=false)→l.countP q<l.countP p
 | [],_,h=>by obtain⟨_,h,_⟩:=h;cases h
 | x::l,h1,h2=>by
  have hle:l.countP q≤l.countP p:=List.countP_mono_left (fun j hj h=>h1 j (List.mem_cons_of_mem _ hj) h)
  rw[List.countP_cons,List.countP_cons]
  obtain⟨i,hi,hp,hq⟩:=h2
  rcases List.mem_cons.1 hi with rfl|hi
  ·rw[if_pos hp,if_neg (by rw[hq];decide)];omega
  ·have hlt:=zhT l (fun j hj h=>h1 j (List.mem_cons_of_mem _ hj) h) ⟨i,hi,hp,hq⟩
   by_cases hx:q x=true
   ·rw[if_pos hx,if_pos (h1 x (List.mem_cons_self ..) hx)];omega
   ·rw[if_neg hx];split<;>omega
def left(n:Nat)(listed:Array Bool):Nat:=(List.range n).countP fun i=>!listed.getD i true
theorem zov{n i:Nat}{listed:Array Bool}(hi:i<n)(h:listed.getD i true=false):left n (listed.setIfInBounds i true)<left n listed:=by
 have hsz:i<listed.size:=by
  rcases Nat.lt_or_ge i listed.size with h'|h'
  ·exact h'
  ·simp[Array.getElem?_eq_none h'] at h
 refine zhT _ (fun j _ hj=>?_) ⟨i,List.mem_range.2 hi,by rw[h];rfl,by simp[hsz]⟩
 by_cases hij:i=j
 ·subst hij;rw[h];rfl
 ·rwa [getD_set_ne true hij] at hj
theorem zeT(J:Array Bool→Act→World→Prop)
  (hstep:∀listed a w,listed.size=ops.size→J listed a w→∀i∈Region.ready md ops listed,wpOp P ops Q i (J (listed.setIfInBounds i true)) a w)
  (hdone:∀listed a w,listed.size=ops.size→J listed a w→Region.ready md ops listed=[]→Q .normal a w) :
  ∀(fuel:Nat)(listed:Array Bool)(a:Act)(w:World),listed.size=ops.size→left ops.size listed≤fuel→J listed a w→wpAny P md ops Q fuel listed a w
 | 0,listed,a,w,hs,hl,hJ=>by
  have hr:Region.ready md ops listed=[]:=by
   cases h:Region.ready md ops listed with
   | nil=>rfl
   | cons x xs =>
    have hx:x∈Region.ready md ops listed:=by rw[h];exact List.mem_cons_self ..
    obtain⟨h0,o,ho,_⟩:=mem_ready.1 hx
    have hlt:x<ops.size:=(Array.getElem?_eq_some_iff.1 ho).1
    have:=zov hlt h0
    omega
  exact⟨hr,hdone _ _ _ hs hJ hr⟩
 | fuel+1,listed,a,w,hs,hl,hJ=>by
  refine⟨hdone _ _ _ hs hJ,fun i hi=>?_⟩
  obtain⟨h0,o,ho,_⟩:=mem_ready.1 hi
  have hlt:i<ops.size:=(Array.getElem?_eq_some_iff.1 ho).1
  have:=zov hlt h0
  exact wpOp_mono (fun a' w' h=>zeT J hstep hdone fuel _ a' w' (by simpa using hs) (by omega) h) (hstep listed a w hs hJ i hi)
def putL(vs:Nat→Value):List Oper→Nat→Act→Act
 | [],_,a=>a
 | o::l,k,a=>putL vs l (k+1) (a.put o.dst (vs k))
theorem zds(a:Act)(d:Option Tmp)(v:Value):(a.put d v).tmps.size=a.tmps.size:=by
 cases d<;>simp[Act.put]
theorem zcq(a:Act)(d:Option Tmp)(v:Value):(a.put d v).defers=a.defers:=by
 cases d<;>simp[Act.put]
theorem zgg(a:Act){d:Option Tmp}{e:Tmp}(v:Value)(h:d≠some e):(a.put d v).tmps.getD e undef=a.tmps.getD e undef:=by
 cases d with
 | none=>rfl
 | some d =>
  have:d≠e:=fun hh=>h (by rw[hh])
  simp[Act.put,Array.getElem?_setIfInBounds_ne this]
theorem zni(a:Act){e:Tmp}(v:Value)(h:e<a.tmps.size):(a.put (some e) v).tmps.getD e undef=v:=by
 simp[Act.put,h]
theorem zft(vs:Nat→Value):∀(l:List Oper) (k:Nat) (a:Act),(putL vs l k a).tmps.size=a.tmps.size
 | [],_,_=>rfl
 | o::l,k,a=>by rw[putL,zft vs l,zds]
theorem zcz(vs:Nat→Value):∀(l:List Oper) (k:Nat) (a:Act),(putL vs l k a).defers=a.defers
 | [],_,_=>rfl
 | o::l,k,a=>by rw[putL,zcz vs l,zcq]
theorem zhY(vs:Nat→Value){e:Tmp}:∀(l:List Oper) (k:Nat) (a:Act),(∀o∈l,o.dst≠some e)→(putL vs l k a).tmps.getD e undef=a.tmps.getD e undef
 | [],_,_,_=>rfl
 | o::l,k,a,h=>by rw[putL,zhY vs l _ _ (fun o ho=>h o (List.mem_cons_of_mem _ ho)),zgg _ _ (h o (List.mem_cons_self ..))]
theorem zlR(vs:Nat→Value){e:Tmp}:∀(l:List Oper) (k:Nat) (a:Act) (j:Nat) (o:Oper),l[j]?=some o→o.dst=some e→(∀j' o',l[j']?=some o'→o'.dst=some e→j'=j)→e<a.tmps.size→(putL vs l k a).tmps.getD e undef=vs (k+j)
 | [],_,_,_,_,h,_,_,_=>by cases h
 | o::l,k,a,0,o',h,hd,hu,hl=>by
  injection h with h
  subst h
  rw[putL,zhY vs l _ _ (fun o' ho' hd'=>?_),hd,zni _ _ hl]
  ·rfl
  ·obtain⟨j',hj',rfl⟩:=List.getElem_of_mem ho'
   exact absurd (hu (j'+1) l[j'] (by simp[hj']) hd') (by omega)
 | o::l,k,a,j+1,o',h,hd,hu,hl=>by
  rw[putL,zlR vs l (k+1) _ j o' (by simpa using h) hd (fun j' o'' h1 h2=>by have:=hu (j'+1) o'' (by simpa using h1) h2;omega) (by rw[zds];exact hl)]
  congr 1
  omega
theorem zeS:∀(l:List Oper),(l.filterMap (·.dst)).Nodup→∀(i j:Nat) (oi oj:Oper) (d:Tmp),l[i]?=some oi→l[j]?=some oj→oi.dst=some d→oj.dst=some d→i=j
 | [],_,i,_,_,_,_,h,_,_,_=>by simp at h
 | o::l,hn,i,j,oi,oj,d,hi,hj,h1,h2=>by
  have hin:∀{k:Nat} {ok:Oper},l[k]?=some ok→ok.dst=some d→d∈l.filterMap (·.dst):=fun {k ok} hk hd=>List.mem_filterMap.2 ⟨ok,List.mem_of_getElem? hk,hd⟩
  cases i with
  | zero =>
   cases j with
   | zero=>rfl
   | succ j =>
    exfalso
    have e:o=oi:=by simpa using hi
    subst e
    rw[List.filterMap_cons_some h1] at hn
    exact (List.nodup_cons.1 hn).1 (hin (by simpa using hj) h2)
  | succ i =>
   cases j with
   | zero =>
    exfalso
    have e:o=oj:=by simpa using hj
    subst e
    rw[List.filterMap_cons_some h2] at hn
    exact (List.nodup_cons.1 hn).1 (hin (by simpa using hi) h1)
   | succ j =>
    have hn':(l.filterMap (·.dst)).Nodup:=by
     cases ho:o.dst with
     | none=>rwa [List.filterMap_cons_none ho] at hn
     | some e=>rw[List.filterMap_cons_some ho] at hn;exact (List.nodup_cons.1 hn).2
    rw[zeS l hn' i j oi oj d (by simpa using hi) (by simpa using hj) h1 h2]
def rgOk(ops:Array Oper)(n:Nat):Bool :=
 ops.toList.all (fun o=>o.guard.isNone)&&(decide ((ops.toList.filterMap (·.dst)).Nodup)&&((ops.toList.filterMap (·.dst)).all (fun d=>decide (d<n)) &&
  (List.range ops.size).all fun i=>match ops[i]? with
   | some o=>o.after.toList.all fun e=>!Region.binds .any e||decide (e.on<i)
   | none=>true))
end
end
section
open Go
def elemT:Value→Nat→Value
 | .tuple a,i=>a.getD i undef
 | _,_=>undef
section
variable {P : Program} {ops : Array Oper} {Q : Exit → Act → World → Prop}
structure RcJ(ops:Array Oper)(c:Nat)(dc:Tmp)(wd:World)(Post:Value→World→Prop)(V:Nat→Value→Value)(a0:Act)(listed:Array Bool)(a:Act)(w:World):Prop where
 sz:a.tmps.size=a0.tmps.size
 df:a.defers=a0.defers
 done:∀i o d,listed.getD i false=true→ops[i]?=some o→o.dst=some d→i≠c→a.tmps.getD d undef=V i (a.tmps.getD dc undef)
 old:∀d,(∀o∈ops.toList,o.dst≠some d)→a.tmps.getD d undef=a0.tmps.getD d undef
 deps:∀(i:Nat) (o:Oper),listed.getD i false=true→ops[i]?=some o→∀e∈o.after,Region.binds .any e=true→listed.getD e.on false=true
 pre:listed.getD c false=false→w=wd
 post:listed.getD c false=true→Post (a.tmps.getD dc undef) w
def rcOk(ops:Array Oper)(n c:Nat):Bool :=
 rgOk ops n&&(ops.toList.all (fun o=>o.dst.isSome)&&((List.range ops.size).all (fun i=>if i<c then (List.range ops.size).any (fun j=>decide (i<j)&&decide (j≤c)&&(match ops[j]? with|some o=>o.after.toList.any (fun e=>Region.binds .any e&&e.on == i)|none=>false)) else if c<i then (match ops[i]? with|some o=>o.after.toList.any (fun e=>Region.binds .any e&&decide (c≤e.on)&&decide (e.on<i))|none=>true) else true)))
theorem zaP{id:Nat}{a0:Act}{w:World}(n c:Nat)(dc:Tmp)(hok:rcOk ops n c=true)(hn:a0.tmps.size=n)(hm:P.follows .mixedOrders=true)(oc:Oper)(hoc:ops[c]?=some oc)(hdc:oc.dst=some dc)
  (Post:Value→World→Prop)(V:Nat→Value→Value)(hV:∀i,i<c→∀r r',V i r=V i r')
  (hstep:∀(i:Nat) (o:Oper) (d:Tmp),ops[i]?=some o→o.dst=some d→i≠c→∀a w' r,(i<c→w'=w.drew)→(c<i→a.tmps.getD dc undef=r∧Post r w') →
   (∀e∈o.after,Region.binds .any e=true→e.on≠c→∀(oj:Oper) (d:Tmp),ops[e.on]?=some oj→oj.dst=some d→a.tmps.getD d undef=V e.on r) →
   (∀d,(ops.toList.all fun o=>!(o.dst == some d))=true→a.tmps.getD d undef=a0.tmps.getD d undef) →
   ∀K:Act→World→Prop,K (a.put (some d) (V i r)) w'→Oper.wp P o a w' K Q)
  (hcall:∀a,(∀e∈oc.after,Region.binds .any e=true→∀(oj:Oper) (d:Tmp),ops[e.on]?=some oj→oj.dst=some d→a.tmps.getD d undef=V e.on undef) →
   (∀d,(ops.toList.all fun o=>!(o.dst == some d))=true→a.tmps.getD d undef=a0.tmps.getD d undef) →
   ∀K:Act→World→Prop,(∀r w',Post r w'→K (a.put (some dc) r) w')→Oper.wp P oc a w.drew K Q)
  (hdone:∀r w',Post r w'→∀vs:Nat→Value,(∀i,vs i=if i=c then r else V i r)→Q .normal (putL vs ops.toList 0 a0) w') :
  (Code.region id ops true).wp P Q a0 w:=by
 rw[rcOk,Bool.and_eq_true,Bool.and_eq_true] at hok
 obtain⟨hok,hsome,hord⟩:=hok
 rw[rgOk,Bool.and_eq_true,Bool.and_eq_true,Bool.and_eq_true] at hok
 obtain⟨c1,c2,c3,c4⟩:=hok
 have hg:∀o∈ops.toList,o.guard=none:=fun o ho=>by
  have:=List.all_eq_true.1 c1 o ho
  simpa using this
 have hu:∀(i j:Nat) (oi oj:Oper) (d:Tmp),ops[i]?=some oi→ops[j]?=some oj→oi.dst=some d→oj.dst=some d→i=j:=fun i j oi oj d hi hj =>
  zeS ops.toList (of_decide_eq_true c2) i j oi oj d (by simpa using hi) (by simpa using hj)
 have hlt:∀o∈ops.toList,∀d,o.dst=some d→d<a0.tmps.size:=fun o ho d hd=>by
  rw[hn]
  exact of_decide_eq_true (List.all_eq_true.1 c3 d (List.mem_filterMap.2 ⟨o,ho,hd⟩))
 have hac:∀(i:Nat) (o:Oper),ops[i]?=some o→∀e∈o.after,Region.binds .any e=true→e.on<i:=fun i o hi e he hb=>by
  have h:=List.all_eq_true.1 c4 i (List.mem_range.2 (Array.getElem?_eq_some_iff.1 hi).1)
  rw[hi] at h
  have h2:=List.all_eq_true.1 h e (by simpa using he)
  rw[hb] at h2
  simpa using h2
 have hds:∀o∈ops.toList,∃d,o.dst=some d:=fun o ho=>Option.isSome_iff_exists.1 (List.all_eq_true.1 hsome o ho)
 have hcs:c<ops.size:=(Array.getElem?_eq_some_iff.1 hoc).1
 have hbef:∀i,i<c→∃j oj,i<j∧j≤c∧ops[j]?=some oj∧∃e∈oj.after,Region.binds .any e=true∧e.on=i:=fun i hi=>by
  have h:=List.all_eq_true.1 hord i (List.mem_range.2 (by omega))
  rw[if_pos hi] at h
  obtain⟨j,hj,hj2⟩:=List.any_eq_true.1 h
  rw[Bool.and_eq_true,Bool.and_eq_true] at hj2
  obtain⟨⟨h1,h2⟩,h3⟩:=hj2
  cases hoj:ops[j]? with
  | none=>rw[hoj] at h3;cases h3
  | some oj =>
   rw[hoj] at h3
   obtain⟨e,he,he2⟩:=List.any_eq_true.1 h3
   rw[Bool.and_eq_true] at he2
   exact⟨j,oj,of_decide_eq_true h1,of_decide_eq_true h2,hoj,e,by simpa using he,he2.1,by simpa using he2.2⟩
 have haft:∀i o,c<i→ops[i]?=some o→∃e∈o.after,Region.binds .any e=true∧c≤e.on∧e.on<i:=fun i o hi ho=>by
  have h:=List.all_eq_true.1 hord i (List.mem_range.2 (Array.getElem?_eq_some_iff.1 ho).1)
  rw[if_neg (by omega),if_pos hi,ho] at h
  obtain⟨e,he,he2⟩:=List.any_eq_true.1 h
  rw[Bool.and_eq_true,Bool.and_eq_true] at he2
  exact⟨e,by simpa using he,he2.1.1,of_decide_eq_true he2.1.2,of_decide_eq_true he2.2⟩
 have hmemc:oc∈ops.toList:=by have:=Array.mem_of_getElem? hoc;simpa using this
 -- all ahead of the call are listed with it;none behind it is listed without it
 have hclo:∀listed:Array Bool,(∀(i:Nat) (o:Oper),listed.getD i false=true→ops[i]?=some o→∀e∈o.after,Region.binds .any e=true→listed.getD e.on false=true)→listed.getD c false=true→∀m i,c-i=m→i≤c→listed.getD i false=true:=fun listed hd hc m=>by
  induction m using Nat.strongRecOn with
  | ind m ih =>
   intro i him hic
   by_cases hie:i=c
   ·rw[hie];exact hc
   ·obtain⟨j,oj,h1,h2,h3,e,he,hb,hei⟩:=hbef i (by omega)
    rw[←hei]
    exact hd j oj (ih (c-j) (by omega) j rfl h2) h3 e he hb
 have haftc:∀listed:Array Bool,(∀(i:Nat) (o:Oper),listed.getD i false=true→ops[i]?=some o→∀e∈o.after,Region.binds .any e=true→listed.getD e.on false=true)→∀i o,c≤i→ops[i]?=some o→listed.getD i false=true→listed.getD c false=true:=fun listed hd i=>by
  induction i using Nat.strongRecOn with
  | ind i ih =>
   intro o hci ho hl
   by_cases hie:i=c
   ·rw[←hie];exact hl
   ·obtain⟨e,he,hb,h1,h2⟩:=haft i o (by omega) ho
    have hle:=hd i o hl ho e he hb
    have heo:e.on<ops.size:=by have:=(Array.getElem?_eq_some_iff.1 ho).1;omega
    exact ih e.on h2 ops[e.on] h1 (by simp[heo]) hle
 have hex:∀(i:Nat) (o:Oper),ops[i]?=some o→o∈ops.toList:=fun i o ho=>by have:=Array.mem_of_getElem? ho;simpa using this
 have hold:∀(d:Tmp),(ops.toList.all fun o=>!(o.dst == some d))=true→∀o∈ops.toList,o.dst≠some d:=fun d h o ho e=>by
  have:=List.all_eq_true.1 h o ho
  rw[e] at this
  simp at this
 refine wp_region_any hm ?_
 refine zeT (RcJ ops c dc w.drew Post V a0) ?_ ?_ ops.size _ a0 _ (by simp) ?_ ?_
 ·intro listed a w' hs hJ i hi
  obtain⟨h0,o,ho,hall⟩:=mem_ready.1 hi
  have hio:i<ops.size:=(Array.getElem?_eq_some_iff.1 ho).1
  have hmem:=hex i o ho
  have h00:listed.getD i false=false:=by
   have hsz:i<listed.size:=by
    rcases Nat.lt_or_ge i listed.size with h'|h'
    ·exact h'
    ·simp[Array.getElem?_eq_none h'] at h0
   simpa [hsz] using h0
  obtain⟨d,hd⟩:=hds o hmem
  refine wpOp_step ho fun K' hK=>?_
  rw[if_pos (by simp[Region.wanted,hg o hmem])]
  have hdd:d<a.tmps.size:=by rw[hJ.sz];exact hlt o hmem d hd
  by_cases hic:i=c
  ·subst hic
   obtain rfl:o=oc:=Option.some.inj (ho.symm.trans hoc)
   obtain rfl:d=dc:=Option.some.inj (hd.symm.trans hdc)
   have hw:=hJ.pre h00
   subst hw
   refine hcall a (fun e he hb oj dj hoj hdj=>?_) (fun dj hdj=>hJ.old dj (hold dj hdj)) K' (fun r w' hp=>?_)
   ·have hne:=hac i o ho e he hb
    rw[hJ.done e.on oj dj (hall e he hb) hoj hdj (by omega)]
    exact hV e.on hne _ _
   ·rw[←hd]
    refine hK _ w' ?_
    have hput:(a.put o.dst r).tmps.getD d undef=r:=by rw[hd,zni _ _ hdd]
    refine⟨by rw[zds];exact hJ.sz,by rw[zcq];exact hJ.df,fun j oj dj hj hoj hdj hjc=>?_,fun dj hdj=>?_,fun j oj hj hoj e he hb=>?_,fun hc=>?_,fun _=>?_⟩
    ·rw[getD_set_ne false (by omega)] at hj
     have hjlt:j<i:=by
      rcases Nat.lt_or_ge j i with h|h
      ·exact h
      ·have:=haftc listed hJ.deps j oj h hoj hj
       rw[h00] at this;cases this
     rw[hput,hd,zgg _ _ (fun h=>hjc (hu j i oj o d hoj ho (by rw[hdj];injection h with h;rw[h]) hd)),hJ.done j oj dj hj hoj hdj hjc]
     exact hV j hjlt _ _
    ·rw[zgg _ _ (hdj o hmem)]
     exact hJ.old dj hdj
    ·by_cases hji:i=j
     ·subst hji
      obtain rfl:o=oj:=Option.some.inj (ho.symm.trans hoj)
      exact getD_set_true (hall e he hb)
     ·rw[getD_set_ne false hji] at hj
      exact getD_set_true (hJ.deps j oj hj hoj e he hb)
    ·have hsz:i<listed.size:=by omega
     simp[hsz] at hc
    ·rw[hput];exact hp
  ·have hne:d≠dc:=fun h=>hic (hu i c o oc d ho hoc hd (by rw[hdc,h]))
   have hwd:i<c→w'=w.drew:=fun hlt=>by
    refine hJ.pre ?_
    cases hc:listed.getD c false with
    | false=>rfl
    | true =>
     have:=hclo listed hJ.deps hc (c-i) i rfl (by omega)
     rw[h00] at this;cases this
   refine hstep i o d ho hd hic a w' (a.tmps.getD dc undef) hwd (fun hci=>⟨rfl,hJ.post (by
    obtain⟨e,he,hb,h1,h2⟩:=haft i o hci ho
    have heo:e.on<ops.size:=by omega
    exact haftc listed hJ.deps e.on ops[e.on] h1 (by simp[heo]) (hall e he hb))⟩) (fun e he hb hec oj dj hoj hdj=>hJ.done e.on oj dj (hall e he hb) hoj hdj hec) (fun dj hdj=>hJ.old dj (hold dj hdj)) K' ?_
   rw[←hd]
   refine hK _ w' ?_
   have hput:(a.put o.dst (V i (a.tmps.getD dc undef))).tmps.getD dc undef=a.tmps.getD dc undef:=by rw[hd,zgg _ _ (fun h=>hne (by injection h))]
   refine⟨by rw[zds];exact hJ.sz,by rw[zcq];exact hJ.df,fun j oj dj hj hoj hdj hjc=>?_,fun dj hdj=>?_,fun j oj hj hoj e he hb=>?_,fun hc=>?_,fun hc=>?_⟩
   ·rw[hput]
    by_cases hji:i=j
    ·subst hji
     obtain rfl:o=oj:=Option.some.inj (ho.symm.trans hoj)
     obtain rfl:d=dj:=Option.some.inj (hd.symm.trans hdj)
     rw[hd,zni _ _ hdd]
    ·rw[getD_set_ne false hji] at hj
     rw[hd,zgg _ _ (fun h=>hji (hu i j o oj d ho hoj hd (by rw[hdj];injection h with h;rw[h])))]
     exact hJ.done j oj dj hj hoj hdj hjc
   ·rw[zgg _ _ (hdj o hmem)]
    exact hJ.old dj hdj
   ·by_cases hji:i=j
    ·subst hji
     obtain rfl:o=oj:=Option.some.inj (ho.symm.trans hoj)
     exact getD_set_true (hall e he hb)
    ·rw[getD_set_ne false hji] at hj
     exact getD_set_true (hJ.deps j oj hj hoj e he hb)
   ·rw[getD_set_ne false hic] at hc
    exact hJ.pre hc
   ·rw[getD_set_ne false hic] at hc
    rw[hput]
    exact hJ.post hc
 ·intro listed a w' hs hJ hr
  have hall:∀i,i<ops.size→listed.getD i false=true:=by
   intro i
   induction i using Nat.strongRecOn with
   | ind i ih =>
    intro hi
    by_cases hl:listed.getD i false=true
    ·exact hl
    ·have hl2:listed.getD i true=false:=by
      have hi2:i<listed.size:=by omega
      simp[hi2] at hl ⊢
      exact hl
     have hin:i∈Region.ready .any ops listed:=mem_ready.2 ⟨hl2,ops[i],by simp[hi],fun e he hb=>ih e.on (hac i ops[i] (by simp[hi]) e he hb) (by have:=hac i ops[i] (by simp[hi]) e he hb;omega)⟩
     rw[hr] at hin
     cases hin
  have hat:∀(t:Array Value) (d:Nat) (h:d<t.size),t.getD d undef=t[d]:=fun t d h=>by simp[h]
  obtain⟨r,hrr⟩:∃r,a.tmps.getD dc undef=r:=⟨_,rfl⟩
  have hP:=hJ.post (hall c hcs)
  rw[hrr] at hP
  have hpt:∀d,d<a0.tmps.size→(putL (fun i=>if i=c then r else V i r) ops.toList 0 a0).tmps.getD d undef=a.tmps.getD d undef:=fun d hd=>by
   by_cases hexi:∃(i:Nat) (o:Oper),ops[i]?=some o∧o.dst=some d
   ·obtain⟨i,o,ho,hod⟩:=hexi
    rw[zlR _ ops.toList 0 a0 i o (by simpa using ho) hod (fun j' o' h1 h2=>hu j' i o' o d (by simpa using h1) ho h2 hod) hd,Nat.zero_add]
    by_cases hic:i=c
    ·subst hic
     obtain rfl:o=oc:=Option.some.inj (ho.symm.trans hoc)
     obtain rfl:d=dc:=Option.some.inj (hod.symm.trans hdc)
     rw[if_pos rfl,hrr]
    ·rw[if_neg hic,hJ.done i o d (hall i (Array.getElem?_eq_some_iff.1 ho).1) ho hod hic,hrr]
   ·have hno:∀o∈ops.toList,o.dst≠some d:=fun o ho h=>by
     obtain⟨i,hi,rfl⟩:=List.getElem_of_mem ho
     exact hexi ⟨i,_,by simp at hi;simp[hi],h⟩
    rw[zhY _ ops.toList 0 a0 hno]
    exact (hJ.old d hno).symm
  have heq:a=putL (fun i=>if i=c then r else V i r) ops.toList 0 a0:=by
   have h1:a.tmps=(putL (fun i=>if i=c then r else V i r) ops.toList 0 a0).tmps:=by
    refine Array.ext (by rw[zft];exact hJ.sz) fun d h1 h2=>?_
    rw[←hat _ _ h1,←hat _ _ h2]
    exact (hpt d (by rw[←hJ.sz];exact h1)).symm
   have h2:a.defers=(putL (fun i=>if i=c then r else V i r) ops.toList 0 a0).defers:=by rw[zcz];exact hJ.df
   cases a
   cases h:putL (fun i=>if i=c then r else V i r) ops.toList 0 a0
   rw[h] at h1 h2
   simp only at h1 h2
   rw[h1,h2]
  rw[heq]
  exact hdone r w' hP _ (fun i=>rfl)
 ·unfold left
  exact Nat.le_trans (List.countP_le_length) (by simp)
 ·have hf:∀i,(Array.replicate ops.size false).getD i false=false:=fun i=>by
   rcases Nat.lt_or_ge i ops.size with h'|h'
   ·simp[h']
   ·simp[h']
  refine⟨rfl,rfl,fun i o d h=>?_,fun d _=>rfl,fun i o h=>?_,fun _=>rfl,fun h=>?_⟩
  all_goals (rw[hf] at h;cases h)
end
end
end Go.Proofs.YtopghagjmdbglaaGreatDoor
