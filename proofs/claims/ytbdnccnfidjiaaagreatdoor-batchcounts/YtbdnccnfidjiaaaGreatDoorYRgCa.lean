/-
  RgCa.
-/
import Derived.Test.YtbdnccnfidjiaaaGreatDoorGyBg
namespace Go.Proofs.YtbdnccnfidjiaaaGreatDoor
set_option linter.unusedVariables false
set_option linter.unusedSimpArgs false
set_option maxHeartbeats 8000000
section
open Go
def elemT:Value→Nat→Value
 | .tuple a,i=>a.getD i undef
 | _,_=>undef
section
variable {P : Program} {ops : Array Oper} {Q : Exit → Act → World → Prop}
structure RcJ(ops:Array Oper)(c:Nat)(dc:Tmp)(wd:World)(Post:Value→World→Prop)(V:Nat→Value→Value)(a0:Act)(listed:Array Bool)(a:Act)(w:World):Prop where
 sz:a.tmps.size=a0.tmps.size
 df:a.defers=a0.defers
 done:∀i o d,listed.getD i false=true→ops[i]?=some o→o.dst=some d→i≠c→a.tmps.getD d undef=V i (a.tmps.getD dc undef)
 old:∀d,(∀o∈ops.toList,o.dst≠some d)→a.tmps.getD d undef=a0.tmps.getD d undef
 deps:∀(i:Nat) (o:Oper),listed.getD i false=true→ops[i]?=some o→∀e∈o.after,Region.binds .any e=true→listed.getD e.on false=true
 pre:listed.getD c false=false→w=wd
 post:listed.getD c false=true→Post (a.tmps.getD dc undef) w
def rcOk(ops:Array Oper)(n c:Nat):Bool :=
 rgOk ops n&&(ops.toList.all (fun o=>o.dst.isSome)&&((List.range ops.size).all (fun i=>if i<c then (List.range ops.size).any (fun j=>decide (i<j)&&decide (j≤c)&&(match ops[j]? with|some o=>o.after.toList.any (fun e=>Region.binds .any e&&e.on == i)|none=>false)) else if c<i then (match ops[i]? with|some o=>o.after.toList.any (fun e=>Region.binds .any e&&decide (c≤e.on)&&decide (e.on<i))|none=>true) else true)))
theorem zaK{id:Nat}{a0:Act}{w:World}(n c:Nat)(dc:Tmp)(hok:rcOk ops n c=true)(hn:a0.tmps.size=n)(hm:P.follows .mixedOrders=true)(oc:Oper)(hoc:ops[c]?=some oc)(hdc:oc.dst=some dc)
  (Post:Value→World→Prop)(V:Nat→Value→Value)(hV:∀i,i<c→∀r r',V i r=V i r')
  (hstep:∀(i:Nat) (o:Oper) (d:Tmp),ops[i]?=some o→o.dst=some d→i≠c→∀a w' r,(i<c→w'=w.drew)→(c<i→a.tmps.getD dc undef=r∧Post r w') →
   (∀e∈o.after,Region.binds .any e=true→e.on≠c→∀(oj:Oper) (d:Tmp),ops[e.on]?=some oj→oj.dst=some d→a.tmps.getD d undef=V e.on r) →
   (∀d,(ops.toList.all fun o=>!(o.dst == some d))=true→a.tmps.getD d undef=a0.tmps.getD d undef) →
   ∀K:Act→World→Prop,K (a.put (some d) (V i r)) w'→Oper.wp P o a w' K Q)
  (hcall:∀a,(∀e∈oc.after,Region.binds .any e=true→∀(oj:Oper) (d:Tmp),ops[e.on]?=some oj→oj.dst=some d→a.tmps.getD d undef=V e.on undef) →
   (∀d,(ops.toList.all fun o=>!(o.dst == some d))=true→a.tmps.getD d undef=a0.tmps.getD d undef) →
   ∀K:Act→World→Prop,(∀r w',Post r w'→K (a.put (some dc) r) w')→Oper.wp P oc a w.drew K Q)
  (hdone:∀r w',Post r w'→∀vs:Nat→Value,(∀i,vs i=if i=c then r else V i r)→Q .normal (putL vs ops.toList 0 a0) w') :
  (Code.region id ops true).wp P Q a0 w:=by
 rw[rcOk,Bool.and_eq_true,Bool.and_eq_true] at hok
 obtain⟨hok,hsome,hord⟩:=hok
 rw[rgOk,Bool.and_eq_true,Bool.and_eq_true,Bool.and_eq_true] at hok
 obtain⟨c1,c2,c3,c4⟩:=hok
 have hg:∀o∈ops.toList,o.guard=none:=fun o ho=>by
  have:=List.all_eq_true.1 c1 o ho
  simpa using this
 have hu:∀(i j:Nat) (oi oj:Oper) (d:Tmp),ops[i]?=some oi→ops[j]?=some oj→oi.dst=some d→oj.dst=some d→i=j:=fun i j oi oj d hi hj =>
  zeQ ops.toList (of_decide_eq_true c2) i j oi oj d (by simpa using hi) (by simpa using hj)
 have hlt:∀o∈ops.toList,∀d,o.dst=some d→d<a0.tmps.size:=fun o ho d hd=>by
  rw[hn]
  exact of_decide_eq_true (List.all_eq_true.1 c3 d (List.mem_filterMap.2 ⟨o,ho,hd⟩))
 have hac:∀(i:Nat) (o:Oper),ops[i]?=some o→∀e∈o.after,Region.binds .any e=true→e.on<i:=fun i o hi e he hb=>by
  have h:=List.all_eq_true.1 c4 i (List.mem_range.2 (Array.getElem?_eq_some_iff.1 hi).1)
  rw[hi] at h
  have h2:=List.all_eq_true.1 h e (by simpa using he)
  rw[hb] at h2
  simpa using h2
 have hds:∀o∈ops.toList,∃d,o.dst=some d:=fun o ho=>Option.isSome_iff_exists.1 (List.all_eq_true.1 hsome o ho)
 have hcs:c<ops.size:=(Array.getElem?_eq_some_iff.1 hoc).1
 have hbef:∀i,i<c→∃j oj,i<j∧j≤c∧ops[j]?=some oj∧∃e∈oj.after,Region.binds .any e=true∧e.on=i:=fun i hi=>by
  have h:=List.all_eq_true.1 hord i (List.mem_range.2 (by omega))
  rw[if_pos hi] at h
  obtain⟨j,hj,hj2⟩:=List.any_eq_true.1 h
  rw[Bool.and_eq_true,Bool.and_eq_true] at hj2
  obtain⟨⟨h1,h2⟩,h3⟩:=hj2
  cases hoj:ops[j]? with
  | none=>rw[hoj] at h3;cases h3
  | some oj =>
   rw[hoj] at h3
   obtain⟨e,he,he2⟩:=List.any_eq_true.1 h3
   rw[Bool.and_eq_true] at he2
   exact⟨j,oj,of_decide_eq_true h1,of_decide_eq_true h2,hoj,e,by simpa using he,he2.1,by simpa using he2.2⟩
 have haft:∀i o,c<i→ops[i]?=some o→∃e∈o.after,Region.binds .any e=true∧c≤e.on∧e.on<i:=fun i o hi ho=>by
  have h:=List.all_eq_true.1 hord i (List.mem_range.2 (Array.getElem?_eq_some_iff.1 ho).1)
  rw[if_neg (by omega),if_pos hi,ho] at h
  obtain⟨e,he,he2⟩:=List.any_eq_true.1 h
  rw[Bool.and_eq_true,Bool.and_eq_true] at he2
  exact⟨e,by simpa using he,he2.1.1,of_decide_eq_true he2.1.2,of_decide_eq_true he2.2⟩
 have hmemc:oc∈ops.toList:=by have:=Array.mem_of_getElem? hoc;simpa using this
 -- all ahead of the call are listed with it;none behind it is listed without it
 have hclo:∀listed:Array Bool,(∀(i:Nat) (o:Oper),listed.getD i false=true→ops[i]?=some o→∀e∈o.after,Region.binds .any e=true→listed.getD e.on false=true)→listed.getD c false=true→∀m i,c-i=m→i≤c→listed.getD i false=true:=fun listed hd hc m=>by
  induction m using Nat.strongRecOn with
  | ind m ih =>
   intro i him hic
   by_cases hie:i=c
   ·rw[hie];exact hc
   ·obtain⟨j,oj,h1,h2,h3,e,he,hb,hei⟩:=hbef i (by omega)
    rw[←hei]
    exact hd j oj (ih (c-j) (by omega) j rfl h2) h3 e he hb
 have haftc:∀listed:Array Bool,(∀(i:Nat) (o:Oper),listed.getD i false=true→ops[i]?=some o→∀e∈o.after,Region.binds .any e=true→listed.getD e.on false=true)→∀i o,c≤i→ops[i]?=some o→listed.getD i false=true→listed.getD c false=true:=fun listed hd i=>by
  induction i using Nat.strongRecOn with
  | ind i ih =>
   intro o hci ho hl
   by_cases hie:i=c
   ·rw[←hie];exact hl
   ·obtain⟨e,he,hb,h1,h2⟩:=haft i o (by omega) ho
    have hle:=hd i o hl ho e he hb
    have heo:e.on<ops.size:=by have:=(Array.getElem?_eq_some_iff.1 ho).1;omega
    exact ih e.on h2 ops[e.on] h1 (by simp[heo]) hle
 have hex:∀(i:Nat) (o:Oper),ops[i]?=some o→o∈ops.toList:=fun i o ho=>by have:=Array.mem_of_getElem? ho;simpa using this
 have hold:∀(d:Tmp),(ops.toList.all fun o=>!(o.dst == some d))=true→∀o∈ops.toList,o.dst≠some d:=fun d h o ho e=>by
  have:=List.all_eq_true.1 h o ho
  rw[e] at this
  simp at this
 refine wp_region_any hm ?_
 refine zeU (RcJ ops c dc w.drew Post V a0) ?_ ?_ ops.size _ a0 _ (by simp) ?_ ?_
 ·intro listed a w' hs hJ i hi
  obtain⟨h0,o,ho,hall⟩:=mem_ready.1 hi
  have hio:i<ops.size:=(Array.getElem?_eq_some_iff.1 ho).1
  have hmem:=hex i o ho
  have h00:listed.getD i false=false:=by
   have hsz:i<listed.size:=by
    rcases Nat.lt_or_ge i listed.size with h'|h'
    ·exact h'
    ·simp[Array.getElem?_eq_none h'] at h0
   simpa [hsz] using h0
  obtain⟨d,hd⟩:=hds o hmem
  refine wpOp_step ho fun K' hK=>?_
  rw[if_pos (by simp[Region.wanted,hg o hmem])]
  have hdd:d<a.tmps.size:=by rw[hJ.sz];exact hlt o hmem d hd
  by_cases hic:i=c
  ·subst hic
   obtain rfl:o=oc:=Option.some.inj (ho.symm.trans hoc)
   obtain rfl:d=dc:=Option.some.inj (hd.symm.trans hdc)
   have hw:=hJ.pre h00
   subst hw
   refine hcall a (fun e he hb oj dj hoj hdj=>?_) (fun dj hdj=>hJ.old dj (hold dj hdj)) K' (fun r w' hp=>?_)
   ·have hne:=hac i o ho e he hb
    rw[hJ.done e.on oj dj (hall e he hb) hoj hdj (by omega)]
    exact hV e.on hne _ _
   ·rw[←hd]
    refine hK _ w' ?_
    have hput:(a.put o.dst r).tmps.getD d undef=r:=by rw[hd,zmp _ _ hdd]
    refine⟨by rw[zdl];exact hJ.sz,by rw[zbQ];exact hJ.df,fun j oj dj hj hoj hdj hjc=>?_,fun dj hdj=>?_,fun j oj hj hoj e he hb=>?_,fun hc=>?_,fun _=>?_⟩
    ·rw[getD_set_ne false (by omega)] at hj
     have hjlt:j<i:=by
      rcases Nat.lt_or_ge j i with h|h
      ·exact h
      ·have:=haftc listed hJ.deps j oj h hoj hj
       rw[h00] at this;cases this
     rw[hput,hd,zfI _ _ (fun h=>hjc (hu j i oj o d hoj ho (by rw[hdj];injection h with h;rw[h]) hd)),hJ.done j oj dj hj hoj hdj hjc]
     exact hV j hjlt _ _
    ·rw[zfI _ _ (hdj o hmem)]
     exact hJ.old dj hdj
    ·by_cases hji:i=j
     ·subst hji
      obtain rfl:o=oj:=Option.some.inj (ho.symm.trans hoj)
      exact getD_set_true (hall e he hb)
     ·rw[getD_set_ne false hji] at hj
      exact getD_set_true (hJ.deps j oj hj hoj e he hb)
    ·have hsz:i<listed.size:=by omega
     simp[hsz] at hc
    ·rw[hput];exact hp
  ·have hne:d≠dc:=fun h=>hic (hu i c o oc d ho hoc hd (by rw[hdc,h]))
   have hwd:i<c→w'=w.drew:=fun hlt=>by
    refine hJ.pre ?_
    cases hc:listed.getD c false with
    | false=>rfl
    | true =>
     have:=hclo listed hJ.deps hc (c-i) i rfl (by omega)
     rw[h00] at this;cases this
   refine hstep i o d ho hd hic a w' (a.tmps.getD dc undef) hwd (fun hci=>⟨rfl,hJ.post (by
    obtain⟨e,he,hb,h1,h2⟩:=haft i o hci ho
    have heo:e.on<ops.size:=by omega
    exact haftc listed hJ.deps e.on ops[e.on] h1 (by simp[heo]) (hall e he hb))⟩) (fun e he hb hec oj dj hoj hdj=>hJ.done e.on oj dj (hall e he hb) hoj hdj hec) (fun dj hdj=>hJ.old dj (hold dj hdj)) K' ?_
   rw[←hd]
   refine hK _ w' ?_
   have hput:(a.put o.dst (V i (a.tmps.getD dc undef))).tmps.getD dc undef=a.tmps.getD dc undef:=by rw[hd,zfI _ _ (fun h=>hne (by injection h))]
   refine⟨by rw[zdl];exact hJ.sz,by rw[zbQ];exact hJ.df,fun j oj dj hj hoj hdj hjc=>?_,fun dj hdj=>?_,fun j oj hj hoj e he hb=>?_,fun hc=>?_,fun hc=>?_⟩
   ·rw[hput]
    by_cases hji:i=j
    ·subst hji
     obtain rfl:o=oj:=Option.some.inj (ho.symm.trans hoj)
     obtain rfl:d=dj:=Option.some.inj (hd.symm.trans hdj)
     rw[hd,zmp _ _ hdd]
    ·rw[getD_set_ne false hji] at hj
     rw[hd,zfI _ _ (fun h=>hji (hu i j o oj d ho hoj hd (by rw[hdj];injection h with h;rw[h])))]
     exact hJ.done j oj dj hj hoj hdj hjc
   ·rw[zfI _ _ (hdj o hmem)]
    exact hJ.old dj hdj
   ·by_cases hji:i=j
    ·subst hji
     obtain rfl:o=oj:=Option.some.inj (ho.symm.trans hoj)
     exact getD_set_true (hall e he hb)
    ·rw[getD_set_ne false hji] at hj
     exact getD_set_true (hJ.deps j oj hj hoj e he hb)
   ·rw[getD_set_ne false hic] at hc
    exact hJ.pre hc
   ·rw[getD_set_ne false hic] at hc
    rw[hput]
    exact hJ.post hc
 ·intro listed a w' hs hJ hr
  have hall:∀i,i<ops.size→listed.getD i false=true:=by
   intro i
   induction i using Nat.strongRecOn with
   | ind i ih =>
    intro hi
    by_cases hl:listed.getD i false=true
    ·exact hl
    ·have hl2:listed.getD i true=false:=by
      have hi2:i<listed.size:=by omega
      simp[hi2] at hl ⊢
      exact hl
     have hin:i∈Region.ready .any ops listed:=mem_ready.2 ⟨hl2,ops[i],by simp[hi],fun e he hb=>ih e.on (hac i ops[i] (by simp[hi]) e he hb) (by have:=hac i ops[i] (by simp[hi]) e he hb;omega)⟩
     rw[hr] at hin
     cases hin
  have hat:∀(t:Array Value) (d:Nat) (h:d<t.size),t.getD d undef=t[d]:=fun t d h=>by simp[h]
  obtain⟨r,hrr⟩:∃r,a.tmps.getD dc undef=r:=⟨_,rfl⟩
  have hP:=hJ.post (hall c hcs)
  rw[hrr] at hP
  have hpt:∀d,d<a0.tmps.size→(putL (fun i=>if i=c then r else V i r) ops.toList 0 a0).tmps.getD d undef=a.tmps.getD d undef:=fun d hd=>by
   by_cases hexi:∃(i:Nat) (o:Oper),ops[i]?=some o∧o.dst=some d
   ·obtain⟨i,o,ho,hod⟩:=hexi
    rw[zky _ ops.toList 0 a0 i o (by simpa using ho) hod (fun j' o' h1 h2=>hu j' i o' o d (by simpa using h1) ho h2 hod) hd,Nat.zero_add]
    by_cases hic:i=c
    ·subst hic
     obtain rfl:o=oc:=Option.some.inj (ho.symm.trans hoc)
     obtain rfl:d=dc:=Option.some.inj (hod.symm.trans hdc)
     rw[if_pos rfl,hrr]
    ·rw[if_neg hic,hJ.done i o d (hall i (Array.getElem?_eq_some_iff.1 ho).1) ho hod hic,hrr]
   ·have hno:∀o∈ops.toList,o.dst≠some d:=fun o ho h=>by
     obtain⟨i,hi,rfl⟩:=List.getElem_of_mem ho
     exact hexi ⟨i,_,by simp at hi;simp[hi],h⟩
    rw[zhK _ ops.toList 0 a0 hno]
    exact (hJ.old d hno).symm
  have heq:a=putL (fun i=>if i=c then r else V i r) ops.toList 0 a0:=by
   have h1:a.tmps=(putL (fun i=>if i=c then r else V i r) ops.toList 0 a0).tmps:=by
    refine Array.ext (by rw[zeB];exact hJ.sz) fun d h1 h2=>?_
    rw[←hat _ _ h1,←hat _ _ h2]
    exact (hpt d (by rw[←hJ.sz];exact h1)).symm
   have h2:a.defers=(putL (fun i=>if i=c then r else V i r) ops.toList 0 a0).defers:=by rw[zcp];exact hJ.df
   cases a
   cases h:putL (fun i=>if i=c then r else V i r) ops.toList 0 a0
   rw[h] at h1 h2
   simp only at h1 h2
   rw[h1,h2]
  rw[heq]
  exact hdone r w' hP _ (fun i=>rfl)
 ·unfold left
  exact Nat.le_trans (List.countP_le_length) (by simp)
 ·have hf:∀i,(Array.replicate ops.size false).getD i false=false:=fun i=>by
   rcases Nat.lt_or_ge i ops.size with h'|h'
   ·simp[h']
   ·simp[h']
  refine⟨rfl,rfl,fun i o d h=>?_,fun d _=>rfl,fun i o h=>?_,fun _=>rfl,fun h=>?_⟩
  all_goals (rw[hf] at h;cases h)
end
end
end Go.Proofs.YtbdnccnfidjiaaaGreatDoor
