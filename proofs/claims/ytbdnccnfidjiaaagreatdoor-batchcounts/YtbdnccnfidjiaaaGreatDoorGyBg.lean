/-
  RgInv, RgFi.
-/
import Derived.RegionTactic
namespace Go.Proofs.YtbdnccnfidjiaaaGreatDoor
set_option linter.unusedVariables false
set_option linter.unusedSimpArgs false
set_option maxHeartbeats 8000000
section
open Go
section
variable {P : Program} {ops : Array Oper} {Q : Exit → Act → World → Prop} {md : Region.Mode}
theorem zhk{p q:Nat→Bool}:∀(l:List Nat),(∀j∈l,q j=true→p j=true)→(∃i∈l,p i=true∧q i=false)→l.countP q<l.countP p
 | [],_,h=>by obtain⟨_,h,_⟩:=h;cases h
 | x::l,h1,h2=>by
  have hle:l.countP q≤l.countP p:=List.countP_mono_left (fun j hj h=>h1 j (List.mem_cons_of_mem _ hj) h)
  rw[List.countP_cons,List.countP_cons]
  obtain⟨i,hi,hp,hq⟩:=h2
  rcases List.mem_cons.1 hi with rfl|hi
  ·rw[if_pos hp,if_neg (by rw[hq];decide)];omega
  ·have hlt:=zhk l (fun j hj h=>h1 j (List.mem_cons_of_mem _ hj) h) ⟨i,hi,hp,hq⟩
   by_cases hx:q x=true
   ·rw[if_pos hx,if_pos (h1 x (List.mem_cons_self ..) hx)];omega
   ·rw[if_neg hx];split<;>omega
def left(n:Nat)(listed:Array Bool):Nat:=(List.range n).countP fun i=>!listed.getD i true
theorem znj{n i:Nat}{listed:Array Bool}(hi:i<n)(h:listed.getD i true=false):left n (listed.setIfInBounds i true)<left n listed:=by
 have hsz:i<listed.size:=by
  rcases Nat.lt_or_ge i listed.size with h'|h'
  ·exact h'
  ·simp[Array.getElem?_eq_none h'] at h
 refine zhk _ (fun j _ hj=>?_) ⟨i,List.mem_range.2 hi,by rw[h];rfl,by simp[hsz]⟩
 by_cases hij:i=j
 ·subst hij;rw[h];rfl
 ·rwa [getD_set_ne true hij] at hj
theorem zeU(J:Array Bool→Act→World→Prop)
  (hstep:∀listed a w,listed.size=ops.size→J listed a w→∀i∈Region.ready md ops listed,wpOp P ops Q i (J (listed.setIfInBounds i true)) a w)
  (hdone:∀listed a w,listed.size=ops.size→J listed a w→Region.ready md ops listed=[]→Q .normal a w) :
  ∀(fuel:Nat) (listed:Array Bool) (a:Act) (w:World),listed.size=ops.size→left ops.size listed≤fuel→J listed a w→wpAny P md ops Q fuel listed a w
 | 0,listed,a,w,hs,hl,hJ=>by
  have hr:Region.ready md ops listed=[]:=by
   cases h:Region.ready md ops listed with
   | nil=>rfl
   | cons x xs =>
    have hx:x∈Region.ready md ops listed:=by rw[h];exact List.mem_cons_self ..
    obtain⟨h0,o,ho,_⟩:=mem_ready.1 hx
    have hlt:x<ops.size:=(Array.getElem?_eq_some_iff.1 ho).1
    have:=znj hlt h0
    omega
  exact⟨hr,hdone _ _ _ hs hJ hr⟩
 | fuel+1,listed,a,w,hs,hl,hJ=>by
  refine⟨hdone _ _ _ hs hJ,fun i hi=>?_⟩
  obtain⟨h0,o,ho,_⟩:=mem_ready.1 hi
  have hlt:i<ops.size:=(Array.getElem?_eq_some_iff.1 ho).1
  have:=znj hlt h0
  exact wpOp_mono (fun a' w' h=>zeU J hstep hdone fuel _ a' w' (by simpa using hs) (by omega) h) (hstep listed a w hs hJ i hi)
def putL(vs:Nat→Value):List Oper→Nat→Act→Act
 | [],_,a=>a
 | o::l,k,a=>putL vs l (k+1) (a.put o.dst (vs k))
theorem zdl(a:Act)(d:Option Tmp)(v:Value):(a.put d v).tmps.size=a.tmps.size:=by
 cases d<;>simp[Act.put]
theorem zbQ(a:Act)(d:Option Tmp)(v:Value):(a.put d v).defers=a.defers:=by
 cases d<;>simp[Act.put]
theorem zfI(a:Act){d:Option Tmp}{e:Tmp}(v:Value)(h:d≠some e):(a.put d v).tmps.getD e undef=a.tmps.getD e undef:=by
 cases d with
 | none=>rfl
 | some d =>
  have:d≠e:=fun hh=>h (by rw[hh])
  simp[Act.put,Array.getElem?_setIfInBounds_ne this]
theorem zmp(a:Act){e:Tmp}(v:Value)(h:e<a.tmps.size):(a.put (some e) v).tmps.getD e undef=v:=by
 simp[Act.put,h]
theorem zeB(vs:Nat→Value):∀(l:List Oper) (k:Nat) (a:Act),(putL vs l k a).tmps.size=a.tmps.size
 | [],_,_=>rfl
 | o::l,k,a=>by rw[putL,zeB vs l,zdl]
theorem zcp(vs:Nat→Value):∀(l:List Oper) (k:Nat) (a:Act),(putL vs l k a).defers=a.defers
 | [],_,_=>rfl
 | o::l,k,a=>by rw[putL,zcp vs l,zbQ]
theorem zhK(vs:Nat→Value){e:Tmp}:∀(l:List Oper) (k:Nat) (a:Act),(∀o∈l,o.dst≠some e)→(putL vs l k a).tmps.getD e undef=a.tmps.getD e undef
 | [],_,_,_=>rfl
 | o::l,k,a,h=>by rw[putL,zhK vs l _ _ (fun o ho=>h o (List.mem_cons_of_mem _ ho)),zfI _ _ (h o (List.mem_cons_self ..))]
theorem zky(vs:Nat→Value){e:Tmp}:∀(l:List Oper) (k:Nat) (a:Act) (j:Nat) (o:Oper),l[j]?=some o→o.dst=some e→(∀j' o',l[j']?=some o'→o'.dst=some e→j'=j)→e<a.tmps.size→(putL vs l k a).tmps.getD e undef=vs (k+j)
 | [],_,_,_,_,h,_,_,_=>by cases h
 | o::l,k,a,0,o',h,hd,hu,hl=>by
  injection h with h
  subst h
  rw[putL,zhK vs l _ _ (fun o' ho' hd'=>?_),hd,zmp _ _ hl]
  ·rfl
  ·obtain⟨j',hj',rfl⟩:=List.getElem_of_mem ho'
   exact absurd (hu (j'+1) l[j'] (by simp[hj']) hd') (by omega)
 | o::l,k,a,j+1,o',h,hd,hu,hl=>by
  rw[putL,zky vs l (k+1) _ j o' (by simpa using h) hd (fun j' o'' h1 h2=>by have:=hu (j'+1) o'' (by simpa using h1) h2;omega) (by rw[zdl];exact hl)]
  congr 1
  omega
theorem zeQ:∀(l:List Oper),(l.filterMap (·.dst)).Nodup→∀(i j:Nat) (oi oj:Oper) (d:Tmp),l[i]?=some oi→l[j]?=some oj→oi.dst=some d→oj.dst=some d→i=j
 | [],_,i,_,_,_,_,h,_,_,_=>by simp at h
 | o::l,hn,i,j,oi,oj,d,hi,hj,h1,h2=>by
  have hin:∀{k:Nat} {ok:Oper},l[k]?=some ok→ok.dst=some d→d∈l.filterMap (·.dst):=fun {k ok} hk hd=>List.mem_filterMap.2 ⟨ok,List.mem_of_getElem? hk,hd⟩
  cases i with
  | zero =>
   cases j with
   | zero=>rfl
   | succ j =>
    exfalso
    have e:o=oi:=by simpa using hi
    subst e
    rw[List.filterMap_cons_some h1] at hn
    exact (List.nodup_cons.1 hn).1 (hin (by simpa using hj) h2)
  | succ i =>
   cases j with
   | zero =>
    exfalso
    have e:o=oj:=by simpa using hj
    subst e
    rw[List.filterMap_cons_some h2] at hn
    exact (List.nodup_cons.1 hn).1 (hin (by simpa using hi) h1)
   | succ j =>
    have hn':(l.filterMap (·.dst)).Nodup:=by
     cases ho:o.dst with
     | none=>rwa [List.filterMap_cons_none ho] at hn
     | some e=>rw[List.filterMap_cons_some ho] at hn;exact (List.nodup_cons.1 hn).2
    rw[zeQ l hn' i j oi oj d (by simpa using hi) (by simpa using hj) h1 h2]
def rgOk(ops:Array Oper)(n:Nat):Bool :=
 ops.toList.all (fun o=>o.guard.isNone)&&(decide ((ops.toList.filterMap (·.dst)).Nodup)&&((ops.toList.filterMap (·.dst)).all (fun d=>decide (d<n)) &&
  (List.range ops.size).all fun i=>match ops[i]? with
   | some o=>o.after.toList.all fun e=>!Region.binds .any e||decide (e.on<i)
   | none=>true))
end
end
section
open Go
section
variable {P : Program} {ops : Array Oper} {Q : Exit → Act → World → Prop}
structure RfJ(ops:Array Oper)(m:Nat)(Le:World→World→Prop)(R:Nat→Value→World→Prop)(a0:Act)(w0:World)(listed:Array Bool)(a:Act)(w:World):Prop where
 le:Le w0 w
 sz:a.tmps.size=a0.tmps.size
 df:a.defers=a0.defers
 done:∀i o d,i<m→listed.getD i false=true→ops[i]?=some o→o.dst=some d→R i (a.tmps.getD d undef) w
 old:∀d,(∀o∈ops.toList,o.dst≠some d)→a.tmps.getD d undef=a0.tmps.getD d undef
def rfOk(ops:Array Oper)(n m:Nat):Bool :=
 rgOk ops n&&(decide (ops.size=m+1)&&((List.range m).all (fun i=>(match ops[i]? with|some o=>o.dst.isSome|none=>false)&&(match ops[m]? with|some o=>o.after.toList.any (fun e=>Region.binds .any e&&e.on == i)|none=>false))))
theorem zfY{id:Nat}{a0:Act}{w:World}(n m:Nat)(hok:rfOk ops n m=true)(hn:a0.tmps.size=n)(hm:P.follows .mixedOrders=true)(om:Oper)(hom:ops[m]?=some om)(hdm:om.dst=none)(Le:World→World→Prop)(hrefl:∀w,Le w w)(htrans:∀a b c,Le a b→Le b c→Le a c)
  (R:Nat→Value→World→Prop)(hR:∀i v w1 w2,Le w1 w2→R i v w1→R i v w2)
  (hstep:∀(i:Nat) (o:Oper) (d:Tmp),i<m→ops[i]?=some o→o.dst=some d→∀a w',Le w.drew w' →
   (∀e∈o.after,Region.binds .any e=true→∀(oj:Oper) (d:Tmp),ops[e.on]?=some oj→oj.dst=some d→R e.on (a.tmps.getD d undef) w') →
   (∀d,(ops.toList.all fun o=>!(o.dst == some d))=true→a.tmps.getD d undef=a0.tmps.getD d undef) →
   ∀K:Act→World→Prop,(∀v w'',R i v w''→Le w' w''→K (a.put (some d) v) w'')→Oper.wp P o a w' K Q)
  (hfin:∀(vs:Nat→Value) w',Le w.drew w'→(∀i,i<m→R i (vs i) w')→∀K:Act→World→Prop,(∀a' w'',Q .normal a' w''→K a' w'')→Oper.wp P om (putL vs (ops.toList.take m) 0 a0) w' K Q) :
  (Code.region id ops true).wp P Q a0 w:=by
 rw[rfOk,Bool.and_eq_true,Bool.and_eq_true] at hok
 obtain⟨hok,hsz,hall0⟩:=hok
 have hsz:ops.size=m+1:=of_decide_eq_true hsz
 rw[rgOk,Bool.and_eq_true,Bool.and_eq_true,Bool.and_eq_true] at hok
 obtain⟨c1,c2,c3,c4⟩:=hok
 have hg:∀o∈ops.toList,o.guard=none:=fun o ho=>by
  have:=List.all_eq_true.1 c1 o ho
  simpa using this
 have hu:∀(i j:Nat) (oi oj:Oper) (d:Tmp),ops[i]?=some oi→ops[j]?=some oj→oi.dst=some d→oj.dst=some d→i=j:=fun i j oi oj d hi hj =>
  zeQ ops.toList (of_decide_eq_true c2) i j oi oj d (by simpa using hi) (by simpa using hj)
 have hlt:∀o∈ops.toList,∀d,o.dst=some d→d<a0.tmps.size:=fun o ho d hd=>by
  rw[hn]
  exact of_decide_eq_true (List.all_eq_true.1 c3 d (List.mem_filterMap.2 ⟨o,ho,hd⟩))
 have hac:∀(i:Nat) (o:Oper),ops[i]?=some o→∀e∈o.after,Region.binds .any e=true→e.on<i:=fun i o hi e he hb=>by
  have h:=List.all_eq_true.1 c4 i (List.mem_range.2 (Array.getElem?_eq_some_iff.1 hi).1)
  rw[hi] at h
  have h2:=List.all_eq_true.1 h e (by simpa using he)
  rw[hb] at h2
  simpa using h2
 have hds:∀i o,i<m→ops[i]?=some o→∃d,o.dst=some d:=fun i o hi ho=>by
  have h:=List.all_eq_true.1 hall0 i (List.mem_range.2 hi)
  rw[Bool.and_eq_true,ho] at h
  exact Option.isSome_iff_exists.1 h.1
 have hbm:∀i,i<m→∃e∈om.after,Region.binds .any e=true∧e.on=i:=fun i hi=>by
  have h:=List.all_eq_true.1 hall0 i (List.mem_range.2 hi)
  rw[Bool.and_eq_true,hom] at h
  obtain⟨e,he,he2⟩:=List.any_eq_true.1 h.2
  rw[Bool.and_eq_true] at he2
  exact⟨e,by simpa using he,he2.1,by simpa using he2.2⟩
 have hex:∀(i:Nat) (o:Oper),ops[i]?=some o→o∈ops.toList:=fun i o ho=>by have:=Array.mem_of_getElem? ho;simpa using this
 have hold:∀(d:Tmp),(ops.toList.all fun o=>!(o.dst == some d))=true→∀o∈ops.toList,o.dst≠some d:=fun d h o ho e=>by
  have:=List.all_eq_true.1 h o ho
  rw[e] at this
  simp at this
 refine wp_region_any hm ?_
 refine zeU (fun listed a w'=>(listed.getD m false=false∧RfJ ops m Le R a0 w.drew listed a w')∨((∀i,i<ops.size→listed.getD i false=true)∧Q .normal a w')) ?_ ?_ ops.size _ a0 _ (by simp) ?_ ?_
 ·intro listed a w' hs hJ i hi
  obtain⟨h0,o,ho,hall⟩:=mem_ready.1 hi
  have hio:i<ops.size:=(Array.getElem?_eq_some_iff.1 ho).1
  have hmem:=hex i o ho
  have h00:listed.getD i false=false:=by
   have hsz:i<listed.size:=by omega
   simpa [hsz] using h0
  rcases hJ with ⟨hml,hJ⟩|⟨hal,-⟩
  ·refine wpOp_step ho fun K' hK=>?_
   rw[if_pos (by simp[Region.wanted,hg o hmem])]
   by_cases him:i=m
   ·subst him
    obtain rfl:o=om:=Option.some.inj (ho.symm.trans hom)
    have hl:∀j,j<i→listed.getD j false=true:=fun j hj=>by
     obtain⟨e,he,hb,hej⟩:=hbm j hj
     rw[←hej];exact hall e he hb
    have hat:∀(t:Array Value) (d:Nat) (h:d<t.size),t.getD d undef=t[d]:=fun t d h=>by simp[h]
    obtain⟨vs,hvs⟩:∃vs:Nat→Value,∀i o d,ops[i]?=some o→o.dst=some d→vs i=a.tmps.getD d undef:=⟨fun i=>a.tmps.getD (((ops[i]?).bind (·.dst)).getD 0) undef,fun i o d ho hd=>by simp[ho,hd]⟩
    have htk:∀j (oj:Oper),(ops.toList.take i)[j]?=some oj→j<i∧ops[j]?=some oj:=fun j oj h=>by
     have hj:j<i:=by
      have:=(List.getElem?_eq_some_iff.1 h).1
      rw[List.length_take] at this;omega
     rw[List.getElem?_take_of_lt hj] at h
     exact⟨hj,by simpa using h⟩
    have hpt:∀d,d<a0.tmps.size→(putL vs (ops.toList.take i) 0 a0).tmps.getD d undef=a.tmps.getD d undef:=fun d hd=>by
     by_cases hexi:∃(j:Nat) (oj:Oper),j<i∧ops[j]?=some oj∧oj.dst=some d
     ·obtain⟨j,oj,hj,hoj,hod⟩:=hexi
      rw[zky vs (ops.toList.take i) 0 a0 j oj (by rw[List.getElem?_take_of_lt hj];simpa using hoj) hod (fun j' o' h1 h2=>hu j' j o' oj d (htk j' o' h1).2 hoj h2 hod) hd,Nat.zero_add]
      exact hvs j oj d hoj hod
     ·have hno:∀oj∈ops.toList,oj.dst≠some d:=fun oj hoj h=>by
       obtain⟨j,hj,rfl⟩:=List.getElem_of_mem hoj
       have hj2:j<ops.size:=by simpa using hj
       have hjm:j≠i:=fun e=>by
        subst e
        have e2:ops.toList[j]=o:=by
         have:=ho
         rw[Array.getElem?_eq_getElem hj2] at this
         injection this with this
        rw[e2,hdm] at h
        cases h
       exact hexi ⟨j,ops.toList[j],by omega,by simp[hj2],h⟩
      rw[zhK vs (ops.toList.take i) 0 a0 (fun oj hoj=>hno oj (List.mem_of_mem_take hoj))]
      exact (hJ.old d hno).symm
    have heq:a=putL vs (ops.toList.take i) 0 a0:=by
     have h1:a.tmps=(putL vs (ops.toList.take i) 0 a0).tmps:=by
      refine Array.ext (by rw[zeB];exact hJ.sz) fun d h1 h2=>?_
      rw[←hat _ _ h1,←hat _ _ h2]
      exact (hpt d (by rw[←hJ.sz];exact h1)).symm
     have h2:a.defers=(putL vs (ops.toList.take i) 0 a0).defers:=by rw[zcp];exact hJ.df
     cases a
     cases h:putL vs (ops.toList.take i) 0 a0
     rw[h] at h1 h2
     simp only at h1 h2
     rw[h1,h2]
    rw[heq]
    refine hfin vs w' hJ.le (fun j hj=>?_) K' (fun a' w'' hq=>?_)
    ·have hj2:j<ops.size:=by omega
     obtain⟨d,hd⟩:=hds j ops[j] hj (by simp[hj2])
     rw[hvs j ops[j] d (by simp[hj2]) hd]
     exact hJ.done j ops[j] d hj (hl j hj) (by simp[hj2]) hd
    ·refine hK a' w'' (.inr ⟨fun j hj=>?_,hq⟩)
     by_cases hji:i=j
     ·subst hji
      have hz:i<listed.size:=by omega
      simp[hz]
     ·exact getD_set_true (hl j (by omega))
   ·obtain⟨d,hd⟩:=hds i o (by omega) ho
    have hdd:d<a.tmps.size:=by rw[hJ.sz];exact hlt o hmem d hd
    refine hstep i o d (by omega) ho hd a w' hJ.le (fun e he hb oj dj hoj hdj=>hJ.done e.on oj dj (by have:=hac i o ho e he hb;omega) (hall e he hb) hoj hdj) (fun dj hdj=>hJ.old dj (hold dj hdj)) K' (fun v w'' hv hle=>?_)
    rw[←hd]
    refine hK _ w'' (.inl ⟨by rw[getD_set_ne false him];exact hml,⟨htrans _ _ _ hJ.le hle,by rw[zdl];exact hJ.sz,by rw[zbQ];exact hJ.df,fun j oj dj hjm hj hoj hdj=>?_,fun dj hdj=>?_⟩⟩)
    ·by_cases hji:i=j
     ·subst hji
      obtain rfl:o=oj:=Option.some.inj (ho.symm.trans hoj)
      obtain rfl:d=dj:=Option.some.inj (hd.symm.trans hdj)
      rw[hd,zmp _ _ hdd]
      exact hv
     ·rw[getD_set_ne false hji] at hj
      rw[hd,zfI _ _ (fun h=>hji (hu i j o oj d ho hoj hd (by rw[hdj];injection h with h;rw[h])))]
      exact hR _ _ _ _ hle (hJ.done j oj dj hjm hj hoj hdj)
    ·rw[zfI _ _ (hdj o hmem)]
     exact hJ.old dj hdj
  ·have:=hal i hio
   rw[h00] at this;cases this
 ·intro listed a w' hs hJ hr
  rcases hJ with ⟨hml,hJ⟩|⟨-,hq⟩
  ·exfalso
   have hall:∀i,i<ops.size→listed.getD i false=true:=by
    intro i
    induction i using Nat.strongRecOn with
    | ind i ih =>
     intro hi
     by_cases hl:listed.getD i false=true
     ·exact hl
     ·have hl2:listed.getD i true=false:=by
       have hi2:i<listed.size:=by omega
       simp[hi2] at hl ⊢
       exact hl
      have hin:i∈Region.ready .any ops listed:=mem_ready.2 ⟨hl2,ops[i],by simp[hi],fun e he hb=>ih e.on (hac i ops[i] (by simp[hi]) e he hb) (by have:=hac i ops[i] (by simp[hi]) e he hb;omega)⟩
      rw[hr] at hin
      cases hin
   have:=hall m (by omega)
   rw[hml] at this;cases this
  ·exact hq
 ·unfold left
  exact Nat.le_trans (List.countP_le_length) (by simp)
 ·have hf:∀i,(Array.replicate ops.size false).getD i false=false:=fun i=>by
   rcases Nat.lt_or_ge i ops.size with h'|h'
   ·simp[h']
   ·simp[h']
  refine .inl ⟨hf m,hrefl _,rfl,rfl,fun i o d _ h=>?_,fun d _=>rfl⟩
  rw[hf] at h;cases h
end
end
end Go.Proofs.YtbdnccnfidjiaaaGreatDoor
