/-
  GpP, GpQ, GpR.
-/
import Derived.Test.YtbdnccnfidjiaaaGreatDoorGyAx
import Derived.Test.YtbdnccnfidjiaaaGreatDoorGyAy
import Derived.Test.YtbdnccnfidjiaaaGreatDoorGyAi
import Derived.Test.YtbdnccnfidjiaaaGreatDoorGyAh
namespace Go.Proofs.YtbdnccnfidjiaaaGreatDoor
open Go.RowKit
set_option linter.unusedVariables false
set_option linter.unusedSimpArgs false
set_option maxHeartbeats 8000000
abbrev PG:=List V3×List (List V3)
abbrev PW:=Int×List PG
open Classical in
noncomputable def tlE(ps0:List Pt)(rs:List (List V3)):Int:=if h:∃ps,Acu ps0 rs ps then reE h.choose (rs.length:Int) else 0
open Classical in
noncomputable def tlR(ps0:List Pt)(rs:List (List V3)):List V3:=if h:∃ps,Acu ps0 rs ps then reV h.choose (rs.length:Int) else []
theorem tl_of{ps0 ps:List Pt}{rs:List (List V3)}(h:Acu ps0 rs ps):reE ps (rs.length:Int)=tlE ps0 rs∧reV ps (rs.length:Int)=tlR ps0 rs:=by
 have hx:∃ps,Acu ps0 rs ps:=⟨ps,h⟩
 rw[tlE,tlR,dif_pos hx,dif_pos hx]
 exact zmB h hx.choose_spec (List.Perm.refl _)
noncomputable def gOt(ps0:List Pt)(fr:Int)(g:PG):Ot:=if tlE ps0 g.2=0 then (g.1++tlR ps0 g.2,0,fr) else ([],tlE ps0 g.2,fr)
noncomputable def wOt(ps0:List Pt)(x:PW):List Ot:=x.2.map (gOt ps0 x.1)
def gAdd(key vs:List V3):List PG→List PG
 | []=>[(key,[vs])]
 | g::t=>if keyC g.1 key<0 then g::gAdd key vs t else if keyC g.1 key=0 then (g.1,g.2++[vs])::t else (key,[vs])::g::t
def wAdd(key vs:List V3)(fr:Int):List PW→List PW
 | []=>[(fr,gAdd key vs [])]
 | x::t=>if x.1<fr then x::wAdd key vs fr t else if x.1=fr then (x.1,gAdd key vs x.2)::t else (fr,gAdd key vs [])::x::t
def gRoom(key:List V3)(l:List PG):Bool:=l.any (fun g=>keyC g.1 key == 0)||decide (l.length<40)
def wFull(key:List V3)(l:List PW)(fr:Int):Bool:=l.any fun x=>x.1 == fr&&!gRoom key x.2
structure GOk(kt:List Int)(c:Nat)(l:List PG):Prop where
 ok:∀g∈l,OkK kt g.1∧g.2.length≤c
 rise:l.Pairwise fun g h=>keyC g.1 h.1<0
 few:l.length≤40
structure WOk(kt:List Int)(c:Nat)(l:List PW):Prop where
 ok:∀x∈l,GOk kt c x.2
 rise:l.Pairwise fun x y=>x.1<y.1
theorem zmh{kt:List Int}{a b:List V3}(ha:OkK kt a)(hb:OkK kt b)(h:keyC a b=0):a=b:=by
 rcases zbM ha hb with h1|h1|h1
 ·omega
 ·exact h1.1
 ·omega
theorem zbV{α:Type}(f:α→List V3)(kt:List Int)(key:List V3)(hk:OkK kt key):∀(l:List α),(∀a∈l,OkK kt (f a))→(l.Pairwise fun a b=>keyC (f a) (f b)<0)→∃l1 l2,l=l1++l2∧(∀a∈l1,keyC (f a) key<0)∧(∀a∈l2,0≤keyC (f a) key)∧(∀a∈l2.tail,0<keyC (f a) key)
 | [],_,_=>⟨[],[],rfl,by simp,by simp,by simp⟩
 | g::t,hok,hr=>by
  have hg:=hok g (List.mem_cons_self ..)
  have ht:∀a∈t,OkK kt (f a):=fun a ha=>hok a (List.mem_cons_of_mem _ ha)
  obtain⟨hr1,hr2⟩:=List.pairwise_cons.1 hr
  by_cases hc:keyC (f g) key<0
  ·obtain⟨l1,l2,e,h1,h2,h3⟩:=zbV f kt key hk t ht hr2
   exact⟨g::l1,l2,by rw[e];rfl,fun a ha=>by
    rcases List.mem_cons.1 ha with rfl|ha
    ·exact hc
    ·exact h1 a ha,h2,h3⟩
  ·have hb:∀a∈t,0<keyC (f a) key:=fun a ha=>by
    rcases zbM (ht a ha) hk with h|h|h
    ·exact absurd (zfw hg (ht a ha) hk (hr1 a ha) h.1) hc
    ·exact absurd (by have:=hr1 a ha;rw[h.1] at this;exact this) hc
    ·exact h.1
   refine⟨[],g::t,rfl,by simp,fun a ha=>?_,hb⟩
   rcases List.mem_cons.1 ha with rfl|ha
   ·omega
   ·have:=hb a ha;omega
theorem zcH(key vs:List V3)(l2:List PG):∀l1:List PG,(∀g∈l1,keyC g.1 key<0)→gAdd key vs (l1++l2)=l1++gAdd key vs l2
 | [],_=>rfl
 | g::t,h=>by
  rw[List.cons_append,gAdd,if_pos (h g (List.mem_cons_self ..)),zcH key vs l2 t (fun a ha=>h a (List.mem_cons_of_mem _ ha))]
  rfl
theorem zjJ(key vs:List V3):∀l2:List PG,(∀g∈l2,0<keyC g.1 key)→gAdd key vs l2=(key,[vs])::l2
 | [],_=>rfl
 | g::t,h=>by
  have:=h g (List.mem_cons_self ..)
  rw[gAdd,if_neg (by omega),if_neg (by omega)]
theorem zjK(key vs:List V3)(g:PG)(t:List PG)(h:keyC g.1 key=0):gAdd key vs (g::t)=(g.1,g.2++[vs])::t:=by
 rw[gAdd,if_neg (by omega),if_pos h]
theorem zmg{kt:List Int}{a b:List V3}(ha:OkK kt a)(hb:OkK kt b)(h:0<keyC a b):keyC b a<0:=by
 rcases zbM ha hb with h1|h1|h1
 ·omega
 ·omega
 ·exact h1.2
theorem GOk.add{kt:List Int}{c:Nat}{l:List PG}{key:List V3}(h:GOk kt c l)(hk:OkK kt key)(hr:gRoom key l=true)(vs:List V3):GOk kt (c+1) (gAdd key vs l):=by
 obtain⟨l1,l2,rfl,h1,h2,h3⟩:=zbV (·.1) kt key hk l (fun g hg=>(h.ok g hg).1) h.rise
 obtain⟨p1,p2,p3⟩:=List.pairwise_append.1 h.rise
 have o1:∀g∈l1,OkK kt g.1∧g.2.length≤c:=fun g hg=>h.ok g (List.mem_append_left _ hg)
 have o2:∀g∈l2,OkK kt g.1∧g.2.length≤c:=fun g hg=>h.ok g (List.mem_append_right _ hg)
 have up:∀{g:PG},OkK kt g.1∧g.2.length≤c→OkK kt g.1∧g.2.length≤c+1:=fun h=>⟨h.1,by omega⟩
 rw[zcH key vs l2 l1 h1]
 have hf:=h.few
 rw[List.length_append] at hf
 have hnew:(∀g∈l2,0<keyC g.1 key)→GOk kt (c+1) (l1++gAdd key vs l2):=fun hp=>by
  rw[zjJ key vs l2 hp]
  refine⟨fun g hg=>?_,List.pairwise_append.2 ⟨p1,List.pairwise_cons.2 ⟨fun b hb=>zmg (o2 b hb).1 hk (hp b hb),p2⟩,fun a ha b hb=>?_⟩,?_⟩
  ·rcases List.mem_append.1 hg with hg|hg
   ·exact up (o1 g hg)
   ·rcases List.mem_cons.1 hg with rfl|hg
    ·exact⟨hk,by simp⟩
    ·exact up (o2 g hg)
  ·rcases List.mem_cons.1 hb with rfl|hb
   ·exact h1 a ha
   ·exact p3 a ha b hb
  ·rw[gRoom,Bool.or_eq_true] at hr
   rcases hr with hr|hr
   ·obtain⟨g,hg,hz⟩:=List.any_eq_true.1 hr
    have hz:keyC g.1 key=0:=by simpa using hz
    rcases List.mem_append.1 hg with hg|hg
    ·have:=h1 g hg;omega
    ·have:=hp g hg;omega
   ·have:=of_decide_eq_true hr
    rw[List.length_append] at this
    rw[List.length_append,List.length_cons];omega
 cases l2 with
 | nil=>exact hnew (by simp)
 | cons g t =>
  by_cases hz:keyC g.1 key=0
  ·rw[zjK key vs g t hz]
   obtain⟨q1,q2⟩:=List.pairwise_cons.1 p2
   refine⟨fun b hb=>?_,List.pairwise_append.2 ⟨p1,List.pairwise_cons.2 ⟨q1,q2⟩,fun a ha b hb=>?_⟩,by simpa using hf⟩
   ·rcases List.mem_append.1 hb with hb|hb
    ·exact up (o1 b hb)
    ·rcases List.mem_cons.1 hb with rfl|hb
     ·have:=o2 g (List.mem_cons_self ..);exact⟨this.1,by simp;omega⟩
     ·exact up (o2 b (List.mem_cons_of_mem _ hb))
   ·rcases List.mem_cons.1 hb with rfl|hb
    ·exact p3 a ha g (List.mem_cons_self ..)
    ·exact p3 a ha b (List.mem_cons_of_mem _ hb)
  ·refine hnew fun a ha=>?_
   rcases List.mem_cons.1 ha with rfl|ha
   ·have:=h2 a (List.mem_cons_self ..);omega
   ·exact h3 a ha
theorem GOk.up{kt:List Int}{c d:Nat}{l:List PG}(h:GOk kt c l)(hd:c≤d):GOk kt d l:=⟨fun g hg=>⟨(h.ok g hg).1,by have:=(h.ok g hg).2;omega⟩,h.rise,h.few⟩
theorem zcM{α:Type}(f:α→Int)(fr:Int):∀(l:List α),(l.Pairwise fun a b=>f a<f b)→∃l1 l2,l=l1++l2∧(∀a∈l1,f a<fr)∧(∀a∈l2,fr≤f a)∧(∀a∈l2.tail,fr<f a)
 | [],_=>⟨[],[],rfl,by simp,by simp,by simp⟩
 | g::t,hr=>by
  obtain⟨hr1,hr2⟩:=List.pairwise_cons.1 hr
  by_cases hc:f g<fr
  ·obtain⟨l1,l2,e,h1,h2,h3⟩:=zcM f fr t hr2
   exact⟨g::l1,l2,by rw[e];rfl,fun a ha=>by
    rcases List.mem_cons.1 ha with rfl|ha
    ·exact hc
    ·exact h1 a ha,h2,h3⟩
  ·have hb:∀a∈t,fr<f a:=fun a ha=>by have:=hr1 a ha;omega
   refine⟨[],g::t,rfl,by simp,fun a ha=>?_,hb⟩
   rcases List.mem_cons.1 ha with rfl|ha
   ·omega
   ·have:=hb a ha;omega
theorem zcL(key vs:List V3)(fr:Int)(l2:List PW):∀l1:List PW,(∀x∈l1,x.1<fr)→wAdd key vs fr (l1++l2)=l1++wAdd key vs fr l2
 | [],_=>rfl
 | g::t,h=>by
  rw[List.cons_append,wAdd,if_pos (h g (List.mem_cons_self ..)),zcL key vs fr l2 t (fun a ha=>h a (List.mem_cons_of_mem _ ha))]
  rfl
theorem zlm(key vs:List V3)(fr:Int):∀l2:List PW,(∀x∈l2,fr<x.1)→wAdd key vs fr l2=(fr,gAdd key vs [])::l2
 | [],_=>rfl
 | g::t,h=>by
  have:=h g (List.mem_cons_self ..)
  rw[wAdd,if_neg (by omega),if_neg (by omega)]
theorem zln(key vs:List V3)(fr:Int)(x:PW)(t:List PW)(h:x.1=fr):wAdd key vs fr (x::t)=(x.1,gAdd key vs x.2)::t:=by
 rw[wAdd,if_neg (by omega),if_pos h]
theorem WOk.up{kt:List Int}{c d:Nat}{l:List PW}(h:WOk kt c l)(hd:c≤d):WOk kt d l:=⟨fun g hg=>(h.ok g hg).up hd,h.rise⟩
theorem GOk.one{kt:List Int}{c:Nat}{key:List V3}(hk:OkK kt key)(vs:List V3):GOk kt (c+1) (gAdd key vs []) :=
 ⟨fun g hg=>by rw[gAdd] at hg;rw[List.mem_singleton.1 hg];exact⟨hk,by simp⟩,by simp[gAdd],by simp[gAdd]⟩
theorem WOk.add{kt:List Int}{c:Nat}{l:List PW}{key:List V3}(h:WOk kt c l)(hk:OkK kt key)(fr:Int)(hr:wFull key l fr=false)(vs:List V3):WOk kt (c+1) (wAdd key vs fr l):=by
 obtain⟨l1,l2,rfl,h1,h2,h3⟩:=zcM (·.1) fr l h.rise
 obtain⟨p1,p2,p3⟩:=List.pairwise_append.1 h.rise
 have o1:∀g∈l1,GOk kt (c+1) g.2:=fun g hg=>(h.ok g (List.mem_append_left _ hg)).up (by omega)
 have o2:∀g∈l2,GOk kt (c+1) g.2:=fun g hg=>(h.ok g (List.mem_append_right _ hg)).up (by omega)
 rw[zcL key vs fr l2 l1 h1]
 have hnew:(∀g∈l2,fr<g.1)→WOk kt (c+1) (l1++wAdd key vs fr l2):=fun hp=>by
  rw[zlm key vs fr l2 hp]
  refine⟨fun g hg=>?_,List.pairwise_append.2 ⟨p1,List.pairwise_cons.2 ⟨fun b hb=>hp b hb,p2⟩,fun a ha b hb=>?_⟩⟩
  ·rcases List.mem_append.1 hg with hg|hg
   ·exact o1 g hg
   ·rcases List.mem_cons.1 hg with rfl|hg
    ·exact GOk.one hk vs
    ·exact o2 g hg
  ·rcases List.mem_cons.1 hb with rfl|hb
   ·exact h1 a ha
   ·exact p3 a ha b hb
 cases l2 with
 | nil=>exact hnew (by simp)
 | cons g t =>
  by_cases hz:g.1=fr
  ·rw[zln key vs fr g t hz]
   obtain⟨q1,q2⟩:=List.pairwise_cons.1 p2
   have hg:=h.ok g (List.mem_append_right _ (List.mem_cons_self ..))
   have hroom:gRoom key g.2=true:=by
    rw[wFull] at hr
    have:=List.any_eq_false.1 hr g (List.mem_append_right _ (List.mem_cons_self ..))
    simpa [hz] using this
   refine⟨fun b hb=>?_,List.pairwise_append.2 ⟨p1,List.pairwise_cons.2 ⟨q1,q2⟩,fun a ha b hb=>?_⟩⟩
   ·rcases List.mem_append.1 hb with hb|hb
    ·exact o1 b hb
    ·rcases List.mem_cons.1 hb with rfl|hb
     ·exact hg.add hk hroom vs
     ·exact o2 b (List.mem_cons_of_mem _ hb)
   ·rcases List.mem_cons.1 hb with rfl|hb
    ·exact p3 a ha g (List.mem_cons_self ..)
    ·exact p3 a ha b (List.mem_cons_of_mem _ hb)
  ·refine hnew fun a ha=>?_
   rcases List.mem_cons.1 ha with rfl|ha
   ·have:=h2 a (List.mem_cons_self ..);omega
   ·exact h3 a ha
theorem zeE:∀(l:List PW) (a b:Int),(l.Pairwise fun x y=>x.1<y.1)→(∀x∈l,a≤x.1∧x.1≤b)→(l.length:Int)≤max 0 (b-a+1)
 | [],a,b,_,_=>by simp;omega
 | x::t,a,b,hr,h=>by
  obtain⟨h1,h2⟩:=List.pairwise_cons.1 hr
  have hx:=h x (List.mem_cons_self ..)
  have:=zeE t (x.1+1) b h2 (fun y hy=>⟨by have:=h1 y hy;omega,(h y (List.mem_cons_of_mem _ hy)).2⟩)
  rw[List.length_cons]
  push_cast
  omega
def adL(key vs:List V3)(fs:List Int)(l:List PW):List PW:=fs.foldl (fun l f=>wAdd key vs f l) l
def adW(fs:List Int)(tk:List V3×Bool×Int)(key:List V3)(l:List PW):List PW×Int :=
 if tk.2.2≠0 then (l,tk.2.2) else if tk.2.1=false then (l,0) else if fs.any (wFull key l) then (l,4) else (adL key tk.1 fs l,0)
theorem zeS(key vs:List V3){fr fr':Int}(hne:fr'≠fr):∀l:List PW,wFull key (wAdd key vs fr l) fr'=wFull key l fr'
 | []=>by simp[wAdd,wFull];intro h;exact absurd h.symm hne
 | x::t=>by
  rw[wAdd]
  split
  ·have ih:=zeS key vs hne t
   rw[wFull,wFull] at ih
   rw[wFull,wFull,List.any_cons,List.any_cons,ih]
  ·split
   ·rename_i h
    rw[wFull,wFull,List.any_cons,List.any_cons]
    have e1:((x.1 == fr')=false):=by simp;omega
    simp only[e1,Bool.false_and,Bool.false_or]
   ·rw[wFull,wFull,List.any_cons]
    have e1:((fr == fr')=false):=by simp;omega
    simp only[e1,Bool.false_and,Bool.false_or]
theorem zfU(key vs:List V3){fr a b:Int}(hf:a≤fr∧fr≤b):∀l:List PW,(∀x∈l,a≤x.1∧x.1≤b)→∀x∈wAdd key vs fr l,a≤x.1∧x.1≤b
 | [],_=>fun x hx=>by rw[wAdd] at hx;rw[List.mem_singleton.1 hx];exact hf
 | y::t,h=>fun x hx=>by
  have hy:=h y (List.mem_cons_self ..)
  have ht:∀x∈t,a≤x.1∧x.1≤b:=fun x hx=>h x (List.mem_cons_of_mem _ hx)
  rw[wAdd] at hx
  split at hx
  ·rcases List.mem_cons.1 hx with rfl|hx
   ·exact hy
   ·exact zfU key vs hf t ht x hx
  ·split at hx
   ·rcases List.mem_cons.1 hx with rfl|hx
    ·exact hy
    ·exact ht x hx
   ·rcases List.mem_cons.1 hx with rfl|hx
    ·exact hf
    ·exact h x hx
theorem znF(key vs:List V3)(fs:List Int)(f:Int)(l:List PW):adL key vs (fs++[f]) l=wAdd key vs f (adL key vs fs l):=by
 rw[adL,adL,List.foldl_append];rfl
theorem znE{kt:List Int}{key:List V3}(hk:OkK kt key)(vs:List V3){a b:Int}:∀(fs:List Int) (c:Nat) (l:List PW),WOk kt c l→(∀x∈l,a≤x.1∧x.1≤b)→(∀f∈fs,a≤f∧f≤b)→fs.Nodup→fs.any (wFull key l)=false →
  WOk kt (c+fs.length) (adL key vs fs l)∧(∀x∈adL key vs fs l,a≤x.1∧x.1≤b)
 | [],c,l,h,hr,_,_,_=>⟨h,hr⟩
 | f::fs,c,l,h,hr,hf,hd,hn=>by
  rw[List.any_cons,Bool.or_eq_false_iff] at hn
  obtain⟨hd1,hd2⟩:=List.nodup_cons.1 hd
  have h1:=h.add hk f hn.1 vs
  have h2:=zfU key vs (hf f (List.mem_cons_self ..)) l hr
  have h3:fs.any (wFull key (wAdd key vs f l))=false:=by
   rw[List.any_eq_false]
   intro g hg
   rw[zeS key vs (fun e=>hd1 (by rw[←e];exact hg))]
   exact List.any_eq_false.1 hn.2 g hg
  have:=znE hk vs fs (c+1) (wAdd key vs f l) h1 h2 (fun g hg=>hf g (List.mem_cons_of_mem _ hg)) hd2 h3
  rw[List.length_cons,show c+(fs.length+1)=c+1+fs.length by omega]
  exact this
theorem znG{kt:List Int}{key:List V3}(hk:OkK kt key)(vs:List V3){a b:Int}(fs:List Int)(c:Nat)(l:List PW)(h:WOk kt c l)(hr:∀x∈l,a≤x.1∧x.1≤b)(hf:∀f∈fs,a≤f∧f≤b)(hd:fs.Nodup)(hn:fs.any (wFull key l)=false)(k:Nat)(hk2:k<fs.length) :
  WOk kt (c+k) (adL key vs (fs.take k) l)∧(∀x∈adL key vs (fs.take k) l,a≤x.1∧x.1≤b)∧wFull key (adL key vs (fs.take k) l) fs[k]=false:=by
 have hsub:(fs.take k).Sublist fs:=List.take_sublist k fs
 have hn1:(fs.take k).any (wFull key l)=false:=by
  rw[List.any_eq_false] at hn ⊢
  exact fun f hf=>hn f (hsub.subset hf)
 have h1:=znE hk vs (fs.take k) c l h hr (fun f hg=>hf f (hsub.subset hg)) (hd.sublist hsub) hn1
 rw[List.length_take,Nat.min_eq_left (by omega)] at h1
 refine⟨h1.1,h1.2,?_⟩
 have h2:∀(gs:List Int) (l:List PW),fs[k] ∉ gs→wFull key (adL key vs gs l) fs[k]=wFull key l fs[k]:=fun gs=>by
  induction gs with
  | nil=>intro l _;rfl
  | cons g t ih =>
   intro l hg
   rw[List.mem_cons,not_or] at hg
   have:=ih (wAdd key vs g l) hg.2
   rw[adL,List.foldl_cons]
   rw[adL] at this
   rw[this,zeS key vs hg.1]
 rw[h2]
 ·have:=List.any_eq_false.1 hn fs[k] (List.getElem_mem hk2)
  simpa using this
 ·intro hm
  obtain⟨j,hj,e⟩:=List.getElem_of_mem hm
  have hjk:j<k:=by rw[List.length_take] at hj;omega
  rw[List.getElem_take] at e
  have:=(List.getElem_inj hd).1 e
  omega
theorem ziJ{l1 l2:List PW}{fr:Int}(key:List V3)(h1:∀x∈l1,x.1<fr)(h3:∀x∈l2.tail,fr<x.1):wFull key (l1++l2) fr=match l2 with
  | []=>false
  | x::_=>x.1 == fr&&!gRoom key x.2:=by
 have no:∀l:List PW,(∀x∈l,x.1≠fr)→(l.any fun x=>x.1 == fr&&!gRoom key x.2)=false:=fun l hl=>by
  rw[List.any_eq_false]
  intro x hx
  have:=hl x hx
  simp[this]
 rw[wFull,List.any_append,no l1 (fun x hx=>by have:=h1 x hx;omega),Bool.false_or]
 cases l2 with
 | nil=>rfl
 | cons x t =>
  rw[List.any_cons,no t (fun y hy=>by have:=h3 y hy;omega),Bool.or_false]
def toldB(size A:Int)(l:List PW):List PW:=l.takeWhile fun x=>decide (x.1+size≤A)
def leftB(size A:Int)(l:List PW):List PW:=l.dropWhile fun x=>decide (x.1+size≤A)
noncomputable def pushP(ps0:List Pt)(size slide:Int)(st:Int×List PW)(A:Int)(tk:List V3×Bool×Int)(key:List V3):(Int×List PW)×List Ot :=
 if ¬(0≤A∧A≤1000000) then (st,[([],1,0)])
 else if A<st.1 then (st,[([],6,0)])
 else ((A,(adW (stP A size slide) tk key (leftB size A st.2)).1),(toldB size A st.2).flatMap (wOt ps0)++if (adW (stP A size slide) tk key (leftB size A st.2)).2=0 then [] else [([],(adW (stP A size slide) tk key (leftB size A st.2)).2,0)])
structure OkSt(kt:List Int)(c:Nat)(size:Int)(st:Int×List PW):Prop where
 ok:WOk kt c st.2
 time:0≤st.1∧st.1≤1000000
 win:∀x∈st.2,0≤x.1∧st.1-size<x.1∧x.1≤st.1
theorem OkSt.nil(kt:List Int)(c:Nat)(size:Int):OkSt kt c size (0,[]):=⟨⟨by simp,by simp⟩,by simp,by simp⟩
theorem OkSt.few{kt:List Int}{c:Nat}{size:Int}{st:Int×List PW}(h:OkSt kt c size st)(hs:1≤size∧size≤1000):st.2.length≤1000:=by
 have:=zeE st.2 (st.1-size+1) st.1 h.ok.rise (fun x hx=>by have:=h.win x hx;omega)
 omega
theorem WOk.sub{kt:List Int}{c:Nat}{l l':List PW}(h:WOk kt c l)(hs:l'.Sublist l):WOk kt c l':=⟨fun x hx=>h.ok x (hs.subset hx),h.rise.sublist hs⟩
theorem zeo{size A:Int}:∀{l:List PW},(l.Pairwise fun x y=>x.1<y.1)→∀x∈leftB size A l,A<x.1+size
 | [],_=>fun x hx=>by simp[leftB] at hx
 | y::t,h=>fun x hx=>by
  obtain⟨h1,h2⟩:=List.pairwise_cons.1 h
  rw[leftB,List.dropWhile_cons] at hx
  split at hx
  ·exact zeo h2 x hx
  ·rename_i hy
   have hy:¬y.1+size≤A:=by simpa using hy
   rcases List.mem_cons.1 hx with rfl|hx
   ·omega
   ·have:=h1 x hx;omega
theorem zbW{A size slide:Int}(hw:wdB size slide)(h0:0≤A):(stP A size slide).length≤10∧(stP A size slide).Nodup∧∀f∈stP A size slide,0≤f∧A-size<f∧f≤A:=by
 refine⟨by rw[stP,zhG];exact zpu hw h0,?_,fun f hf=>?_⟩
 ·rw[stP,prg,List.Nodup,List.pairwise_map]
  refine List.Pairwise.imp (R:=fun a b=>a<b) (fun {a b} hab e=>?_) List.pairwise_lt_range
  have hs:=hw.2.2.1
  have e2:(a:Int)*slide=(b:Int)*slide:=by omega
  have:=Int.eq_of_mul_eq_mul_right (by omega) e2
  omega
 ·rw[stP,prg] at hf
  obtain⟨i,hi,rfl⟩:=List.mem_map.1 hf
  have:=zsb hw h0 (List.mem_range.1 hi)
  omega
theorem zco(size A:Int)(l:List PW):(leftB size A l).Sublist l:=List.dropWhile_sublist _
theorem OkSt.push{ps0:List Pt}{kt:List Int}{c:Nat}{size slide:Int}{st:Int×List PW}(h:OkSt kt c size st)(hw:wdB size slide)(A:Int)(tk:List V3×Bool×Int){key:List V3}(hk:OkK kt key):OkSt kt (c+10) size (pushP ps0 size slide st A tk key).1:=by
 have up:OkSt kt (c+10) size st:=⟨h.ok.up (by omega),h.time,h.win⟩
 rw[pushP]
 split
 ·exact up
 ·rename_i hA
  split
  ·exact up
  ·rename_i hlt
   have hA:0≤A∧A≤1000000:=Decidable.not_not.1 hA
   have hL:WOk kt c (leftB size A st.2):=h.ok.sub (zco size A st.2)
   have hwin:∀x∈leftB size A st.2,0≤x.1∧A-size<x.1∧x.1≤A:=fun x hx=>by
    have h1:=zeo h.ok.rise x hx
    have h2:=h.win x ((zco size A st.2).subset hx)
    omega
   have base:OkSt kt (c+10) size (A,leftB size A st.2):=⟨hL.up (by omega),hA,hwin⟩
   rw[adW]
   split
   ·exact base
   ·split
    ·exact base
    ·split
     ·exact base
     ·rename_i hn
      obtain⟨s1,s2,s3⟩:=zbW hw hA.1
      have hn:(stP A size slide).any (wFull key (leftB size A st.2))=false:=by simpa using hn
      obtain⟨r1,r2⟩:=znE hk tk.1 (a:=max 0 (A-size+1)) (b:=A) (stP A size slide) c (leftB size A st.2) hL (fun x hx=>by have:=hwin x hx;omega) (fun f hf=>by have:=s3 f hf;omega) s2 hn
      exact⟨r1.up (by omega),hA,fun x hx=>by
       have h1:=r2 x hx
       show 0≤x.1∧A-size<x.1∧x.1≤A
       omega⟩
noncomputable def endP(ps0:List Pt)(st:Int×List PW):List Ot:=st.2.flatMap (wOt ps0)
end Go.Proofs.YtbdnccnfidjiaaaGreatDoor
