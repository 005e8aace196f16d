/-
  LexPure2.
-/
import Derived.Test.YtbdnccnfidjiaaaGreatDoorGyAc
namespace Go.Proofs.YtbdnccnfidjiaaaGreatDoor
set_option linter.unusedVariables false
set_option linter.unusedSimpArgs false
set_option maxHeartbeats 8000000
--BEGIN
def sepB:List UInt8→Bool
 | []=>true
 | c::_=>blB c
theorem zdZ{c:UInt8}(h:blB c=true):c=32∨c=10:=by
 simp only[blB,Bool.or_eq_true,decide_eq_true_eq] at h
 rcases h with h|h
 ·exact Or.inl (UInt8.toNat_inj.1 (by rw[show (32:UInt8).toNat=32 from rfl];omega))
 ·exact Or.inr (UInt8.toNat_inj.1 (by rw[show (10:UInt8).toNat=10 from rfl];omega))
theorem zpp(p:UInt8→Bool)(h32:p 32=false)(h10:p 10=false):∀r:List UInt8,sepB r=true→hdB p r=false
 | [],_=>rfl
 | c::r,h=>by
  rcases zdZ h with rfl|rfl
  ·exact h32
  ·exact h10
theorem zkO:∀g∈zaF,∀r:List UInt8,sepB r=true→sgN zaF (g++r)=g.length:=by
 intro g hg r hr
 have key:r=[]∨(∃q,r=32::q)∨∃q,r=10::q:=by
  cases r with
  | nil=>exact Or.inl rfl
  | cons c q =>
   rcases zdZ hr with rfl|rfl
   ·exact Or.inr (Or.inl ⟨q,rfl⟩)
   ·exact Or.inr (Or.inr ⟨q,rfl⟩)
 simp only[zaF,List.mem_cons,List.not_mem_nil,or_false] at hg
 rcases key with rfl|⟨q,rfl⟩|⟨q,rfl⟩<;>rcases hg with rfl|rfl|rfl|rfl|rfl|rfl|rfl|rfl|rfl|rfl|rfl|rfl|rfl|rfl<;>simp[zaF,sgN,Lib.hasPrefix,List.isPrefixOf]
theorem zcq:∀(n:Nat) (l:List UInt8) (k:Nat) (r:List UInt8),l.length≤n→qscan l=some k→sepB r=true→qscan (l.take k++r)=some k
 | _,[],k,_,_,h,_=>by simp[qscan] at h
 | 0,_::_,_,_,hn,_,_=>by simp at hn
 | n+1,c::l,k,r,hn,h,hr=>by
  by_cases hc:c=39
  ·subst hc
   have stop:qscan (39::r)=some 1:=zbR r (by
    cases r with
    | nil=>simp
    | cons d q=>rcases zdZ hr with rfl|rfl<;>simp)
   cases l with
   | nil=>simp[qscan] at h;subst h;exact stop
   | cons d q =>
    by_cases hd:d=39
    ·subst hd
     rw[zbS,Option.map_eq_some_iff] at h
     obtain⟨j,hj,rfl⟩:=h
     have:=zcq n q j r (by simp at hn;omega) hj hr
     rw[show (39::39::q).take (j+2)++r=39::39::(q.take j++r) from by simp,zbS,this];rfl
    ·rw[zbR _ (by simpa using hd)] at h
     cases h;exact stop
  ·rw[zdm c l hc,Option.map_eq_some_iff] at h
   obtain⟨j,hj,rfl⟩:=h
   have:=zcq n l j r (by simp at hn;omega) hj hr
   rw[show (c::l).take (j+1)++r=c::(l.take j++r) from by simp,zdm _ _ hc,this];rfl
theorem zeN{l:List UInt8}{n:Nat}(h:n≤l.length):(l.take n).length=n:=by rw[List.length_take];omega
theorem zmE{l:List UInt8}{k:Int}{n:Nat}(h:tokAt l=(k,n,0))(r:List UInt8)(hr:sepB r=true):tokAt (l.take n++r)=(k,n,0):=by
 obtain⟨hn1,hn2⟩:=zbY h
 have hlen:=zeN hn2
 cases l with
 | nil=>simp at hn2;omega
 | cons c l =>
  obtain⟨m,rfl⟩:∃m,n=m+1:=⟨n-1,by omega⟩
  have hcons:(c::l).take (m+1)++r=c::(l.take m++r):=by simp
  rw[hcons,tokAt]
  rw[tokAt] at h
  by_cases hc:letB c=true
  ·rw[if_pos hc] at h ⊢
   injection h with h1 h
   injection h with h2 h3
   have ha:=zcV ldB (c::l)
   rw[h2] at ha
   rw[←hcons,zjL ldB _ r ha (zpp _ (by decide) (by decide) r hr),hlen,h1]
  ·rw[if_neg hc] at h ⊢
   by_cases hd:digB c=true
   ·rw[if_pos hd] at h ⊢
    injection h with h1 h
    rw[zaU] at h
    split at h
    ·cases h
    ·rename_i hz
     split at h
     ·cases h
     ·rename_i hv
      injection h with h2 h3
      rw[h2] at hz hv
      have ha:=zcV digB (c::l)
      rw[h2] at ha
      have hg:goN digB (c::(l.take m++r))=m+1:=by rw[←hcons,zjL digB _ r ha (zpp _ (by decide) (by decide) r hr),hlen]
      have hdr:(c::(l.take m++r)).drop (m+1)=r:=by
       rw[←hcons,List.drop_append_of_le_length (by omega),List.drop_of_length_le (by omega),List.nil_append]
      have htk:(c::(l.take m++r)).take (m+1)=(c::l).take (m+1):=by
       rw[←hcons,List.take_append_of_le_length (by omega),List.take_take,Nat.min_self]
      rw[zaU,hg,hdr,htk,if_neg,if_neg hv,h1]
      rintro (e|e)
      ·rw[zpp letB (by decide) (by decide) r hr] at e;cases e
      ·exact hz (Or.inr e)
   ·rw[if_neg hd] at h ⊢
    by_cases hq:c=39
    ·rw[if_pos hq] at h ⊢
     injection h with h1 h
     rw[zbT] at h
     split at h
     ·cases h
     ·rename_i j hj
      split at h
      ·rename_i he
       injection h with h2 h3
       obtain rfl:j=m:=by omega
       have hj2:=(zeC _ l j (Nat.le_refl _) hj).2
       have htk:(l.take j++r).take j=l.take j:=by
        rw[List.take_append_of_le_length (by rw[zeN hj2];omega),List.take_take,Nat.min_self]
       rw[zbT,zcq _ l j r (Nat.le_refl _) hj hr]
       simp only
       rw[htk,if_pos he,h1]
      ·rename_i h0
       exact absurd (Prod.mk.inj h).2 h0
    ·rw[if_neg hq] at h ⊢
     injection h with h1 h
     injection h with h2 h3
     have hne:sgN zaF (c::l)≠0:=by omega
     obtain⟨g,hm,hp,hl⟩:=zkL _ _ hne
     have hg:=(zfr hp).2
     rw[←hl,h2] at hg
     have:=zkO g hm r hr
     rw[←hcons,hg,this,←hl,h2,h1,if_neg (by omega)]
theorem zmF{c:UInt8}{l:List UInt8}(h:blB c=true):(tokAt (c::l)).2.2≠0:=by
 rcases zdZ h with rfl|rfl
 ·simp[tokAt,letB,digB,zaF,sgN,Lib.hasPrefix,List.isPrefixOf]
 ·simp[tokAt,letB,digB,zaF,sgN,Lib.hasPrefix,List.isPrefixOf]
structure Good(k:Int)(t:List UInt8):Prop where
 ne:t≠[]
 hd:hdB blB t=false
 again:∀r:List UInt8,sepB r=true→tokAt (t++r)=(k,t.length,0)
theorem zoD{l:List UInt8}{k:Int}{n:Nat}(h:tokAt l=(k,n,0)):Good k (l.take n):=by
 obtain⟨hn1,hn2⟩:=zbY h
 have hlen:=zeN hn2
 refine⟨fun e=>by rw[e] at hlen;simp at hlen;omega,?_,fun r hr=>by rw[hlen];exact zmE h r hr⟩
 cases l with
 | nil=>simp at hn2;omega
 | cons c l =>
  obtain⟨m,rfl⟩:∃m,n=m+1:=⟨n-1,by omega⟩
  rw[List.take_succ_cons]
  cases hb:blB c with
  | false=>exact hb
  | true=>exact absurd (by rw[h]) (zmF (l:=l) hb)
def Stand(s:List UInt8):Nat→List Tok→Prop
 | p,[]=>∀c∈s.drop p,blB c=true
 | p,t::ts=>p≤t.2.2∧t.2.2+t.2.1.size≤s.length∧0<t.2.1.size∧(∀c∈(s.drop p).take (t.2.2-p),blB c=true)∧(s.drop t.2.2).take t.2.1.size=t.2.1.data.toList∧Stand s (t.2.2+t.2.1.size) ts
theorem zpr(l:List UInt8):(⟨l.toArray⟩:ByteArray).size=l.length:=by rw[Lib.size_eq]
theorem znl{f a:Nat}{l:List UInt8}{ts:List Tok}{p:Nat}(h:lexN (f+1) a l=(ts,0,p)) :
  (l=[]∧ts=[])∨∃(k:Int) (n:Nat) (us:List Tok) (q:Nat),l≠[]∧tokAt l=(k,n,0)∧lexN f (a+n+goN blB (l.drop n)) ((l.drop n).drop (goN blB (l.drop n)))=(us,0,q)∧ts=(k,⟨(l.take n).toArray⟩,a)::us:=by
 rw[lexN] at h
 split at h
 ·rename_i hl
  cases h
  exact Or.inl ⟨hl,rfl⟩
 ·rename_i hl
  obtain⟨k,n,e,ht⟩:∃k n e,tokAt l=(k,n,e):=⟨_,_,_,rfl⟩
  rw[ht] at h
  simp only at h
  split at h
  ·rename_i he
   injection h with _ h
   injection h with h _
   exact absurd h he
  ·rename_i he
   obtain rfl:e=0:=Classical.byContradiction he
   obtain⟨us,e2,q,hr⟩:∃us e2 q,lexN f (a+n+goN blB (l.drop n)) ((l.drop n).drop (goN blB (l.drop n)))=(us,e2,q):=⟨_,_,_,rfl⟩
   rw[hr] at h
   simp only at h
   split at h
   ·rename_i h0
    subst h0
    cases h
    exact Or.inr ⟨k,n,us,q,hl,ht,hr,rfl⟩
   ·rename_i h0
    injection h with _ h
    injection h with h _
    exact absurd h h0
theorem zfy(s:List UInt8):∀(f a p:Nat) (ts:List Tok) (q:Nat),p≤a→a≤s.length→(s.drop a).length<f→(∀c∈(s.drop p).take (a-p),blB c=true)→lexN f a (s.drop a)=(ts,0,q)→Stand s p ts
 | 0,_,_,_,_,_,_,hf,_,_=>by omega
 | f+1,a,p,ts,q,hpa,has,hf,hb,h=>by
  rcases znl h with ⟨hl,rfl⟩|⟨k,n,us,q',hl,ht,hr,rfl⟩
  ·show ∀c∈s.drop p,blB c=true
   have hlen:(s.drop p).length≤a-p:=by
    have:(s.drop a).length=0:=by rw[hl];rfl
    rw[List.length_drop] at this ⊢;omega
   rwa [List.take_of_length_le hlen] at hb
  ·obtain⟨hn1,hn2⟩:=zbY ht
   have hz:(⟨((s.drop a).take n).toArray⟩:ByteArray).size=n:=by rw[zpr,zeN hn2]
   rw[List.length_drop] at hn2 hf
   refine⟨hpa,by rw[hz];simp only;omega,by rw[hz];omega,hb,by rw[hz],?_⟩
   simp only
   rw[hz]
   have hg:=zcW blB ((s.drop a).drop n)
   rw[List.drop_drop] at hr hg
   rw[List.drop_drop] at hr
   rw[List.length_drop] at hg
   refine zfy s f (a+n+goN blB (s.drop (a+n))) (a+n) us q' (by omega) (by omega) (by rw[List.length_drop];omega) ?_ hr
   rw[show a+n+goN blB (s.drop (a+n))-(a+n)=goN blB (s.drop (a+n)) from by omega]
   have:=zcV blB (s.drop (a+n))
   rwa [List.all_eq_true] at this
theorem zhA:∀(f a:Nat) (l:List UInt8) (ts:List Tok) (q:Nat),lexN f a l=(ts,0,q)→∀t∈ts,Good t.1 t.2.1.data.toList
 | 0,_,_,ts,_,h=>by
  simp[lexN] at h
  obtain⟨rfl,_⟩:=h
  simp
 | f+1,a,l,ts,q,h=>by
  rcases znl h with ⟨hl,rfl⟩|⟨k,n,us,q',hl,ht,hr,rfl⟩
  ·simp
  ·intro t hm
   rcases List.mem_cons.1 hm with rfl|hm
   ·exact zoD ht
   ·exact zhA f _ _ us q' hr t hm
theorem zke:∀(f a:Nat) (l:List UInt8) (ts:List Tok) (e:Int) (q:Nat),lexN f a l=(ts,e,q)→e≠0→ts=[]∧q≤a+l.length∧(e=1∨e=2∨e=4)
 | 0,_,_,ts,e,_,h,he=>by simp[lexN] at h;exact absurd h.2.1.symm he
 | f+1,a,l,ts,e,q,h,he=>by
  rw[lexN] at h
  split at h
  ·cases h;exact absurd rfl he
  ·obtain⟨k,n,e1,ht⟩:∃k n e,tokAt l=(k,n,e):=⟨_,_,_,rfl⟩
   have hfa:=ziB (l:=l)
   rw[ht] at h hfa
   simp only at h hfa
   split at h
   ·cases h
    exact⟨rfl,by omega,by omega⟩
   ·rename_i he1
    obtain rfl:e1=0:=Classical.byContradiction he1
    obtain⟨hn1,hn2⟩:=zbY ht
    obtain⟨us,e2,q2,hr⟩:∃us e2 q,lexN f (a+n+goN blB (l.drop n)) ((l.drop n).drop (goN blB (l.drop n)))=(us,e2,q):=⟨_,_,_,rfl⟩
    rw[hr] at h
    simp only at h
    split at h
    ·cases h;exact absurd rfl he
    ·rename_i h0
     obtain⟨ht0,h⟩:=Prod.mk.inj h
     obtain⟨rfl,rfl⟩:=Prod.mk.inj h
     obtain⟨_,h1,h2⟩:=zke f _ _ us _ _ hr h0
     have hg:=zcW blB (l.drop n)
     rw[List.length_drop] at h1 hg
     rw[List.length_drop] at h1
     exact⟨ht0.symm,by omega,h2⟩
theorem zdR(s:List UInt8):∀(ts:List Tok) (p:Nat),p≤s.length→Stand s p ts→ts.length≤s.length-p∧∀t∈ts,t.2.1.size≤s.length∧t.2.2≤s.length
 | [],p,_,_=>⟨Nat.zero_le _,by simp⟩
 | t::ts,p,hp,h=>by
  obtain⟨h1,h2,h3,_,_,h6⟩:=h
  obtain⟨i1,i2⟩:=zdR s ts _ h2 h6
  refine⟨by rw[List.length_cons];omega,fun u hu=>?_⟩
  rcases List.mem_cons.1 hu with rfl|hu
  ·exact⟨by omega,by omega⟩
  ·exact i2 u hu
theorem zhz{s:List UInt8}{ts:List Tok}{q:Nat}(h:zaY s=(ts,0,q)):s.length≤400∧q=0∧Stand s 0 ts∧(∀t∈ts,Good t.1 t.2.1.data.toList):=by
 rw[zaY] at h
 split at h
 ·cases h
 ·rename_i hl
  rw[lexS,lexA] at h
  obtain⟨us,e2,q2,hr⟩:∃us e2 q,lexN (s.length+1) (0+goN blB s) (s.drop (goN blB s))=(us,e2,q):=⟨_,_,_,rfl⟩
  rw[hr] at h
  simp only at h
  split at h
  ·rename_i h0
   subst h0
   simp only[List.nil_append] at h
   cases h
   refine⟨by omega,rfl,?_,zhA _ _ _ _ _ hr⟩
   have hg:=zcW blB s
   rw[Nat.zero_add] at hr
   refine zfy s _ _ 0 ts q2 (Nat.zero_le _) hg (by rw[List.length_drop];omega) ?_ hr
   rw[List.drop_zero,Nat.sub_zero]
   have:=zcV blB s
   rwa [List.all_eq_true] at this
  ·rename_i h0
   exact absurd (Prod.mk.inj (Prod.mk.inj h).2).1 h0
theorem zkc{s:List UInt8}{ts:List Tok}{e:Int}{q:Nat}(h:zaY s=(ts,e,q))(he:e≠0):ts=[]∧q≤s.length∧(e=1∨e=2∨e=4):=by
 rw[zaY] at h
 split at h
 ·cases h
  exact⟨rfl,by omega,by omega⟩
 ·rename_i hl
  rw[lexS,lexA] at h
  obtain⟨us,e2,q2,hr⟩:∃us e2 q,lexN (s.length+1) (0+goN blB s) (s.drop (goN blB s))=(us,e2,q):=⟨_,_,_,rfl⟩
  rw[hr] at h
  simp only at h
  split at h
  ·cases h;exact absurd rfl he
  ·rename_i h0
   obtain⟨ht0,h⟩:=Prod.mk.inj h
   obtain⟨rfl,rfl⟩:=Prod.mk.inj h
   obtain⟨_,h1,h2⟩:=zke _ _ _ us _ _ hr h0
   have hg:=zcW blB s
   rw[List.length_drop] at h1
   exact⟨ht0.symm,by omega,h2⟩
end Go.Proofs.YtbdnccnfidjiaaaGreatDoor
