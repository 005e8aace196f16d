/-
  AgF, AgG, GmA, FrS, BsG, KcS, GnW, FgS, FdS.
-/
import Derived.Test.YtopghagjmdbglaaGreatDoorGyAn
import Derived.Test.YtopghagjmdbglaaGreatDoorGyAk
import Derived.Test.YtopghagjmdbglaaGreatDoorGyAl
import Derived.Deep.LoopGhost
import Derived.Deep.QuietTactic
import Derived.Test.YtopghagjmdbglaaGreatDoorGyAa
import Derived.Test.YtopghagjmdbglaaGreatDoorGyAh
import Derived.Deep.RegionWith
namespace Go.Proofs.YtopghagjmdbglaaGreatDoor
open Go.RowKit
set_option linter.unusedVariables false
set_option linter.unusedSimpArgs false
set_option maxHeartbeats 8000000
set_option maxRecDepth 20000
def okT(t:Int)(v:V3):Prop:=v.1=t∧chk v.1 v.2.1 v.2.2.data.toList=0
theorem zjI{t:Int}{v:V3}(h:okT t v):t=1∨t=2∨t=3:=by
 obtain⟨h1,h2⟩:=h
 rw[h1] at h2
 rcases Decidable.em (t=1∨t=2∨t=3) with h|h
 ·exact h
 ·unfold chk at h2;rw[if_pos (.inl h)] at h2;omega
theorem zfF{t:Int}{a b:V3}(ha:okT t a)(hb:okT t b):cmpX a b=if t=3 then cmpS a.2.2.data.toList b.2.2.data.toList else cmpI a.2.1 b.2.1:=by
 have he:cmpE a.1 a.2.1 a.2.2.data.toList b.1 b.2.1 b.2.2.data.toList=0:=by
  rw[cmpE,if_neg (by rw[ha.2];simp),if_neg (by rw[hb.2];simp),if_neg (by rw[ha.1,hb.1];simp)]
 rw[cmpX,cmpN,if_neg (by rw[he];simp),ha.1]
theorem zhw{x y:Int}:cmpI x y<0↔x<y:=by unfold cmpI;split<;>(try split)<;>omega
theorem zhI{x y:Int}:0<cmpI x y↔y<x:=by unfold cmpI;split<;>(try split)<;>omega
theorem zhx{x y:List UInt8}:cmpS x y<0↔x<y:=by
 unfold cmpS
 by_cases h:x<y
 ·simp[h]
 ·rw[if_neg h];split<;>simp[h]
theorem zhz{x y:List UInt8}:0<cmpS x y↔y<x:=by
 unfold cmpS
 by_cases h:x<y
 ·rw[if_pos h]
  have:¬y<x:=fun h2=>List.lt_irrefl _ (List.lt_trans h h2)
  simp[this]
 ·rw[if_neg h];split<;>simp[*]
def ahV(w:List UInt8)(a b:V3):Prop:=if w=zaK then cmpX a b<0 else 0<cmpX a b
theorem zii{w:List UInt8}{t:Int}{a b c:V3}(ha:okT t a)(hb:okT t b)(hc:okT t c)(h1:ahV w a b)(h2:ahV w b c):ahV w a c:=by
 unfold ahV at *
 rw[zfF ha hb] at h1
 rw[zfF hb hc] at h2
 rw[zfF ha hc]
 by_cases hw:w=zaK
 ·rw[if_pos hw] at *
  by_cases ht:t=3
  ·rw[if_pos ht] at *
   rw[zhx] at *
   exact List.lt_trans h1 h2
  ·rw[if_neg ht] at *
   rw[zhw] at *
   omega
 ·rw[if_neg hw] at *
  by_cases ht:t=3
  ·rw[if_pos ht] at *
   rw[zhz] at *
   exact List.lt_trans h2 h1
  ·rw[if_neg ht] at *
   rw[zhI] at *
   omega
theorem zop{a b:ByteArray}(h:a.data.toList=b.data.toList):a=b:=by
 cases a;cases b
 simp only[ByteArray.mk.injEq]
 exact Array.toList_inj.1 h
theorem zkR{w:List UInt8}{t:Int}{a b:V3}(ha:okT t a)(hb:okT t b)(h1:¬ahV w a b)(h2:¬ahV w b a):a=b:=by
 have key:(t=3→a.2.2.data.toList=b.2.2.data.toList)∧(t≠3→a.2.1=b.2.1):=by
  unfold ahV at h1 h2
  rw[zfF ha hb] at h1
  rw[zfF hb ha] at h2
  refine⟨fun ht=>?_,fun ht=>?_⟩
  ·rw[if_pos ht] at h1 h2
   by_cases hw:w=zaK
   ·rw[if_pos hw,zhx] at h1 h2
    exact List.le_antisymm (List.not_lt.1 h2) (List.not_lt.1 h1)
   ·rw[if_neg hw,zhz] at h1 h2
    exact List.le_antisymm (List.not_lt.1 h1) (List.not_lt.1 h2)
  ·rw[if_neg ht] at h1 h2
   by_cases hw:w=zaK
   ·rw[if_pos hw,zhw] at h1 h2;omega
   ·rw[if_neg hw,zhI] at h1 h2;omega
 obtain⟨a1,a2,a3⟩:=a
 obtain⟨b1,b2,b3⟩:=b
 obtain⟨ha1,ha2⟩:=ha
 obtain⟨hb1,hb2⟩:=hb
 simp only at *
 subst ha1 hb1
 by_cases ht:b1=3
 ·subst ht
  rw[(zfs ha2).2,(zfs hb2).2,zop (key.1 rfl)]
 ·have hn:=key.2 ht
  have hs:a3.data.toList=[]∧b3.data.toList=[]:=by
   rcases zjI (t:=b1) (v:=(b1,a2,a3)) ⟨rfl,ha2⟩ with h|h|h
   ·subst h;exact⟨zkZ ha2,zkZ hb2⟩
   ·subst h;exact⟨(zlC ha2).2,(zlC hb2).2⟩
   ·exact absurd h ht
  rw[hn,zop (hs.1.trans hs.2.symm)]
def zlq(w:List UInt8)(vs:List V3)(b:V3):Prop:=(vs=[]∧b=noV)∨(b∈vs∧∀v∈vs,¬ahV w v b)
theorem zlq.unique{w:List UInt8}{t:Int}{vs us:List V3}{a b:V3}(hv:∀v∈vs,okT t v)(hm:∀v,v∈vs↔v∈us)(h1:zlq w vs a)(h2:zlq w us b):a=b:=by
 rcases h1 with ⟨e1,r1⟩|⟨m1,k1⟩
 ·rcases h2 with ⟨e2,r2⟩|⟨m2,k2⟩
  ·rw[r1,r2]
  ·have:=(hm b).2 m2;rw[e1] at this;simp at this
 ·rcases h2 with ⟨e2,r2⟩|⟨m2,k2⟩
  ·have:=(hm a).1 m1;rw[e2] at this;simp at this
  ·exact zkR (hv a m1) (hv b ((hm b).2 m2)) (k2 a ((hm a).1 m1)) (k1 b ((hm b).2 m2))
structure Kn(p:Pt)(vs:List V3):Prop where
 sum:p.wh=wSum→sv p.ws=(vs.map (·.2.1)).sum
 best:p.wh=zaK∨p.wh=wMost→zlq p.wh vs p.best
theorem Kn.nil{p:Pt}(h1:p.ws=[])(h2:p.best=noV):Kn p []:=⟨fun _=>by rw[h1];rfl,fun _=>.inl ⟨rfl,h2⟩⟩
theorem zkQ{p o:Pt}(h1:p.best.1≠0)(h2:o.best.1≠0):zbi p o=true↔ahV p.wh p.best o.best:=by
 rw[zbi,if_neg (by rintro (h|h);exact h1 h;exact h2 h),ahV]
 split<;>simp
theorem zoo{w:List UInt8}{t:Int}{vs:List V3}{b:V3}(h:zlq w vs b)(hv:∀v∈vs,okT t v):b.1=0↔vs=[]:=by
 rcases h with ⟨e,r⟩|⟨m,_⟩
 ·rw[r];simp[noV,e]
 ·have:=hv b m
  have ht:=zjI this
  constructor
  ·intro h0;rw[this.1] at h0;omega
  ·intro h0;rw[h0] at m;simp at m
theorem Kn.join{p o:Pt}{vs us:List V3}(h:Kn p vs)(k:Kn o us)(hw:o.wh=p.wh)(hp:OkPt p)(ho:OkPt o)(hv:p.wh=zaK∨p.wh=wMost→∀v∈vs,okT p.kind v)(hu:p.wh=zaK∨p.wh=wMost→∀v∈us,okT p.kind v):Kn (tkP p o) (vs++us):=by
 have hwh:(tkP p o).wh=p.wh:=by unfold Pt.wh;rw[(zmd p o).1]
 refine⟨fun hs=>?_,fun hb=>?_⟩
 ·rw[hwh] at hs
  rw[tkP,if_pos hs]
  show sv (shW (sumW p.ws o.ws))=_
  obtain⟨s1,s2,s3⟩:=zlA p.ws o.ws hp.ws.1 ho.ws.1
  rw[(zsA _ s2 (by intro e;rw[e] at s3;simp at s3)).1,s1,h.sum hs,k.sum (by rw[hw];exact hs),List.map_append,List.sum_append]
 ·rw[hwh] at hb ⊢
  have hns:p.wh≠wSum:=by rcases hb with hb|hb<;>rw[hb]<;>decide
  have h1:=h.best hb
  have k1:=k.best (by rw[hw];exact hb)
  rw[hw] at k1
  have z1:=zoo h1 (hv hb)
  have z2:=zoo k1 (hu hb)
  rw[tkP,if_neg hns,if_pos hb]
  by_cases e2:us=[]
  ·have:zbi o p=false:=by rw[zbi,if_pos (.inl (z2.2 e2))];simp[z2.2 e2]
   rw[this,if_neg (by simp),e2,List.append_nil]
   exact h1
  ·have n2:o.best.1≠0:=fun h0=>e2 (z2.1 h0)
   have m2:=k1.resolve_left (fun h0=>e2 h0.1)
   by_cases e1:vs=[]
   ·have:zbi o p=true:=by rw[zbi,if_pos (.inr (z1.2 e1))];simpa using n2
    rw[this,if_pos rfl,e1,List.nil_append]
    exact k1
   ·have n1:p.best.1≠0:=fun h0=>e1 (z1.1 h0)
    have m1:=h1.resolve_left (fun h0=>e1 h0.1)
    have hiff:=zkQ n2 n1
    rw[hw] at hiff
    by_cases ha:ahV p.wh o.best p.best
    ·rw[hiff.2 ha,if_pos rfl]
     refine .inr ⟨List.mem_append.2 (.inr m2.1),fun v hv'=>?_⟩
     rcases List.mem_append.1 hv' with hv'|hv'
     ·intro hlt
      exact m1.2 v hv' (zii (hv hb v hv') (hu hb _ m2.1) (hv hb _ m1.1) hlt ha)
     ·exact m2.2 v hv'
    ·have:zbi o p=false:=by
      cases hc:zbi o p
      ·rfl
      ·exact absurd (hiff.1 hc) ha
     rw[this,if_neg (by simp)]
     refine .inr ⟨List.mem_append.2 (.inl m1.1),fun v hv'=>?_⟩
     rcases List.mem_append.1 hv' with hv'|hv'
     ·exact m1.2 v hv'
     ·intro hlt
      by_cases hq:ahV p.wh p.best o.best
      ·exact m2.2 v hv' (zii (hu hb v hv') (hv hb _ m1.1) (hu hb _ m2.1) hlt hq)
      ·have:=zkR (hu hb _ m2.1) (hv hb _ m1.1) ha hq
       rw[←this] at hlt
       exact m2.2 v hv' hlt
theorem Kn.one{p:Pt}{v:V3}(hb:inB v.2.1):Kn (oneP p v) [v]:=by
 have hwh:(oneP p v).wh=p.wh:=by unfold Pt.wh;rw[(zcc p v).1]
 refine⟨fun hs=>?_,fun hx=>?_⟩
 ·rw[hwh] at hs
  rw[oneP,if_pos hs]
  show sv [v.2.1 % 18446744073709551616]=_
  rw[zue _ hb];simp
 ·rw[hwh] at hx ⊢
  have hns:p.wh≠wSum:=by rcases hx with hx|hx<;>rw[hx]<;>decide
  rw[oneP,if_neg hns,if_pos hx]
  refine .inr ⟨by simp,fun u hu=>?_⟩
  have:u=v:=by simpa using hu
  subst this
  unfold ahV cmpX cmpN
  split
  ·split
   ·omega
   ·split
    ·rw[zhx];exact List.lt_irrefl _
    ·rw[zhw];exact Int.lt_irrefl _
  ·split
   ·omega
   ·split
    ·rw[zhz];exact List.lt_irrefl _
    ·rw[zhI];exact Int.lt_irrefl _
def colV(i:Nat)(rs:List (List V3)):List V3:=rs.map fun r=>r.getD i noV
theorem zpk(i:Nat)(a b:List (List V3)):colV i (a++b)=colV i a++colV i b:=by simp[colV]
theorem zcj.refl(ps:List Pt):zcj ps ps:=⟨rfl,fun i _ _=>⟨rfl,rfl⟩⟩
theorem zcj.symm{ps os:List Pt}(h:zcj ps os):zcj os ps:=⟨h.1.symm,fun i h1 h2=>⟨(h.2 i h2 h1).1.symm,(h.2 i h2 h1).2.symm⟩⟩
theorem zcj.trans{ps os qs:List Pt}(h:zcj ps os)(k:zcj os qs):zcj ps qs :=
 ⟨h.1.trans k.1,fun i h1 h2=>by
  have h3:i<os.length:=by have:=h.1;omega
  exact⟨(h.2 i h1 h3).1.trans (k.2 i h3 h2).1,(h.2 i h1 h3).2.trans (k.2 i h3 h2).2⟩⟩
theorem zmx{p o:Pt}(h1:p.what=o.what)(h2:p.kind=o.kind)(v:V3):ckPt p v=ckPt o v:=by unfold ckPt Pt.wh;rw[h1,h2]
theorem ziB:∀{ps os:List Pt} (vs:List V3),zcj ps os→List.zipWith ckPt ps vs=List.zipWith ckPt os vs
 | [],[],vs,_=>rfl
 | p::ps,[],vs,h=>by have:=h.1;simp at this
 | [],o::os,vs,h=>by have:=h.1;simp at this
 | p::ps,o::os,[],_=>by simp
 | p::ps,o::os,v::vs,h=>by
  have h0:p.what=o.what∧p.kind=o.kind:=h.2 0 (by simp) (by simp)
  rw[List.zipWith_cons_cons,List.zipWith_cons_cons,zmx h0.1 h0.2,ziB vs ⟨by have:=h.1;simpa using this,fun i h1 h2=>h.2 (i+1) (by simpa using h1) (by simpa using h2)⟩]
theorem zfv{ps os:List Pt}(h:zcj ps os)(vs:List V3):adE ps vs=adE os vs:=by
 unfold adE
 rw[ziB vs h,h.1]
theorem zkT{ps:List Pt}{vs:List V3}(h:adE ps vs=0):vs.length=ps.length∧∀i (h1:i<ps.length) (h2:i<vs.length),ckPt ps[i] vs[i]=0:=by
 unfold adE at h
 by_cases hl:vs.length=ps.length
 ·rw[if_neg (fun k=>k hl)] at h
  refine⟨hl,fun i h1 h2=>?_⟩
  have hz:i<(List.zipWith ckPt ps vs).length:=by simp;omega
  rw[←zpX h1 h2 hz]
  exact zdi h _ (List.getElem_mem _)
 ·rw[if_pos hl] at h;omega
theorem zor{p:Pt}{v:V3}(h:ckPt p v=0)(hx:p.wh=zaK∨p.wh=wMost):okT p.kind v:=by
 unfold ckPt at h
 rw[if_neg (by rcases hx with hx|hx<;>rw[hx]<;>decide)] at h
 by_cases h1:chk v.1 v.2.1 v.2.2.data.toList=0
 ·rw[if_neg (fun k=>k h1)] at h
  by_cases h2:v.1=p.kind
  ·exact⟨h2,h1⟩
  ·rw[if_pos h2] at h;omega
 ·rw[if_pos h1] at h;exact absurd h h1
theorem zgJ(ps:List Pt)(vs:List V3):(adP ps vs).length=ps.length:=zbI _ _ _
theorem zsj{ps:List Pt}{vs:List V3}{i:Nat}(h1:i<ps.length)(h2:i<vs.length):(adP ps vs)[i]'(by rw[zgJ];exact h1)=tkP ps[i] (oneP ps[i] vs[i]):=by
 unfold adP
 rw[zls _ _ _ _ h1,if_pos h1,adO h1 h2]
structure Acu(ps0:List Pt)(rs:List (List V3))(ps:List Pt):Prop where
 al:zcj ps ps0
 ok:AccOk (rs.length:Int) ps
 kn:∀i (h:i<ps.length),Kn ps[i] (colV i rs)
 gd:∀r∈rs,adE ps0 r=0
theorem Acu.col{ps0 ps:List Pt}{rs:List (List V3)}(h:Acu ps0 rs ps){i:Nat}(hi:i<ps.length):ps[i].wh=zaK∨ps[i].wh=wMost→∀v∈colV i rs,okT ps[i].kind v:=by
 intro hx v hv
 unfold colV at hv
 obtain⟨r,hr,rfl⟩:=List.mem_map.1 hv
 have hg:=h.gd r hr
 rw[←zfv h.al] at hg
 obtain⟨h1,h2⟩:=zkT hg
 have hi2:i<r.length:=by omega
 rw[List.getD_eq_getElem?_getD,List.getElem?_eq_getElem hi2]
 exact zor (h2 i hi hi2) hx
theorem Acu.new{xs:List ByteArray}{ts:List Int}(h:nwE xs ts=0):Acu (nwP xs ts) [] (nwP xs ts):=by
 obtain⟨h1,h2,h3⟩:=zuq h
 exact⟨zcj.refl _,h1,fun i hi=>Kn.nil (h2 _ (List.getElem_mem hi)).1 (h2 _ (List.getElem_mem hi)).2,fun r hr=>by simp at hr⟩
theorem Acu.add{ps0 ps:List Pt}{rs:List (List V3)}{vs:List V3}(h:Acu ps0 rs ps)(hE:adE ps0 vs=0)(hs:zbK vs)(hl:rs.length+1≤10000):Acu ps0 (rs++[vs]) (adP ps vs):=by
 have hE':=hE
 rw[←zfv h.al] at hE'
 obtain⟨e1,e2⟩:=zkT hE'
 have hlen:((rs++[vs]).length:Int)=(rs.length:Int)+1:=by simp
 have part:∀i (hi:i<(adP ps vs).length),OkA ((rs.length:Int)+1) (adP ps vs)[i]∧Kn (adP ps vs)[i] (colV i (rs++[vs])):=fun i hi=>by
  have h1:i<ps.length:=by rw[zgJ] at hi;exact hi
  have h2:i<vs.length:=by omega
  have hp:=h.ok.ok _ (List.getElem_mem h1)
  have ho:=zok hp.ok (e2 i h1 h2) (hs _ (List.getElem_mem h2)).2
  have hw:(oneP ps[i] vs[i]).wh=ps[i].wh:=by unfold Pt.wh;rw[(zcc _ _).1]
  rw[zsj h1 h2]
  refine⟨zvq hp ho (zcc _ _).2 (by omega) (by omega) (by omega),?_⟩
  have hc:colV i (rs++[vs])=colV i rs++[vs[i]]:=by
   rw[zpk]
   simp[colV,h2]
  rw[hc]
  exact (h.kn i h1).join (Kn.one (hs _ (List.getElem_mem h2)).2) hw hp.ok ho.ok (h.col h1) (fun hx v hv=>by
   have:v=vs[i]:=by simpa using hv
   rw[this]
   exact zor (e2 i h1 h2) hx)
 refine⟨⟨by rw[zgJ];exact h.al.1,fun i h1 h2=>?_⟩,⟨by rw[zgJ];exact h.ok.len,by omega,by omega,fun p hp=>?_⟩,fun i hi=>(part i hi).2,fun r hr=>?_⟩
 ·have hi:i<ps.length:=by rw[zgJ] at h1;exact h1
  rw[zsj hi (by omega)]
  have:=zmd ps[i] (oneP ps[i] vs[i])
  exact⟨this.1.trans (h.al.2 i hi h2).1,this.2.trans (h.al.2 i hi h2).2⟩
 ·obtain⟨i,hi,rfl⟩:=List.getElem_of_mem hp
  rw[hlen]
  exact (part i hi).1
 ·rcases List.mem_append.1 hr with hr|hr
  ·exact h.gd r hr
  ·have:r=vs:=by simpa using hr
   rw[this];exact hE
theorem zpV{a b:List Int}(h:a.Perm b):a.sum=b.sum:=by
 induction h with
 | nil=>rfl
 | cons x _ ih=>simp[ih]
 | swap x y l=>simp;omega
 | trans _ _ ih1 ih2=>rw[ih1,ih2]
theorem zsw{p:Pt}{n:Int}(h:p.wh=zaQ):resP p n=((1,n,⟨#[]⟩),0):=by rw[resP,if_pos h]
theorem zrC{p:Pt}{n:Int}(h:p.wh=wSum):resP p n=if -9223372036854775808≤sv p.ws∧sv p.ws≤9223372036854775807 then ((1,sv p.ws,⟨#[]⟩),0) else ((1,0,⟨#[]⟩),9):=by
 rw[resP,if_neg (by rw[h];decide),if_pos h]
theorem znF{p:Pt}{n:Int}(h:p.wh=zaK∨p.wh=wMost):resP p n=if p.best.1=0 then (noV,5) else (p.best,0):=by
 rw[resP,if_neg (by rcases h with h|h<;>rw[h]<;>decide),if_neg (by rcases h with h|h<;>rw[h]<;>decide)]
theorem Acu.same{ps0 ps os:List Pt}{rs us:List (List V3)}(h:Acu ps0 rs ps)(k:Acu ps0 us os)(hp:rs.Perm us)(n:Int):ps.map (fun p=>resP p n)=os.map (fun p=>resP p n):=by
 have hal:zcj ps os:=h.al.trans k.al.symm
 apply List.ext_getElem
 ·simp;exact hal.1
 ·intro i h1 h2
  have hi1:i<ps.length:=by simpa using h1
  have hi2:i<os.length:=by simpa using h2
  rw[List.getElem_map,List.getElem_map]
  obtain⟨a1,a2⟩:=hal.2 i hi1 hi2
  have hw:os[i].wh=ps[i].wh:=by unfold Pt.wh;rw[a1]
  have hc:(colV i rs).Perm (colV i us):=hp.map _
  have kn1:=h.kn i hi1
  have kn2:=k.kn i hi2
  have hag:=(h.ok.ok _ (List.getElem_mem hi1)).ok.ag
  have hcol:=h.col hi1
  rcases zgq hag with hx|hx|hx|hx
  ·rw[zsw hx,zsw (by rw[hw];exact hx)]
  ·rw[zrC hx,zrC (by rw[hw];exact hx),kn1.sum hx,kn2.sum (by rw[hw];exact hx),zpV (hc.map (·.2.1))]
  ·have b2:=kn2.best (.inl (by rw[hw];exact hx))
   rw[hw] at b2
   rw[znF (.inl hx),znF (.inl (by rw[hw];exact hx)),(kn1.best (.inl hx)).unique (hcol (.inl hx)) (fun v=>hc.mem_iff) b2]
  ·have b2:=kn2.best (.inr (by rw[hw];exact hx))
   rw[hw] at b2
   rw[znF (.inr hx),znF (.inr (by rw[hw];exact hx)),(kn1.best (.inr hx)).unique (hcol (.inr hx)) (fun v=>hc.mem_iff) b2]
def AcAt(W:World)(a:Nat)(v:Value)(ps0:List Pt)(rs:List (List V3)):Prop:=∃ps,AccAt W a v (rs.length:Int) ps∧Acu ps0 rs ps
theorem AcAt.on{W W':World}{a:Nat}{v:Value}{ps0:List Pt}{rs:List (List V3)}(h:AcAt W a v ps0 rs)(hb:Below W.heap.size W W'):AcAt W' a v ps0 rs:=by
 obtain⟨ps,h1,h2⟩:=h
 exact⟨ps,h1.on hb,h2⟩
theorem AcAt.lt{W:World}{a:Nat}{v:Value}{ps0:List Pt}{rs:List (List V3)}(h:AcAt W a v ps0 rs):∀k,accS a v k→k<W.heap.size:=by
 obtain⟨ps,h1,h2⟩:=h
 exact h1.ownlt
def gdR(ps0:List Pt)(rs:List (List V3))(vs:List V3):List (List V3):=if adE ps0 vs=0 then rs++[vs] else rs
theorem add_c(a:Nat)(v:Value)(ps0:List Pt)(rs:List (List V3))(vq:Option Addr)(vc:Nat)(vs:List V3)(W:World)(h:AcAt W a v ps0 rs)(hl:rs.length+1≤10000)(hv:zah W vq vs)(hsz:zbK vs)(hvl:vs.length≤maxLen)(hvd:vs.length=0∨∀b o,vq=some ⟨b,o,none⟩→¬accS a v b) :
  Calls Tryz.prog 179 #[.pointer (some ⟨a,0,none⟩),.slice vq vs.length vc] W fun e w'=>e=.returned (errV (adE ps0 vs))∧AcAt w' a v ps0 (gdR ps0 rs vs)∧Kp (accS a v) W w':=by
 obtain⟨ps,h1,h2⟩:=h
 have:=zsu a v (rs.length:Int) ps vq vc vs W h1 h2.ok (by omega) hv hsz hvl hvd (adE ps0 vs) (zfv h2.al vs)
 refine this.mono fun e w' hh=>⟨hh.1,?_,hh.2.2.out⟩
 have hA:=hh.2.1.out
 unfold gdR
 by_cases hE:adE ps0 vs=0
 ·rw[if_pos hE] at hA ⊢
  exact⟨_,by simpa using hA,h2.add hE hsz hl⟩
 ·rw[if_neg hE] at hA ⊢
  exact⟨_,hA,h2⟩
theorem new_c(ap:Option Addr)(ac:Nat)(xs:List ByteArray)(tp:Option Addr)(tc:Nat)(ts:List Int)(W:World)(henv:AEnv W)(ha:AgsW W ap xs)(ht:IntW W tp ts)(hx:xs.length≤maxLen)(htl:ts.length≤maxLen)(hE:nwE xs ts=0) :
  Calls Tryz.prog 200 #[.slice ap xs.length ac,.slice tp ts.length tc] W fun e w'=>∃a v,e=.returned (.tuple #[.pointer (some ⟨a,0,none⟩),.nilIface])∧AcAt w' a v (nwP xs ts)[]∧(∀k,accS a v k→W.heap.size≤k)∧Below W.heap.size W w' :=
 (zuT ap ac xs tp tc ts W henv ha ht hx htl hE).mono fun e w' hh=>by
  obtain⟨v,e1,e2,e3,e4⟩:=hh
  exact⟨_,v,e1,⟨_,by simpa using e2.out,Acu.new hE⟩,e3.out,e4.out⟩
theorem zmS{ps0 ps os:List Pt}{rs us:List (List V3)}(h:Acu ps0 rs ps)(k:Acu ps0 us os)(hp:rs.Perm us):reE ps (rs.length:Int)=reE os (us.length:Int)∧reV ps (rs.length:Int)=reV os (us.length:Int):=by
 have:=h.same k hp (rs.length:Int)
 have hl:us.length=rs.length:=hp.length_eq.symm
 rw[hl]
 refine⟨?_,?_⟩
 ·unfold reE
  have:=congrArg (List.map Prod.snd) this
  simpa [List.map_map,Function.comp_def] using congrArg fstE this
 ·unfold reV
  have:=congrArg (List.map Prod.fst) this
  simpa [List.map_map,Function.comp_def] using this
theorem zoY(q1 q2:Option Addr)(c1 c2:Nat)(vs:List V3)(w:World)(hn:vs.length≤1000000)(h1:zah w q1 vs)(h2:zah w q2 vs) :
  Calls Tryz.prog 22 #[.slice q1 vs.length c1,.slice q2 vs.length c2] w fun e w'=>e=.returned (.bool true)∧Aside (Below w.heap.size w w'):=by
 have H1:Aside (zah w q1 vs):=h1
 have H2:Aside (zah w q2 vs):=h2
 obtain⟨N,hN⟩:∃N,vs.length=N:=⟨_,rfl⟩
 have HN:Hid (vs.length=N):=hN
 rw[hN] at hn ⊢
 have qn:((N:Int) != (N:Int))=false:=by simp
 clear h1 h2 hN
 go_enter Tryz.func22,Tryz.ntmps22
 go_wp2
 go_loopg [5] N (fun gg s5 wr=>∃kk:Nat,kk≤N∧N-kk≤gg∧s5=.int .i64 kk∧Aside (Below w.heap.size w wr))
 case atStart=>exact⟨0,Nat.zero_le _,by omega,rfl,Below.refl _ w⟩
 case round =>
  obtain⟨kk,hkk,hg,rfl,BW⟩:=hrel
  by_cases hlt:kk<N
  ·have hltz:(kk:Int)<(N:Int):=by omega
   have k0:(0:Int)≤(kk:Int):=by omega
   have hki:kk<vs.length:=by rw[HN.out];exact hlt
   obtain⟨b1,o1,rfl,l1,r1⟩:=(H1.out.on BW.out).resolve_left (by omega)
   obtain⟨b2,o2,rfl,l2,r2⟩:=(H2.out.on BW.out).resolve_left (by omega)
   obtain⟨c0,c1,c2⟩:=r1 kk hki
   obtain⟨d0,d1,d2⟩:=r2 kk hki
   clear r1 r2
   generalize vs[kk]=y at c0 c1 c2 d0 d1 d2
   obtain⟨yt,yn,ys⟩:=y
   simp only at c0 c1 c2 d0 d1 d2
   go_wp2
   go_quiet (fail)
   go_wp2
   go_roundg (N-(kk+1))
   case measure=>omega
   case rel=>exact⟨kk+1,by omega,by omega,by go_num,by repeat (first|exact BW.out|apply below_drewN|refine Below.drew ?_)⟩
  ·have hltz:¬(kk:Int)<(N:Int):=by omega
   go_wp2
   go_ret
   exact⟨rfl,BW⟩
structure Gm where
 z:Nat
 key:List V3
 a:Nat
 v:Value
 rs:List (List V3)
structure Wm where
 z:Nat
 fr:Int
 gv:Value
 gs:List Gm
def Gm.p(g:Gm):Value:=.pointer (some ⟨g.z,0,none⟩)
def Wm.p(x:Wm):Value:=.pointer (some ⟨x.z,0,none⟩)
def Gm.S(g:Gm)(k:Nat):Prop:=accS g.a g.v k
def Wm.S(x:Wm)(k:Nat):Prop:=k=x.z∨x.gv.ownBlock=some k∨∃g∈x.gs,g.S k
def MutS(W:World)(S:Nat→Prop):Prop:=∀k cs t fr,S k→W.heap[k]?=some (.cells cs t fr)→t≠267∧t≠27∧t≠259
theorem MutS.no{W:World}:MutS W (fun _=>False):=fun _ _ _ _ h=>h.elim
theorem MutS.blk{W:World}{S:Nat→Prop}(h:MutS W S){b:Nat}{cs:Array Value}{t:TypeId}(hb:Blk W b cs t)(ht:t=267∨t=27∨t=259):¬S b:=fun hs=>by
 obtain⟨h1,h2,h3⟩:=h b cs t (0,0) hs hb
 rcases ht with h|h|h
 ·exact h1 h
 ·exact h2 h
 ·exact h3 h
theorem MutS.one{W:World}{b:Nat}{cs:Array Value}{t:TypeId}(hb:Blk W b cs t)(ht:t≠267∧t≠27∧t≠259):MutS W (·=b):=by
 intro k c t' fr hk hc
 have hk:k=b:=hk
 subst hk
 unfold Blk at hb
 rw[hb] at hc
 injection hc with hc
 injection hc with _ e _
 subst e
 exact ht
theorem MutS.or{W:World}{S T:Nat→Prop}(h:MutS W S)(k:MutS W T):MutS W (fun i=>S i∨T i):=fun i cs t fr hi hc=>hi.elim (fun e=>h i cs t fr e hc) (fun e=>k i cs t fr e hc)
theorem MutS.mono{W:World}{S T:Nat→Prop}(h:MutS W S)(hs:∀k,T k→S k):MutS W T:=fun i cs t fr hi hc=>h i cs t fr (hs i hi) hc
theorem zdG{W:World}{B n size:Nat}{e:TypeId}{v:Value}{xs:List Value}(h:W.ownsRow B e size v n xs)(ht:e≠267∧e≠27∧e≠259):MutS W (fun k=>v.ownBlock=some k):=by
 intro k c t' fr hk hc
 rcases h.2 with ⟨e1,-⟩|⟨g,cap,cur,e1,-,hg,-⟩
 ·rw[e1] at hk;simp[Value.ownBlock] at hk
 ·rw[e1] at hk
  have hk:g=k:=by simpa [Value.ownBlock] using hk
  subst hk
  rw[hg] at hc
  injection hc with hc
  injection hc with _ e _
  subst e
  exact ht
theorem zgw{w w':World}{S:Nat→Prop}{B n size:Nat}{e:TypeId}{v:Value}{xs:List Value}(h:w.ownsRow B e size v n xs)(hk:Kp S w w')(hs:∀k,v.ownBlock=some k→¬S k):w'.ownsRow B e size v n xs:=by
 refine⟨h.1,?_⟩
 rcases h.2 with hn|⟨g,cap,cur,rfl,h1,hgg,rest⟩
 ·exact .inl hn
 ·exact .inr ⟨g,cap,cur,rfl,h1,by rw[hk.kept g (Array.getElem?_eq_some_iff.1 hgg).1 (hs g rfl)];exact hgg,rest⟩
theorem zfH{B B' n size:Nat}{w:World}{e:TypeId}{v:Value}{xs:List Value}(h:w.ownsRow B e size v n xs)(hb:B'≤B):w.ownsRow B' e size v n xs :=
 ⟨h.1,h.2.imp id (fun ⟨g,cap,cur,e,hbg,r⟩=>⟨g,cap,cur,e,Nat.le_trans hb hbg,r⟩)⟩
theorem zdQ{w:World}{B k size:Nat}{e:TypeId}{v:Value}{xs:List Value}(h:w.ownsRow B e size v (k+1) xs):∃g cap,v=.slice (some ⟨g,0,none⟩) (k+1) cap:=by
 rcases h.2 with ⟨_,h0⟩|⟨g,cap,cur,e,-⟩
 ·omega
 ·exact⟨g,cap,e⟩
theorem zdW{w:World}{B n size:Nat}{e:TypeId}{v:Value}{xs:List Value}(h:w.ownsRow B e size v n xs):∀k,v.ownBlock=some k→B≤k∧k<w.heap.size:=fun k hk=>World.ownsRow.lt h k hk
theorem zoQ{w:World}{S:Nat→Prop}{B n size:Nat}{v:Value}{xs:List Value}(h:w.ownsRow B 27 size v n xs)(hm:MutS w S):∀k,v.ownBlock=some k→¬S k:=fun k hk hs=>by
 rcases h.2 with ⟨e1,-⟩|⟨g,cap,cur,e1,-,hg,-⟩
 ·rw[e1] at hk;simp[Value.ownBlock] at hk
 ·rw[e1] at hk
  have hk:g=k:=by simpa [Value.ownBlock] using hk
  subst hk
  exact (hm g cur _ (0,0) hs hg).2.1 rfl
structure GmAt(w:World)(base:Nat)(ps0:List Pt)(g:Gm):Prop where
 blk:∃kv,Blk w g.z #[kv,.pointer (some ⟨g.a,0,none⟩)] 259∧w.ownsRow base 27 3 kv g.key.length (zan g.key)
 acc:AcAt w g.a g.v ps0 g.rs
 low:∀k,g.S k→base≤k
theorem AcAt.mut{W:World}{a:Nat}{v:Value}{ps0:List Pt}{rs:List (List V3)}(h:AcAt W a v ps0 rs):MutS W (accS a v):=by
 obtain⟨ps,h,-⟩:=h
 have h1:MutS W (·=a):=MutS.one h.blk (by decide)
 rcases h.pts with ⟨-,rfl⟩|⟨g,c,cur,rfl,hp⟩
 ·exact h1.mono fun k hk=>hk.resolve_right (by simp[Value.ownBlock])
 ·exact (h1.or (MutS.one hp.blk (by decide))).mono fun k hk=>hk.imp id (fun e=>by
   have:g=k:=by simpa [Value.ownBlock] using e
   exact this.symm)
theorem AcAt.ty{W:World}{a:Nat}{v:Value}{ps0:List Pt}{rs:List (List V3)}(h:AcAt W a v ps0 rs){k:Nat}(hk:accS a v k):∃cs t,Blk W k cs t∧(t=290∨t=298):=by
 obtain⟨ps,h,-⟩:=h
 rcases hk with rfl|hk
 ·exact⟨_,_,h.blk,.inl rfl⟩
 ·rcases h.pts with ⟨-,rfl⟩|⟨g,c,cur,rfl,hp⟩
  ·simp[Value.ownBlock] at hk
  ·have:g=k:=by simpa [Value.ownBlock] using hk
   subst this
   exact⟨_,_,hp.blk,.inr rfl⟩
theorem AcAt.notblk{W:World}{a b:Nat}{v:Value}{ps0:List Pt}{rs:List (List V3)}{cs:Array Value}{t:TypeId}(h:AcAt W a v ps0 rs)(hb:Blk W b cs t)(ht:t≠290∧t≠298):¬accS a v b:=fun hk=>by
 obtain⟨ds,u,h1,h2⟩:=h.ty hk
 exact zfq hb h1 (by rcases h2 with rfl|rfl;exact ht.1;exact ht.2) rfl
theorem AcAt.notown{W:World}{a B n size:Nat}{v u:Value}{ps0:List Pt}{rs:List (List V3)}{e:TypeId}{xs:List Value}(h:AcAt W a v ps0 rs)(ho:W.ownsRow B e size u n xs)(ht:e≠290∧e≠298){k:Nat}(hu:u.ownBlock=some k):¬accS a v k:=by
 rcases ho.2 with ⟨e1,-⟩|⟨g,cap,cur,e1,-,hg,-⟩
 ·rw[e1] at hu;simp[Value.ownBlock] at hu
 ·rw[e1] at hu
  have hk:g=k:=by simpa [Value.ownBlock] using hu
  subst hk
  exact h.notblk (show Blk W g cur e from hg) ht
theorem AcAt.kp{w w':World}{S:Nat→Prop}{a:Nat}{v:Value}{ps0:List Pt}{rs:List (List V3)}(h:AcAt w a v ps0 rs)(hk:Kp S w w')(hm:MutS w S)(hS:∀k,accS a v k→¬S k):AcAt w' a v ps0 rs:=by
 obtain⟨ps,h3,h4⟩:=h
 exact⟨ps,h3.keep hk hS (fun k cs hs hc=>(hm k cs _ _ hs hc).1 rfl),h4⟩
theorem GmAt.kp{w w':World}{S:Nat→Prop}{base:Nat}{ps0:List Pt}{g:Gm}(h:GmAt w base ps0 g)(hk:Kp S w w')(hm:MutS w S)(hS:∀k,g.S k→¬S k):GmAt w' base ps0 g:=by
 obtain⟨⟨kv,h1,h2⟩,⟨ps,h3,h4⟩,h5⟩:=h
 refine⟨⟨kv,h1.kp hk (hm.blk h1 (by decide)),zgw h2 hk (zoQ h2 hm)⟩,⟨ps,h3.keep hk hS (fun k cs hs hc=>(hm k cs _ _ hs hc).1 rfl),h4⟩,h5⟩
theorem GmAt.on{w w':World}{base:Nat}{ps0:List Pt}{g:Gm}(h:GmAt w base ps0 g)(hb:Below w.heap.size w w'):GmAt w' base ps0 g:=h.kp (Kp.of_below (S:=fun _=>False) hb) MutS.no (fun _ _ h=>h)
structure WmAt(w:World)(base:Nat)(ps0:List Pt)(x:Wm):Prop where
 blk:Blk w x.z #[.int .i64 x.fr,x.gv] 182
 row:w.ownsRow base 254 1 x.gv x.gs.length (x.gs.map Gm.p)
 gp:∀g∈x.gs,GmAt w base ps0 g
 dj:x.gs.Pairwise fun g h=>∀k,g.S k→¬h.S k
 low:base≤x.z
theorem WmAt.mut{w:World}{base:Nat}{ps0:List Pt}{x:Wm}(h:WmAt w base ps0 x):MutS w x.S:=by
 refine (((MutS.one h.blk (by decide)).or (zdG h.row (by decide))).or (T:=fun k=>∃g∈x.gs,g.S k) (fun k cs t fr hk hc=>?_)).mono fun k hk=>?_
 ·obtain⟨g,hg,hs⟩:=hk
  exact (h.gp g hg).acc.mut k cs t fr hs hc
 ·rcases hk with h|h|h
  ·exact .inl (.inl h)
  ·exact .inl (.inr h)
  ·exact .inr h
theorem WmAt.lt{w:World}{base:Nat}{ps0:List Pt}{x:Wm}(h:WmAt w base ps0 x):∀k,x.S k→base≤k∧k<w.heap.size:=by
 intro k hk
 rcases hk with rfl|hk|⟨g,hg,hs⟩
 ·exact⟨h.low,h.blk.lt⟩
 ·exact zdW h.row k hk
 ·exact⟨(h.gp g hg).low k hs,(h.gp g hg).acc.lt k hs⟩
theorem WmAt.kp{w w':World}{S:Nat→Prop}{base:Nat}{ps0:List Pt}{x:Wm}(h:WmAt w base ps0 x)(hk:Kp S w w')(hm:MutS w S)(hS:∀k,x.S k→¬S k):WmAt w' base ps0 x :=
 ⟨h.blk.kp hk (hS _ (.inl rfl)),zgw h.row hk (fun k e=>hS k (.inr (.inl e))),fun g hg=>(h.gp g hg).kp hk hm (fun k hs=>hS k (.inr (.inr ⟨g,hg,hs⟩))),h.dj,h.low⟩
theorem WmAt.on{w w':World}{base:Nat}{ps0:List Pt}{x:Wm}(h:WmAt w base ps0 x)(hb:Below w.heap.size w w'):WmAt w' base ps0 x:=h.kp (Kp.of_below (S:=fun _=>False) hb) MutS.no (fun _ _ h=>h)
structure Gs where
 SC:Array Value
 at_:Int
 pv:Value
 av:Value
 tv:Value
 size:Int
 slide:Int
structure GrC(s:Gs)(last:Int)(ov:Value)(C:Array Value):Prop where
 size:C.size=17
 sv:s.SC.size=9∧∀(j:Nat) (v:Value),s.SC[j]?=some v→C[j]?=some v
 c9:C[9]?=some (.int .i64 s.at_)
 c10:C[10]?=some s.pv
 c11:C[11]?=some s.av
 c12:C[12]?=some s.tv
 c13:C[13]?=some (.int .i64 s.size)
 c14:C[14]?=some (.int .i64 s.slide)
 c15:C[15]?=some (.int .i64 last)
 c16:C[16]?=some ov
theorem GrC.last{s:Gs}{l l':Int}{ov:Value}{C:Array Value}(h:GrC s l ov C):GrC s l' ov (C.setIfInBounds 15 (.int .i64 l')):=by
 obtain⟨h0,h1,h9,h10,h11,h12,h13,h14,h15,h16⟩:=h
 refine⟨by simpa using h0,⟨h1.1,fun j v hj=>?_⟩,?_,?_,?_,?_,?_,?_,?_,?_⟩
 ·have:j<9:=by rw[←h1.1];exact (Array.getElem?_eq_some_iff.1 hj).1
  rw[Array.getElem?_setIfInBounds_ne (by omega)];exact h1.2 j v hj
 all_goals first
  | (rw[Array.getElem?_setIfInBounds_ne (by omega)];assumption)
  | (rw[Array.getElem?_setIfInBounds_self,if_pos (by omega)])
theorem GrC.opens{s:Gs}{l:Int}{ov ov':Value}{C:Array Value}(h:GrC s l ov C):GrC s l ov' (C.setIfInBounds 16 ov'):=by
 obtain⟨h0,h1,h9,h10,h11,h12,h13,h14,h15,h16⟩:=h
 refine⟨by simpa using h0,⟨h1.1,fun j v hj=>?_⟩,?_,?_,?_,?_,?_,?_,?_,?_⟩
 ·have:j<9:=by rw[←h1.1];exact (Array.getElem?_eq_some_iff.1 hj).1
  rw[Array.getElem?_setIfInBounds_ne (by omega)];exact h1.2 j v hj
 all_goals first
  | (rw[Array.getElem?_setIfInBounds_ne (by omega)];assumption)
  | (rw[Array.getElem?_setIfInBounds_self,if_pos (by omega)])
structure GrAt(w:World)(base:Nat)(ps0:List Pt)(gb:Nat)(s:Gs)(last:Int)(ov:Value)(xs:List Wm):Prop where
 blk:∃C,Blk w gb C 110∧GrC s last ov C
 row:w.ownsRow base 152 1 ov xs.length (xs.map Wm.p)
 wm:∀x∈xs,WmAt w base ps0 x
 dj:xs.Pairwise fun x y=>∀k,x.S k→¬y.S k
 lt:gb<base
def GrS(gb:Nat)(ov:Value)(xs:List Wm)(k:Nat):Prop:=k=gb∨ov.ownBlock=some k∨∃x∈xs,x.S k
theorem GrAt.mut{w:World}{base:Nat}{ps0:List Pt}{gb:Nat}{s:Gs}{last:Int}{ov:Value}{xs:List Wm}(h:GrAt w base ps0 gb s last ov xs):MutS w (GrS gb ov xs):=by
 obtain⟨C,h1,h2⟩:=h.blk
 refine (((MutS.one h1 (by decide)).or (zdG h.row (by decide))).or (T:=fun k=>∃x∈xs,x.S k) (fun k cs t fr hk hc=>?_)).mono fun k hk=>?_
 ·obtain⟨g,hg,hs⟩:=hk
  exact (h.wm g hg).mut k cs t fr hs hc
 ·rcases hk with h|h|h
  ·exact .inl (.inl h)
  ·exact .inl (.inr h)
  ·exact .inr h
theorem GrAt.in_{w:World}{base:Nat}{ps0:List Pt}{gb:Nat}{s:Gs}{last:Int}{ov:Value}{xs:List Wm}(h:GrAt w base ps0 gb s last ov xs):∀k,GrS gb ov xs k→k=gb∨(base≤k∧k<w.heap.size):=by
 intro k hk
 rcases hk with rfl|hk|⟨x,hx,hs⟩
 ·exact .inl rfl
 ·exact .inr (zdW h.row k hk)
 ·exact .inr ((h.wm x hx).lt k hs)
theorem GrAt.kp{w w':World}{S:Nat→Prop}{base:Nat}{ps0:List Pt}{gb:Nat}{s:Gs}{last:Int}{ov:Value}{xs:List Wm}(h:GrAt w base ps0 gb s last ov xs)(hk:Kp S w w')(hm:MutS w S)(hS:∀k,GrS gb ov xs k→¬S k):GrAt w' base ps0 gb s last ov xs:=by
 obtain⟨C,h1,h2⟩:=h.blk
 exact⟨⟨C,h1.kp hk (hS _ (.inl rfl)),h2⟩,zgw h.row hk (fun k e=>hS k (.inr (.inl e))),fun g hg=>(h.wm g hg).kp hk hm (fun k hs=>hS k (.inr (.inr ⟨g,hg,hs⟩))),h.dj,h.lt⟩
theorem GrAt.on{w w':World}{base:Nat}{ps0:List Pt}{gb:Nat}{s:Gs}{last:Int}{ov:Value}{xs:List Wm}(h:GrAt w base ps0 gb s last ov xs)(hb:Below w.heap.size w w'):GrAt w' base ps0 gb s last ov xs:=h.kp (Kp.of_below (S:=fun _=>False) hb) MutS.no (fun _ _ h=>h)
structure Bts(S0:Nat→Prop)(gb:Nat)(W1 w:World):Prop where
 kp:Kp S0 W1 w
 own:S0 gb
 low:∀k,S0 k→k≤gb∨W1.heap.size≤k
theorem Bts.size{S0:Nat→Prop}{gb:Nat}{W1 w:World}(h:Bts S0 gb W1 w):W1.heap.size≤w.heap.size:=h.kp.size
theorem Bts.on{S0:Nat→Prop}{gb:Nat}{W1 w w':World}(h:Bts S0 gb W1 w)(hb:Below w.heap.size w w'):Bts S0 gb W1 w':=⟨h.kp.on hb,h.own,h.low⟩
theorem Bts.keepB{S0:Nat→Prop}{gb:Nat}{W1 w:World}(h:Bts S0 gb W1 w):KeepB (gb+1) W1 w:=⟨h.size,fun b h1 h2=>h.kp.kept b h2 (fun hs=>by have:=h.low b hs;omega)⟩
theorem GrAt.but{w w' W1:World}{S S0:Nat→Prop}{gb:Nat}(hb:Bts S0 gb W1 w)(hk:Kp S w w')(hs:∀k,S k→k=gb∨W1.heap.size≤k)(hg:gb<W1.heap.size):Bts S0 gb W1 w' :=
 ⟨⟨hb.kp.low.trans hk.low,fun k h1 h2=>by rw[hk.kept k (by have:=hb.size;omega) (fun h=>by rcases hs k h with rfl|h;exact h2 hb.own;omega),hb.kp.kept k h1 h2]⟩,hb.own,hb.low⟩
section
open Go.BigFrame
theorem zgz(q:Option Addr)(c:Nat)(ks:List V3)(w:World)(hn:ks.length≤1000000)(h:zah w q ks)(hs:∀v∈ks,v.2.2.size≤281474976710656) :
  Calls Tryz.prog 202 #[.slice q ks.length c] w fun e w'=>(∃u,e=.returned u∧Aside (w'.ownsRow w.heap.size 27 3 u ks.length (zan ks)))∧Below w.heap.size w w':=by
 have H:Aside (zah w q ks):=h
 have S:Aside _:=hs
 obtain⟨N,hN⟩:∃N,ks.length=N:=⟨_,rfl⟩
 have HN:Hid (ks.length=N):=hN
 rw[hN] at hn ⊢
 clear h hs hN
 have hnz:(N:Int)≤1000000:=by omega
 go_enter Tryz.func202,Tryz.ntmps202
 go_wp2
 go_loopg [3,5,8] N (fun gg s3 _ s8 wr=>∃(kk:Nat) (u:Value),kk≤N∧N-kk≤gg∧s8=.int .i64 (kk:Int)∧s3=u∧Aside (wr.ownsRow w.heap.size 27 3 u kk (zan (ks.take kk)))∧Aside (Below w.heap.size w wr))
 case atStart=>exact⟨0,.slice none 0 0,Nat.zero_le _,by omega,rfl,rfl,(show Aside _ from World.ownsRow_nil _ _ _ _),(show Aside _ from Below.refl _ _)⟩
 case round =>
  obtain⟨kk,u,hkk,hg,rfl,hu,OW,BW⟩:=hrel
  obtain rfl:u=_:=hu.symm
  by_cases hlt:kk<N
  ·have hltz:(kk:Int)<(N:Int):=by omega
   have h0z:(0:Int)≤(kk:Int):=by omega
   have hk1:kk<ks.length:=by rw[HN.out];exact hlt
   obtain⟨b1,o1,rfl,l1,r1⟩:=(H.out.on BW.out).resolve_left (by omega)
   obtain⟨e0,e1,e2⟩:=r1 kk hk1
   have z1:=S.out _ (List.getElem_mem hk1)
   have HT:Hid (ks.take (kk+1)=ks.take kk++[ks[kk]]):=by show _=_;rw[List.take_succ_eq_append_getElem hk1]
   clear r1
   generalize ks[kk]=x at e0 e1 e2 z1 HT
   obtain⟨t,n,s⟩:=x
   simp only at e0 e1 e2 z1
   have cF:=fun W=>zbW t n s W z1
   obtain⟨uq,uc,rfl⟩:=zaa OW.out
   go_wp2_with fail
   refine (cF _).mono ?_
   rintro e w2 ⟨rfl,b3⟩
   have hs2:=b3.size
   simp at hs2
   have hbs:=BW.out.size
   have a1:∀(X:World) o,Below X.heap.size X (X.alloc o):=fun X o=>(Below.refl _ _).alloc (Nat.le_refl _) o
   have O2:=zab (zab OW.out (a1 wr (.cells #[.int .i64 t,.int .i64 n,.string s] 27))) b3
   have B2:Below w.heap.size w w2:=(BW.out.alloc hbs (.cells #[.int .i64 t,.int .i64 n,.string s] 27)).trans (b3.mono (by simp;omega))
   have HO4:=(show Aside _ from zab O2 (a1 w2 (.cells #[.int .i64 t,.int .i64 n,.string s] 27)))
   have HJ4:=(show Aside _ from B2.alloc (by omega) (.cells #[.int .i64 t,.int .i64 n,.string s] 27))
   clear cF O2 B2 b3 BW OW e0 e1 e2
   go_wp2_with (at_builtin;refine zaB rfl _ _ rfl w.heap.size _ kk (ks.take kk) rfl HO4.out w2.heap.size 1 t n s rfl (news1 (by simp) _) (by omega) (by simp;omega) ?_)
   intro q' c' w4 ho hg
   have hown4:∀m,(Value.slice uq kk uc).ownBlock=some m→w.heap.size≤m:=fun m hm=>(World.ownsRow.lt HO4.out m hm).1
   have B6:Aside (Below w.heap.size w w4):=HJ4.out.grown hg (by simp;omega) hown4
   rw[←HT.out] at ho
   have O6:Aside (w4.ownsRow w.heap.size 27 3 (.slice q' (kk+1) c') (kk+1) (zan (ks.take (kk+1)))):=ho
   clear ho hg HO4 HJ4 hown4
   go_wp2
   go_roundg (N-(kk+1))
   case measure=>omega
   case rel=>exact⟨kk+1,_,by omega,by omega,by go_num,rfl,O6,B6⟩
  ·have hltz:¬(kk:Int)<(N:Int):=by omega
   obtain rfl:kk=N:=by omega
   have ht:ks.take kk=ks:=List.take_of_length_le (by rw[HN.out];exact Nat.le_refl _)
   rw[ht] at OW
   go_wp2
   go_ret
   exact⟨⟨_,rfl,OW⟩,BW.out⟩
theorem znJ(fn:FuncId)(hent:∀(args:Array Value) (W:World),Sem.run Tryz.prog (callFunc fn args) W=.ok (.enter fn args) W)(caps:Array Value)(b off n c:Nat)(tg:Value)(ps:Nat→Value)(cs:Nat→Int)(w:World)(hn:n≤1000000)
  (hb:b<w.heap.size)(hp:∀j,j<n→w.cell? ⟨b,off+j,none⟩=some (ps j))(k:Nat)(hk:k≤n)(h1:∀j,j<k→cs j<0)(h2:∀j,k≤j→j<n→0≤cs j)
  (hc:∀j,j<n→∀W,Below w.heap.size w W→Calls Tryz.prog fn (#[ps j,tg]++caps) W fun e w'=>e=.returned (.int .i64 (cs j))∧Below W.heap.size W w') :
  Calls Tryz.prog 195 #[.slice (some ⟨b,off,none⟩) n c,tg,.func (.func fn) #[] caps] w fun e w'=>e=.returned (.tuple #[.int .i64 (k:Int),.bool (decide (k<n)&&(cs k == 0))])∧Below w.heap.size w w':=by
 have HP:=(show Aside _ from hp)
 have HC:=(show Aside _ from hc)
 have H1:=(show Aside _ from h1)
 have H2:=(show Aside _ from h2)
 have hnz:(n:Int)≤1000000:=by omega
 clear hp hc h1 h2
 go_enter Tryz.func195,Tryz.ntmps195
 go_wp2
 go_loopg [9,10,11] n (fun gg s9 s10 _ wr=>∃i j:Nat,i≤k∧k≤j∧j≤n∧j-i≤gg∧s9=.int .i64 (i:Int)∧s10=.int .i64 (j:Int)∧Aside (Below w.heap.size w wr))
 case atStart=>exact⟨0,n,Nat.zero_le _,hk,Nat.le_refl _,by omega,rfl,rfl,(show Aside _ from Below.refl _ _)⟩
 case round =>
  obtain⟨i,j,hi,hj,hjn,hg,rfl,rfl,BW⟩:=hrel
  have hiz:(i:Int)≤1000000:=by omega
  have hjz:(j:Int)≤1000000:=by omega
  have hi0:(0:Int)≤(i:Int):=by omega
  have hj0:(0:Int)≤(j:Int):=by omega
  by_cases hlt:i<j
  ·have hltz:(i:Int)<(j:Int):=by omega
   have hm:(i+j) / 2<n:=by omega
   have hcell:=HP.out _ hm
   rw[←BW.out.cell (p:=⟨b,off+(i+j) / 2,none⟩) hb] at hcell
   have cC:=HC.out _ hm wr BW.out
   by_cases hneg:cs ((i+j) / 2)<0
   ·have hk2:(i+j) / 2<k:=by
     rcases Nat.lt_or_ge ((i+j) / 2) k with h|h
     ·exact h
     ·have:=H2.out _ h hm;omega
    generalize cs ((i+j) / 2)=cv at cC hneg
    go_wp2_with fail
    refine cC.mono ?_
    rintro e w1 ⟨rfl,b1⟩
    have BW2:Aside (Below w.heap.size w w1):=BW.out.trans (b1.mono BW.out.size)
    clear cC b1 BW hcell
    go_wp2
    go_roundg (j-((i+j) / 2+1))
    case measure=>omega
    case rel=>exact⟨(i+j) / 2+1,j,by omega,hj,hjn,by omega,by (first|go_num|(congr 1;omega)),rfl,BW2⟩
   ·have hk2:k≤(i+j) / 2:=by
     rcases Nat.lt_or_ge ((i+j) / 2) k with h|h
     ·exact absurd (H1.out _ h) hneg
     ·exact h
    generalize cs ((i+j) / 2)=cv at cC hneg
    go_wp2_with fail
    refine cC.mono ?_
    rintro e w1 ⟨rfl,b1⟩
    have BW2:Aside (Below w.heap.size w w1):=BW.out.trans (b1.mono BW.out.size)
    clear cC b1 BW hcell
    go_wp2
    go_roundg ((i+j) / 2-i)
    case measure=>omega
    case rel=>exact⟨i,(i+j) / 2,hi,hk2,by omega,by omega,rfl,by (first|go_num|(congr 1;omega)),BW2⟩
  ·have hltz:¬(i:Int)<(j:Int):=by omega
   obtain rfl:k=i:=by omega
   obtain rfl:k=j:=by omega
   clear H1 H2
   by_cases hn2:k<n
   ·have hnz2:(k:Int)<(n:Int):=by omega
    have hcell:=HP.out _ hn2
    rw[←BW.out.cell (p:=⟨b,off+k,none⟩) hb] at hcell
    have cC:=HC.out _ hn2 wr BW.out
    have hd:decide (k<n)=true:=by simpa using hn2
    go_wp2_with fail
    refine cC.mono ?_
    rintro e w1 ⟨rfl,b1⟩
    have BW2:=BW.out.trans (b1.mono BW.out.size)
    clear cC b1 BW hcell HP HC
    go_wp2
    go_ret2
    refine⟨?_,BW2⟩
    rw[hd,Bool.true_and]
    rfl
   ·have hnz2:¬(k:Int)<(n:Int):=by omega
    have hd:decide (k<n)=false:=by simpa using hn2
    go_wp2
    go_ret2
    refine⟨?_,BW.out⟩
    first|rfl|(rw[hd,Bool.false_and];rfl)|(simp[hn2];rfl)
def cmpV3(a b:V3):Int:=cmpN a.1 a.2.1 a.2.2.data.toList b.1 b.2.1 b.2.2.data.toList
def keyC:List V3→List V3→Int
 | a::l,b::m=>if cmpV3 a b≠0 then cmpV3 a b else keyC l m
 | _,_=>0
theorem zfd(ks ls:List V3)(k:Nat)(h1:k<ks.length)(h2:k<ls.length)(h:cmpV3 ks[k] ls[k]=0):keyC (ks.drop k) (ls.drop k)=keyC (ks.drop (k+1)) (ls.drop (k+1)):=by
 rw[List.drop_eq_getElem_cons h1,List.drop_eq_getElem_cons h2,keyC,if_neg (by simp[h])]
theorem zhA(ks ls:List V3)(k:Nat)(h1:k<ks.length)(h2:k<ls.length)(h:cmpV3 ks[k] ls[k]≠0):keyC (ks.drop k) (ls.drop k)=cmpV3 ks[k] ls[k]:=by
 rw[List.drop_eq_getElem_cons h1,List.drop_eq_getElem_cons h2,keyC,if_pos h]

theorem zfy(t n:Int)(s:ByteArray)(t' n':Int)(s':ByteArray)(w:World)(hs:s.size≤maxLen)(hs':s'.size≤maxLen) :
  Calls Tryz.prog 220 #[.agg #[.int .i64 t,.int .i64 n,.string s],.agg #[.int .i64 t',.int .i64 n',.string s']] w fun e w'=>e=.returned (.int .i64 (cmpN t n s.data.toList t' n' s'.data.toList))∧Below w.heap.size w w':=by
 have hc:=fun W=>zes t n s t' n' s' W hs hs'
 generalize errV (cmpE t n s.data.toList t' n' s'.data.toList)=ev at hc
 generalize cmpN t n s.data.toList t' n' s'.data.toList=R at hc ⊢
 go_enter Tryz.func220,Tryz.ntmps220
 go_wp2_with fail
 refine (hc _).mono ?_
 rintro e w1 ⟨rfl,b1⟩
 have B1:Aside _:=b1
 clear hc b1
 go_wp2
 go_ret
 exact⟨rfl,((alB w _).trans ((alB _ _).mono (by simp))).trans (B1.out.mono (by simp;omega))⟩

theorem zdF(q1 q2:Option Addr)(c1 c2:Nat)(ks ls:List V3)(w:World)(hn:ks.length≤1000000)(hl:ls.length=ks.length)(h1:zah w q1 ks)(h2:zah w q2 ls)(hs1:∀v∈ks,v.2.2.size≤maxLen)(hs2:∀v∈ls,v.2.2.size≤maxLen) :
  Calls Tryz.prog 219 #[.slice q1 ks.length c1,.slice q2 ls.length c2,.func (.func 220) #[] #[]] w fun e w'=>e=.returned (.int .i64 (keyC ks ls))∧Below w.heap.size w w':=by
 have H1:Aside (zah w q1 ks):=h1
 have H2:Aside (zah w q2 ls):=h2
 have S1:Aside _:=hs1
 have S2:Aside _:=hs2
 obtain⟨N,hN⟩:∃N,ks.length=N:=⟨_,rfl⟩
 have HN:Hid (ks.length=N):=hN
 have HM:Hid (ls.length=N):=by show _=_;rw[hl,hN]
 rw[HM.out]
 rw[hN] at hn ⊢
 obtain⟨R,hR⟩:∃R,keyC ks ls=R:=⟨_,rfl⟩
 have HR0:keyC (ks.drop 0) (ls.drop 0)=R:=by rw[List.drop_zero,List.drop_zero,hR]
 have HR:Hid (keyC (ks.drop 0) (ls.drop 0)=R):=HR0
 rw[hR]
 clear h1 h2 hs1 hs2 hN hl hR HR0
 go_enter Tryz.func219,Tryz.ntmps219
 go_wp2
 go_loopg [7,13] N (fun gg _ s13 wr=>∃kk:Nat,kk≤N∧N-kk≤gg∧s13=.int .i64 kk∧Hid (keyC (ks.drop kk) (ls.drop kk)=R)∧Aside (Below w.heap.size w wr))
 case atStart=>exact⟨0,Nat.zero_le _,by omega,rfl,HR,(show Aside _ from Below.refl _ _)⟩
 case round =>
  obtain⟨kk,hkk,hg,rfl,HK,BW⟩:=hrel
  by_cases hlt:kk<N
  ·have hltz:(kk:Int)<(N:Int):=by omega
   have h0z:(0:Int)≤(kk:Int):=by omega
   have hk1:kk<ks.length:=by rw[HN.out];exact hlt
   have hk2:kk<ls.length:=by rw[HM.out];exact hlt
   obtain⟨b1,o1,rfl,l1,r1⟩:=(H1.out.on BW.out).resolve_left (by omega)
   obtain⟨b2,o2,rfl,l2,r2⟩:=(H2.out.on BW.out).resolve_left (by omega)
   obtain⟨e0,e1,e2⟩:=r1 kk hk1
   obtain⟨d0,d1,d2⟩:=r2 kk hk2
   have z1:=S1.out _ (List.getElem_mem hk1)
   have z2:=S2.out _ (List.getElem_mem hk2)
   have D0:Hid (cmpV3 ks[kk] ls[kk]=0→keyC (ks.drop (kk+1)) (ls.drop (kk+1))=R):=fun h=>by
    rw[←zfd ks ls kk hk1 hk2 h];exact HK.out
   have DN:Hid (cmpV3 ks[kk] ls[kk]≠0→cmpV3 ks[kk] ls[kk]=R):=fun h=>by
    rw[←zhA ks ls kk hk1 hk2 h];exact HK.out
   clear r1 r2 HK
   generalize ks[kk]=x at e0 e1 e2 z1 D0 DN
   generalize ls[kk]=y at d0 d1 d2 z2 D0 DN
   obtain⟨xt,xn,xs⟩:=x
   obtain⟨yt,yn,ys⟩:=y
   simp only at e0 e1 e2 d0 d1 d2 z1 z2
   have hc:=fun W=>zfy xt xn xs yt yn ys W z1 z2
   rw[show cmpN xt xn xs.data.toList yt yn ys.data.toList=cmpV3 (xt,xn,xs) (yt,yn,ys) from rfl] at hc
   generalize cmpV3 (xt,xn,xs) (yt,yn,ys)=CV at hc D0 DN
   go_wp2_with fail
   refine (hc _).mono ?_
   rintro e w1 ⟨rfl,b1⟩
   have bC:Below wr.heap.size wr ((wr.alloc (.cells #[.int .i64 xt,.int .i64 xn,.string xs] 27)).alloc (.cells #[.int .i64 yt,.int .i64 yn,.string ys] 27)):=(alB wr _).alloc (by simp) _
   have B1:Aside (Below w.heap.size w w1):=BW.out.trans ((bC.trans (b1.mono bC.size)).mono BW.out.size)
   clear hc BW b1 bC e0 e1 e2 d0 d1 d2
   by_cases hcv:CV=0
   ·have HK2:Hid (keyC (ks.drop (kk+1)) (ls.drop (kk+1))=R):=D0.out hcv
    subst hcv
    clear D0 DN
    go_wp2
    go_roundg (N-(kk+1))
    case measure=>omega
    case rel=>exact⟨kk+1,by omega,by omega,by go_num,HK2,B1⟩
   ·have he:=DN.out hcv
    subst he
    clear D0 DN
    have hcv2:(CV == 0)=false:=by simpa using hcv
    go_wp2
    go_ret
    exact⟨rfl,B1.out⟩
  ·have hltz:¬(kk:Int)<(N:Int):=by omega
   obtain rfl:kk=N:=by omega
   have hz:(0:Int)=R:=by
    have h:=HK.out
    rw[List.drop_eq_nil_of_le (by rw[HN.out];exact Nat.le_refl _),List.drop_eq_nil_of_le (by rw[HM.out];exact Nat.le_refl _)] at h
    simpa [keyC] using h
   subst hz
   clear HK
   go_wp2
   go_ret
   exact⟨rfl,BW.out⟩

theorem zgs(q1 q2:Option Addr)(c1 c2:Nat)(ks ls:List V3)(w:World)(hn:ks.length≤1000000)(hl:ls.length=ks.length)(h1:zah w q1 ks)(h2:zah w q2 ls)(hs1:∀v∈ks,v.2.2.size≤maxLen)(hs2:∀v∈ls,v.2.2.size≤maxLen) :
  Calls Tryz.prog 197 #[.slice q1 ks.length c1,.slice q2 ls.length c2] w fun e w'=>e=.returned (.int .i64 (keyC ks ls))∧Below w.heap.size w w':=by
 have hc:=zdF q1 q2 c1 c2 ks ls w hn hl h1 h2 hs1 hs2
 generalize keyC ks ls=R at hc ⊢
 clear h1 h2 hs1 hs2 hl hn
 generalize ks.length=n1 at hc ⊢
 generalize ls.length=n2 at hc ⊢
 go_enter Tryz.func197,Tryz.ntmps197
 go_wp2_with fail
 refine hc.mono ?_
 rintro e w1 ⟨rfl,b1⟩
 have B1:Aside _:=b1
 clear hc b1
 go_wp2
 go_ret
 exact⟨rfl,B1.out⟩
def zuX(sb base:Nat)(fr:Int)(gq:Option Addr)(n gc k:Nat)(xs:List Value)(ps0:List Pt)(ls:List V3)(gz:Nat)(w w':World):Prop:=∃a v q' c' kv,
   Aside (Blk w' sb #[.int .i64 fr,.slice q' (n+1) c'] 182∧w'.ownsRow base 254 1 (.slice q' (n+1) c') (n+1) (xs.take k++.pointer (some ⟨gz,0,none⟩)::xs.drop k) ∧
    Blk w' gz #[kv,.pointer (some ⟨a,0,none⟩)] 259∧w'.ownsRow base 27 3 kv ls.length (zan ls)∧AcAt w' a v ps0 []∧(∀k,accS a v k→w.heap.size≤k)∧w.heap.size≤gz) ∧
   Aside (Kp (fun k=>k=sb∨(Value.slice gq n gc).ownBlock=some k) w w')∧Aside ((Value.slice q' (n+1) c').ownBlock=(Value.slice gq n gc).ownBlock∨∃g,(Value.slice q' (n+1) c').ownBlock=some g∧w.heap.size≤g)
theorem zjA(sb base:Nat)(fr:Int)(gq:Option Addr)(n gc k:Nat)(xs:List Value)(ps0:List Pt)(q2:Option Addr)(c2:Nat)(ls:List V3)(av tv:Value)(w:World)
  (hS:Blk w sb #[.int .i64 fr,.slice gq n gc] 182)(hown:w.ownsRow base 254 1 (.slice gq n gc) n xs)(hx1:∀x∈xs,x.oneCell'=true)(hk:k≤n)(hn:n≤1000)(hbase:base≤w.heap.size)(h2:zah w q2 ls)(hl:ls.length≤1000)(hs2:∀v∈ls,v.2.2.size≤281474976710656)
  (hF:Calls Tryz.prog 175 #[.pointer (some ⟨sb,0,none⟩),.slice q2 ls.length c2] w fun e w'=>e=.returned (.tuple #[.int .i64 (k:Int),.bool false])∧Below w.heap.size w w')
  (hN:∀W,Below w.heap.size w W→Calls Tryz.prog 200 #[av,tv] W fun e w'=>∃a v,e=.returned (.tuple #[.pointer (some ⟨a,0,none⟩),.nilIface])∧Aside (AcAt w' a v ps0 []∧(∀k,accS a v k→W.heap.size≤k))∧Below W.heap.size W w') :
  Calls Tryz.prog 178 #[.pointer (some ⟨sb,0,none⟩),.slice q2 ls.length c2,av,tv] w fun e w'=>∃gz,e=.returned (.tuple #[.pointer (some ⟨gz,0,none⟩),.nilIface])∧zuX sb base fr gq n gc k xs ps0 ls gz w w':=by
 have hsl:=hS.lt
 have hne0:(Value.slice gq n gc).ownBlock≠some sb:=fun e=>by
  rcases hown.2 with ⟨e1,-⟩|⟨g,cap,cur,e1,-,hg,-⟩
  ·rw[e1] at e;simp[Value.ownBlock] at e
  ·rw[e1] at e
   have e:g=sb:=by simpa [Value.ownBlock] using e
   subst e
   exact zfq (show Blk w g cur _ from hg) hS (by decide) rfl
 have hown0:=zdW hown
 have hI:=fun (W:World) (hb:Below w.heap.size w W) (z ge:Nat) (hge:Blk W ge #[.pointer (some ⟨z,0,none⟩)] 254) (hg0:w.heap.size≤ge) =>
  zjh base gq n gc k xs ge (.pointer (some ⟨z,0,none⟩)) W (zab hown hb) hx1 hge (fun h=>by have:=(hown0 _ h).2;omega) rfl hk (by omega) (by have:=hb.size;omega)
 have hFr:=fun W (hb:Below w.heap.size w W)=>zgz q2 c2 ls W (by omega) (h2.on hb) hs2
 have hg1:∀W,Below w.heap.size w W→W.cell? ⟨sb,1,none⟩=some (.slice gq n gc):=fun W hb=>by rw[hb.cell (p:=⟨sb,1,none⟩) hsl];exact hS.cell 1
 have hSW:∀W,Below w.heap.size w W→Blk W sb #[.int .i64 fr,.slice gq n gc] 182:=fun W hb=>hS.on hb
 have hI2:=fun (W:World) (hb:Below w.heap.size w W) (o1:Obj)=>hI ((W.alloc o1).alloc (.cells #[.pointer (some ⟨W.heap.size,0,none⟩)] 254)) ((hb.alloc hb.size o1).alloc (by have:=hb.size;simp;omega) _) W.heap.size (W.heap.size+1) (by have:=zac (W.alloc o1) #[.pointer (some ⟨W.heap.size,0,none⟩)] 254;simpa using this) (by have:=hb.size;omega)
 have HI:Aside _:=hI2
 have HOWN:Aside _:=hown
 have hg4:∀W,Below w.heap.size w W→(∀o1:Obj,(W.alloc o1).cell? ⟨sb,1,none⟩=some (.slice gq n gc))∧(∀o1 o2:Obj,((W.alloc o1).alloc o2).cell? ⟨sb,1,none⟩=some (.slice gq n gc)):=fun W hb=>⟨fun o1=>hg1 _ (hb.alloc hb.size o1),fun o1 o2=>hg1 _ ((hb.alloc hb.size o1).alloc (Nat.le_trans hb.size (by simp)) o2)⟩
 have HG4:Aside _:=hg4
 have HG:Aside _:=hg1
 have HSW:Aside _:=hSW
 have hkz:(k:Int)≤(n:Int):=by omega
 have hk0:(0:Int)≤(k:Int):=by omega
 have hkn:(k:Int)<((n+1:Nat):Int):=by omega
 clear hI hI2 hg4 hg1 hSW hown h2 hs2 hx1 hS
 obtain⟨m,hm⟩:∃m,ls.length=m:=⟨_,rfl⟩
 have HM:Hid (ls.length=m):=hm
 rw[hm] at hF hFr hl ⊢
 clear hm
 go_enter Tryz.func178,Tryz.ntmps178
 go_wp2_with fail
 refine hF.mono ?_
 rintro e w1 ⟨rfl,B1⟩
 have hN1:=hN w1 B1
 clear hF hN
 go_wp2_with fail
 refine hN1.mono ?_
 rintro e w2 ⟨a,v,rfl,HA,b2⟩
 have B2:Below w.heap.size w w2:=B1.trans (b2.mono B1.size)
 have hsz2:=B2.size
 have hg2:=HG.out w2 B2
 have HA2:Aside (AcAt w2 a v ps0 []∧∀k,accS a v k→w.heap.size≤k):=⟨HA.out.1,fun k hk=>by have:=HA.out.2 k hk;have:=B1.size;omega⟩
 clear hN1 B1 HA b2
 go_wp2_with fail
 go_region_with (first
  | (go_at_call 202;refine (hFr _ (Below.drew B2)).mono ?_;rintro e w3 ⟨⟨kv,rfl,HK3⟩,b3⟩;have B3:Below w.heap.size w w3:=(Below.drew B2).trans (b3.mono hsz2);have HB3:Aside _:=B3;have HA3:Aside (AcAt w3 a v ps0 []):=HA2.out.1.on (Below.drew (Below.refl _ _) |>.trans b3);have hg3:=HG.out w3 B3;obtain⟨kq,kc,rfl⟩:=zaa HK3.out;have hs3:=B3.size;have hl3:sb<w3.heap.size:=Nat.lt_of_lt_of_le hsl hs3;have hg4:=(HG4.out w3 B3).1;have hg5:=(HG4.out w3 B3).2;clear b3)
  | (go_at_call 201;refine (HI.out w3 B3 _).mono ?_;rintro r w5 ⟨q',c',rfl,HO,HK,HB⟩;have BI:Below w.heap.size w ((w3.alloc (.cells #[.slice kq m kc,.pointer (some ⟨a,0,none⟩)] 259)).alloc (.cells #[.pointer (some ⟨w3.heap.size,0,none⟩)] 254)):=(B3.alloc hs3 _).alloc (by simp;omega) _;have hS5:Aside (Blk w5 sb #[.int .i64 fr,.slice gq n gc] 182):=(HSW.out _ BI).kp HK.out hne0;have c5:=hS5.out.cell 1;have f5:=hS5.out.frozen 1;simp at c5))
 all_goals
  have hlow:∀i,(i=sb∨(Value.slice gq n gc).ownBlock=some i)→i<w.heap.size:=fun i hi=>hi.elim (fun e=>by omega) (fun e=>(hown0 i e).2)
  have K5:Kp (fun i=>i=sb∨(Value.slice gq n gc).ownBlock=some i) ((w3.alloc (.cells #[.slice kq m kc,.pointer (some ⟨a,0,none⟩)] 259)).alloc (.cells #[.pointer (some ⟨w3.heap.size,0,none⟩)] 254)) (w5.setCell ⟨sb,1,none⟩ (.slice q' (n+1) c')):=(HK.out.mono (fun _ _ h=>.inr h)).set 1 _ (fun _=>.inl rfl)
  have hM:MutS ((w3.alloc (.cells #[.slice kq m kc,.pointer (some ⟨a,0,none⟩)] 259)).alloc (.cells #[.pointer (some ⟨w3.heap.size,0,none⟩)] 254)) (fun i=>i=sb∨(Value.slice gq n gc).ownBlock=some i):=(MutS.one (HSW.out _ BI) (by decide)).or (zdG (zab HOWN.out BI) (by decide))
  have bW:Below w3.heap.size w3 ((w3.alloc (.cells #[.slice kq m kc,.pointer (some ⟨a,0,none⟩)] 259)).alloc (.cells #[.pointer (some ⟨w3.heap.size,0,none⟩)] 254)):=(alB w3 _).alloc (by simp) _
  have eG:Blk ((w3.alloc (.cells #[.slice kq m kc,.pointer (some ⟨a,0,none⟩)] 259)).alloc (.cells #[.pointer (some ⟨w3.heap.size,0,none⟩)] 254)) w3.heap.size #[.slice kq m kc,.pointer (some ⟨a,0,none⟩)] 259:=(zac _ _ _).on (alB _ _)
  have fG:Aside (Blk (w5.setCell ⟨sb,1,none⟩ (.slice q' (n+1) c')) w3.heap.size #[.slice kq m kc,.pointer (some ⟨a,0,none⟩)] 259):=eG.kp K5 (fun h=>by have:=hlow _ h;omega)
  have fS0:Blk (w5.setCell ⟨sb,1,none⟩ (.slice q' (n+1) c')) sb #[.int .i64 fr,.slice q' (n+1) c'] 182:=by
   have:=hS5.out.set 1 (.slice q' (n+1) c')
   simpa using this
  have fS:Aside (Blk (w5.setCell ⟨sb,1,none⟩ (.slice q' (n+1) c')) sb #[.int .i64 fr,.slice q' (n+1) c'] 182):=fS0
  have hq:(Value.slice q' (n+1) c').ownBlock≠some sb:=fun e=>by
   rcases HB.out with h|h
   ·exact hne0 (h.symm.trans e)
   ·rw[h] at e
    injection e with e
    simp at e
    omega
  have fO:Aside ((w5.setCell ⟨sb,1,none⟩ (.slice q' (n+1) c')).ownsRow base 254 1 (.slice q' (n+1) c') (n+1) (xs.take k++.pointer (some ⟨w3.heap.size,0,none⟩)::xs.drop k)):=ownsRow_setCell_other HO.out (a:=⟨sb,1,none⟩) hq (.slice q' (n+1) c')
  have fK:Aside ((w5.setCell ⟨sb,1,none⟩ (.slice q' (n+1) c')).ownsRow base 27 3 (.slice kq m kc) m (zan ls)):=zgw (zab (zfH HK3.out (show base≤_ by have:=HB3.out.size;simp;omega)) bW) K5 (fun k h1 h2=>by have h3:=(zdW HK3.out k h1).1;have:=hlow _ h2;simp at h3;omega)
  have fA:Aside (AcAt (w5.setCell ⟨sb,1,none⟩ (.slice q' (n+1) c')) a v ps0 []):=(HA3.on bW).kp K5 hM (fun i h1 h2=>by have:=HA2.out.2 i h1;have:=hlow _ h2;omega)
  have fKp:Aside (Kp (fun i=>i=sb∨(Value.slice gq n gc).ownBlock=some i) w (w5.setCell ⟨sb,1,none⟩ (.slice q' (n+1) c'))):=(Kp.of_below BI).trans K5
  have fB:Aside ((Value.slice q' (n+1) c').ownBlock=(Value.slice gq n gc).ownBlock∨∃g,(Value.slice q' (n+1) c').ownBlock=some g∧w.heap.size≤g):=HB.out.imp id (fun h=>⟨_,h,by have:=BI.size;exact this⟩)
  have hAc:Aside (∀k,accS a v k→w.heap.size≤k):=HA2.out.2
  obtain⟨g',cap,e⟩:=zdQ fO.out
  injection e with e1 _ e3
  subst e1
  subst e3
  have hkc:(xs.take k++Value.pointer (some ⟨w3.heap.size,0,none⟩)::xs.drop k)[k]?=some (Value.pointer (some ⟨w3.heap.size,0,none⟩)):=by
   have hxl:xs.length=n:=by have:=HOWN.out.1;omega
   rw[List.getElem?_append_right (by rw[List.length_take];omega),List.length_take,show k-min k xs.length=0 by omega]
   rfl
  have fcell:=World.ownsRow.cells fO.out (g:=g') rfl k _ hkc
  rw[Go.WideShapes.add_plain,Nat.zero_add] at fcell
  have fc1:=Blk.cell fS.out 1
  simp at fc1
  generalize hWF:w5.setCell ⟨sb,1,none⟩ (.slice (some ⟨g',0,none⟩) (n+1) c')=WF at *
  generalize hgz:w3.heap.size=gz at *
  clear hWF hg2 hg3 hg4 hg5 c5 f5 K5 hM bW eG hq hkc hS5 HO HK HB HA3 HB3 HK3 BI B3 fS0 HI HG HG4 HSW HOWN
  clear hgz HA2 B2 hsz2 hown0 hl3
  go_wp2
  go_ret2
  exact⟨gz,rfl,⟨a,v,some ⟨g',0,none⟩,c',_,(show Aside _ from ⟨fS.out,fO.out,fG.out,by rw[HM.out];exact fK.out,fA.out,hAc.out,hs3⟩),fKp,fB⟩⟩
theorem zqV(z:Nat)(q1 q2:Option Addr)(c1 c2:Nat)(ks ls:List V3)(w:World)(hz:w.cell? ⟨z,0,none⟩=some (.slice q1 ks.length c1))(hn:ks.length≤1000000)(hl:ls.length=ks.length)(h1:zah w q1 ks)(h2:zah w q2 ls)(hs1:∀v∈ks,v.2.2.size≤maxLen)(hs2:∀v∈ls,v.2.2.size≤maxLen) :
  Calls Tryz.prog 196 #[.pointer (some ⟨z,0,none⟩),.slice q2 ls.length c2] w fun e w'=>e=.returned (.int .i64 (keyC ks ls))∧Below w.heap.size w w':=by
 have hc:=zgs q1 q2 c1 c2 ks ls w hn hl h1 h2 hs1 hs2
 generalize keyC ks ls=R at hc ⊢
 clear h1 h2 hs1 hs2 hl hn
 generalize ks.length=n1 at hc hz ⊢
 generalize ls.length=n2 at hc ⊢
 go_enter Tryz.func196,Tryz.ntmps196
 go_wp2_with fail
 refine hc.mono ?_
 rintro e w1 ⟨rfl,b1⟩
 have B1:Aside _:=b1
 clear hc b1
 go_wp2
 go_ret
 exact⟨rfl,B1.out⟩

structure zmX(w:World)(b n m:Nat)(zs:Nat→Nat)(K:Nat→List V3):Prop where
 lt:b<w.heap.size
 le:n≤1000000
 wide:m≤1000000
 ptr:∀j,j<n→w.cell? ⟨b,j,none⟩=some (.pointer (some ⟨zs j,0,none⟩))
 key:∀j,j<n→(K j).length=m∧∃q c,w.cell? ⟨zs j,0,none⟩=some (.slice q m c)∧zah w q (K j)
 small:∀j,j<n→∀v∈K j,v.2.2.size≤maxLen

theorem zql(sb b n c m:Nat)(zs:Nat→Nat)(K:Nat→List V3)(q2:Option Addr)(c2:Nat)(ls:List V3)(w:World)(hs:w.cell? ⟨sb,1,none⟩=some (.slice (some ⟨b,0,none⟩) n c))(hK:zmX w b n m zs K)(hl:ls.length=m)(h2:zah w q2 ls)(hs2:∀v∈ls,v.2.2.size≤maxLen)
  (k:Nat)(hk:k≤n)(hb1:∀j,j<k→keyC (K j) ls<0)(hb2:∀j,k≤j→j<n→0≤keyC (K j) ls) :
  Calls Tryz.prog 175 #[.pointer (some ⟨sb,0,none⟩),.slice q2 m c2] w fun e w'=>e=.returned (.tuple #[.int .i64 (k:Int),.bool (decide (k<n)&&(keyC (K k) ls == 0))])∧Below w.heap.size w w':=by
 subst hl
 have hlt:∀j,j<n→zs j<w.heap.size:=fun j hj=>by
  obtain⟨_,q,c,hz,_⟩:=hK.key j hj
  rcases Nat.lt_or_ge (zs j) w.heap.size with h|h
  ·exact h
  ·simp[World.cell?,Array.getElem?_eq_none h] at hz
 have hC:=znJ 196 (fun args W=>by kernel_rfl) #[] b 0 n c (.slice q2 ls.length c2) (fun j=>.pointer (some ⟨zs j,0,none⟩)) (fun j=>keyC (K j) ls) w hK.le hK.lt (fun j hj=>by rw[Nat.zero_add];exact hK.ptr j hj) k hk hb1 hb2 (fun j hj W hW=>by
   obtain⟨hm,q,cc,hz,hv⟩:=hK.key j hj
   have hcell:W.cell? ⟨zs j,0,none⟩=some (.slice q (K j).length cc):=by rw[hW.cell (p:=⟨zs j,0,none⟩) (hlt j hj),hm];exact hz
   exact zqV (zs j) q q2 cc c2 (K j) ls W hcell (by rw[hm];exact hK.wide) hm.symm (hv.on hW) (h2.on hW) (hK.small j hj) hs2)
 generalize (decide (k<n)&&(keyC (K k) ls == 0))=r at hC ⊢
 have hw:=w.heap.size
 clear hb1 hb2 hlt hK h2 hs2
 generalize ls.length=m at hC ⊢
 go_enter Tryz.func175,Tryz.ntmps175
 go_wp2_with fail
 refine hC.mono ?_
 rintro e w' ⟨rfl,hB⟩
 have HB:=(show Aside _ from hB)
 clear hC hB hs
 go_wp2
 go_ret2
 exact⟨rfl,HB.out⟩

theorem zmL(sb b n c m:Nat)(zs:Nat→Nat)(K:Nat→List V3)(q2:Option Addr)(c2:Nat)(ls:List V3)(w:World)(hs:w.cell? ⟨sb,1,none⟩=some (.slice (some ⟨b,0,none⟩) n c))(hK:zmX w b n m zs K)(hl:ls.length=m)(h2:zah w q2 ls)(hs2:∀v∈ls,v.2.2.size≤maxLen)
  (k:Nat)(hk:k≤n)(hb1:∀j,j<k→keyC (K j) ls<0)(hb2:∀j,k≤j→j<n→0≤keyC (K j) ls) :
  Calls Tryz.prog 146 #[.pointer (some ⟨sb,0,none⟩),.slice q2 m c2] w fun e w'=>e=.returned (.bool ((decide (k<n)&&(keyC (K k) ls == 0))||decide (n<40)))∧Below w.heap.size w w':=by
 have hsl:sb<w.heap.size:=by
  rcases Nat.lt_or_ge sb w.heap.size with h|h
  ·exact h
  ·simp[World.cell?,Array.getElem?_eq_none h] at hs
 have hC:=zql sb b n c m zs K q2 c2 ls w hs hK hl h2 hs2 k hk hb1 hb2
 have hn:=hK.le
 generalize (decide (k<n)&&(keyC (K k) ls == 0))=r at hC ⊢
 clear hb1 hb2 hK h2 hs2 hl hk
 have hS:Aside _:=hs
 have hnz:(n:Int)≤1000000:=by omega
 go_enter Tryz.func146,Tryz.ntmps146
 go_wp2_with fail
 refine hC.mono ?_
 rintro e w' ⟨rfl,hB⟩
 have hs':w'.cell? ⟨sb,1,none⟩=some (.slice (some ⟨b,0,none⟩) n c):=by rw[hB.cell (p:=⟨sb,1,none⟩) hsl];exact hs
 have HB:=(show Aside _ from hB)
 clear hC hB hs
 by_cases hr:r=true
 ·subst hr
  go_wp2
  go_ret
  exact⟨rfl,HB.out⟩
 ·have hr:r=false:=by simpa using hr
  subst hr
  by_cases h4:n<40
  ·have h4z:(n:Int)<40:=by omega
   go_wp2
   go_ret
   exact⟨by simp[h4],HB.out⟩
  ·have h4z:¬(n:Int)<40:=by omega
   go_wp2
   go_ret
   exact⟨by simp[h4];omega,HB.out⟩
theorem zsn(z:Nat)(f t:Int)(w:World)(hz:w.cell? ⟨z,0,none⟩=some (.int .i64 f)) :
  Calls Tryz.prog 173 #[.pointer (some ⟨z,0,none⟩),.int .i64 t] w fun e w'=>e=.returned (.int .i64 (cmpI f t))∧Below w.heap.size w w':=by
 have hc:=zoR f t w
 go_enter Tryz.func173,Tryz.ntmps173
 go_wp2_with fail
 refine hc.mono ?_
 rintro e w' ⟨rfl,rfl⟩
 clear hc
 go_wp2
 go_ret
 exact⟨rfl,Below.refl _ _⟩

theorem zoX{x y:Int}:cmpI x y<0↔x<y:=by
 unfold cmpI
 split
 ·simp_all
 ·split<;>simp_all
theorem zqG{x y:Int}:(cmpI x y == 0)=(x == y):=by
 unfold cmpI
 split
 ·next h =>
  have:¬x=y:=by omega
  simp[this]
 ·split
  ·next h =>
   have:¬x=y:=by omega
   simp[this]
  ·have:x=y:=by omega
   simp[this]

theorem zvw(gb b n c:Nat)(zs:Nat→Nat)(fs:Nat→Int)(t:Int)(w:World)(hg:w.cell? ⟨gb,16,none⟩=some (.slice (some ⟨b,0,none⟩) n c))(hn:n≤1000000)(hb:b<w.heap.size)
  (hp:∀j,j<n→w.cell? ⟨b,j,none⟩=some (.pointer (some ⟨zs j,0,none⟩)))(hz:∀j,j<n→w.cell? ⟨zs j,0,none⟩=some (.int .i64 (fs j)))
  (k:Nat)(hk:k≤n)(h1:∀j,j<k→fs j<t)(h2:∀j,k≤j→j<n→t≤fs j) :
  Calls Tryz.prog 145 #[.pointer (some ⟨gb,0,none⟩),.int .i64 t] w fun e w'=>e=.returned (.tuple #[.int .i64 (k:Int),.bool (decide (k<n)&&(fs k == t))])∧Below w.heap.size w w':=by
 have hlt:∀j,j<n→zs j<w.heap.size:=fun j hj=>by
  rcases Nat.lt_or_ge (zs j) w.heap.size with h|h
  ·exact h
  ·have:=hz j hj
   simp[World.cell?,Array.getElem?_eq_none h] at this
 have hC:=zrd 173 (fun args W=>by kernel_rfl) #[] b 0 n c (.int .i64 t) (fun j=>.pointer (some ⟨zs j,0,none⟩)) (fun j=>cmpI (fs j) t) w hn hb (fun j hj=>by rw[Nat.zero_add];exact hp j hj) k hk (fun j hj=>zoX.2 (h1 j hj)) (fun j hj hjn=>by
   have:=h2 j hj hjn
   rcases Int.lt_or_le (cmpI (fs j) t) 0 with h|h
   ·have:=zoX.1 h;omega
   ·exact h) (fun j hj W hW=>by
   have hcell:W.cell? ⟨zs j,0,none⟩=some (.int .i64 (fs j)):=by rw[hW.cell (p:=⟨zs j,0,none⟩) (hlt j hj)];exact hz j hj
   exact zsn (zs j) (fs j) t W hcell)
 have hk0:(cmpI (fs k) t == 0)=(fs k == t):=zqG
 rw[hk0] at hC
 generalize (decide (k<n)&&(fs k == t))=r at hC
 have hw:=w.heap.size
 clear hp hz h1 h2 hlt hk0
 go_enter Tryz.func145,Tryz.ntmps145
 go_wp2_with fail
 refine hC.mono ?_
 rintro e w' ⟨rfl,hB⟩
 have HB:=(show Aside _ from hB)
 clear hC hB hg
 go_wp2
 go_ret2
 exact⟨rfl,HB.out⟩
end
end Go.Proofs.YtopghagjmdbglaaGreatDoor
