/-
  RefNd, TreeSn, QwA, QwB, QwE, QrR.
-/
import Derived.Test.YtopghagjmdbglaaGreatDoorGyAj
import Derived.Test.YtopghagjmdbglaaGreatDoorGyAc
import Derived.WalkSmall
import Derived.Test.YtopghagjmdbglaaGreatDoorGyBb
import Derived.Test.YtopghagjmdbglaaGreatDoorGyAx
import Derived.Test.YtopghagjmdbglaaGreatDoorGyAf
import Derived.Test.YtopghagjmdbglaaGreatDoorGyAk
namespace Go.Proofs.YtopghagjmdbglaaGreatDoor
open Go.RowKit
set_option linter.unusedVariables false
set_option linter.unusedSimpArgs false
set_option maxHeartbeats 8000000
set_option maxRecDepth 20000
section
open Go.BigFrame
theorem zhb:∀(x:Ex) (d:Nat),(x.pre d).length=x.size:=by
 refine Ex.ind fun op nm vt vn vs pos l ih d=>?_
 rw[Ex.pre,Ex.size,List.length_cons]
 have:∀l:List Ex,(∀y∈l,∀d,(y.pre d).length=y.size)→(Ex.pres (d+1) l).length=Ex.sizes l:=fun l=>by
  induction l with
  | nil=>intro _;rw[Ex.pres,Ex.sizes];rfl
  | cons y ys ihl =>
   intro h
   rw[Ex.pres,Ex.sizes,List.length_append,h y (by simp),ihl fun z hz=>h z (by simp[hz])]
 rw[this l ih]
 omega
theorem zpx:∀(x:Ex) (d m:Nat),(∀q∈x.pre d,q.2≤m)↔d+x.deep≤m+1:=by
 refine Ex.ind fun op nm vt vn vs pos l ih d m=>?_
 have key:∀l:List Ex,(∀y∈l,∀d m,(∀q∈y.pre d,q.2≤m)↔d+y.deep≤m+1)→((∀q∈Ex.pres (d+1) l,q.2≤m)↔(l=[]∨d+1+Ex.deeps l≤m+1)):=fun l=>by
  induction l with
  | nil=>intro _;rw[Ex.pres];simp
  | cons y ys ihl =>
   intro h
   have i2:=ihl fun z hz=>h z (by simp[hz])
   have hy:=h y (by simp) (d+1) m
   rw[Ex.pres,Ex.deeps]
   simp only[List.mem_append]
   constructor
   ·intro hq
    have a1:=hy.1 fun q hq2=>hq q (.inl hq2)
    have a2:=i2.1 fun q hq2=>hq q (.inr hq2)
    right
    rcases a2 with rfl|a2
    ·rw[Ex.deeps];omega
    ·omega
   ·intro hq q hq2
    have hq3:d+1+max y.deep (Ex.deeps ys)≤m+1:=by simpa using hq
    rcases hq2 with hq2|hq2
    ·exact hy.2 (by omega) q hq2
    ·exact i2.2 (.inr (by omega)) q hq2
 rw[Ex.pre,Ex.deep]
 have k:=key l ih
 constructor
 ·intro h
  have h0:=h _ (List.mem_cons_self ..)
  simp only at h0
  have h1:=k.1 fun q hq=>h q (List.mem_cons_of_mem _ hq)
  rcases h1 with rfl|h1
  ·rw[Ex.deeps];omega
  ·omega
 ·intro h q hq
  rcases List.mem_cons.1 hq with rfl|hq
  ·simp only;omega
  ·exact k.2 (.inr (by omega)) q hq
theorem zrh(x:Ex):tgB x=!x.small:=by
 have h:=zoN (x.pre 1) 0
 rw[tgB,Ex.small]
 congr 1
 rw[Bool.eq_iff_iff,h,Bool.and_eq_true,decide_eq_true_eq,decide_eq_true_eq,zhb,zpx]
 have hp:1≤x.size:=by rw[←zhb x 1,zrB];simp
 constructor
 ·rintro ⟨h1,h2⟩
  refine⟨?_,by omega⟩
  rcases h1 with h1|h1
  ·have:=congrArg List.length h1
   rw[zhb] at this
   simp at this
   omega
  ·omega
 ·rintro ⟨h1,h2⟩
  exact⟨.inr (by omega),by omega⟩
end
def OkN(x:Ex):Prop:=∀d,∀q∈x.pre d,nodeE q.1=0∧inI q.1.vn
theorem zkU{d:Nat}{q:Ex×Nat}:∀{l:List Ex},q∈Ex.pres d l→∃y∈l,q∈y.pre d
 | [],h=>by rw[Ex.pres] at h;exact absurd h (by simp)
 | x::xs,h=>by
  rw[Ex.pres] at h
  rcases List.mem_append.1 h with h|h
  ·exact⟨x,by simp,h⟩
  ·obtain⟨y,hy,hq⟩:=zkU h
   exact⟨y,by simp[hy],hq⟩
theorem zku{op nm vs:ByteArray}{vt vn pos:Int}{l:List Ex}(h:nodeE (.node op nm vt vn vs pos l)=0)(hv:inI vn)(hl:∀y∈l,OkN y):OkN (.node op nm vt vn vs pos l):=by
 intro d q hq
 rw[Ex.pre] at hq
 rcases List.mem_cons.1 hq with rfl|hq
 ·exact⟨h,hv⟩
 ·obtain⟨y,hy,hq⟩:=zkU hq
  exact hl y hy (d+1) q hq
theorem in0:inI 0:=by unfold inI;omega
theorem zgU{op:ByteArray}{pos:Int}{l:List Ex}(h1:apL op.data.toList opsL=((l.length:Int),true))(h2:op.data.toList≠[118,97,108])(h3:op.data.toList≠[99,111,108]):nodeE (.node op ⟨#[]⟩ 0 0 ⟨#[]⟩ pos l)=0:=by
 have e1:nodeE (.node op ⟨#[]⟩ 0 0 ⟨#[]⟩ pos l)=nodeB (apL op.data.toList opsL).2 (op.toList == [99,111,108]) (nameT (⟨#[]⟩:ByteArray).data.toList) ((l.length:Int) != (apL op.data.toList opsL).1) (!((⟨#[]⟩:ByteArray).toList == [])) (op.toList == [118,97,108]) (!(((0:Int) == 0)&&(((0:Int) == 0)&&((⟨#[]⟩:ByteArray).toList == [])))) (ckV 0 0 (⟨#[]⟩:ByteArray).data.toList):=rfl
 have q2:(op.toList == [118,97,108])=false:=by rw[Lib.toList_data];simpa using h2
 have q3:(op.toList == [99,111,108])=false:=by rw[Lib.toList_data];simpa using h3
 have q4:((⟨#[]⟩:ByteArray).toList == ([]:List UInt8))=true:=by rw[Lib.toList_data];rfl
 rw[e1,h1,q2,q3,q4]
 simp[nodeB]
theorem zvh{op:List UInt8}(h:op∈bin14):apL op opsL=(2,true)∧op≠[118,97,108]∧op≠[99,111,108]:=by
 simp only[bin14,List.mem_cons,List.not_mem_nil,or_false] at h
 rcases h with rfl|rfl|rfl|rfl|rfl|rfl|rfl|rfl|rfl|rfl|rfl|rfl|rfl<;>decide
theorem zoC{a b:Ex}{t:Tok}(ht:t.2.1.data.toList∈bin14)(ha:OkN a)(hb:OkN b):OkN (betT a t b):=by
 obtain⟨h1,h2,h3⟩:=zvh ht
 exact zku (zgU h1 h2 h3) in0 (fun y hy=>by
  rcases List.mem_cons.1 hy with rfl|hy
  ·exact ha
  ·rw[List.mem_singleton.1 hy];exact hb)
theorem zsU{op:List UInt8}{pos:Int}{e:Ex}(ho:op=[110,111,116]∨op=[110,101,103])(he:OkN e):OkN (op1 op pos [e]):=by
 have h:∀o:List UInt8,o=op→apL o opsL=(1,true)∧o≠[118,97,108]∧o≠[99,111,108]:=fun o e=>by
  rcases ho with h|h<;>rw[e,h]<;>decide
 obtain⟨h1,h2,h3⟩:=h (⟨op.toArray⟩:ByteArray).data.toList rfl
 exact zku (zgU h1 h2 h3) in0 (fun y hy=>by rw[List.mem_singleton.1 hy];exact he)
def GdT(t:Tok):Prop:=∃k,tokAt t.2.1.data.toList=(k,t.2.1.data.toList.length,0)
theorem zjr{s:ByteArray}{T n:Int}{l:List UInt8}(h:readV s=(T,n,l,0)):chk T n l=0∧inI n∧(T=1→Lib.itoa n=s.data.toList):=by
 rw[readV] at h
 split at h
 ·simp only[Prod.mk.injEq] at h
  obtain⟨rfl,rfl,rfl,_⟩:=h
  exact⟨by decide,by unfold inI;omega,fun e=>absurd e (by decide)⟩
 split at h
 ·simp only[Prod.mk.injEq] at h
  obtain⟨rfl,rfl,rfl,_⟩:=h
  exact⟨by decide,in0,fun e=>absurd e (by decide)⟩
 split at h
 ·split at h
  ·simp at h
  ·split at h
   ·simp at h
   ·split at h
    ·simp at h
    ·rename_i l0 _ hp hl
     simp only[Prod.mk.injEq] at h
     obtain⟨rfl,rfl,rfl,_⟩:=h
     refine⟨?_,in0,fun e=>absurd e (by decide)⟩
     have hp':zaH l0=true:=by simpa using hp
     simp[chk,hp']
     omega
 ·split at h
  ·rename_i m hm
   split at h
   ·rename_i he
    simp only[Prod.mk.injEq] at h
    obtain⟨rfl,rfl,rfl,_⟩:=h
    exact⟨by simp[chk],zcE hm,fun _=>he⟩
   ·simp at h
  ·simp at h
theorem zuz{t:Tok}(hg:GdT t)(hv:vlT t=true):OkN (valE t):=by
 obtain⟨T,n,l,e,hr⟩:∃T n l e,readV t.2.1=(T,n,l,e):=⟨_,_,_,_,rfl⟩
 have he:e=0:=by rw[vlT,hr] at hv;simpa using hv
 subst he
 obtain⟨hc,hi,h1⟩:=zjr hr
 have hck:ckV T n l=0:=by
  rw[ckV,if_neg (by simpa using hc),if_neg]
  rintro ⟨e,hn⟩
  have h2:=h1 e
  rw[Lib.itoa,if_pos hn] at h2
  obtain⟨k,hk⟩:=hg
  rw[←h2] at hk
  have h45:∀q:List UInt8,tokAt (45::q)=(4,1,0):=fun q=>by
   simp[tokAt,letB,digB,zaG,sgN,Lib.hasPrefix,List.isPrefixOf]
  rw[h45] at hk
  simp only[Prod.mk.injEq,List.length_cons] at hk
  obtain⟨c,q,hd,_⟩:=zbc n.natAbs n.natAbs (Nat.le_refl _)
  rw[hd] at hk
  simp at hk
 rw[valE,hr]
 refine zku ?_ hi (fun y hy=>absurd hy (by simp))
 have e1:nodeE (.node ⟨#[118,97,108]⟩ ⟨#[]⟩ T n ⟨l.toArray⟩ (t.2.2:Int) [])=nodeB (apL [118,97,108] opsL).2 ((⟨#[118,97,108]⟩:ByteArray).toList == [99,111,108]) (nameT (⟨#[]⟩:ByteArray).data.toList) ((([]:List Ex).length:Int) != (apL [118,97,108] opsL).1) (!((⟨#[]⟩:ByteArray).toList == [])) ((⟨#[118,97,108]⟩:ByteArray).toList == [118,97,108]) (!((T == 0)&&((n == 0)&&((⟨l.toArray⟩:ByteArray).toList == [])))) (ckV T n l):=rfl
 have q1:((⟨#[118,97,108]⟩:ByteArray).toList == [99,111,108])=false:=by rw[Lib.toList_data];rfl
 have q2:((⟨#[118,97,108]⟩:ByteArray).toList == [118,97,108])=true:=by rw[Lib.toList_data];rfl
 have q4:((⟨#[]⟩:ByteArray).toList == ([]:List UInt8))=true:=by rw[Lib.toList_data];rfl
 rw[e1,q1,q2,q4,hck]
 simp[nodeB,apL,opsL]
theorem zsd{t:Tok}(h:nmT t=true):OkN (colE1 t):=by
 refine zku ?_ in0 (fun y hy=>absurd hy (by simp))
 have e1:nodeE (colE1 t)=nodeB (apL [99,111,108] opsL).2 ((⟨#[99,111,108]⟩:ByteArray).toList == [99,111,108]) (nameT t.2.1.data.toList) ((([]:List Ex).length:Int) != (apL [99,111,108] opsL).1) (!(t.2.1.toList == [])) ((⟨#[99,111,108]⟩:ByteArray).toList == [118,97,108]) (!(((0:Int) == 0)&&(((0:Int) == 0)&&((⟨#[]⟩:ByteArray).toList == [])))) (ckV 0 0 (⟨#[]⟩:ByteArray).data.toList):=rfl
 have q1:((⟨#[99,111,108]⟩:ByteArray).toList == [99,111,108])=true:=by rw[Lib.toList_data];rfl
 have q2:((⟨#[99,111,108]⟩:ByteArray).toList == [118,97,108])=false:=by rw[Lib.toList_data];rfl
 have q4:((⟨#[]⟩:ByteArray).toList == ([]:List UInt8))=true:=by rw[Lib.toList_data];rfl
 have h':nameT t.2.1.data.toList=true:=h
 show nodeE (colE1 t)=0
 rw[e1,q1,q2,q4,h']
 simp[nodeB,apL,opsL]
def Snd(sub:List Tok→Option Ex×List Tok):Prop:=∀ts y,(∀t∈ts,GdT t)→(sub ts).1=some y→OkN y
theorem znb{ts r:List Tok}(h:∀t∈ts,GdT t)(hs:r <:+ ts):∀t∈r,GdT t:=fun t ht=>h t (hs.subset ht)
theorem zcJ{gs:List (List UInt8)}{t:Tok}(h:sgT gs t=true):t.2.1.data.toList∈gs:=by
 rw[sgT,List.any_eq_true] at h
 obtain⟨g,hg,e⟩:=h
 have e:g=t.2.1.data.toList:=by simpa using e
 rw[←e];exact hg
theorem zhZ{sub:List Tok→Option Ex×List Tok}(hs:Snd sub)(hf:Suf sub)(gs:List (List UInt8))(hgs:∀g∈gs,g∈bin14):∀(k:Nat) (e:Ex) (ts:List Tok) (y:Ex),OkN e→(∀t∈ts,GdT t)→(uLoop sub gs k e ts).1=some y→OkN y
 | 0,e,ts,y,he,_,h=>by rw[uLoop] at h;simp only[Option.some.injEq] at h;subst h;exact he
 | k+1,e,ts,y,he,hg,h=>by
  rw[uLoop] at h
  cases hn:nxT (sgT gs) ts with
  | none=>rw[hn] at h;simp only[Option.some.injEq] at h;subst h;exact he
  | some q =>
   obtain⟨t,r⟩:=q
   rw[hn] at h
   obtain⟨h1,hst⟩:=zag hn
   subst h1
   simp only at h
   have hgr:∀t∈r,GdT t:=fun u hu=>hg u (by simp[hu])
   have h2:=hs r
   have h6:=hf r
   cases h3:sub r with
   | mk o r2 =>
    rw[h3] at h h2 h6
    cases o with
    | none=>exact absurd h (by simp)
    | some b=>exact zhZ hs hf gs hgs k (betT e t b) r2 y (zoC (hgs _ (zcJ hst)) he (h2 b hgr rfl)) (znb hgr h6) h
theorem zfa{sub:List Tok→Option Ex×List Tok}(hs:Snd sub)(hf:Suf sub)(gs:List (List UInt8))(hgs:∀g∈gs,g∈bin14):Snd (uSev sub gs):=by
 intro ts y hg h
 have h2:=hs ts
 have h6:=hf ts
 rw[uSev] at h
 cases h3:sub ts with
 | mk o r =>
  rw[h3] at h h2 h6
  cases o with
  | none=>exact absurd h (by simp)
  | some e=>exact zhZ hs hf gs hgs (r.length+1) e r y (h2 e hg rfl) (znb hg h6) h
theorem zgc{sub other:List Tok→Option Ex×List Tok}(hs:Snd sub)(ho:Snd other)(op:List UInt8)(hop:op=[110,111,116]∨op=[110,101,103])(gs:List (List UInt8)):Snd (zba op gs sub other):=by
 intro ts y hg h
 rw[zba] at h
 cases hn:nxT (sgT gs) ts with
 | none=>rw[hn] at h;exact ho ts y hg h
 | some q =>
  obtain⟨t,r⟩:=q
  rw[hn] at h
  have h1:=(zag hn).1
  subst h1
  have h2:=hs r
  simp only at h
  cases h3:sub r with
  | mk o r2 =>
   rw[h3] at h h2
   cases o with
   | none=>exact absurd h (by simp)
   | some e =>
    simp only[Option.some.injEq] at h
    subst h
    exact zsU hop (h2 e (fun u hu=>hg u (by simp[hu])) rfl)
theorem zrp{sub:List Tok→Option Ex×List Tok}(hs:Snd sub)(hf:Suf sub):Snd (uCmp sub):=by
 intro ts y hg h
 have h2:=hs ts
 have h6:=hf ts
 rw[uCmp] at h
 cases h3:sub ts with
 | mk o r =>
  rw[h3] at h h2 h6
  cases o with
  | none=>exact absurd h (by simp)
  | some e =>
   have h4:=h2 e hg rfl
   simp only at h h6
   cases hn:nxT (sgT cmpL) r with
   | none=>rw[hn] at h;simp only[Option.some.injEq] at h;subst h;exact h4
   | some q =>
    obtain⟨t,r2⟩:=q
    rw[hn] at h
    obtain⟨h1,hst⟩:=zag hn
    subst h1
    have h5:=hs r2
    simp only at h
    cases h7:sub r2 with
    | mk o r3 =>
     rw[h7] at h h5
     cases o with
     | none=>exact absurd h (by simp)
     | some b =>
      simp only[Option.some.injEq] at h
      subst h
      have hgr:=znb hg h6
      refine zoC ?_ h4 (h5 b (fun u hu=>hgr u (by simp[hu])) rfl)
      have hm:=zcJ hst
      simp only[cmpL,List.mem_cons,List.not_mem_nil,or_false] at hm
      simp only[bin14,List.mem_cons,List.not_mem_nil,or_false]
      rcases hm with h|h|h|h|h|h<;>simp[h]
theorem zmc{sub:List Tok→Option Ex×List Tok}(hs:Snd sub)(hf:Suf sub):∀(k:Nat) (acc:List Ex) (ts:List Tok) (l:List Ex),(∀e∈acc,OkN e)→(∀t∈ts,GdT t)→(uBr sub k acc ts).1=some l→∀e∈l,OkN e
 | 0,acc,ts,l,ha,_,h=>by
  rw[uBr] at h
  cases hn:nxT (sgT [[41]]) ts with
  | none=>rw[hn] at h;exact absurd h (by simp)
  | some q =>
   rw[hn] at h
   simp only[Option.some.injEq] at h
   subst h
   exact ha
 | k+1,acc,ts,l,ha,hg,h=>by
  rw[uBr] at h
  cases hn:nxT (sgT [if acc.length=0 then [40] else [44]]) ts with
  | none=>rw[hn] at h;exact absurd h (by simp)
  | some q =>
   obtain⟨t,r⟩:=q
   rw[hn] at h
   have h1:=(zag hn).1
   subst h1
   have hgr:∀t∈r,GdT t:=fun u hu=>hg u (by simp[hu])
   have h2:=hs r
   have h6:=hf r
   simp only at h
   cases h3:sub r with
   | mk o r2 =>
    rw[h3] at h h2 h6
    cases o with
    | none=>exact absurd h (by simp)
    | some e =>
     exact zmc hs hf k (acc++[e]) r2 l (fun x hx=>by
      rcases List.mem_append.1 hx with hx|hx
      ·exact ha x hx
      ·rw[List.mem_singleton.1 hx];exact h2 e hgr rfl) (znb hgr h6) h
theorem zqK{sub:List Tok→Option Ex×List Tok}(hs:Snd sub)(hf:Suf sub):Snd (uOne sub):=by
 intro ts y hg h
 cases hn:nxT (sgT lenIf) ts with
 | some q =>
  obtain⟨t,r⟩:=q
  rw[zdh hn] at h
  obtain⟨h1,hst⟩:=zag hn
  have hgr:∀t∈r,GdT t:=fun u hu=>hg u (by rw[h1];simp[hu])
  have h2:=zmc hs hf (manyT t) [] r
  have h5:=zeq (sub:=sub) (manyT t) [] r
  cases h3:(uBr sub (manyT t) [] r).1 with
  | none=>rw[h3] at h;exact absurd h (by simp)
  | some l =>
   rw[h3] at h
   simp only[Option.map_some,Option.some.injEq] at h
   rw[←h]
   have h6:=h5 l h3
   have ho:=zmu hst
   have hm:=zcJ hst
   refine zku (zgU (by rw[ho,h6];simp) ?_ ?_) in0 (h2 l (fun e he=>absurd he (by simp)) hgr h3)
   ·simp only[List.mem_cons,List.not_mem_nil,or_false] at hm
    rcases hm with e|e<;>rw[e]<;>decide
   ·simp only[List.mem_cons,List.not_mem_nil,or_false] at hm
    rcases hm with e|e<;>rw[e]<;>decide
 | none =>
  cases hv:nxT vlT ts with
  | some q =>
   obtain⟨t,r⟩:=q
   rw[zeZ hn hv] at h
   simp only[Option.some.injEq] at h
   obtain⟨h1,h2⟩:=zag hv
   rw[←h]
   exact zuz (hg t (by rw[h1];simp)) h2
  | none =>
   cases hc:nxT nmT ts with
   | some q =>
    obtain⟨t,r⟩:=q
    rw[zeR hn hv hc] at h
    simp only[Option.some.injEq] at h
    rw[←h]
    exact zsd (zag hc).2
   | none =>
    rw[zio hn hv hc] at h
    have h2:=zmc hs hf 1 [] ts
    cases h3:(uBr sub 1 [] ts).1 with
    | none=>rw[h3] at h;exact absurd h (by simp)
    | some l =>
     rw[h3] at h
     have h4:=h2 l (fun e he=>absurd he (by simp)) hg h3
     cases l with
     | nil=>exact absurd h (by simp)
     | cons x xs =>
      simp only[Option.bind_some,List.head?_cons,Option.some.injEq] at h
      rw[←h]
      exact h4 x (by simp)
theorem ztr:∀(f lv:Nat),Snd (uE f lv)
 | 0,lv=>fun ts y _ h=>by rw[uE] at h;exact absurd h (by simp)
 | f+1,lv=>by
  have ih:=fun lv=>ztr f lv
  have hf:=fun lv=>zfi f lv
  intro ts
  unfold uE
  split
  ·exact zfa (ih 1) (hf 1) _ (by decide) ts
  ·exact zfa (ih 2) (hf 2) _ (by decide) ts
  ·exact zgc (ih 2) (ih 3) _ (.inl rfl) _ ts
  ·exact zrp (ih 4) (hf 4) ts
  ·exact zfa (ih 5) (hf 5) _ (by decide) ts
  ·exact zfa (ih 6) (hf 6) _ (by decide) ts
  ·exact zgc (ih 6) (ih 7) _ (.inr rfl) _ ts
  ·exact zqK (ih 0) (hf 0) ts
def btT:List Tok→Nat
 | []=>0
 | t::ts=>t.2.1.data.toList.length+btT ts
def sumT:List Ex→Nat
 | []=>0
 | x::xs=>(txP x).length+sumT xs
theorem zjM:∀l m:List Ex,sumT (l++m)=sumT l+sumT m
 | [],m=>by simp[sumT]
 | x::xs,m=>by rw[List.cons_append,sumT,sumT,zjM xs m];omega
theorem zfL(bt:List UInt8):∀l:List Ex,(inter bt (txsP l)).length≤sumT l+bt.length*l.length
 | []=>by simp[txsP,inter]
 | [x]=>by simp[txsP,inter,sumT]
 | x::y::l=>by
  have ih:=zfL bt (y::l)
  rw[txsP,txsP,inter,sumT,List.length_append,List.length_append,List.length_cons]
  rw[txsP] at ih
  rw[Nat.mul_add,Nat.mul_one]
  omega
def LenB(sub:List Tok→Option Ex×List Tok):Prop:=∀ts y,(sub ts).1=some y→(txP y).length+3+4*btT (sub ts).2≤4*btT ts
theorem zqD{op:List UInt8}(h:op∈bin14):op≠[118,97,108]∧op≠[99,111,108]∧¬(op=[108,101,110]∨op=[105,102])∧op≠[110,111,116]∧op≠[110,101,103]∧1≤op.length:=by
 simp only[bin14,List.mem_cons,List.not_mem_nil,or_false] at h
 rcases h with rfl|rfl|rfl|rfl|rfl|rfl|rfl|rfl|rfl|rfl|rfl|rfl|rfl<;>decide
theorem zoM{a b:Ex}{t:Tok}(ht:t.2.1.data.toList∈bin14):(txP (betT a t b)).length=(txP a).length+(txP b).length+t.2.1.data.toList.length+4:=by
 obtain⟨h1,h2,h3,h4,h5,_⟩:=zqD ht
 rw[betT,txP,if_neg h1,if_neg h2,if_neg h3,if_neg h4,if_neg h5,txsP,txsP,txsP,argsT,inter,inter]
 simp only[List.length_cons,List.length_append,List.length_nil]
 omega
theorem zgm{sub:List Tok→Option Ex×List Tok}(hs:LenB sub)(gs:List (List UInt8))(hgs:∀g∈gs,g∈bin14):∀(k:Nat) (e:Ex) (ts:List Tok) (y:Ex) (M:Nat),(uLoop sub gs k e ts).1=some y→(txP e).length+3+4*btT ts≤M→(txP y).length+3+4*btT (uLoop sub gs k e ts).2≤M
 | 0,e,ts,y,M,h,hM=>by rw[uLoop] at h ⊢;simp only[Option.some.injEq] at h;subst h;exact hM
 | k+1,e,ts,y,M,h,hM=>by
  rw[uLoop] at h ⊢
  cases hn:nxT (sgT gs) ts with
  | none=>rw[hn] at h;simp only[Option.some.injEq] at h;subst h;exact hM
  | some q =>
   obtain⟨t,r⟩:=q
   rw[hn] at h
   obtain⟨h1,hst⟩:=zag hn
   subst h1
   simp only at h ⊢
   have h2:=hs r
   cases h3:sub r with
   | mk o r2 =>
    rw[h3] at h h2
    cases o with
    | none=>exact absurd h (by simp)
    | some b =>
     have hm:=hgs _ (zcJ hst)
     have h4:=h2 b rfl
     simp only at h h4 ⊢
     rw[btT] at hM
     have h5:=(zqD hm).2.2.2.2.2
     exact zgm hs gs hgs k (betT e t b) r2 y M h (by rw[zoM hm];omega)
theorem zdm{sub:List Tok→Option Ex×List Tok}(hs:LenB sub)(gs:List (List UInt8))(hgs:∀g∈gs,g∈bin14):LenB (uSev sub gs):=by
 intro ts y h
 have h2:=hs ts
 rw[uSev] at h ⊢
 cases h3:sub ts with
 | mk o r =>
  rw[h3] at h h2
  cases o with
  | none=>exact absurd h (by simp)
  | some e=>exact zgm hs gs hgs (r.length+1) e r y _ h (h2 e rfl)
theorem ztN{op:List UInt8}{pos:Int}{e:Ex}(hop:op=[110,111,116]∨op=[110,101,103]):(txP (op1 op pos [e])).length=(if op=[110,111,116] then 3 else 1)+(txP e).length+3:=by
 have e0:(⟨op.toArray⟩:ByteArray).data.toList=op:=rfl
 rw[op1,txP,e0]
 rcases hop with rfl|rfl
 ·simp[txsP,znX];omega
 ·simp[txsP,znX];omega
theorem zex{sub other:List Tok→Option Ex×List Tok}(hs:LenB sub)(ho:LenB other)(op:List UInt8)(gs:List (List UInt8))(hop:(op=[110,111,116]∧gs=[[110,111,116]])∨(op=[110,101,103]∧gs=[[45]])):LenB (zba op gs sub other):=by
 intro ts y h
 rw[zba] at h ⊢
 cases hn:nxT (sgT gs) ts with
 | none=>rw[hn] at h;exact ho ts y h
 | some q =>
  obtain⟨t,r⟩:=q
  rw[hn] at h
  obtain⟨h1,hst⟩:=zag hn
  subst h1
  have hm:=zcJ hst
  have h2:=hs r
  simp only at h ⊢
  cases h3:sub r with
  | mk o r2 =>
   rw[h3] at h h2
   cases o with
   | none=>exact absurd h (by simp)
   | some e =>
    simp only[Option.some.injEq] at h
    subst h
    have h4:=h2 e rfl
    simp only at h4 ⊢
    rw[ztN (hop.imp (·.1) (·.1)),btT]
    rcases hop with ⟨rfl,rfl⟩|⟨rfl,rfl⟩
    ·rw[List.mem_singleton.1 hm,if_pos rfl]
     simp only[List.length_cons,List.length_nil]
     omega
    ·rw[List.mem_singleton.1 hm,if_neg (by decide)]
     simp only[List.length_cons,List.length_nil]
     omega
theorem ztl:∀g∈cmpL,g∈bin14:=by decide
theorem znP{sub:List Tok→Option Ex×List Tok}(hs:LenB sub):LenB (uCmp sub):=by
 intro ts y h
 have h2:=hs ts
 rw[uCmp] at h ⊢
 cases h3:sub ts with
 | mk o r =>
  rw[h3] at h h2
  cases o with
  | none=>exact absurd h (by simp)
  | some e =>
   have h4:=h2 e rfl
   simp only at h h4 ⊢
   cases hn:nxT (sgT cmpL) r with
   | none=>rw[hn] at h;simp only[Option.some.injEq] at h;subst h;exact h4
   | some q =>
    obtain⟨t,r2⟩:=q
    rw[hn] at h
    obtain⟨h1,hst⟩:=zag hn
    subst h1
    have h5:=hs r2
    simp only at h ⊢
    cases h7:sub r2 with
    | mk o r3 =>
     rw[h7] at h h5
     cases o with
     | none=>exact absurd h (by simp)
     | some b =>
      simp only[Option.some.injEq] at h
      subst h
      have hm:=ztl _ (zcJ hst)
      have h8:=(zqD hm).2.2.2.2.2
      have h9:=h5 b rfl
      rw[btT] at h4
      simp only at h9 ⊢
      rw[zoM hm]
      omega
theorem zhf{sub:List Tok→Option Ex×List Tok}(hs:LenB sub):∀(k:Nat) (acc:List Ex) (ts:List Tok) (l:List Ex),(uBr sub k acc ts).1=some l→sumT l+7*k+4+4*btT (uBr sub k acc ts).2≤sumT acc+4*btT ts
 | 0,acc,ts,l,h=>by
  rw[uBr] at h ⊢
  cases hn:nxT (sgT [[41]]) ts with
  | none=>rw[hn] at h;exact absurd h (by simp)
  | some q =>
   obtain⟨t,r⟩:=q
   rw[hn] at h
   obtain⟨h1,hst⟩:=zag hn
   subst h1
   have hm:=List.mem_singleton.1 (zcJ hst)
   simp only[Option.some.injEq] at h
   subst h
   simp only
   rw[btT,hm]
   simp only[List.length_cons,List.length_nil]
   omega
 | k+1,acc,ts,l,h=>by
  rw[uBr] at h ⊢
  cases hn:nxT (sgT [if acc.length=0 then [40] else [44]]) ts with
  | none=>rw[hn] at h;exact absurd h (by simp)
  | some q =>
   obtain⟨t,r⟩:=q
   rw[hn] at h
   obtain⟨h1,hst⟩:=zag hn
   subst h1
   have hm:t.2.1.data.toList.length=1:=by
    rw[List.mem_singleton.1 (zcJ hst)]
    split<;>rfl
   have h2:=hs r
   simp only at h ⊢
   cases h3:sub r with
   | mk o r2 =>
    rw[h3] at h h2
    cases o with
    | none=>exact absurd h (by simp)
    | some e =>
     have h4:=h2 e rfl
     simp only at h h4 ⊢
     have h5:=zhf hs k (acc++[e]) r2 l h
     rw[zjM,sumT,sumT] at h5
     rw[btT,hm]
     omega
theorem ztm{t:Tok}(h:vlT t=true):(txP (valE t)).length=t.2.1.data.toList.length∧1≤t.2.1.data.toList.length:=by
 obtain⟨T,n,l,e,hr⟩:∃T n l e,readV t.2.1=(T,n,l,e):=⟨_,_,_,_,rfl⟩
 have he:e=0:=by rw[vlT,hr] at h;simpa using h
 subst he
 obtain⟨hc,hsh,_⟩:=zfO T n l t.2.1 hr
 have e1:txP (valE t)=t.2.1.data.toList:=by
  rw[valE,hr,txP]
  have e0:(⟨#[118,97,108]⟩:ByteArray).data.toList=[118,97,108]:=rfl
  have e2:(⟨l.toArray⟩:ByteArray).data.toList=l:=rfl
  rw[e0,if_pos rfl,e2,prS,if_pos hc,hsh]
 refine⟨by rw[e1],?_⟩
 rw[←hsh,shown]
 split
 ·rw[Lib.itoa]
  split
  ·simp
  ·obtain⟨c,q,hd,_⟩:=zbc n.toNat n.toNat (Nat.le_refl _)
   rw[hd]
   simp
 ·split
  ·split<;>simp
  ·simp
theorem zqw{l:List UInt8}(h:nameT l=true):1≤l.length:=by
 cases l with
 | nil=>exact absurd h (by decide)
 | cons c l=>simp
theorem znm{sub:List Tok→Option Ex×List Tok}(hs:LenB sub):LenB (uOne sub):=by
 intro ts y h
 cases hn:nxT (sgT lenIf) ts with
 | some q =>
  obtain⟨t,r⟩:=q
  rw[zdh hn] at h ⊢
  obtain⟨h1,hst⟩:=zag hn
  have h2:=zhf hs (manyT t) [] r
  have h5:=zeq (sub:=sub) (manyT t) [] r
  cases h3:(uBr sub (manyT t) [] r).1 with
  | none=>rw[h3] at h;exact absurd h (by simp)
  | some l =>
   rw[h3] at h
   simp only[Option.map_some,Option.some.injEq] at h
   have h6:=h5 l h3
   have h7:=h2 l h3
   have hm:=zcJ hst
   have hm':t.2.1.data.toList=[108,101,110]∨t.2.1.data.toList=[105,102]:=by simpa using hm
   have hlen:=zfL [44,32] l
   have hf:2≤t.2.1.data.toList.length:=by rcases hm' with e|e<;>rw[e]<;>decide
   simp only[List.length_cons,List.length_nil] at hlen h6
   rw[←h,h1,btT,txP,if_neg (by rcases hm' with e|e<;>rw[e]<;>decide),if_neg (by rcases hm' with e|e<;>rw[e]<;>decide),if_pos hm',argsT]
   simp only[List.length_append,List.length_cons,List.length_nil]
   rw[sumT] at h7
   omega
 | none =>
  cases hv:nxT vlT ts with
  | some q =>
   obtain⟨t,r⟩:=q
   rw[zeZ hn hv] at h ⊢
   simp only[Option.some.injEq] at h
   obtain⟨h1,h2⟩:=zag hv
   obtain⟨h3,h4⟩:=ztm h2
   rw[←h,h1,btT,h3]
   simp only
   omega
  | none =>
   cases hc:nxT nmT ts with
   | some q =>
    obtain⟨t,r⟩:=q
    rw[zeR hn hv hc] at h ⊢
    simp only[Option.some.injEq] at h
    obtain⟨h1,h2⟩:=zag hc
    have h4:=zqw h2
    have e1:txP (colE1 t)=t.2.1.data.toList:=by
     rw[colE1,txP]
     have e0:(⟨#[99,111,108]⟩:ByteArray).data.toList=[99,111,108]:=rfl
     rw[e0,if_neg (by decide),if_pos rfl]
    rw[←h,h1,btT,e1]
    simp only
    omega
   | none =>
    rw[zio hn hv hc] at h ⊢
    have h2:=zhf hs 1 [] ts
    have h5:=zeq (sub:=sub) 1 [] ts
    cases h3:(uBr sub 1 [] ts).1 with
    | none=>rw[h3] at h;exact absurd h (by simp)
    | some l =>
     rw[h3] at h
     have h4:=h2 l h3
     have h6:=h5 l h3
     match l,h6 with
     | [x],_ =>
      simp only[Option.bind_some,List.head?_cons,Option.some.injEq] at h
      subst h
      rw[sumT,sumT,sumT] at h4
      simp only
      omega
theorem zol:∀(f lv:Nat),LenB (uE f lv)
 | 0,lv=>fun ts y h=>by rw[uE] at h;exact absurd h (by simp)
 | f+1,lv=>by
  have ih:=fun lv=>zol f lv
  intro ts
  unfold uE
  split
  ·exact zdm (ih 1) _ (by decide) ts
  ·exact zdm (ih 2) _ (by decide) ts
  ·exact zex (ih 2) (ih 3) _ _ (.inl ⟨rfl,rfl⟩) ts
  ·exact znP (ih 4) ts
  ·exact zdm (ih 5) _ (by decide) ts
  ·exact zdm (ih 6) _ (by decide) ts
  ·exact zex (ih 6) (ih 7) _ _ (.inr ⟨rfl,rfl⟩) ts
  ·exact znm (ih 0) ts
theorem zlm{ts:List Tok}{x:Ex}(h:(readE ts).1=some x):(txP x).length+3+4*btT (readE ts).2≤4*btT ts:=zol _ _ ts x h
def txE(x:Ex):List UInt8:=if ckP x=0 then txP x else []
def asT(n:List UInt8):List UInt8:=[32,97,115,32]++n
def colW(x:Ex)(n:ByteArray):List UInt8:=txE x++asT n.data.toList
def agW(a:Ag):List UInt8:=a.what.data.toList++((if a.what.data.toList=zcQ then [] else [40]++(txE a.arg++[41]))++asT a.name.data.toList)
def zqp(q:Qy):List (List UInt8):=if 0<q.aggs.length then q.aggs.map agW else (q.cols.zip q.names).map fun p=>colW p.1 p.2
def whW(x:Ex):List UInt8:=if noOp x=true then [] else [32,119,104,101,114,101,32]++txE x
def frW(f:List UInt8)(x:Ex):List UInt8:=[32,102,114,111,109,32]++(f++whW x)
def slW(z s:Int):List UInt8:=if s=z then [] else [32,115,108,105,100,101,32]++Lib.itoa s
def grW(g:List ByteArray)(z s:Int):List UInt8:=[32,103,114,111,117,112,32,98,121,32]++(inter [44,32] (g.map fun n=>n.data.toList)++([32,119,105,110,100,111,119,32]++(Lib.itoa z++slW z s)))
def gqW(q:Qy):List UInt8:=if 0<q.aggs.length then grW q.group q.size q.slide else []
def wrI(q:Qy):List UInt8:=[115,101,108,101,99,116,32]++(inter [44,32] (zqp q)++(frW q.frm.data.toList q.whr++gqW q))
theorem ztq(x:Ex):(txE x).length≤(txP x).length:=by
 rw[txE]
 split
 ·exact Nat.le_refl _
 ·simp
def GdA(ts:List Tok):Prop:=∀t∈ts,GdT t
theorem zbf{α β:Type}{a:Option α×List Tok}{f:α→List Tok→Option β×List Tok}{x:α}(h:a.1=some x):thU a f=f x a.2:=by
 obtain⟨o,rs⟩:=a
 cases h
 rfl
theorem zme{α β:Type}{a:Option α×List Tok}{f:α→List Tok→Option β×List Tok}{ts:List Tok}(h:a.2 <:+ ts)(hf:∀x rs,(f x rs).2 <:+ rs):(thU a f).2 <:+ ts:=by
 obtain⟨o,rs⟩:=a
 cases o with
 | none=>exact h
 | some x=>exact (hf x rs).trans h
theorem ztD(ts:List Tok):(frU ts).2 <:+ ts:=zme (zaV _ _) fun _ rs=>zme (zdO rs) fun f rs=>zme (zkP rs) fun x rs=>List.suffix_rfl
theorem jU_rd{g:List UInt8}{ts:List Tok}{u:Unit}(h:(jU g ts).1=some u):btT ts=g.length+btT (jU g ts).2:=by
 rw[jU] at h ⊢
 cases hn:nxT (sgT [g]) ts with
 | none=>rw[hn] at h;exact absurd h (by simp)
 | some q =>
  obtain⟨t,r⟩:=q
  obtain⟨h1,h2⟩:=zag hn
  have:=List.mem_singleton.1 (zcJ h2)
  subst h1
  rw[btT,this]
theorem nU_rd{ts:List Tok}{n:ByteArray}(h:(nU ts).1=some n):nameT n.data.toList=true∧btT ts=n.data.toList.length+btT (nU ts).2:=by
 rw[nU] at h ⊢
 cases hn:nxT nmT ts with
 | none=>rw[hn] at h;exact absurd h (by simp)
 | some q =>
  obtain⟨t,r⟩:=q
  obtain⟨h1,h2⟩:=zag hn
  rw[hn] at h
  simp only[Option.some.injEq] at h
  subst h1 h
  exact⟨h2,by rw[btT]⟩
theorem ztk{t:Tok}(h:GdT t)(hk:tokAt t.2.1.data.toList=(2,t.2.1.data.toList.length,0)):Lib.itoa (nuI t.2.1.data.toList)=t.2.1.data.toList∧0≤nuI t.2.1.data.toList∧nuI t.2.1.data.toList≤9223372036854775807:=by
 generalize t.2.1.data.toList=l at hk ⊢
 cases l with
 | nil=>simp[tokAt] at hk
 | cons c l =>
  rw[tokAt] at hk
  split at hk
  ·simp at hk
  ·split at hk
   ·simp only[Prod.mk.injEq,true_and] at hk
    obtain⟨h1,h2⟩:(zaU (c::l)).1=(c::l).length∧(zaU (c::l)).2=0:=by rw[hk];exact⟨rfl,rfl⟩
    rw[zaU] at h1 h2
    split at h1
    ·simp at h1
    ·rename_i hz
     split at h1
     ·simp at h1
     ·rename_i hv
      have hg:goN digB (c::l)=(c::l).length:=h1
      have ha:=zcP digB (c::l)
      rw[hg,List.take_length] at ha hv
      rw[hg] at hz
      have hd:=zoO l.length (c::l) (by simp) ha (fun r e=>Classical.byContradiction fun hr=>hz (.inr ⟨by
       rw[e]
       cases r with
       | nil=>exact absurd rfl hr
       | cons _ _=>simp,by rw[e];rfl⟩))
      refine⟨?_,?_,?_⟩
      ·rw[nuI,Lib.itoa,if_neg (by omega),show ((val10 (c::l):Nat):Int).toNat=val10 (c::l) from by omega,hd]
      ·rw[nuI];omega
      ·rw[nuI];omega
   ·split at hk<;>simp at hk
def GdK(t:Tok):Prop:=tokAt t.2.1.data.toList=(t.1,t.2.1.data.toList.length,0)
def GkA(ts:List Tok):Prop:=∀t∈ts,GdK t
theorem GkA.suf{ts r:List Tok}(h:GkA ts)(hs:r <:+ ts):GkA r:=fun t ht=>h t (hs.subset ht)
theorem GkA.gd{ts:List Tok}(h:GkA ts):GdA ts:=fun t ht=>⟨_,h t ht⟩
theorem iU_rd{ts:List Tok}{z:Int}(hg:GkA ts)(h:(iU ts).1=some z):(0≤z∧z≤9223372036854775807)∧btT ts=(Lib.itoa z).length+btT (iU ts).2:=by
 rw[iU] at h ⊢
 cases hn:nxT isNum ts with
 | none=>rw[hn] at h;exact absurd h (by simp)
 | some q =>
  obtain⟨t,r⟩:=q
  obtain⟨h1,h2⟩:=zag hn
  rw[hn] at h
  simp only[Option.some.injEq] at h
  subst h1 h
  have hk:=hg t (by simp)
  have h3:t.1=2:=by simpa [isNum] using h2
  rw[GdK,h3] at hk
  obtain⟨e1,e2,e3⟩:=ztk (t:=t) ⟨_,hk⟩ hk
  exact⟨⟨e2,e3⟩,by rw[e1,btT]⟩
theorem zrQ{ts:List Tok}{n:ByteArray}(h:(asU ts).1=some n):nameT n.data.toList=true∧btT ts=2+n.data.toList.length+btT (asU ts).2:=by
 rw[asU] at h ⊢
 obtain⟨u,h1,h2⟩:=zas h
 rw[zbf h1]
 have e1:=jU_rd h1
 obtain⟨e2,e3⟩:=nU_rd h2
 refine⟨e2,?_⟩
 simp only[List.length_cons,List.length_nil] at e1
 omega
theorem zgL{ts:List Tok}{x:Ex}(hg:GkA ts)(h:(readE ts).1=some x):OkN x∧(txE x).length+3+4*btT (readE ts).2≤4*btT ts:=by
 have h1:=zlm h
 have h2:=ztq x
 exact⟨ztr _ 0 _ x hg.gd h,by omega⟩
theorem ztw{ts:List Tok}{p:Ex×ByteArray}(hg:GkA ts)(h:(colU ts).1=some p):(OkN p.1∧nameT p.2.data.toList=true)∧(colW p.1 p.2).length+4*btT (colU ts).2≤4*btT ts:=by
 rw[colU] at h ⊢
 obtain⟨x,h1,h2⟩:=zas h
 rw[zbf h1]
 obtain⟨n,h3,h4⟩:=zas h2
 rw[zbf h3]
 simp only[Option.some.injEq] at h4
 subst h4
 obtain⟨e1,e2⟩:=zgL hg h1
 obtain⟨e3,e4⟩:=zrQ h3
 refine⟨⟨e1,e3⟩,?_⟩
 simp only[colW,asT,List.length_append,List.length_cons,List.length_nil]
 omega
def OkAq(a:Ag):Prop:=isAg a.what.data.toList=true∧((a.what.data.toList=zcQ∧a.arg=ex0)∨(a.what.data.toList≠zcQ∧OkN a.arg))∧nameT a.name.data.toList=true
theorem ztH{ts:List Tok}{a:Ag}(hg:GkA ts)(h:(aggU ts).1=some a):OkAq a∧(agW a).length+4*btT (aggU ts).2≤4*btT ts:=by
 rw[aggU] at h ⊢
 cases hn:nxT agB ts with
 | none=>rw[hn] at h;exact absurd h (by simp)
 | some q =>
  obtain⟨t,r⟩:=q
  obtain⟨h0,hag⟩:=zag hn
  rw[hn] at h
  simp only at h ⊢
  obtain⟨x,h1,h2⟩:=zas h
  rw[zbf h1]
  obtain⟨n,h3,h4⟩:=zas h2
  rw[zbf h3]
  simp only[Option.some.injEq] at h4
  subst h4 h0
  have hgr:GkA r:=fun u hu=>hg u (by simp[hu])
  obtain⟨e3,e4⟩:=zrQ h3
  have hag':isAg t.2.1.data.toList=true:=hag
  by_cases hc:t.2.1.data.toList=zcQ
  ·have ea:argU t.2.1.data.toList r=(some ex0,r):=by rw[argU,if_pos hc]
   rw[ea] at h1 e4 ⊢
   simp only[Option.some.injEq] at h1
   subst h1
   refine⟨⟨hag',.inl ⟨hc,rfl⟩,e3⟩,?_⟩
   simp only[agW,asT]
   rw[if_pos hc,btT]
   simp only[List.length_append,List.length_cons,List.length_nil] at e4 ⊢
   omega
  ·have ea:argU t.2.1.data.toList r=brU r:=by rw[argU,if_neg hc]
   rw[ea] at h1 e4 ⊢
   rw[brU] at h1 e4 ⊢
   obtain⟨u,k1,k2⟩:=zas h1
   rw[zbf k1] at e4 ⊢
   obtain⟨y,k3,k4⟩:=zas k2
   rw[zbf k3] at e4 ⊢
   obtain⟨u2,k5,k6⟩:=zas k4
   rw[zbf k5] at e4 ⊢
   simp only[Option.some.injEq] at k6
   subst k6
   have f1:=jU_rd k1
   obtain⟨f2,f3⟩:=zgL (hgr.suf (zaV [40] r)) k3
   have f4:=jU_rd k5
   refine⟨⟨hag',.inr ⟨hc,f2⟩,e3⟩,?_⟩
   simp only[agW,asT]
   rw[if_neg hc,btT]
   simp only[List.length_append,List.length_cons,List.length_nil] at e4 f1 f4 ⊢
   omega
theorem ziu{α:Type}{part:List Tok→Option α×List Tok}(tx:α→List UInt8)(P:α→Prop)(hsuf:∀ts,(part ts).2 <:+ ts)(hp:∀ts x,GkA ts→(part ts).1=some x→P x∧(tx x).length+4*btT (part ts).2≤4*btT ts) :
  ∀(k:Nat)(acc:List α)(ts:List Tok)(l:List α)(M:Nat),GkA ts→(∀x∈acc,P x)→(sevU part k acc ts).1=some l→(if acc.length=0 then 0 else (inter [44,32] (acc.map tx)).length+2)+4*btT ts≤M→((∀x∈l,P x)∧l≠[])∧(inter [44,32] (l.map tx)).length+4*btT (sevU part k acc ts).2≤M
 | 0,acc,ts,l,M,hg,ha,h,hM=>by simp[sevU] at h
 | k+1,acc,ts,l,M,hg,ha,h,hM=>by
  cases hx:(part ts).1 with
  | none=>rw[zdk (rs:=(part ts).2) (Prod.ext hx rfl)] at h;exact absurd h (by simp)
  | some x =>
   obtain⟨h1,h2⟩:=hp ts x hg hx
   have ha':∀y∈acc++[x],P y:=fun y hy=>by
    rcases List.mem_append.1 hy with hy|hy
    ·exact ha y hy
    ·rw[List.mem_singleton.1 hy];exact h1
   have hl:(inter [44,32] ((acc++[x]).map tx)).length=(if acc.length=0 then 0 else (inter [44,32] (acc.map tx)).length+2)+(tx x).length:=by
    rw[List.map_append,List.map_singleton,zgp,List.length_map]
    split
    ·simp
    ·simp only[List.length_append,List.length_cons,List.length_nil]
   cases hn:nxT (sgT [[44]]) (part ts).2 with
   | none =>
    rw[zdo (x:=x) (rs:=(part ts).2) (Prod.ext hx rfl) hn] at h ⊢
    simp only[Option.some.injEq] at h
    subst h
    refine⟨⟨ha',by simp⟩,?_⟩
    rw[hl]
    simp only
    omega
   | some q =>
    obtain⟨t,r⟩:=q
    obtain⟨e1,e2⟩:=zag hn
    have e3:=List.mem_singleton.1 (zcJ e2)
    rw[zdc (x:=x) (rs:=(part ts).2) (Prod.ext hx rfl) hn] at h ⊢
    refine ziu tx P hsuf hp k _ r l M ((hg.suf (hsuf ts)).suf (zcF hn)) ha' h ?_
    rw[if_neg (by simp),hl]
    rw[e1,btT,e3] at h2
    simp only[List.length_cons,List.length_nil] at h2
    omega
def OkW(x:Ex):Prop:=x=ex0∨OkN x
theorem ztc{ts:List Tok}{p:ByteArray×Ex}(hg:GkA ts)(h:(frU ts).1=some p):(nameT p.1.data.toList=true∧OkW p.2)∧(frW p.1.data.toList p.2).length+4*btT (frU ts).2≤4*btT ts:=by
 rw[frU] at h ⊢
 obtain⟨u,h1,h2⟩:=zas h
 rw[zbf h1]
 obtain⟨f,h3,h4⟩:=zas h2
 rw[zbf h3]
 obtain⟨x,h5,h6⟩:=zas h4
 rw[zbf h5]
 simp only[Option.some.injEq] at h6
 subst h6
 have e1:=jU_rd h1
 obtain⟨e2,e3⟩:=nU_rd h3
 have hgr:=(hg.suf (zaV wFrom ts)).suf (zdO _)
 have key:OkW x∧(whW x).length+4*btT (whU (nU (jU wFrom ts).2).2).2≤4*btT (nU (jU wFrom ts).2).2:=by
  generalize (nU (jU wFrom ts).2).2=rs at h5 hgr
  rw[whU] at h5 ⊢
  cases hn:nxT (sgT [zeP]) rs with
  | none =>
   rw[hn] at h5
   simp only[Option.some.injEq] at h5
   subst h5
   refine⟨.inl rfl,?_⟩
   rw[whW,if_pos (by decide)]
   simp
  | some q =>
   obtain⟨t,r⟩:=q
   rw[hn] at h5
   simp only at h5 ⊢
   obtain⟨k1,k2⟩:=zag hn
   have k3:=List.mem_singleton.1 (zcJ k2)
   obtain⟨k4,k5⟩:=zgL (hgr.suf (zcF hn)) h5
   refine⟨.inr k4,?_⟩
   rw[k1,btT,k3,whW]
   split
   ·simp only[List.length_cons,List.length_nil];omega
   ·simp only[List.length_append,List.length_cons,List.length_nil];omega
 refine⟨⟨e2,key.1⟩,?_⟩
 have:=key.2
 simp only[frW,List.length_append,List.length_cons,List.length_nil] at e1 ⊢
 omega
def inN(z:Int):Prop:=0≤z∧z≤9223372036854775807
theorem zvs{ts:List Tok}{p:List ByteArray×Int×Int}(hg:GkA ts)(h:(grU ts).1=some p):((∀n∈p.1,nameT n.data.toList=true)∧p.1≠[]∧inN p.2.1∧inN p.2.2)∧(grW p.1 p.2.1 p.2.2).length+4*btT (grU ts).2≤4*btT ts:=by
 rw[grU] at h ⊢
 obtain⟨u,h1,h⟩:=zas h
 rw[zbf h1]
 obtain⟨u2,h2,h⟩:=zas h
 rw[zbf h2]
 obtain⟨g,h3,h⟩:=zas h
 rw[zbf h3]
 obtain⟨u3,h4,h⟩:=zas h
 rw[zbf h4]
 obtain⟨z,h5,h⟩:=zas h
 rw[zbf h5]
 obtain⟨s,h6,h⟩:=zas h
 rw[zbf h6]
 simp only[Option.some.injEq] at h
 subst h
 have e1:=jU_rd h1
 have e2:=jU_rd h2
 have g1:=(hg.suf (zaV zcd ts)).suf (zaV wBy _)
 have e3:=ziu (fun n:ByteArray=>n.data.toList) (fun n=>nameT n.data.toList=true) zdO (fun ts x _ h=>⟨(nU_rd h).1,by have:=(nU_rd h).2;omega⟩) _ [] _ g _ g1 (fun x hx=>absurd hx (by simp)) h3 (Nat.le_refl _)
 have g2:=g1.suf (zby zdO ((jU wBy (jU zcd ts).2).2.length+1) [] _)
 have e4:=jU_rd h4
 have g3:=g2.suf (zaV zce _)
 obtain⟨e5,e6⟩:=iU_rd g3 h5
 have g4:=g3.suf (ztz _)
 have key:inN s∧(slW z s).length+4*btT (slU z (iU (jU zce (sevU nU ((jU wBy (jU zcd ts).2).2.length+1) [] (jU wBy (jU zcd ts).2).2).2).2).2).2≤4*btT (iU (jU zce (sevU nU ((jU wBy (jU zcd ts).2).2.length+1) [] (jU wBy (jU zcd ts).2).2).2).2).2:=by
  generalize (iU (jU zce (sevU nU ((jU wBy (jU zcd ts).2).2.length+1) [] (jU wBy (jU zcd ts).2).2).2).2).2=rs at h6 g4
  rw[slU] at h6 ⊢
  cases hn:nxT (sgT [zgf]) rs with
  | none =>
   rw[hn] at h6
   simp only[Option.some.injEq] at h6
   subst h6
   refine⟨e5,?_⟩
   rw[slW,if_pos rfl]
   simp
  | some q =>
   obtain⟨t,r⟩:=q
   rw[hn] at h6
   simp only at h6 ⊢
   obtain⟨k1,k2⟩:=zag hn
   have k3:=List.mem_singleton.1 (zcJ k2)
   obtain⟨k4,k5⟩:=iU_rd (g4.suf (zcF hn)) h6
   refine⟨k4,?_⟩
   rw[k1,btT,k3,slW]
   split
   ·simp only[List.length_cons,List.length_nil];omega
   ·simp only[List.length_append,List.length_cons,List.length_nil];omega
 refine⟨⟨e3.1.1,e3.1.2,e5,key.1⟩,?_⟩
 have:=key.2
 have e32:=e3.2
 simp only[grW,List.length_append,List.length_cons,List.length_nil,if_true] at e1 e2 e32 e4 ⊢
 omega
theorem zhW:∀c:List (Ex×ByteArray),(c.map (·.1)).zip (c.map (·.2))=c
 | []=>rfl
 | p::c=>by rw[List.map_cons,List.map_cons,List.zip_cons_cons,zhW c]
def OkQ(q:Qy):Prop:=nameT q.frm.data.toList=true∧OkW q.whr ∧
 ((q.aggs=[]∧q.group=[]∧q.size=0∧q.slide=0∧∃c:List (Ex×ByteArray),c≠[]∧q.cols=c.map (·.1)∧q.names=c.map (·.2)∧∀p∈c,OkN p.1∧nameT p.2.data.toList=true) ∨
  (q.cols=[]∧q.names=[]∧q.aggs≠[]∧(∀a∈q.aggs,OkAq a)∧(∀n∈q.group,nameT n.data.toList=true)∧q.group≠[]∧inN q.size∧inN q.slide))
theorem qU_rd{ts:List Tok}{q:Qy}(hg:GkA ts)(h:(qU ts).1=some q):OkQ q∧(wrI q).length≤4*btT ts:=by
 rw[qU] at h
 obtain⟨u,h1,h⟩:=zas h
 have e1:=jU_rd h1
 have g1:=hg.suf (zaV zaR ts)
 generalize (jU zaR ts).2=rs at h e1 g1
 simp only[List.length_cons,List.length_nil] at e1
 split at h
 ·rw[qTwoU] at h
  obtain⟨a,ha,h⟩:=zas h
  obtain⟨f,hf,h⟩:=zas h
  obtain⟨g,hgr,h⟩:=zas h
  simp only[Option.some.injEq] at h
  subst h
  have e2:=ziu agW OkAq zbJ (fun ts x hg h=>ztH hg h) _ [] rs a _ g1 (fun x hx=>absurd hx (by simp)) ha (Nat.le_refl _)
  have g2:=g1.suf (zby zbJ (rs.length+1) [] rs)
  obtain⟨e3,e4⟩:=ztc g2 hf
  have g3:=g2.suf (ztD _)
  obtain⟨e5,e6⟩:=zvs g3 hgr
  refine⟨⟨e3.1,e3.2,.inr ⟨rfl,rfl,e2.1.2,e2.1.1,e5.1,e5.2.1,e5.2.2.1,e5.2.2.2⟩⟩,?_⟩
  have hpos:0<a.length:=List.length_pos_iff.2 e2.1.2
  have e22:=e2.2
  simp only[wrI,zqp,gqW]
  rw[if_pos hpos,if_pos hpos]
  simp only[List.length_append,List.length_cons,List.length_nil,if_true] at e22 ⊢
  omega
 ·rw[qOneU] at h
  obtain⟨c,hc,h⟩:=zas h
  obtain⟨f,hf,h⟩:=zas h
  simp only[Option.some.injEq] at h
  subst h
  have e2:=ziu (fun p:Ex×ByteArray=>colW p.1 p.2) (fun p=>OkN p.1∧nameT p.2.data.toList=true) zbO (fun ts x hg h=>ztw hg h) _ [] rs c _ g1 (fun x hx=>absurd hx (by simp)) hc (Nat.le_refl _)
  have g2:=g1.suf (zby zbO (rs.length+1) [] rs)
  obtain⟨e3,e4⟩:=ztc g2 hf
  refine⟨⟨e3.1,e3.2,.inl ⟨rfl,rfl,rfl,rfl,c,e2.1.2,rfl,rfl,e2.1.1⟩⟩,?_⟩
  have e22:=e2.2
  simp only[wrI,zqp,gqW]
  rw[if_neg (by simp),if_neg (by simp),zhW]
  simp only[List.length_append,List.length_cons,List.length_nil,if_true] at e22 ⊢
  omega
theorem zlW(s:List UInt8):∀(ts:List Tok) (p:Nat),p≤s.length→Stand s p ts→btT ts≤s.length-p
 | [],p,_,_=>by rw[btT];omega
 | t::ts,p,hp,h=>by
  rw[Stand] at h
  obtain⟨h1,h2,h3,_,h5,h6⟩:=h
  have ih:=zlW s ts _ h2 h6
  have e:t.2.1.data.toList.length=t.2.1.size:=by rw[Lib.size_eq]
  rw[btT,e]
  omega
theorem znI{s:List UInt8}{R:List Tok}{p:Nat}(h:zaC s=(R,0,p)):GkA R∧btT R≤s.length:=by
 obtain⟨_,_,h3,hg⟩:=zcX h
 refine⟨fun t ht=>?_,by have:=zlW s R 0 (Nat.zero_le _) h3;omega⟩
 have:=(hg t ht).again [] rfl
 rwa [List.append_nil] at this
theorem zvb:ckB ex0=false:=by
 have h:tgB ex0=false:=by
  rw[zrh]
  simp[ex0,Ex.small,Ex.size,Ex.sizes,Ex.deep,Ex.deeps]
 rw[ckB,ckP,h,if_neg (by decide)]
 have:(foldP fck 0 (ex0.pre 1)).1=2:=by
  have hn:nodeE (Ex.node ⟨#[]⟩ ⟨#[]⟩ 0 0 ⟨#[]⟩ 0 [])=2:=by
   rw[nodeE,show (apL (Ex.node ⟨#[]⟩ ⟨#[]⟩ 0 0 ⟨#[]⟩ 0 []).op.data.toList opsL).2=false from by decide]
   simp[nodeB]
  simp[ex0,Ex.pre,Ex.pres,foldP,fck,hn]
 rw[this]
 rfl
section
open Go.BigFrame
abbrev q0D:Array Value:=#[.string ⟨#[]⟩,.string ⟨#[]⟩,.string ⟨#[]⟩,.int .i64 0,.int .i64 0,.string ⟨#[]⟩,.slice none 0 0,.int .i64 0,.slice none 0 0,.slice none 0 0,.slice none 0 0,.int .i64 0,.int .i64 0,.slice none 0 0]
theorem zeG:(Tryz.prog.info? 34).map (·.size)=some 14:=by kernel_rfl
theorem zuY{w:World}{b:Nat}{cs:Array Value}{t:TypeId}(h:Blk w b cs t)(o n:Nat)(hn:o+n≤cs.size):w.there b o n:=fun j hj=>by
 refine⟨?_,h.frozen _⟩
 rw[h.cell,Array.getElem?_eq_getElem (by omega)]
 rfl
def putD:Array Value→Nat→List Value→Array Value
 | cs,_,[]=>cs
 | cs,o,v::r=>putD (cs.setIfInBounds o v) (o+1) r
theorem zdT{b:Nat}{t:TypeId}:∀(vs:List Value) (o:Nat) (w:World) (cs:Array Value),Blk w b cs t→Blk (w.setCells b o vs) b (putD cs o vs) t
 | [],_,_,_,h=>h
 | v::r,o,_,_,h=>zdT r (o+1) _ _ (h.set o v)
theorem ztL{a0 a1 a2 a3 a4 a5 a6 a7 a8 a9 a10 a11 a12 a13:Value}(v0 v1 v2 v3 v4 v5 v6 v7 v8 v9 v10 v11 v12 v13:Value):putD #[a0,a1,a2,a3,a4,a5,a6,a7,a8,a9,a10,a11,a12,a13] 0 [v0,v1,v2,v3,v4,v5,v6,v7,v8,v9,v10,v11,v12,v13]=#[v0,v1,v2,v3,v4,v5,v6,v7,v8,v9,v10,v11,v12,v13]:=by
 simp only[putD,List.setIfInBounds_toArray,List.set_cons_zero,List.set_cons_succ,Nat.zero_add,Nat.reduceAdd]
theorem zbh{B b:Nat}{a:World}(hb:B≤b):∀(vs:List Value) (o:Nat) (w:World),Below B a w→Below B a (w.setCells b o vs)
 | [],_,_,h=>h
 | v::r,o,w,h=>zbh hb r (o+1) _ (h.setCell (p:=⟨b,o,none⟩) hb v)
theorem zbw{b:Nat}:∀(vs:List Value) (o:Nat) (w:World) (c:Nat),c≠b→(w.setCells b o vs).heap[c]?=w.heap[c]?
 | [],_,_,_,_=>rfl
 | v::r,o,w,c,h=>by
  show ((w.setCell ⟨b,o,none⟩ v).setCells b (o+1) r).heap[c]?=_
  rw[zbw r (o+1) _ c h]
  exact heap_setCell_other w _ c v h
theorem set14(w:World)(b:Nat)(v0 v1 v2 v3 v4 v5 v6 v7 v8 v9 v10 v11 v12 v13:Value):((((((((((((((w.setCell ⟨b,0,none⟩ v0).setCell ⟨b,1,none⟩ v1).setCell ⟨b,2,none⟩ v2).setCell ⟨b,3,none⟩ v3).setCell ⟨b,4,none⟩ v4).setCell ⟨b,5,none⟩ v5).setCell ⟨b,6,none⟩ v6).setCell ⟨b,7,none⟩ v7).setCell ⟨b,8,none⟩ v8).setCell ⟨b,9,none⟩ v9).setCell ⟨b,10,none⟩ v10).setCell ⟨b,11,none⟩ v11).setCell ⟨b,12,none⟩ v12).setCell ⟨b,13,none⟩ v13)=w.setCells b 0 [v0,v1,v2,v3,v4,v5,v6,v7,v8,v9,v10,v11,v12,v13]:=rfl
theorem znd(w:World)(lo:Nat→Prop):QyIn w lo (.agg q0D) qyZ :=
 ⟨none,0,none,0,none,0,none,0,none,0,rfl,⟨zeA _ _,⟨none,0,rfl,⟨Nat.zero_le _,Nat.zero_le _⟩,.inl rfl⟩,Nat.zero_le _,StsA.nil _,StsA.nil _,⟨Nat.zero_le _,.inl rfl⟩⟩⟩
theorem zck(a:Act)(w W:World)(QC:Array Value)(E:Int)(P:Nat)(q:Qy)(hsz:QC.size=14)(h2:a.tmps[2]?=some (.pointer (some ⟨w.heap.size,0,none⟩)))(h3:a.tmps[3]?=some (.pointer (some ⟨w.heap.size+1,0,none⟩)))(hd:a.defers=[])
  (hq:QyIn W (fun _=>True) (.agg QC) q)(X:Blk W w.heap.size QC 34)(Y:Blk W (w.heap.size+1) #[.int .i64 E,.int .i64 (P:Nat)] 37)(B:Below w.heap.size w W) :
  bodyPost Tryz.prog Tryz.f4 (fun e w'=>(∃v,e=.returned (.tuple #[v,.agg #[.int .i64 E,.int .i64 (P:Nat)]])∧QyIn w' (fun _=>True) v q)∧Below w.heap.size w w') .ret a W:=by
 have hl:=run_loadVar_mid (P:=Tryz.prog) W w.heap.size 0 34 QC.toList _ (fun j v hv=>by rw[X.cell,Nat.zero_add];simpa using hv) Tryz.underlying34 rfl (by rw[zeG,Array.length_toList,hsz])
 have hl2:=run_loadVar_mid (P:=Tryz.prog) W (w.heap.size+1) 0 37 [.int .i64 E,.int .i64 (P:Nat)] _ (fun j v hv=>by rw[Y.cell,Nat.zero_add];simpa using hv) Tryz.underlying37 rfl (by kernel_rfl)
 refine bodyPost_ret (v:=.tuple #[.agg QC,.agg #[.int .i64 E,.int .i64 (P:Nat)]]) ?_ ?_ ⟨⟨_,rfl,hq⟩,B⟩
 ·rw[Array.toArray_toList] at hl
  simp[results,Tryz.results4,h2,h3,hl,hl2,asAddr,Sem.run_bind,Sem.run_pure]
 ·exact hd
theorem znv(s:ByteArray)(w:World)(henv:TEnv w)(hw:SG w)(R:List Tok)(E:Int)(P:Nat)(hL:zaC s.data.toList=(R,E,P))(hE:E≠0)(hs:s.size≤maxLen) :
  Calls Tryz.prog 4 #[.string s] w fun e w'=>(∃v,e=.returned (.tuple #[v,.agg #[.int .i64 E,.int .i64 (P:Nat)]])∧QyIn w' (fun _=>True) v qyZ)∧Below w.heap.size w w':=by
 have X0:Aside (Blk ((w.alloc (.cells q0D 34)).alloc (.cells #[.int .i64 0,.int .i64 0] 37)) w.heap.size q0D 34):=(zac w _ _).on (al _ _)
 have Y0:Aside (Blk ((w.alloc (.cells q0D 34)).alloc (.cells #[.int .i64 0,.int .i64 0] 37)) (w.heap.size+1) #[.int .i64 0,.int .i64 0] 37):=by
  have:=zac (w.alloc (.cells q0D 34)) #[.int .i64 0,.int .i64 0] 37
  rwa [show (w.alloc (.cells q0D 34)).heap.size=w.heap.size+1 by simp] at this
 have b0:Below w.heap.size w ((w.alloc (.cells q0D 34)).alloc (.cells #[.int .i64 0,.int .i64 0] 37)):=(al w _).alloc (by simp) _
 have cN:=zgo s _ (henv.on b0) (hw.on b0) R E P hL hE hs
 have hb0:(E == 0)=false:=by simpa using hE
 clear henv hw hL hE hs
 go_enter Tryz.func4,Tryz.ntmps4
 go_wp2_with fail
 refine cN.mono ?_
 rintro e w1 ⟨rfl,b1⟩
 have X1:Blk w1 w.heap.size q0D 34:=X0.out.on b1
 have Y1:Blk w1 (w.heap.size+1) #[.int .i64 0,.int .i64 0] 37:=Y0.out.on b1
 have B1:Below w.heap.size w w1:=b0.trans (b1.mono b0.size)
 have hz:w.heap.size+2≤w1.heap.size:=by have:=Y1.lt;omega
 clear cN b1 X0 Y0 b0
 have c0:∀i,w1.cell? ⟨w.heap.size,i,none⟩=q0D[i]?:=X1.cell
 have f0:∀i,w1.frozen? ⟨w.heap.size,i,none⟩=false:=X1.frozen
 have c1:∀i,w1.cell? ⟨w.heap.size+1,i,none⟩=(#[.int .i64 0,.int .i64 0]:Array Value)[i]?:=Y1.cell
 have f1:∀i,w1.frozen? ⟨w.heap.size+1,i,none⟩=false:=Y1.frozen
 have l0:w.heap.size<w1.heap.size:=by omega
 have l1:w.heap.size+1<w1.heap.size:=by omega
 go_wp2
 go_region
 all_goals
  go_wp2
  rw[set14]
  have X2:Blk (w1.setCells w.heap.size 0 q0D.toList) w.heap.size q0D 34:=by
   have:=zdT q0D.toList 0 w1 _ X1
   rwa [show putD q0D 0 q0D.toList=q0D from ztL _ _ _ _ _ _ _ _ _ _ _ _ _ _] at this
  have Y2:Blk (w1.setCells w.heap.size 0 q0D.toList) (w.heap.size+1) #[.int .i64 0,.int .i64 0] 37:=Y1.keep (zbw _ _ _ _ (by omega))
  have B2:Below w.heap.size w (w1.setCells w.heap.size 0 q0D.toList):=zbh (Nat.le_refl _) _ _ _ B1
  clear X1 Y1 B1 c0 f0 c1 f1
  change bodyPost _ _ _ _ _ ((((w1.setCells w.heap.size 0 q0D.toList).setCell _ _).setCell _ _).alloc _).drew
  generalize w1.setCells w.heap.size 0 q0D.toList=W2 at X2 Y2 B2 ⊢
  have X3:=((X2.far (z:=w.heap.size+1) (by omega) 0 (.int .i64 E)).far (z:=w.heap.size+1) (by omega) 1 (.int .i64 (P:Nat)))
  have Y3:=(Y2.set 0 (.int .i64 E)).set 1 (.int .i64 (P:Nat))
  have B3:=(B2.setCell (p:=⟨w.heap.size+1,0,none⟩) (by simp) (.int .i64 E)).setCell (p:=⟨w.heap.size+1,1,none⟩) (by simp) (.int .i64 (P:Nat))
  exact zck _ w _ q0D E P qyZ rfl rfl rfl rfl (znd _ _) (X3.on (Below.drew (al _ _))) (Y3.on (Below.drew (al _ _))) (Below.drew (B3.alloc B3.size _))
theorem st14{V:World}{b:Nat}{CS QC:Array Value}(X:Blk V b CS 34)(hcs:CS.size=14)(hq:QC.size=14)(h1:QC.all (·.oneCell')=true)(W9:World)(h9:V.setCells b 0 QC.toList=W9){ops:Array Oper}{rest:List Oper}{op:Oper}{a:Act}{Q:Exit→Act→World→Prop}(hgd:op.guard=none)(p y:Operand)(ho:op.op=.store 34 p y)(hx:a.eval p=.pointer (some ⟨b,0,none⟩))(hy:a.eval y=.agg QC)(h:wpList Tryz.prog ops Q rest (a.put op.dst undef) W9):wpList Tryz.prog ops Q (op::rest) a V:=by
 subst h9
 exact wpList_store_mid hgd 34 p y ho b 0 QC hx hy (zuY X 0 QC.size (by omega)) (by rw[zeG,hq]) h1 h
theorem AgsIs.keepL{w w':World}{lo:Nat→Prop}{p:Option Addr}{l:List Ag}(h:AgsIs w lo p l)(hz:w.heap.size≤w'.heap.size)(hk:∀b o:Nat,lo b→b<w.heap.size→w'.cell? ⟨b,o,none⟩=w.cell? ⟨b,o,none⟩):AgsIs w' lo p l:=by
 obtain⟨h1,h2⟩:=h
 refine⟨h1,?_⟩
 rcases h2 with h2|⟨b,off,e,hl,hlo,h3⟩
 ·exact .inl h2
 ·refine .inr ⟨b,off,e,by omega,hlo,fun j hj=>?_⟩
  obtain⟨ap,ac,c0,c1,c2,c3,c4,c5,c6,c7,c8,hx⟩:=h3 j hj
  have k:∀o,w'.cell? ⟨b,o,none⟩=w.cell? ⟨b,o,none⟩:=fun o=>hk b o hlo hl
  exact⟨ap,ac,by rw[k];exact c0,by rw[k];exact c1,by rw[k];exact c2,by rw[k];exact c3,by rw[k];exact c4,by rw[k];exact c5,by rw[k];exact c6,by rw[k];exact c7,by rw[k];exact c8,ExIn.keep hz hk _ _ hx⟩
theorem AgsIs.lowT{w:World}{lo:Nat→Prop}{p:Option Addr}{l:List Ag}(h:AgsIs w lo p l):AgsIs w (fun _=>True) p l:=by
 obtain⟨h1,h2⟩:=h
 refine⟨h1,?_⟩
 rcases h2 with h2|⟨b,off,e,hl,hlo,h3⟩
 ·exact .inl h2
 ·refine .inr ⟨b,off,e,hl,trivial,fun j hj=>?_⟩
  obtain⟨ap,ac,c0,c1,c2,c3,c4,c5,c6,c7,c8,hx⟩:=h3 j hj
  exact⟨ap,ac,c0,c1,c2,c3,c4,c5,c6,c7,c8,ExIn.low (fun _ _ _=>trivial) _ _ hx⟩
theorem zat.lowT{w:World}{lo:Nat→Prop}{v:Value}{l:List Ex}(h:zat w lo v l):zat w (fun _=>True) v l:=by
 obtain⟨p,c,e,hc,h⟩:=h
 refine⟨p,c,e,hc,?_⟩
 rcases h with h|⟨b,off,e2,hb,hlo,hE⟩
 ·exact .inl h
 ·refine .inr ⟨b,off,e2,hb,trivial,zbR _ _ _ _ _ fun j hj=>?_⟩
  obtain⟨v0,v1,v2,v3,v4,v5,v6,c0,c1,c2,c3,c4,c5,c6,hx⟩:=zbL _ _ _ _ _ hE j hj
  exact⟨v0,v1,v2,v3,v4,v5,v6,c0,c1,c2,c3,c4,c5,c6,ExIn.low (fun _ _ _=>trivial) _ _ hx⟩
theorem StsA.apart{w w':World}{b:Nat}{v:Value}{ts:List ByteArray}(h:StsA w v ts)(hn:∀s∈ts,nameT s.data.toList=true)(X:Blk w b q0D 34)(Y:Blk w (b+1) #[.int .i64 0,.int .i64 0] 37)(hz:w.heap.size≤w'.heap.size)(hk:∀c,c≠b→c≠b+1→c<w.heap.size→w'.heap[c]?=w.heap[c]?):StsA w' v ts:=by
 obtain⟨p,c,e,h1,h2,h3⟩:=h
 refine⟨p,c,e,h1,h2,fun a ha=>?_⟩
 rcases h3 a ha with h0|⟨g,off,e2,h5,h6⟩
 ·exact .inl h0
 ·by_cases hl:ts.length=0
  ·exact .inl hl
  have h7:=h6 0 (by omega)
  have hne:ts[0].data.toList≠[]:=fun e=>by
   have:=hn ts[0] (List.getElem_mem _)
   rw[e] at this
   exact absurd this (by decide)
  have g1:g≠b:=fun e=>by
   subst e
   rw[X.cell] at h7
   have key:∀(i:Nat) (s:ByteArray),q0D[i]?=some (.string s)→s.data.toList=[]:=fun i s hs=>by
    have hi:i<14:=by
     have:=(Array.getElem?_eq_some_iff.1 hs).1
     exact this
    have hi':i=0∨i=1∨i=2∨i=3∨i=4∨i=5∨i=6∨i=7∨i=8∨i=9∨i=10∨i=11∨i=12∨i=13:=by omega
    rcases hi' with rfl|rfl|rfl|rfl|rfl|rfl|rfl|rfl|rfl|rfl|rfl|rfl|rfl|rfl
    all_goals
     simp at hs
     try (rw[←hs])
   exact hne (key _ _ h7)
  have g2:g≠b+1:=fun e=>by
   subst e
   rw[Y.cell] at h7
   have hi:off+0<2:=(Array.getElem?_eq_some_iff.1 h7).1
   have hi':off=0∨off=1:=by omega
   rcases hi' with rfl|rfl<;>simp at h7
  refine .inr ⟨g,off,e2,by omega,fun j hj=>?_⟩
  have:=hk g g1 g2 h5
  simp only[World.cell?,this]
  exact h6 j hj
theorem QyBe.boxed{w w':World}{b B:Nat}{q:Qy}{wp:Option Addr}{wc:Nat}{cp:Option Addr}{cc:Nat}{np:Option Addr}{nc:Nat}{gp:Option Addr}{gc:Nat}{ap:Option Addr}{ac:Nat}(h:QyBe w (B≤·) q wp wc cp cc np nc gp gc ap ac)(hB:b+1<B)(hq:OkQ q)(X:Blk w b q0D 34)(Y:Blk w (b+1) #[.int .i64 0,.int .i64 0] 37)(hz:w.heap.size≤w'.heap.size)(hk:∀c,c≠b→c≠b+1→c<w.heap.size→w'.heap[c]?=w.heap[c]?):QyBe w' (fun _=>True) q wp wc cp cc np nc gp gc ap ac:=by
 have hc:∀c o:Nat,B≤c→c<w.heap.size→w'.cell? ⟨c,o,none⟩=w.cell? ⟨c,o,none⟩:=fun c o h1 h2=>by
  have:=hk c (by omega) (by omega) h2
  simp only[World.cell?,this]
 have hn:(∀s∈q.names,nameT s.data.toList=true)∧(∀s∈q.group,nameT s.data.toList=true):=by
  rcases hq.2.2 with ⟨_,h2,_,_,c,_,_,h7,h8⟩|⟨_,h2,_,_,h5,_⟩
  ·rw[h7,h2]
   refine⟨fun s hs=>?_,fun s hs=>absurd hs (by simp)⟩
   obtain⟨p,hp,rfl⟩:=List.mem_map.1 hs
   exact (h8 p hp).2
  ·rw[h2]
   exact⟨fun s hs=>absurd hs (by simp),h5⟩
 exact⟨ExIn.low (fun _ _ _=>trivial) _ _ (ExIn.keep hz hc _ _ h.whr),(h.cols.keep hz hc).lowT,h.clen,h.names.apart hn.1 X Y hz hk,h.group.apart hn.2 X Y hz hk,(h.aggs.keepL hz hc).lowT⟩
end
end Go.Proofs.YtopghagjmdbglaaGreatDoor
