/-
  TreeWk, TreeTg, KdR0, Row3, Row4.
-/
import Derived.Test.YtopghagjmdbglaaGreatDoorGyAf
import Derived.Test.YtopghagjmdbglaaGreatDoorGyAa
import Derived.Laws.Rows
import Derived.RowKitTokens
import Derived.Lib.OthersKept
import Derived.Laws.RangeAny
import Derived.Deep.DeepCutAuto
import Derived.Deep.LoopGhost
import Derived.Test.YtopghagjmdbglaaGreatDoorGyAe
namespace Go.Proofs.YtopghagjmdbglaaGreatDoor
open Go.RowKit
set_option linter.unusedVariables false
set_option linter.unusedSimpArgs false
set_option maxHeartbeats 8000000
set_option maxRecDepth 20000
section
open Go.BigFrame
mutual
def Ex.pre(d:Nat):Ex→List (Ex×Nat)
 | .node op nm vt vn vs pos l=>(.node op nm vt vn vs pos l,d)::Ex.pres (d+1) l
def Ex.pres(d:Nat):List Ex→List (Ex×Nat)
 | []=>[]
 | x::xs=>x.pre d++Ex.pres d xs
end
theorem zrB(d:Nat)(x:Ex):x.pre d=(x,d)::Ex.pres (d+1) x.args:=by cases x;rw[Ex.pre,Ex.args]
def flatR:List (List Ex)→List (Ex×Nat)
 | []=>[]
 | l::rest=>Ex.pres (rest.length+1) l++flatR rest
def flatB(st:List (List Ex)):List (Ex×Nat):=flatR st.reverse
theorem zaT(st:List (List Ex))(l:List Ex):flatB (st++[l])=Ex.pres (st.length+1) l++flatB st:=by
 rw[flatB,List.reverse_append]
 simp[flatR,flatB]
theorem zdj(st:List (List Ex)):flatB (st++[[]])=flatB st:=by rw[zaT,Ex.pres,List.nil_append]
theorem zcb(st:List (List Ex))(x:Ex)(xs:List Ex):flatB (st++[x::xs])=(x,st.length+1)::flatB (st++[xs]++[x.args]):=by
 rw[zaT,zaT,zaT,Ex.pres,zrB,List.length_append,List.length_singleton,List.cons_append,List.cons_append,List.append_assoc]
variable {σ : Type}
def foldP(F:σ→Ex→Nat→σ×Bool):σ→List (Ex×Nat)→σ×Bool
 | s,[]=>(s,true)
 | s,q::r=>if (F s q.1 q.2).2=true then foldP F (F s q.1 q.2).1 r else ((F s q.1 q.2).1,false)
def costB(st:List (List Ex)):Nat:=st.length+2*(flatB st).length
theorem zmF(st:List (List Ex)):costB (st++[[]])=costB st+1:=by
 rw[costB,costB,zdj,List.length_append,List.length_singleton];omega
theorem zlj(st:List (List Ex))(x:Ex)(xs:List Ex):costB (st++[x::xs])=costB (st++[xs]++[x.args])+1:=by
 rw[costB,costB,zcb];simp only[List.length_append,List.length_cons,List.length_nil];omega
def StkIn(w:World)(lo:Nat→Prop)(vs:List Value)(st:List (List Ex)):Prop:=vs.length=st.length∧∀j (h:j<st.length) (h2:j<vs.length),zat w lo vs[j] st[j]
theorem ExsIn.keep'{w w':World}{lo:Nat→Prop}(hz:w.heap.size≤w'.heap.size)(hk:∀b o:Nat,lo b→b<w.heap.size→w'.cell? ⟨b,o,none⟩=w.cell? ⟨b,o,none⟩){b:Nat}(hb:b<w.heap.size)(hlo:lo b){off:Nat}{xs:List Ex}(h:ExsIn w lo b off xs):ExsIn w' lo b off xs:=by
 refine zbR _ _ _ _ _ fun j hj=>?_
 obtain⟨v0,v1,v2,v3,v4,v5,v6,e0,e1,e2,e3,e4,e5,e6,hx⟩:=zbL w lo b xs off h j hj
 have key:∀o:Nat,w'.cell? ⟨b,o,none⟩=w.cell? ⟨b,o,none⟩:=fun o=>hk b o hlo hb
 exact⟨v0,v1,v2,v3,v4,v5,v6,by rw[key];exact e0,by rw[key];exact e1,by rw[key];exact e2,by rw[key];exact e3,by rw[key];exact e4,by rw[key];exact e5,by rw[key];exact e6,hx.keep hz hk⟩
theorem zat.keep{w w':World}{lo:Nat→Prop}(hz:w.heap.size≤w'.heap.size)(hk:∀b o:Nat,lo b→b<w.heap.size→w'.cell? ⟨b,o,none⟩=w.cell? ⟨b,o,none⟩){v:Value}{xs:List Ex}(h:zat w lo v xs):zat w' lo v xs:=by
 obtain⟨p,c,e,h1,h2⟩:=h
 refine⟨p,c,e,h1,?_⟩
 rcases h2 with h2|⟨b,off,e2,hb,hlo,h3⟩
 ·exact .inl h2
 ·exact .inr ⟨b,off,e2,by omega,hlo,h3.keep' hz hk hb hlo⟩
theorem StkIn.keep{w w':World}{lo:Nat→Prop}(hz:w.heap.size≤w'.heap.size)(hk:∀b o:Nat,lo b→b<w.heap.size→w'.cell? ⟨b,o,none⟩=w.cell? ⟨b,o,none⟩){vs:List Value}{st:List (List Ex)}(h:StkIn w lo vs st):StkIn w' lo vs st:=⟨h.1,fun j h1 h2=>(h.2 j h1 h2).keep hz hk⟩
theorem StkIn.front{w:World}{lo:Nat→Prop}{vs:List Value}{v:Value}{st:List (List Ex)}{l:List Ex}(h:StkIn w lo (vs++[v]) (st++[l])):StkIn w lo vs st∧zat w lo v l:=by
 have hl:vs.length=st.length:=by have:=h.1;simpa using this
 refine⟨⟨hl,fun j h1 h2=>?_⟩,?_⟩
 ·have:=h.2 j (by rw[List.length_append];omega) (by rw[List.length_append];omega)
  rwa [List.getElem_append_left h2,List.getElem_append_left h1] at this
 ·have:=h.2 st.length (by simp) (by simp;omega)
  rw[List.getElem_append_right (by omega),List.getElem_append_right (Nat.le_refl _)] at this
  simpa [hl] using this
theorem StkIn.snoc{w:World}{lo:Nat→Prop}{vs:List Value}{v:Value}{st:List (List Ex)}{l:List Ex}(h:StkIn w lo vs st)(hv:zat w lo v l):StkIn w lo (vs++[v]) (st++[l]):=by
 refine⟨by simp[h.1],fun j h1 h2=>?_⟩
 by_cases hj:j<st.length
 ·rw[List.getElem_append_left (by rw[h.1];exact hj),List.getElem_append_left hj];exact h.2 j hj (by rw[h.1];exact hj)
 ·have:j=st.length:=by rw[List.length_append,List.length_singleton] at h1;omega
  subst this
  rw[List.getElem_append_right (by rw[h.1];exact Nat.le_refl _),List.getElem_append_right (Nat.le_refl _)]
  simpa [h.1] using hv
theorem zat.tail{w:World}{lo:Nat→Prop}{p p':Option Addr}{n c c':Nat}{x:Ex}{xs:List Ex}(h:zat w lo (.slice p n c) (x::xs))(hp:p'=if c=1 then p else p.map (·.add (1*7)))(hc:c'=c-1):zat w lo (.slice p' xs.length c') xs:=by
 obtain⟨q,d,e,⟨h1,h2⟩,h3⟩:=h
 injection e with e1 e2 e3
 subst e1 e3
 simp only[List.length_cons] at h1 h2
 refine⟨p',c',rfl,⟨by omega,by omega⟩,?_⟩
 rcases Nat.eq_zero_or_pos xs.length with h0|h0
 ·exact .inl h0
 ·rcases h3 with h3|⟨b,off,rfl,hb,hlo,h3⟩
  ·simp at h3
  ·rw[ExsIn] at h3
   refine .inr ⟨b,off+7,?_,hb,hlo,h3.2⟩
   rw[hp,if_neg (by omega)];rfl
theorem ExIn.args{w:World}{lo:Nat→Prop}{a0 a1 a2 a3 a4 a5 a6:Value}{x:Ex}(h:ExIn w lo (.agg #[a0,a1,a2,a3,a4,a5,a6]) x):zat w lo a5 x.args:=by
 cases x with
 | node op nm vt vn vs pos l =>
  rw[ExIn] at h
  obtain⟨p,c,e,h1,_,_,_,h5⟩:=h
  injection e with e
  simp only[Array.mk.injEq,List.cons.injEq,and_true] at e
  obtain⟨rfl,rfl,rfl,rfl,rfl,rfl,rfl⟩:=e
  exact⟨p,c,rfl,h1,h5⟩
theorem ztf{W:World}{B:Nat}{e:TypeId}{g cap:Nat}{vs:List Value}{v:Value}(h:W.ownsRow B e 1 (.slice (some ⟨g,0,none⟩) (vs++[v]).length cap) (vs++[v]).length (vs++[v])):W.ownsRow B e 1 (.slice (some ⟨g,0,none⟩) vs.length cap) vs.length vs:=by
 refine⟨by omega,.inr ?_⟩
 rcases h.2 with ⟨e1,_⟩|⟨g',cap',cur,e1,hb,hg,hn,hm,hs,ht⟩
 ·injection e1 with e1;simp at e1
 ·injection e1 with e1 e2 e3
  injection e1 with e1
  injection e1 with e1
  subst e1 e3
  rw[List.length_append,List.length_singleton] at hn
  refine⟨_,_,cur,rfl,hb,hg,by omega,hm,hs,?_⟩
  have h3:List.take (vs.length*1) cur.toList=List.take (vs.length*1) (vs++[v]):=by
   rw[←ht,List.take_take,List.length_append,List.length_singleton]
   congr 1
   omega
  rw[h3]
  simp
theorem zsR{W:World}{B:Nat}{e:TypeId}{g cap:Nat}{vs:List Value}{v:Value}(h:W.ownsRow B e 1 (.slice (some ⟨g,0,none⟩) (vs++[v]).length cap) (vs++[v]).length (vs++[v])):W.cell? ⟨g,vs.length,none⟩=some v∧W.frozen? ⟨g,vs.length,none⟩=false∧g<W.heap.size∧B≤g∧vs.length+1≤cap:=by
 rcases h.2 with ⟨e1,_⟩|⟨g',cap',cur,e1,hb,hg,hn,hm,hs,ht⟩
 ·injection e1 with e1;simp at e1
 ·injection e1 with e1 e2 e3
  injection e1 with e1
  injection e1 with e1
  subst e1 e3
  rw[List.length_append,List.length_singleton] at hn
  refine⟨?_,by simp[World.frozen?,hg],(Array.getElem?_eq_some_iff.1 hg).1,hb,hn⟩
  have h1:=h.cells (g:=g) rfl vs.length v (by simp)
  rw[Go.WideShapes.add_plain] at h1
  simpa using h1
theorem zun{W:World}{B:Nat}{e:TypeId}{g cap:Nat}{vs:List Value}{v u:Value}(h:W.ownsRow B e 1 (.slice (some ⟨g,0,none⟩) (vs++[v]).length cap) (vs++[v]).length (vs++[v])):(W.setCell ⟨g,vs.length,none⟩ u).ownsRow B e 1 (.slice (some ⟨g,0,none⟩) (vs++[u]).length cap) (vs++[u]).length (vs++[u]):=by
 refine⟨by omega,.inr ?_⟩
 rcases h.2 with ⟨e1,_⟩|⟨g',cap',cur,e1,hb,hg,hn,hm,hs,ht⟩
 ·injection e1 with e1;simp at e1
 ·injection e1 with e1 e2 e3
  injection e1 with e1
  injection e1 with e1
  subst e1 e3
  rw[List.length_append,List.length_singleton] at hn
  refine⟨g,cap,cur.setIfInBounds vs.length u,rfl,hb,?_,by rw[List.length_append,List.length_singleton];omega,hm,by simpa using hs,?_⟩
  ·rw[setCell_eq_setRow W g vs.length cur e (0,0) u hg]
   exact setRow_heap W g cur _ e _ hg
  ·rw[List.length_append,List.length_singleton] at ht ⊢
   rw[Array.toList_setIfInBounds]
   simp only[Nat.mul_one] at ht ⊢
   rw[List.take_set,ht]
   simp
theorem zsx:(Tryz.prog.info? 28).map (fun i=>(i.zero,i.size,i.bytes))=some (some (.slice none 0 0),1,24):=by kernel_rfl
def Wlo(p n:Nat)(b:Nat):Prop:=b≠p∧b<n
theorem zlS(F:σ→Ex→Nat→σ×Bool)(f:FuncId)(hent:∀(args:Array Value) (W:World),Sem.run Tryz.prog (callFunc f args) W=.ok (.enter f args) W)(p:Nat)(St:World→σ→Nat→Prop)(End:World→σ→Prop)(lo:Nat→Prop)(w:World)(v:Value)(x:Ex)(s:σ)
  (hp:p<w.heap.size)(hx:ExIn w lo v x)(hlo:∀b,lo b→b<w.heap.size→b≠p)(hsz:(x.pre 1).length≤1048576)
  (hso:∀(W:World) (v:Value) (x:Ex) (d:Nat) (s:σ) (m:Nat),w.heap.size≤W.heap.size→ExIn W (Wlo p (w.heap.size+2)) v x→d≤1048577→St W s (m+1)→Calls Tryz.prog f #[v,.int .i64 (d:Int),.pointer (some ⟨p,0,none⟩)] W fun e w'=>e=.returned (.bool (F s x d).2)∧((F s x d).2=true→St w' (F s x d).1 m)∧((F s x d).2=false→End w' (F s x d).1)∧But p W w')
  (hst:∀W W' s m,Below w.heap.size W W'→W.heap.size≤W'.heap.size→St W s m→St W' s m)(h0:St w s (x.pre 1).length) :
  Calls Tryz.prog 34 #[v,.func (.func f) #[] #[.pointer (some ⟨p,0,none⟩)]] w fun e w'=>e=.returned (.bool (foldP F s (x.pre 1)).2)∧((foldP F s (x.pre 1)).2=true→St w' (foldP F s (x.pre 1)).1 0)∧((foldP F s (x.pre 1)).2=false→End w' (foldP F s (x.pre 1)).1)∧But p w w':=by
 obtain⟨o1,n1,t1,k1,s1,p1,m1,c1,a1,rfl⟩:=hx.agg
 obtain⟨i0,hi,hz0,hz1,hzz⟩:=info_parts zsx
 have HX:Aside (ExIn w (Wlo p (w.heap.size+2)) (.agg #[.string o1,.string n1,.int .i64 t1,.int .i64 k1,.string s1,.slice p1 m1 c1,.int .i64 a1]) x):=ExIn.low (fun b h1 h2=>⟨hlo b h2 h1,by omega⟩) _ _ hx
 have HO:Aside (∀(W:World) (v:Value) (x:Ex) (d:Nat) (s:σ) (m:Nat),w.heap.size≤W.heap.size→ExIn W (Wlo p (w.heap.size+2)) v x→d≤1048577→St W s (m+1)→Calls Tryz.prog f #[v,.int .i64 (d:Int),.pointer (some ⟨p,0,none⟩)] W fun e w'=>e=.returned (.bool (F s x d).2)∧((F s x d).2=true→St w' (F s x d).1 m)∧((F s x d).2=false→End w' (F s x d).1)∧But p W w'):=hso
 have HT:Aside (∀W W' s m,Below w.heap.size W W'→W.heap.size≤W'.heap.size→St W s m→St W' s m):=hst
 have HS:Aside (St w s (x.pre 1).length):=h0
 obtain⟨T,hT⟩:∃T,foldP F s (x.pre 1)=T:=⟨_,rfl⟩
 have HF:Hid (foldP F s (x.pre 1)=T):=hT
 rw[hT]
 have HZ:Hid ((x.pre 1).length≤1048576):=hsz
 clear hx hso hst h0 hT hlo hsz
 have b1:Below w.heap.size w _:=((al w (.cells #[.string o1,.string n1,.int .i64 t1,.int .i64 k1,.string s1,.slice p1 m1 c1,.int .i64 a1] 30)).trans ((al _ (.cells #[.string o1,.string n1,.int .i64 t1,.int .i64 k1,.string s1,.slice p1 m1 c1,.int .i64 a1] 30)).mono (by simp))).trans ((al _ (.cells #[.slice (some ⟨w.heap.size+1,0,none⟩) 1 1] 28)).mono (by simp;omega))
 go_enter Tryz.func34,Tryz.ntmps34
 go_wp2
 go_loopg [5,6,7] (2*(x.pre 1).length+2) (fun gg s5 _ _ wr=>∃(st:List (List Ex)) (vs:List Value) (s':σ) (q:Option Addr) (c:Nat),s5=.slice q vs.length c∧Hid (costB st<gg∧st.length+(flatB st).length≤1048577)∧Aside (wr.ownsRow (w.heap.size+2) 28 1 (.slice q vs.length c) vs.length vs)∧Aside (StkIn wr (Wlo p (w.heap.size+2)) vs st)∧Aside (St wr s' (flatB st).length)∧Aside (But p w wr)∧Hid (foldP F s' (flatB st)=T))
 case atStart =>
  refine⟨[[x]],[.slice (some ⟨w.heap.size+1,0,none⟩) 1 1],s,some ⟨w.heap.size+2,0,none⟩,1,rfl,?_,?_,?_,?_,?_,?_⟩
  ·show _∧_
   have h1:=HZ.out
   have h2:flatB [[x]]=x.pre 1:=by rw[show ([[x]]:List (List Ex))=[]++[[x]] from rfl,zaT,Ex.pres,Ex.pres,List.append_nil];simp[flatB,flatR]
   rw[costB,h2]
   simp only[List.length_singleton]
   omega
  ·refine⟨rfl,.inr ⟨w.heap.size+2,1,#[.slice (some ⟨w.heap.size+1,0,none⟩) 1 1],rfl,Nat.le_refl _,?_,Nat.le_refl _,by decide,rfl,rfl⟩⟩
   rw[show w.heap.size+2=((w.alloc (.cells #[.string o1,.string n1,.int .i64 t1,.int .i64 k1,.string s1,.slice p1 m1 c1,.int .i64 a1] 30)).alloc (.cells #[.string o1,.string n1,.int .i64 t1,.int .i64 k1,.string s1,.slice p1 m1 c1,.int .i64 a1] 30)).heap.size by simp]
   exact heap_alloc_new _ _
  ·refine⟨rfl,fun j h1 h2=>?_⟩
   obtain rfl:j=0:=by simp at h1;exact h1
   refine⟨some ⟨w.heap.size+1,0,none⟩,1,rfl,⟨by simp[maxLen],by simp⟩,.inr ⟨w.heap.size+1,0,rfl,by simp,⟨by omega,by omega⟩,?_⟩⟩
   simp only[List.getElem_cons_zero]
   rw[ExsIn,ExsIn]
   have hc:∀i,((((w.alloc (.cells #[.string o1,.string n1,.int .i64 t1,.int .i64 k1,.string s1,.slice p1 m1 c1,.int .i64 a1] 30)).alloc (.cells #[.string o1,.string n1,.int .i64 t1,.int .i64 k1,.string s1,.slice p1 m1 c1,.int .i64 a1] 30)).alloc (.cells #[.slice (some ⟨w.heap.size+1,0,none⟩) 1 1] 28)).cell? ⟨w.heap.size+1,i,none⟩)=(#[.string o1,.string n1,.int .i64 t1,.int .i64 k1,.string s1,.slice p1 m1 c1,.int .i64 a1]:Array Value)[i]?:=fun i=>by
    rw[World.cell?_alloc_past _ _ _ (by simp),World.cell?_alloc_at _ _ _ _ (by simp)]
   refine⟨⟨_,_,_,_,_,_,_,?_,?_,?_,?_,?_,?_,?_,HX.out.on b1⟩,trivial⟩
   all_goals (rw[hc];rfl)
  ·have h2:flatB [[x]]=x.pre 1:=by rw[show ([[x]]:List (List Ex))=[]++[[x]] from rfl,zaT,Ex.pres,Ex.pres,List.append_nil];simp[flatB,flatR]
   rw[h2]
   exact HT.out _ _ _ _ b1 b1.size HS.out
  ·exact But.of_below' b1 (by omega)
  ·have h2:flatB [[x]]=x.pre 1:=by rw[show ([[x]]:List (List Ex))=[]++[[x]] from rfl,zaT,Ex.pres,Ex.pres,List.append_nil];simp[flatB,flatR]
   rw[h2]
   exact HF
 case round =>
  obtain⟨st,vs,s',q,c,rfl,HB,OW,SK,SS,BW,HF2⟩:=hrel
  clear HS HX HF b1
  have hz:=BW.out.size
  have hlen:=SK.out.1
  rcases List.eq_nil_or_concat st with rfl|⟨st',l,rfl⟩
  ·obtain rfl:vs=[]:=List.eq_nil_of_length_eq_zero hlen
   have HT2:Hid ((s',true)=T):=HF2.out
   go_wp2
   go_ret
   have hT:=HT2.out
   subst hT
   exact⟨rfl,fun _=>SS.out,fun h=>absurd h (by simp),BW.out⟩
  ·obtain⟨vs',v,rfl⟩:∃vs' v,vs=vs'++[v]:=by
    rcases List.eq_nil_or_concat vs with rfl|⟨vs',v,rfl⟩
    ·simp at hlen
    ·exact⟨vs',v,by simp⟩
   simp only[List.concat_eq_append] at *
   obtain⟨SK1,AI⟩:=SK.out.front
   obtain⟨g,rfl⟩:∃g,q=some ⟨g,0,none⟩:=by
    rcases OW.out.2 with ⟨e1,_⟩|⟨g,_,_,e1,_⟩
    ·injection e1 with e1 e2;simp at e2
    ·injection e1 with e1;exact⟨g,e1⟩
   obtain⟨ct,cf,gl,gB,gc⟩:=zsR OW.out
   have hAI:=AI
   obtain⟨pa,ca,rfl,⟨hm1,hm2⟩,hA⟩:=hAI
   have hN:vs'.length≤1048576:=by
    have h1:=HB.out.2
    rw[List.length_append,List.length_singleton] at h1
    simp only[List.length_append,List.length_singleton] at hlen
    omega
   have HL:Hid (vs'.length=st'.length):=by simp only[List.length_append,List.length_singleton] at hlen;exact (by omega:vs'.length=st'.length)
   have hNz:(vs'.length:Int)≤1048576:=by omega
   have hN0:(0:Int)≤(vs'.length:Int):=by omega
   have hlenz:(((vs'++[Value.slice pa l.length ca]).length:Nat):Int)=(vs'.length:Int)+1:=by simp
   clear hlen
   cases l with
   | nil =>
    have ow:=ztf OW.out
    have HB2:Hid (costB st'<gk-1∧st'.length+(flatB st').length≤1048577∧0<gk):=by
     show _∧_
     have h1:=HB.out
     rw[zmF,zdj,List.length_append,List.length_singleton] at h1
     omega
    have HF3:Hid (foldP F s' (flatB st')=T):=by show _=_;rw[←HF2.out,zdj]
    have SS2:Aside (St wr s' (flatB st').length):=by show St _ _ _;rw[←zdj];exact SS.out
    clear OW SK AI HB HF2 SS hA
    simp only[List.length_nil] at ct cf hm1 hm2
    go_wp2
    go_roundg (gk-1)
    case measure=>have:=HB2.out;omega
    case rel=>exact⟨st',vs',s',_,c,rfl,(show Hid _ from ⟨HB2.out.1,HB2.out.2.1⟩),(show Aside _ from ow),(show Aside _ from SK1),SS2,BW,HF3⟩
   | cons y ys =>
    rcases hA with hA|⟨b,off,rfl,hbl,hblo,hA⟩
    ·simp at hA
    rw[ExsIn] at hA
    obtain⟨⟨v0,v1,v2,v3,v4,v5,v6,e0,e1,e2,e3,e4,e5,e6,hy⟩,_⟩:=hA
    obtain⟨u0,u1,u2,u3,u4,u5,u6,u7,u8,huu⟩:=hy.agg
    injection huu with huu
    simp only[Array.mk.injEq,List.cons.injEq,and_true] at huu
    obtain⟨rfl,rfl,rfl,rfl,rfl,rfl,rfl⟩:=huu
    have hbg:b≠g:=by have:=hblo.2;omega
    have hAr:=hy.args
    have HB2:Hid (costB (st'++[ys]++[y.args])<gk-1∧(st'++[ys]++[y.args]).length+(flatB (st'++[ys]++[y.args])).length≤1048577∧0<gk):=by
     show _∧_
     have h1:=HB.out
     rw[zlj,zcb] at h1
     simp only[List.length_append,List.length_cons,List.length_nil] at h1 ⊢
     omega
    have HF3:Hid (foldP F s' ((y,vs'.length+1)::flatB (st'++[ys]++[y.args]))=T):=by show _=_;rw[←HF2.out,zcb,HL.out]
    have SS2:St wr s' ((flatB (st'++[ys]++[y.args])).length+1):=by have:=SS.out;rw[zcb,List.length_cons] at this;exact this
    have hdz:((vs'.length+1:Nat):Int)=(vs'.length:Int)+1:=by omega
    have OP:=fun u=>zun (u:=u) OW.out
    clear HB HF2 SS SK OW
    by_cases hca:ca=1
    ·subst hca
     have AT:=AI.tail (p':=some ⟨b,off,none⟩) (c':=0) (by simp) (by omega)
     have ow1:=OP (.slice (some ⟨b,off,none⟩) ys.length (0))
     have bw1:Below (w.heap.size+2) wr ((wr.setCell ⟨g,vs'.length,none⟩ (.slice (some ⟨b,off,none⟩) ys.length (0))).alloc (.cells #[.string u0,.string u1,.int .i64 u2,.int .i64 u3,.string u4,.slice u5 u6 u7,.int .i64 u8] 30)):=((Below.refl _ wr).setCell (p:=⟨g,vs'.length,none⟩) gB _).alloc (by simp[World.setCell];omega) _
     have kp:∀bb oo:Nat,Wlo p (w.heap.size+2) bb→bb<wr.heap.size→((wr.setCell ⟨g,vs'.length,none⟩ (.slice (some ⟨b,off,none⟩) ys.length (0))).alloc (.cells #[.string u0,.string u1,.int .i64 u2,.int .i64 u3,.string u4,.slice u5 u6 u7,.int .i64 u8] 30)).cell? ⟨bb,oo,none⟩=wr.cell? ⟨bb,oo,none⟩:=fun bb oo hb _=>bw1.cell (p:=⟨bb,oo,none⟩) hb.2
     have ks:wr.heap.size≤((wr.setCell ⟨g,vs'.length,none⟩ (.slice (some ⟨b,off,none⟩) ys.length (0))).alloc (.cells #[.string u0,.string u1,.int .i64 u2,.int .i64 u3,.string u4,.slice u5 u6 u7,.int .i64 u8] 30)).heap.size:=by simp[World.setCell]
     have SK2:=(SK1.snoc AT).keep ks kp
     have AR2:=hAr.keep ks kp
     have BB1:But p w ((wr.setCell ⟨g,vs'.length,none⟩ (.slice (some ⟨b,off,none⟩) ys.length (0))).alloc (.cells #[.string u0,.string u1,.int .i64 u2,.int .i64 u3,.string u4,.slice u5 u6 u7,.int .i64 u8] 30)):=(BW.out.setNew g vs'.length (by omega) (by omega) _).alloc (by simp[World.setCell];omega) _
     have ow2:=ow1.alloc (.cells #[.string u0,.string u1,.int .i64 u2,.int .i64 u3,.string u4,.slice u5 u6 u7,.int .i64 u8] 30)
     have cS:=HO.out _ _ y (vs'.length+1) s' (flatB (st'++[ys]++[y.args])).length (by simp[World.setCell];omega) (hy.keep ks kp) (by omega) (HT.out _ _ _ _ (bw1.mono (by omega)) ks SS2)
     rw[hdz] at cS
     generalize hFy:F s' y (vs'.length+1)=Fy at cS
     have HFy:Hid (F s' y (vs'.length+1)=Fy):=hFy
     obtain⟨s2,B2⟩:=Fy
     simp only at cS
     clear hFy kp ks SK1 AI AT hAr hy OP SS2 bw1 ow1
     go_wp2_with fail
     refine cS.mono ?_
     rintro e w2 ⟨rfl,hs1,hs2,b2⟩
     have HS1:Hid (B2=true→St w2 s2 (flatB (st'++[ys]++[y.args])).length):=hs1
     have HS2:Hid (B2=false→End w2 s2):=hs2
     clear hs1 hs2 cS
     cases B2
     ·have HT2:Hid ((s2,false)=T):=by
       show _=_
       rw[←HF3.out,foldP,HFy.out];simp
      go_wp2
      go_ret
      have hT:=HT2.out
      subst hT
      exact⟨rfl,fun h=>absurd h (by simp),fun _=>HS2.out (by simp),BB1.trans b2⟩
     ·have HF4:Hid (foldP F s2 (flatB (st'++[ys]++[y.args]))=T):=by
       show _=_
       rw[←HF3.out,foldP,HFy.out];simp
      have hz2:wr.heap.size+1≤w2.heap.size:=by have:=b2.size;simpa [World.setCell] using this
      have g5:w2.cell? ⟨wr.heap.size,5,none⟩=some (.slice u5 u6 u7):=by
       rw[b2.cell _ (by simp[World.setCell]) (by omega),World.cell?_alloc_at _ _ _ _ (by simp[World.setCell])];rfl
      have hlt5:wr.heap.size<w2.heap.size:=by omega
      have kp2:∀bb oo:Nat,Wlo p (w.heap.size+2) bb→bb<((wr.setCell ⟨g,vs'.length,none⟩ (.slice (some ⟨b,off,none⟩) ys.length (0))).alloc (.cells #[.string u0,.string u1,.int .i64 u2,.int .i64 u3,.string u4,.slice u5 u6 u7,.int .i64 u8] 30)).heap.size→w2.cell? ⟨bb,oo,none⟩=_:=fun bb oo hb h2=>b2.cell oo h2 hb.1
      have SK3:=SK2.keep b2.size kp2
      have AR3:=AR2.keep b2.size kp2
      have ow3:=zdS ow2 b2 (by omega)
      rw[List.length_append,List.length_singleton] at ow3
      have BB2:=BB1.trans b2
      clear SK2 AR2 ow2 BB1 b2 kp2 HF3 HFy HS2
      go_wp2_with (at_builtin;refine wpList_append_own _ rfl _ _ 137 rfl (w.heap.size+2) 28 i0 (.slice none 0 0) 1 24 Tryz.underlying137 hi hz0 hz1 hzz rfl (by decide) _ _ _ rfl (ow3.alloc _) ⟨w2.heap.size,0,none⟩ 1 1 [.slice u5 u6 u7] rfl rfl ?c1 ?c2 ?c3 ?c4 ?c5 ?_)
      case c1 =>
       intro i u hu
       rw[Go.WideShapes.add_plain,World.cell?_alloc_at _ _ _ _ (by simp)]
       simpa using hu
      case c2 =>
       intro u hu
       simp at hu
       subst hu;rfl
      case c3=>simp[maxLen];omega
      case c4=>omega
      case c5=>simp;omega
      ·intro v' w3 hown' hgrow _
       have hlo3:∀j,(Value.slice (some ⟨g,0,none⟩) (vs'.length+1) c).ownBlock=some j→w.heap.size+2≤j:=fun j hj=>(ow3.lt j hj).1
       have bg:Below (w.heap.size+2) w2 w3:=((Below.refl _ w2).alloc (by omega) _).grown hgrow (by simp;omega) hlo3
       have zg:w2.heap.size≤w3.heap.size:=by have:=hgrow.size;simp at this;omega
       have SK4:=(SK3.snoc AR3).keep zg (fun bb oo hb _=>bg.cell (p:=⟨bb,oo,none⟩) hb.2)
       have SS4:St w3 s2 (flatB (st'++[ys]++[y.args])).length:=HT.out _ _ _ _ (bg.mono (by omega)) zg (HS1.out (by simp))
       have BB3:But p w w3:=⟨BB2.below.trans (bg.mono (by omega)),by have:=BB2.size;omega,fun j hj hjp=>by rw[bg.block j (by omega)];exact BB2.kept j hj hjp⟩
       obtain⟨q5,c5,rfl⟩:=zaa hown'
       have ow5:w3.ownsRow (w.heap.size+2) 28 1 (.slice q5 (vs'++[Value.slice (some ⟨b,off,none⟩) ys.length 0]++[Value.slice u5 u6 u7]).length c5) (vs'++[Value.slice (some ⟨b,off,none⟩) ys.length 0]++[Value.slice u5 u6 u7]).length (vs'++[Value.slice (some ⟨b,off,none⟩) ys.length 0]++[Value.slice u5 u6 u7]):=by
        have h1:(vs'++[Value.slice (some ⟨b,off,none⟩) ys.length 0]++[Value.slice u5 u6 u7]).length=vs'.length+1+1:=by simp
        rw[h1,List.append_assoc];exact hown'
       clear hown' hgrow SK3 AR3 BB2 ow3 bg
       go_wp2
       go_roundg (gk-1)
       case measure=>have:=HB2.out;omega
       case rel=>exact⟨st'++[ys]++[y.args],_,s2,q5,c5,by simp,(show Hid _ from ⟨HB2.out.1,HB2.out.2.1⟩),(show Aside _ from ow5),(show Aside _ from SK4),(show Aside _ from SS4),(show Aside _ from BB3),HF4⟩
    ·have AT:=AI.tail (p':=some ⟨b,off+7,none⟩) (c':=ca-1) (by rw[if_neg hca];rfl) rfl
     have ow1:=OP (.slice (some ⟨b,off+7,none⟩) ys.length (ca-1))
     have bw1:Below (w.heap.size+2) wr ((wr.setCell ⟨g,vs'.length,none⟩ (.slice (some ⟨b,off+7,none⟩) ys.length (ca-1))).alloc (.cells #[.string u0,.string u1,.int .i64 u2,.int .i64 u3,.string u4,.slice u5 u6 u7,.int .i64 u8] 30)):=((Below.refl _ wr).setCell (p:=⟨g,vs'.length,none⟩) gB _).alloc (by simp[World.setCell];omega) _
     have kp:∀bb oo:Nat,Wlo p (w.heap.size+2) bb→bb<wr.heap.size→((wr.setCell ⟨g,vs'.length,none⟩ (.slice (some ⟨b,off+7,none⟩) ys.length (ca-1))).alloc (.cells #[.string u0,.string u1,.int .i64 u2,.int .i64 u3,.string u4,.slice u5 u6 u7,.int .i64 u8] 30)).cell? ⟨bb,oo,none⟩=wr.cell? ⟨bb,oo,none⟩:=fun bb oo hb _=>bw1.cell (p:=⟨bb,oo,none⟩) hb.2
     have ks:wr.heap.size≤((wr.setCell ⟨g,vs'.length,none⟩ (.slice (some ⟨b,off+7,none⟩) ys.length (ca-1))).alloc (.cells #[.string u0,.string u1,.int .i64 u2,.int .i64 u3,.string u4,.slice u5 u6 u7,.int .i64 u8] 30)).heap.size:=by simp[World.setCell]
     have SK2:=(SK1.snoc AT).keep ks kp
     have AR2:=hAr.keep ks kp
     have BB1:But p w ((wr.setCell ⟨g,vs'.length,none⟩ (.slice (some ⟨b,off+7,none⟩) ys.length (ca-1))).alloc (.cells #[.string u0,.string u1,.int .i64 u2,.int .i64 u3,.string u4,.slice u5 u6 u7,.int .i64 u8] 30)):=(BW.out.setNew g vs'.length (by omega) (by omega) _).alloc (by simp[World.setCell];omega) _
     have ow2:=ow1.alloc (.cells #[.string u0,.string u1,.int .i64 u2,.int .i64 u3,.string u4,.slice u5 u6 u7,.int .i64 u8] 30)
     have cS:=HO.out _ _ y (vs'.length+1) s' (flatB (st'++[ys]++[y.args])).length (by simp[World.setCell];omega) (hy.keep ks kp) (by omega) (HT.out _ _ _ _ (bw1.mono (by omega)) ks SS2)
     rw[hdz] at cS
     generalize hFy:F s' y (vs'.length+1)=Fy at cS
     have HFy:Hid (F s' y (vs'.length+1)=Fy):=hFy
     obtain⟨s2,B2⟩:=Fy
     simp only at cS
     clear hFy kp ks SK1 AI AT hAr hy OP SS2 bw1 ow1
     go_wp2_with fail
     refine cS.mono ?_
     rintro e w2 ⟨rfl,hs1,hs2,b2⟩
     have HS1:Hid (B2=true→St w2 s2 (flatB (st'++[ys]++[y.args])).length):=hs1
     have HS2:Hid (B2=false→End w2 s2):=hs2
     clear hs1 hs2 cS
     cases B2
     ·have HT2:Hid ((s2,false)=T):=by
       show _=_
       rw[←HF3.out,foldP,HFy.out];simp
      go_wp2
      go_ret
      have hT:=HT2.out
      subst hT
      exact⟨rfl,fun h=>absurd h (by simp),fun _=>HS2.out (by simp),BB1.trans b2⟩
     ·have HF4:Hid (foldP F s2 (flatB (st'++[ys]++[y.args]))=T):=by
       show _=_
       rw[←HF3.out,foldP,HFy.out];simp
      have hz2:wr.heap.size+1≤w2.heap.size:=by have:=b2.size;simpa [World.setCell] using this
      have g5:w2.cell? ⟨wr.heap.size,5,none⟩=some (.slice u5 u6 u7):=by
       rw[b2.cell _ (by simp[World.setCell]) (by omega),World.cell?_alloc_at _ _ _ _ (by simp[World.setCell])];rfl
      have hlt5:wr.heap.size<w2.heap.size:=by omega
      have kp2:∀bb oo:Nat,Wlo p (w.heap.size+2) bb→bb<((wr.setCell ⟨g,vs'.length,none⟩ (.slice (some ⟨b,off+7,none⟩) ys.length (ca-1))).alloc (.cells #[.string u0,.string u1,.int .i64 u2,.int .i64 u3,.string u4,.slice u5 u6 u7,.int .i64 u8] 30)).heap.size→w2.cell? ⟨bb,oo,none⟩=_:=fun bb oo hb h2=>b2.cell oo h2 hb.1
      have SK3:=SK2.keep b2.size kp2
      have AR3:=AR2.keep b2.size kp2
      have ow3:=zdS ow2 b2 (by omega)
      rw[List.length_append,List.length_singleton] at ow3
      have BB2:=BB1.trans b2
      clear SK2 AR2 ow2 BB1 b2 kp2 HF3 HFy HS2
      go_wp2_with (at_builtin;refine wpList_append_own _ rfl _ _ 137 rfl (w.heap.size+2) 28 i0 (.slice none 0 0) 1 24 Tryz.underlying137 hi hz0 hz1 hzz rfl (by decide) _ _ _ rfl (ow3.alloc _) ⟨w2.heap.size,0,none⟩ 1 1 [.slice u5 u6 u7] rfl rfl ?c1 ?c2 ?c3 ?c4 ?c5 ?_)
      case c1 =>
       intro i u hu
       rw[Go.WideShapes.add_plain,World.cell?_alloc_at _ _ _ _ (by simp)]
       simpa using hu
      case c2 =>
       intro u hu
       simp at hu
       subst hu;rfl
      case c3=>simp[maxLen];omega
      case c4=>omega
      case c5=>simp;omega
      ·intro v' w3 hown' hgrow _
       have hlo3:∀j,(Value.slice (some ⟨g,0,none⟩) (vs'.length+1) c).ownBlock=some j→w.heap.size+2≤j:=fun j hj=>(ow3.lt j hj).1
       have bg:Below (w.heap.size+2) w2 w3:=((Below.refl _ w2).alloc (by omega) _).grown hgrow (by simp;omega) hlo3
       have zg:w2.heap.size≤w3.heap.size:=by have:=hgrow.size;simp at this;omega
       have SK4:=(SK3.snoc AR3).keep zg (fun bb oo hb _=>bg.cell (p:=⟨bb,oo,none⟩) hb.2)
       have SS4:St w3 s2 (flatB (st'++[ys]++[y.args])).length:=HT.out _ _ _ _ (bg.mono (by omega)) zg (HS1.out (by simp))
       have BB3:But p w w3:=⟨BB2.below.trans (bg.mono (by omega)),by have:=BB2.size;omega,fun j hj hjp=>by rw[bg.block j (by omega)];exact BB2.kept j hj hjp⟩
       obtain⟨q5,c5,rfl⟩:=zaa hown'
       have ow5:w3.ownsRow (w.heap.size+2) 28 1 (.slice q5 (vs'++[Value.slice (some ⟨b,off+7,none⟩) ys.length (ca-1)]++[Value.slice u5 u6 u7]).length c5) (vs'++[Value.slice (some ⟨b,off+7,none⟩) ys.length (ca-1)]++[Value.slice u5 u6 u7]).length (vs'++[Value.slice (some ⟨b,off+7,none⟩) ys.length (ca-1)]++[Value.slice u5 u6 u7]):=by
        have h1:(vs'++[Value.slice (some ⟨b,off+7,none⟩) ys.length (ca-1)]++[Value.slice u5 u6 u7]).length=vs'.length+1+1:=by simp
        rw[h1,List.append_assoc];exact hown'
       clear hown' hgrow SK3 AR3 BB2 ow3 bg
       go_wp2
       go_roundg (gk-1)
       case measure=>have:=HB2.out;omega
       case rel=>exact⟨st'++[ys]++[y.args],_,s2,q5,c5,by simp,(show Hid _ from ⟨HB2.out.1,HB2.out.2.1⟩),(show Aside _ from ow5),(show Aside _ from SK4),(show Aside _ from SS4),(show Aside _ from BB3),HF4⟩
end
section
open Go.BigFrame
def ftg(s:Nat)(x:Ex)(d:Nat):Nat×Bool:=(s+1,decide (s+1≤200)&&decide (d≤30))
def tgB(x:Ex):Bool:=!(foldP ftg 0 (x.pre 1)).2
def CntIn(p:Nat)(W:World)(s:Nat)(m:Nat):Prop:=W.cell? ⟨p,0,none⟩=some (.int .i64 (s:Int))∧W.frozen? ⟨p,0,none⟩=false∧p<W.heap.size∧s≤200
theorem zsP(p:Nat)(W:World)(v:Value)(lo:Nat→Prop)(x:Ex)(d s m:Nat)(hx:ExIn W lo v x)(hd:d≤1048577)(hs:CntIn p W s (m+1)) :
  Calls Tryz.prog 63 #[v,.int .i64 (d:Int),.pointer (some ⟨p,0,none⟩)] W fun e w'=>e=.returned (.bool (ftg s x d).2)∧((ftg s x d).2=true→CntIn p w' (ftg s x d).1 m)∧((ftg s x d).2=false→True)∧But p W w':=by
 obtain⟨o1,n1,t1,k1,s1,p1,m1,c1,a1,rfl⟩:=hx.agg
 obtain⟨h1,h2,h3,h4⟩:=hs
 have bb:=But.alloc (But.refl p W) (by omega) (.cells #[.string o1,.string n1,.int .i64 t1,.int .i64 k1,.string s1,.slice p1 m1 c1,.int .i64 a1] 30)
 have BF:Aside (∀u,But p W ((W.setCell ⟨p,0,none⟩ u).alloc (.cells #[.string o1,.string n1,.int .i64 t1,.int .i64 k1,.string s1,.slice p1 m1 c1,.int .i64 a1] 30))):=fun u=>((But.refl p W).set 0 u).alloc (by simp[World.setCell];omega) _
 clear bb
 by_cases h200:s+1≤200
 ·have h200z:(s:Int)+1≤200:=by omega
  by_cases h30:d≤30
  ·have h30z:(d:Int)≤30:=by omega
   have hR:ftg s x d=(s+1,true):=by rw[ftg,decide_eq_true h200,decide_eq_true h30];rfl
   rw[hR]
   have hC:Aside (CntIn p ((W.setCell ⟨p,0,none⟩ (.int .i64 ((s:Int)+1))).alloc (.cells #[.string o1,.string n1,.int .i64 t1,.int .i64 k1,.string s1,.slice p1 m1 c1,.int .i64 a1] 30)) (s+1) m):=by
    refine⟨?_,?_,by simp[World.setCell];omega,by omega⟩
    ·rw[World.cell?_alloc_past _ _ _ (by simpa [World.setCell] using h3),World.cell?_setCell_same W ⟨p,0,none⟩ _ h1]
     rfl
    ·rw[World.frozen?_alloc_past _ _ _ (by simpa [World.setCell] using h3)]
     simpa using h2
   clear hx hR h200 h30 h4
   generalize s+1=S2 at hC ⊢
   go_enter Tryz.func63,Tryz.ntmps63
   go_wp2
   go_ret
   first
    | exact⟨zaJ (by simp),fun _=>hC.out,fun _=>trivial,BF.out _⟩
    | exact⟨zaJ (by simp[h30z]),hC.out,BF.out _⟩
    | exact⟨rfl,hC.out,BF.out _⟩
  ·have h30z:¬(d:Int)≤30:=by omega
   have hR:ftg s x d=(s+1,false):=by rw[ftg,decide_eq_false h30,Bool.and_false]
   rw[hR]
   clear hx hR h200 h30 h4
   generalize s+1=S2
   go_enter Tryz.func63,Tryz.ntmps63
   go_wp2
   go_ret
   first
    | exact⟨zaJ (by simp),BF.out _⟩
    | exact⟨zaJ (by simp[h30z]),BF.out _⟩
    | exact⟨rfl,BF.out _⟩
 ·have h200z:¬(s:Int)+1≤200:=by omega
  have hR:ftg s x d=(s+1,false):=by rw[ftg,decide_eq_false h200,Bool.false_and]
  rw[hR]
  clear hx hR h200
  generalize s+1=S2
  go_enter Tryz.func63,Tryz.ntmps63
  go_wp2
  go_ret
  exact⟨rfl,BF.out _⟩
theorem zgO(x:Ex)(lo:Nat→Prop)(v:Value)(w:World)(hx:ExIn w lo v x)(hsz:(x.pre 1).length≤1048576) :
  Calls Tryz.prog 33 #[v] w fun e w'=>e=.returned (.bool (tgB x))∧Below w.heap.size w w':=by
 obtain⟨o1,n1,t1,k1,s1,p1,m1,c1,a1,rfl⟩:=hx.agg
 have b1:Below w.heap.size w ((w.alloc (.cells #[.string o1,.string n1,.int .i64 t1,.int .i64 k1,.string s1,.slice p1 m1 c1,.int .i64 a1] 30)).alloc (.cells #[.int .i64 0] 3)):=(al w _).trans ((al _ _).mono (by simp))
 have cW:=zlS ftg 63 (fun args W=>by kernel_rfl) (w.heap.size+1) (CntIn (w.heap.size+1)) (fun _ _=>True) (fun b=>lo b∧b<w.heap.size) _ _ x 0 (by simp) ((ExIn.low (fun b h1 h2=>⟨h2,h1⟩) _ _ hx).on b1) (fun b h1 _=>by have:=h1.2;omega) hsz
  (fun W v y d s m _ hy hd hs=>zsP _ W v _ y d s m hy hd hs)
  (fun W W' s m hb hz hs=>by
   obtain⟨h1,h2,h3,h4⟩:=hs
   exact⟨by rw[hb.cell (p:=⟨w.heap.size+1,0,none⟩) (by simp)];exact h1,by rw[hb.frozen (p:=⟨w.heap.size+1,0,none⟩) (by simp)];exact h2,by omega,h4⟩)
  ⟨by rw[World.cell?_alloc_at _ _ _ _ (by simp)];rfl,by rw[World.frozen?_alloc_at _ _ _ _ (by simp)],by simp,by omega⟩
 rw[tgB]
 generalize foldP ftg 0 (x.pre 1)=T at cW
 obtain⟨T1,T2⟩:=T
 simp only at cW ⊢
 go_enter Tryz.func33,Tryz.ntmps33
 go_wp2_with fail
 refine cW.mono ?_
 rintro e w2 ⟨rfl,_,_,b2⟩
 have b3:Below w.heap.size w w2:=b1.trans (b2.below.mono (by omega))
 go_wp2
 go_ret
 exact⟨rfl,b3⟩
def zaF:List (List UInt8×Int×Int×Int×Int):=[([111,114],2,2,0,2),([97,110,100],2,2,0,2),([110,111,116],2,0,0,2),([61],-1,-1,0,2),([60,62],-1,-1,0,2),([60],-1,-1,0,2),([60,61],-1,-1,0,2),([62],-1,-1,0,2),([62,61],-1,-1,0,2),([43],1,1,0,1),([45],1,1,0,1),([42],1,1,0,1),([47],1,1,0,1),([37],1,1,0,1),([110,101,103],1,0,0,1),([108,101,110],3,0,0,1),([105,102],2,-1,-1,-1)]
abbrev KRule:=List UInt8×Int×Int×Int×Int
def ziT:Array Value:=#[.string ⟨#[111,114]⟩,.int .i64 2,.int .i64 2,.int .i64 0,.int .i64 2,.string ⟨#[97,110,100]⟩,.int .i64 2,.int .i64 2,.int .i64 0,.int .i64 2,.string ⟨#[110,111,116]⟩,.int .i64 2,.int .i64 0,.int .i64 0,.int .i64 2,.string ⟨#[61]⟩,.int .i64 (-1),.int .i64 (-1),.int .i64 0,.int .i64 2,.string ⟨#[60,62]⟩,.int .i64 (-1),.int .i64 (-1),.int .i64 0,.int .i64 2,.string ⟨#[60]⟩,.int .i64 (-1),.int .i64 (-1),.int .i64 0,.int .i64 2,.string ⟨#[60,61]⟩,.int .i64 (-1),.int .i64 (-1),.int .i64 0,.int .i64 2,.string ⟨#[62]⟩,.int .i64 (-1),.int .i64 (-1),.int .i64 0,.int .i64 2,.string ⟨#[62,61]⟩,.int .i64 (-1),.int .i64 (-1),.int .i64 0,.int .i64 2,.string ⟨#[43]⟩,.int .i64 1,.int .i64 1,.int .i64 0,.int .i64 1,.string ⟨#[45]⟩,.int .i64 1,.int .i64 1,.int .i64 0,.int .i64 1,.string ⟨#[42]⟩,.int .i64 1,.int .i64 1,.int .i64 0,.int .i64 1,.string ⟨#[47]⟩,.int .i64 1,.int .i64 1,.int .i64 0,.int .i64 1,.string ⟨#[37]⟩,.int .i64 1,.int .i64 1,.int .i64 0,.int .i64 1,.string ⟨#[110,101,103]⟩,.int .i64 1,.int .i64 0,.int .i64 0,.int .i64 1,.string ⟨#[108,101,110]⟩,.int .i64 3,.int .i64 0,.int .i64 0,.int .i64 1,.string ⟨#[105,102]⟩,.int .i64 2,.int .i64 (-1),.int .i64 (-1),.int .i64 (-1)]
def REnv(w:World):Prop:=∃t fr,w.heap[8]?=some (.cells ziT t fr)
theorem REnv.lt{w:World}(h:REnv w):8<w.heap.size:=by
 obtain⟨t,fr,h1⟩:=h
 exact (Array.getElem?_eq_some_iff.1 h1).1
theorem zrI(k:Nat)(hk:k<17):∃(S:ByteArray) (a0 a1 a2 ty:Int),(∀W:World,Sem.run Tryz.prog (Instr.index 323 (.agg ziT) (.int .i64 (k:Int))) W=.ok (.agg #[.string S,.int .i64 a0,.int .i64 a1,.int .i64 a2,.int .i64 ty]) W)∧zaF[k]'hk=(S.data.toList,a0,a1,a2,ty)∧(-1≤a0∧a0≤3)∧(-1≤a1∧a1≤3)∧(-1≤a2∧a2≤3)∧(-1≤ty∧ty≤3):=by
 have h:k=0∨k=1∨k=2∨k=3∨k=4∨k=5∨k=6∨k=7∨k=8∨k=9∨k=10∨k=11∨k=12∨k=13∨k=14∨k=15∨k=16:=by omega
 rcases h with rfl|rfl|rfl|rfl|rfl|rfl|rfl|rfl|rfl|rfl|rfl|rfl|rfl|rfl|rfl|rfl|rfl
 ·exact⟨⟨#[111,114]⟩,2,2,0,2,fun W=>by kernel_rfl,rfl,by decide,by decide,by decide,by decide⟩
 ·exact⟨⟨#[97,110,100]⟩,2,2,0,2,fun W=>by kernel_rfl,rfl,by decide,by decide,by decide,by decide⟩
 ·exact⟨⟨#[110,111,116]⟩,2,0,0,2,fun W=>by kernel_rfl,rfl,by decide,by decide,by decide,by decide⟩
 ·exact⟨⟨#[61]⟩,(-1),(-1),0,2,fun W=>by kernel_rfl,rfl,by decide,by decide,by decide,by decide⟩
 ·exact⟨⟨#[60,62]⟩,(-1),(-1),0,2,fun W=>by kernel_rfl,rfl,by decide,by decide,by decide,by decide⟩
 ·exact⟨⟨#[60]⟩,(-1),(-1),0,2,fun W=>by kernel_rfl,rfl,by decide,by decide,by decide,by decide⟩
 ·exact⟨⟨#[60,61]⟩,(-1),(-1),0,2,fun W=>by kernel_rfl,rfl,by decide,by decide,by decide,by decide⟩
 ·exact⟨⟨#[62]⟩,(-1),(-1),0,2,fun W=>by kernel_rfl,rfl,by decide,by decide,by decide,by decide⟩
 ·exact⟨⟨#[62,61]⟩,(-1),(-1),0,2,fun W=>by kernel_rfl,rfl,by decide,by decide,by decide,by decide⟩
 ·exact⟨⟨#[43]⟩,1,1,0,1,fun W=>by kernel_rfl,rfl,by decide,by decide,by decide,by decide⟩
 ·exact⟨⟨#[45]⟩,1,1,0,1,fun W=>by kernel_rfl,rfl,by decide,by decide,by decide,by decide⟩
 ·exact⟨⟨#[42]⟩,1,1,0,1,fun W=>by kernel_rfl,rfl,by decide,by decide,by decide,by decide⟩
 ·exact⟨⟨#[47]⟩,1,1,0,1,fun W=>by kernel_rfl,rfl,by decide,by decide,by decide,by decide⟩
 ·exact⟨⟨#[37]⟩,1,1,0,1,fun W=>by kernel_rfl,rfl,by decide,by decide,by decide,by decide⟩
 ·exact⟨⟨#[110,101,103]⟩,1,0,0,1,fun W=>by kernel_rfl,rfl,by decide,by decide,by decide,by decide⟩
 ·exact⟨⟨#[108,101,110]⟩,3,0,0,1,fun W=>by kernel_rfl,rfl,by decide,by decide,by decide,by decide⟩
 ·exact⟨⟨#[105,102]⟩,2,(-1),(-1),(-1),fun W=>by kernel_rfl,rfl,by decide,by decide,by decide,by decide⟩
end
structure TW(w:World):Prop where
 c0:w.cell? ⟨7,0,none⟩=some (.int .i64 1)
 c1:w.cell? ⟨7,1,none⟩=some (.string ⟨#[105,110,116]⟩)
 c2:w.cell? ⟨7,2,none⟩=some (.int .i64 2)
 c3:w.cell? ⟨7,3,none⟩=some (.string ⟨#[98,111,111,108]⟩)
 c4:w.cell? ⟨7,4,none⟩=some (.int .i64 3)
 c5:w.cell? ⟨7,5,none⟩=some (.string ⟨#[116,101,120,116]⟩)
 lt:7<w.heap.size
theorem TW.on{w w':World}(h:TW w)(hb:Below w.heap.size w w'):TW w':=by
 have hl:=h.lt
 have hz:=hb.size
 refine⟨?_,?_,?_,?_,?_,?_,by omega⟩
 ·rw[hb.cell (p:=⟨7,0,none⟩) hl];exact h.c0
 ·rw[hb.cell (p:=⟨7,1,none⟩) hl];exact h.c1
 ·rw[hb.cell (p:=⟨7,2,none⟩) hl];exact h.c2
 ·rw[hb.cell (p:=⟨7,3,none⟩) hl];exact h.c3
 ·rw[hb.cell (p:=⟨7,4,none⟩) hl];exact h.c4
 ·rw[hb.cell (p:=⟨7,5,none⟩) hl];exact h.c5
theorem zcK{w:World}{b o:Nat}{v:Value}(h:w.cell? ⟨b,o,none⟩=some v):b<w.heap.size:=by
 rcases Nat.lt_or_ge b w.heap.size with h'|h'
 ·exact h'
 ·simp[World.cell?,Array.getElem?_eq_none h'] at h
theorem zbY{W w1:World}(hb:Below W.heap.size W w1):(∀b o,b<W.heap.size→w1.cell? ⟨b,o,none⟩=W.cell? ⟨b,o,none⟩)∧(∀b o,b<W.heap.size→w1.frozen? ⟨b,o,none⟩=W.frozen? ⟨b,o,none⟩) :=
 ⟨fun b o h=>hb.cell (p:=⟨b,o,none⟩) h,fun b o h=>hb.frozen (p:=⟨b,o,none⟩) h⟩

theorem zaz(wt:Int)(ww:ByteArray)(t:Int)(p:Nat)(r:Bool)(w:World)(hp:w.cell? ⟨p,0,none⟩=some (.int .i64 t))(hr:(wt == t)=r) :
  Calls Tryz.prog 163 #[.agg #[.int .i64 wt,.string ww],.pointer (some ⟨p,0,none⟩)] w fun e w'=>e=.returned (.bool r)∧Below w.heap.size w w':=by
 have hl:=zcK hp
 go_enter Tryz.func163,Tryz.ntmps163
 go_wp2
 go_ret
 exact⟨by rw[←hr];rfl,(Below.refl _ _).alloc (Nat.le_refl _) _⟩
theorem tw_0(W:World):Sem.run Tryz.prog (Instr.index 274 (.agg #[.int .i64 1,.string ⟨#[105,110,116]⟩,.int .i64 2,.string ⟨#[98,111,111,108]⟩,.int .i64 3,.string ⟨#[116,101,120,116]⟩]) (.int .i64 0)) W=.ok (.agg #[.int .i64 1,.string ⟨#[105,110,116]⟩]) W:=by kernel_rfl
theorem tw_1(W:World):Sem.run Tryz.prog (Instr.index 274 (.agg #[.int .i64 1,.string ⟨#[105,110,116]⟩,.int .i64 2,.string ⟨#[98,111,111,108]⟩,.int .i64 3,.string ⟨#[116,101,120,116]⟩]) (.int .i64 1)) W=.ok (.agg #[.int .i64 2,.string ⟨#[98,111,111,108]⟩]) W:=by kernel_rfl
theorem tw_2(W:World):Sem.run Tryz.prog (Instr.index 274 (.agg #[.int .i64 1,.string ⟨#[105,110,116]⟩,.int .i64 2,.string ⟨#[98,111,111,108]⟩,.int .i64 3,.string ⟨#[116,101,120,116]⟩]) (.int .i64 2)) W=.ok (.agg #[.int .i64 3,.string ⟨#[116,101,120,116]⟩]) W:=by kernel_rfl
structure FT(w wi:World)(p:Nat)(pv:Value):Prop where
 below:Below w.heap.size w wi
 lt:w.heap.size<wi.heap.size
 c0:wi.cell? ⟨w.heap.size,0,none⟩=some (.int .i64 0)
 c1:wi.cell? ⟨w.heap.size,1,none⟩=some (.string ⟨#[]⟩)
 f0:wi.frozen? ⟨w.heap.size,0,none⟩=false
 f1:wi.frozen? ⟨w.heap.size,1,none⟩=false
 pc:wi.cell? ⟨p,0,none⟩=some pv
theorem FT.first{w:World}{p:Nat}{pv:Value}(hp:w.cell? ⟨p,0,none⟩=some pv):FT w (w.alloc (.cells #[.int .i64 0,.string ⟨#[]⟩] 200)) p pv :=
 ⟨(Below.refl _ _).alloc (Nat.le_refl _) _,by simp,by rw[World.cell?_alloc_at _ _ _ _ rfl];rfl,by rw[World.cell?_alloc_at _ _ _ _ rfl];rfl,by simp,by simp,by rw[World.cell?_alloc_lt _ _ _ (zcK hp)];exact hp⟩
theorem FT.alloc{w wi:World}{p:Nat}{pv:Value}(h:FT w wi p pv)(o:Obj):FT w (wi.alloc o) p pv :=
 ⟨h.below.alloc h.below.size _,by have:=h.lt;simp;omega,by rw[World.cell?_alloc_lt _ _ _ h.lt];exact h.c0,by rw[World.cell?_alloc_lt _ _ _ h.lt];exact h.c1,
  by rw[World.frozen?_alloc_old _ _ _ (Nat.ne_of_lt h.lt)];exact h.f0,by rw[World.frozen?_alloc_old _ _ _ (Nat.ne_of_lt h.lt)];exact h.f1,by rw[World.cell?_alloc_lt _ _ _ (zcK h.pc)];exact h.pc⟩
theorem FT.next{w wi wj:World}{p:Nat}{pv:Value}(h:FT w wi p pv)(b:Below wi.heap.size wi wj):FT w wj p pv:=by
 obtain⟨hc,hf⟩:=zbY b
 have hz:=b.size
 exact⟨h.below.trans (b.mono h.below.size),by have:=h.lt;omega,by rw[hc _ _ h.lt];exact h.c0,by rw[hc _ _ h.lt];exact h.c1,by rw[hf _ _ h.lt];exact h.f0,by rw[hf _ _ h.lt];exact h.f1,by rw[hc _ _ (zcK h.pc)];exact h.pc⟩

theorem zrP(t:Int)(p:Nat)(w:World)(hw:TW w)(hp:w.cell? ⟨p,0,none⟩=some (.int .i64 t))(h1:((1:Int) == t)=true) :
  Calls Tryz.prog 162 #[.func (.func 163) #[] #[.pointer (some ⟨p,0,none⟩)]] w fun e w'=>e=.returned (.tuple #[.agg #[.int .i64 1,.string ⟨#[105,110,116]⟩],.bool true])∧Below w.heap.size w w':=by
 obtain⟨g0,g1,g2,g3,g4,g5,gl⟩:=hw
 have x0:=tw_0
 have x1:=tw_1
 have x2:=tw_2
 have F0:FT w _ p (.int .i64 t):=FT.first hp
 go_enter Tryz.func162,Tryz.ntmps162
 go_wp2
 refine wp_loop_rounds 1 ?_
 rw[rounds_succ]
 go_wp2_with fail
 have F0a:=F0.alloc (.cells #[.int .i64 1,.string ⟨#[105,110,116]⟩] 200)
 refine (zaz 1 ⟨#[105,110,116]⟩ t p true _ F0a.pc h1).mono ?_
 rintro e w1 ⟨rfl,b1⟩
 have F1:=F0a.next b1
 obtain⟨hc1,hf1⟩:=zbY b1
 have l1:=F1.lt
 have q0:=F1.c0
 have q1:=F1.c1
 have q2:=F1.f0
 have q3:=F1.f1
 go_wp2
 refine bodyPost_ret (v:=(.tuple #[.agg #[.int .i64 1,.string ⟨#[105,110,116]⟩],.bool true])) (by simp[results,Tryz.results162,go_sem,q0,q1]) rfl ⟨rfl,?_⟩
 exact (F1.below.setCell (Nat.le_refl _) _).setCell (Nat.le_refl _) _
theorem ztd(t:Int)(p:Nat)(w:World)(hw:TW w)(hp:w.cell? ⟨p,0,none⟩=some (.int .i64 t))(h1:((1:Int) == t)=false)(h2:((2:Int) == t)=true) :
  Calls Tryz.prog 162 #[.func (.func 163) #[] #[.pointer (some ⟨p,0,none⟩)]] w fun e w'=>e=.returned (.tuple #[.agg #[.int .i64 2,.string ⟨#[98,111,111,108]⟩],.bool true])∧Below w.heap.size w w':=by
 obtain⟨g0,g1,g2,g3,g4,g5,gl⟩:=hw
 have x0:=tw_0
 have x1:=tw_1
 have x2:=tw_2
 have F0:FT w _ p (.int .i64 t):=FT.first hp
 go_enter Tryz.func162,Tryz.ntmps162
 go_wp2
 refine wp_loop_rounds 2 ?_
 rw[rounds_succ]
 go_wp2_with fail
 have F0a:=F0.alloc (.cells #[.int .i64 1,.string ⟨#[105,110,116]⟩] 200)
 refine (zaz 1 ⟨#[105,110,116]⟩ t p false _ F0a.pc h1).mono ?_
 rintro e w1 ⟨rfl,b1⟩
 have F1:=F0a.next b1
 obtain⟨hc1,hf1⟩:=zbY b1
 have l1:=F1.lt
 go_wp2
 rw[rounds_succ]
 go_wp2_with fail
 have F1a:=F1.alloc (.cells #[.int .i64 2,.string ⟨#[98,111,111,108]⟩] 200)
 refine (zaz 2 ⟨#[98,111,111,108]⟩ t p true _ F1a.pc h2).mono ?_
 rintro e w2 ⟨rfl,b2⟩
 have F2:=F1a.next b2
 obtain⟨hc2,hf2⟩:=zbY b2
 have l2:=F2.lt
 have q0:=F2.c0
 have q1:=F2.c1
 have q2:=F2.f0
 have q3:=F2.f1
 go_wp2
 refine bodyPost_ret (v:=(.tuple #[.agg #[.int .i64 2,.string ⟨#[98,111,111,108]⟩],.bool true])) (by simp[results,Tryz.results162,go_sem,q0,q1]) rfl ⟨rfl,?_⟩
 exact (F2.below.setCell (Nat.le_refl _) _).setCell (Nat.le_refl _) _
theorem ztW(t:Int)(p:Nat)(w:World)(hw:TW w)(hp:w.cell? ⟨p,0,none⟩=some (.int .i64 t))(h1:((1:Int) == t)=false)(h2:((2:Int) == t)=false)(h3:((3:Int) == t)=true) :
  Calls Tryz.prog 162 #[.func (.func 163) #[] #[.pointer (some ⟨p,0,none⟩)]] w fun e w'=>e=.returned (.tuple #[.agg #[.int .i64 3,.string ⟨#[116,101,120,116]⟩],.bool true])∧Below w.heap.size w w':=by
 obtain⟨g0,g1,g2,g3,g4,g5,gl⟩:=hw
 have x0:=tw_0
 have x1:=tw_1
 have x2:=tw_2
 have F0:FT w _ p (.int .i64 t):=FT.first hp
 go_enter Tryz.func162,Tryz.ntmps162
 go_wp2
 refine wp_loop_rounds 3 ?_
 rw[rounds_succ]
 go_wp2_with fail
 have F0a:=F0.alloc (.cells #[.int .i64 1,.string ⟨#[105,110,116]⟩] 200)
 refine (zaz 1 ⟨#[105,110,116]⟩ t p false _ F0a.pc h1).mono ?_
 rintro e w1 ⟨rfl,b1⟩
 have F1:=F0a.next b1
 obtain⟨hc1,hf1⟩:=zbY b1
 have l1:=F1.lt
 go_wp2
 rw[rounds_succ]
 go_wp2_with fail
 have F1a:=F1.alloc (.cells #[.int .i64 2,.string ⟨#[98,111,111,108]⟩] 200)
 refine (zaz 2 ⟨#[98,111,111,108]⟩ t p false _ F1a.pc h2).mono ?_
 rintro e w2 ⟨rfl,b2⟩
 have F2:=F1a.next b2
 obtain⟨hc2,hf2⟩:=zbY b2
 have l2:=F2.lt
 go_wp2
 rw[rounds_succ]
 go_wp2_with fail
 have F2a:=F2.alloc (.cells #[.int .i64 3,.string ⟨#[116,101,120,116]⟩] 200)
 refine (zaz 3 ⟨#[116,101,120,116]⟩ t p true _ F2a.pc h3).mono ?_
 rintro e w3 ⟨rfl,b3⟩
 have F3:=F2a.next b3
 obtain⟨hc3,hf3⟩:=zbY b3
 have l3:=F3.lt
 have q0:=F3.c0
 have q1:=F3.c1
 have q2:=F3.f0
 have q3:=F3.f1
 go_wp2
 refine bodyPost_ret (v:=(.tuple #[.agg #[.int .i64 3,.string ⟨#[116,101,120,116]⟩],.bool true])) (by simp[results,Tryz.results162,go_sem,q0,q1]) rfl ⟨rfl,?_⟩
 exact (F3.below.setCell (Nat.le_refl _) _).setCell (Nat.le_refl _) _
theorem zsV(t:Int)(p:Nat)(w:World)(hw:TW w)(hp:w.cell? ⟨p,0,none⟩=some (.int .i64 t))(h1:((1:Int) == t)=false)(h2:((2:Int) == t)=false)(h3:((3:Int) == t)=false) :
  Calls Tryz.prog 162 #[.func (.func 163) #[] #[.pointer (some ⟨p,0,none⟩)]] w fun e w'=>e=.returned (.tuple #[.agg #[.int .i64 0,.string ⟨#[]⟩],.bool false])∧Below w.heap.size w w':=by
 obtain⟨g0,g1,g2,g3,g4,g5,gl⟩:=hw
 have x0:=tw_0
 have x1:=tw_1
 have x2:=tw_2
 have F0:FT w _ p (.int .i64 t):=FT.first hp
 go_enter Tryz.func162,Tryz.ntmps162
 go_wp2
 refine wp_loop_rounds 4 ?_
 rw[rounds_succ]
 go_wp2_with fail
 have F0a:=F0.alloc (.cells #[.int .i64 1,.string ⟨#[105,110,116]⟩] 200)
 refine (zaz 1 ⟨#[105,110,116]⟩ t p false _ F0a.pc h1).mono ?_
 rintro e w1 ⟨rfl,b1⟩
 have F1:=F0a.next b1
 obtain⟨hc1,hf1⟩:=zbY b1
 have l1:=F1.lt
 go_wp2
 rw[rounds_succ]
 go_wp2_with fail
 have F1a:=F1.alloc (.cells #[.int .i64 2,.string ⟨#[98,111,111,108]⟩] 200)
 refine (zaz 2 ⟨#[98,111,111,108]⟩ t p false _ F1a.pc h2).mono ?_
 rintro e w2 ⟨rfl,b2⟩
 have F2:=F1a.next b2
 obtain⟨hc2,hf2⟩:=zbY b2
 have l2:=F2.lt
 go_wp2
 rw[rounds_succ]
 go_wp2_with fail
 have F2a:=F2.alloc (.cells #[.int .i64 3,.string ⟨#[116,101,120,116]⟩] 200)
 refine (zaz 3 ⟨#[116,101,120,116]⟩ t p false _ F2a.pc h3).mono ?_
 rintro e w3 ⟨rfl,b3⟩
 have F3:=F2a.next b3
 obtain⟨hc3,hf3⟩:=zbY b3
 have l3:=F3.lt
 go_wp2
 rw[rounds_succ]
 have q0:=F3.c0
 have q1:=F3.c1
 have q2:=F3.f0
 have q3:=F3.f1
 go_wp2
 refine bodyPost_ret (v:=(.tuple #[.agg #[.int .i64 0,.string ⟨#[]⟩],.bool false])) (by simp[results,Tryz.results162,go_sem,q0,q1]) rfl ⟨rfl,?_⟩
 exact (F3.below.setCell (Nat.le_refl _) _).setCell (Nat.le_refl _) _
def zut(t:Int):ByteArray:=if t=1 then ⟨#[105,110,116]⟩ else if t=2 then ⟨#[98,111,111,108]⟩ else ⟨#[116,101,120,116]⟩
theorem Pair.new(w:World)(x y:Value)(t:TypeId):(w.alloc (.cells #[x,y] t)).cell? ⟨w.heap.size,0,none⟩=some x∧(w.alloc (.cells #[x,y] t)).cell? ⟨w.heap.size,1,none⟩=some y∧(w.alloc (.cells #[x,y] t)).frozen? ⟨w.heap.size,0,none⟩=false∧(w.alloc (.cells #[x,y] t)).frozen? ⟨w.heap.size,1,none⟩=false :=
 ⟨by rw[World.cell?_alloc_at _ _ _ _ rfl];rfl,by rw[World.cell?_alloc_at _ _ _ _ rfl];rfl,by simp,by simp⟩
theorem zdb(t a:Int)(s:ByteArray)(r:Bool)(w:World)(hw:TW w)
  (h:∀(p:Nat) (W:World),TW W→W.cell? ⟨p,0,none⟩=some (.int .i64 t)→Calls Tryz.prog 162 #[.func (.func 163) #[] #[.pointer (some ⟨p,0,none⟩)]] W fun e w'=>e=.returned (.tuple #[.agg #[.int .i64 a,.string s],.bool r])∧Below W.heap.size W w') :
  Calls Tryz.prog 127 #[.int .i64 t] w fun e w'=>e=.returned (.tuple #[.agg #[.int .i64 a,.string s],.bool r])∧Below w.heap.size w w':=by
 have B0:Below w.heap.size w ((w.alloc (.cells #[.int .i64 t] 3)).alloc (.cells #[.int .i64 0,.string ⟨#[]⟩] 200)):=((Below.refl _ _).alloc (Nat.le_refl _) _).alloc (by simp) _
 have hcall:=h w.heap.size _ (hw.on B0) (by rw[World.cell?_alloc_lt _ _ _ (by simp),World.cell?_alloc_at _ _ _ _ rfl];rfl)
 obtain⟨r0,r1,r2,r3⟩:=Pair.new (w.alloc (.cells #[.int .i64 t] 3)) (.int .i64 0) (.string ⟨#[]⟩) 200
 rw[show (w.alloc (.cells #[.int .i64 t] 3)).heap.size=w.heap.size+1 by simp] at r0 r1 r2 r3
 go_enter Tryz.func127,Tryz.ntmps127
 go_wp2_with fail
 refine hcall.mono ?_
 rintro e w1 ⟨rfl,b1⟩
 obtain⟨hc1,hf1⟩:=zbY b1
 have hz:=b1.size
 have q0:=(hc1 (w.heap.size+1) 0 (by simp)).trans r0
 have q1:=(hc1 (w.heap.size+1) 1 (by simp)).trans r1
 have q2:=(hf1 (w.heap.size+1) 0 (by simp)).trans r2
 have q3:=(hf1 (w.heap.size+1) 1 (by simp)).trans r3
 have ql:w.heap.size+1<w1.heap.size:=by simp at hz;omega
 clear hc1 hf1 r0 r1 r2 r3
 go_wp2
 refine bodyPost_ret (v:=.tuple #[.agg #[.int .i64 a,.string s],.bool r]) (by simp[results,Tryz.results127,go_sem,q0,q1]) rfl ⟨rfl,?_⟩
 exact ((B0.trans (b1.mono B0.size)).setCell (by simp) _).setCell (by simp) _
theorem zmk(t:Int)(w:World)(hw:TW w)(ht:1≤t∧t≤3) :
  Calls Tryz.prog 127 #[.int .i64 t] w fun e w'=>e=.returned (.tuple #[.agg #[.int .i64 t,.string (zut t)],.bool true])∧Below w.heap.size w w':=by
 have h3:t=1∨t=2∨t=3:=by omega
 rcases h3 with rfl|rfl|rfl
 ·exact zdb 1 1 _ true w hw fun p W hW hp=>zrP 1 p W hW hp rfl
 ·exact zdb 2 2 _ true w hw fun p W hW hp=>ztd 2 p W hW hp rfl rfl
 ·exact zdb 3 3 _ true w hw fun p W hW hp=>ztW 3 p W hW hp rfl rfl rfl
theorem zmA(t:Int)(w:World)(hw:TW w)(ht:¬(1≤t∧t≤3)) :
  Calls Tryz.prog 127 #[.int .i64 t] w fun e w'=>e=.returned (.tuple #[.agg #[.int .i64 0,.string ⟨#[]⟩],.bool false])∧Below w.heap.size w w' :=
 zdb t 0 _ false w hw fun p W hW hp=>zsV t p W hW hp (by simp;omega) (by simp;omega) (by simp;omega)

def errR(k:Int):Value:=if k=0 then .nilIface else .iface 35 (.int .i64 k)
theorem zrD{k:Int}(h:k≠0):errR k=.iface 35 (.int .i64 k):=by rw[errR,if_neg h]
def colE(ahead:List (ByteArray×Int))(nm:List UInt8)(t:Int):Int :=
 if nameB nm=false then 2 else if ¬(1≤t∧t≤3) then 1 else if 0≤findN nm ahead then 7 else 0
def schGo:List (ByteArray×Int)→List (ByteArray×Int)→Int
 | _,[]=>0
 | a,c::r=>if colE a c.1.data.toList c.2≠0 then colE a c.1.data.toList c.2 else schGo (a++[c]) r
def schE(zs:List (ByteArray×Int)):Int:=if zs.length=0 then 5 else if 6<zs.length then 4 else schGo [] zs

theorem zhJ(nm:ByteArray)(t:Int)(b off c:Nat)(zs:List (ByteArray×Int))(w:World)(hs:nm.size≤maxLen)(hw:TW w)(hn:zs.length≤9223372036854775807)(hc:zaZ w b off zs) :
  Calls Tryz.prog 98 #[.agg #[.string nm,.int .i64 t],.slice (some ⟨b,off,none⟩) zs.length c] w fun e w'=>e=.returned (errR (colE zs nm.data.toList t))∧Below w.heap.size w w':=by
 have B0:Below w.heap.size w (w.alloc (.cells #[.string nm,.int .i64 t] 24)):=(Below.refl _ _).alloc (Nat.le_refl _) _
 obtain⟨r0,r1,_,_⟩:=Pair.new w (.string nm) (.int .i64 t) 24
 have hcE:colE zs nm.data.toList t=if nameB nm.data.toList=false then 2 else if ¬(1≤t∧t≤3) then 1 else if 0≤findN nm.data.toList zs then 7 else 0:=rfl
 by_cases h1:nameB nm.data.toList=false
 ·rw[if_pos h1] at hcE
  rw[hcE]
  clear hcE
  have cN:=zdH nm (w.alloc (.cells #[.string nm,.int .i64 t] 24)) hs
  rw[h1] at cN
  go_enter Tryz.func98,Tryz.ntmps98
  go_wp2_with fail
  refine cN.mono ?_
  rintro e w1 ⟨rfl,b1⟩
  go_wp2
  go_ret
  exact⟨rfl,B0.trans (b1.mono B0.size)⟩
 ·rw[if_neg h1] at hcE
  have cN:=zdH nm (w.alloc (.cells #[.string nm,.int .i64 t] 24)) hs
  rw[show nameB nm.data.toList=true by simpa using h1] at cN
  clear h1
  by_cases h2:1≤t∧t≤3
  ·rw[if_neg (by simpa using h2)] at hcE
   generalize hf:findN nm.data.toList zs=fi at hcE
   have HF:Hid (findN nm.data.toList zs=fi):=hf
   clear hf
   have cT:∀W,TW W→_:=fun W hW=>zmk t W hW h2
   generalize zut t=wd at cT
   go_enter Tryz.func98,Tryz.ntmps98
   go_wp2_with fail
   refine cN.mono ?_
   rintro e w1 ⟨rfl,b1⟩
   obtain⟨hc1,hf1⟩:=zbY b1
   have l1:w.heap.size<w1.heap.size:=by have:=b1.size;simp at this;omega
   have q0:=(hc1 w.heap.size 0 (by simp)).trans r0
   have q1:=(hc1 w.heap.size 1 (by simp)).trans r1
   have B1:=B0.trans (b1.mono B0.size)
   clear hc1 hf1 b1
   go_wp2_with fail
   refine (cT w1 (hw.on B1)).mono ?_
   rintro e w2 ⟨rfl,b2⟩
   obtain⟨hc2,hf2⟩:=zbY b2
   have l2:w.heap.size<w2.heap.size:=by have:=b2.size;omega
   have p0:=(hc2 w.heap.size 0 l1).trans q0
   have p1:=(hc2 w.heap.size 1 l1).trans q1
   have B2:=B1.trans (b2.mono B1.size)
   clear hc2 hf2 b2 q0 q1 l1
   go_wp2_with fail
   have B3:=B2.alloc B2.size (.cells #[.int .i64 t,.string wd] 200)
   refine (zfb nm b off c zs _ hn (hc.on B3)).mono ?_
   rintro e w3 ⟨rfl,b3⟩
   have B4:=B3.trans (b3.mono B3.size)
   rw[HF.out]
   by_cases h3:0≤fi
   ·rw[if_pos h3] at hcE
    go_wp2
    go_ret
    exact⟨by rw[hcE];rfl,B4⟩
   ·rw[if_neg h3] at hcE
    go_wp2
    go_ret
    exact⟨by rw[hcE];rfl,B4⟩
  ·rw[if_pos h2] at hcE
   rw[hcE]
   clear hcE
   have cT:∀W,TW W→_:=fun W hW=>zmA t W hW h2
   clear h2
   go_enter Tryz.func98,Tryz.ntmps98
   go_wp2_with fail
   refine cN.mono ?_
   rintro e w1 ⟨rfl,b1⟩
   obtain⟨hc1,hf1⟩:=zbY b1
   have l1:w.heap.size<w1.heap.size:=by have:=b1.size;simp at this;omega
   have q0:=(hc1 w.heap.size 0 (by simp)).trans r0
   have q1:=(hc1 w.heap.size 1 (by simp)).trans r1
   have B1:=B0.trans (b1.mono B0.size)
   clear hc1 hf1 b1
   go_wp2_with fail
   refine (cT w1 (hw.on B1)).mono ?_
   rintro e w2 ⟨rfl,b2⟩
   have B2:=B1.trans (b2.mono B1.size)
   go_wp2
   go_ret
   exact⟨rfl,B2.alloc B2.size _⟩
end Go.Proofs.YtopghagjmdbglaaGreatDoor
