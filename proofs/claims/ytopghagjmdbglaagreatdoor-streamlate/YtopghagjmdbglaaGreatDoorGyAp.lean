/-
  FnS, GfS, KoS, OtT, GpP, GwF, GmB.
-/
import Derived.Test.YtopghagjmdbglaaGreatDoorGyAo
import Derived.Test.YtopghagjmdbglaaGreatDoorGyAh
import Derived.Test.YtopghagjmdbglaaGreatDoorGyAj
namespace Go.Proofs.YtopghagjmdbglaaGreatDoor
open Go.RowKit
set_option linter.unusedVariables false
set_option linter.unusedSimpArgs false
set_option maxHeartbeats 8000000
set_option maxRecDepth 20000
section
open Go.BigFrame
theorem znK(a:Option Addr)(c:Nat)(tg:Value)(f:Value)(w:World) :
  Calls Tryz.prog 172 #[.slice a 0 c,tg,f] w fun e w'=>e=.returned (.tuple #[.int .i64 0,.bool false])∧w'=w:=by
 go_enter Tryz.func172,Tryz.ntmps172
 go_wp2
 go_loopg [9,10,11] 0 (fun gg s9 s10 _ wr=>s9=.int .i64 0∧s10=.int .i64 0∧wr=w)
 case atStart=>exact⟨rfl,rfl,rfl⟩
 case round =>
  obtain⟨rfl,rfl,rfl⟩:=hrel
  go_wp2
  go_ret2
  exact⟨rfl,rfl⟩
theorem zkH(a:Option Addr)(c:Nat)(tg:Value)(f:Value)(w:World) :
  Calls Tryz.prog 195 #[.slice a 0 c,tg,f] w fun e w'=>e=.returned (.tuple #[.int .i64 0,.bool false])∧w'=w:=by
 go_enter Tryz.func195,Tryz.ntmps195
 go_wp2
 go_loopg [9,10,11] 0 (fun gg s9 s10 _ wr=>s9=.int .i64 0∧s10=.int .i64 0∧wr=w)
 case atStart=>exact⟨rfl,rfl,rfl⟩
 case round =>
  obtain⟨rfl,rfl,rfl⟩:=hrel
  go_wp2
  go_ret2
  exact⟨rfl,rfl⟩
theorem zsN(gb:Nat)(a:Option Addr)(c:Nat)(t:Int)(w:World)(hg:w.cell? ⟨gb,16,none⟩=some (.slice a 0 c)) :
  Calls Tryz.prog 145 #[.pointer (some ⟨gb,0,none⟩),.int .i64 t] w fun e w'=>e=.returned (.tuple #[.int .i64 0,.bool false])∧w'=w:=by
 have hC:=znK a c (.int .i64 t) (.func (.func 173) #[] #[]) w
 go_enter Tryz.func145,Tryz.ntmps145
 go_wp2_with fail
 refine hC.mono ?_
 rintro e w' ⟨rfl,rfl⟩
 clear hC
 go_wp2
 go_ret2
 exact⟨rfl,rfl⟩
theorem zoH(sb:Nat)(a:Option Addr)(c:Nat)(u:Value)(w:World)(hs:w.cell? ⟨sb,1,none⟩=some (.slice a 0 c)) :
  Calls Tryz.prog 175 #[.pointer (some ⟨sb,0,none⟩),u] w fun e w'=>e=.returned (.tuple #[.int .i64 0,.bool false])∧w'=w:=by
 have hC:=zkH a c u (.func (.func 196) #[] #[]) w
 go_enter Tryz.func175,Tryz.ntmps175
 go_wp2_with fail
 refine hC.mono ?_
 rintro e w' ⟨rfl,rfl⟩
 clear hC
 go_wp2
 go_ret2
 exact⟨rfl,rfl⟩
theorem zlF(sb:Nat)(a:Option Addr)(c:Nat)(u:Value)(w:World)(hs:w.cell? ⟨sb,1,none⟩=some (.slice a 0 c)) :
  Calls Tryz.prog 146 #[.pointer (some ⟨sb,0,none⟩),u] w fun e w'=>e=.returned (.bool true)∧w'=w:=by
 have hC:=zoH sb a c u w hs
 go_enter Tryz.func146,Tryz.ntmps146
 go_wp2_with fail
 refine hC.mono ?_
 rintro e w' ⟨rfl,rfl⟩
 clear hC
 go_wp2
 go_ret
 exact⟨rfl,rfl⟩
theorem zfI(sb b n c m:Nat)(zs:Nat→Nat)(K:Nat→List V3)(q2:Option Addr)(c2:Nat)(ls:List V3)(av tv:Value)(w:World)(hs:w.cell? ⟨sb,1,none⟩=some (.slice (some ⟨b,0,none⟩) n c))(hK:zmX w b n m zs K)(hl:ls.length=m)(h2:zah w q2 ls)(hs2:∀v∈ls,v.2.2.size≤maxLen)
  (k:Nat)(hk:k<n)(hb1:∀j,j<k→keyC (K j) ls<0)(hb2:∀j,k≤j→j<n→0≤keyC (K j) ls)(h0:keyC (K k) ls=0) :
  Calls Tryz.prog 178 #[.pointer (some ⟨sb,0,none⟩),.slice q2 m c2,av,tv] w fun e w'=>e=.returned (.tuple #[.pointer (some ⟨zs k,0,none⟩),.nilIface])∧Below w.heap.size w w':=by
 have hsl:sb<w.heap.size:=by
  rcases Nat.lt_or_ge sb w.heap.size with h|h
  ·exact h
  ·simp[World.cell?,Array.getElem?_eq_none h] at hs
 have hC:=zql sb b n c m zs K q2 c2 ls w hs hK hl h2 hs2 k (by omega) hb1 hb2
 rw[h0,show (decide (k<n)&&((0:Int) == 0))=true by simp[hk]] at hC
 have hp:=hK.ptr k hk
 have hbl:=hK.lt
 have hn:=hK.le
 generalize zs k=z at hp ⊢
 clear hb1 hb2 hK h2 hs2 hl h0
 have hkz:(k:Int)<(n:Int):=by omega
 have hk0:(0:Int)≤(k:Int):=by omega
 go_enter Tryz.func178,Tryz.ntmps178
 go_wp2_with fail
 refine hC.mono ?_
 rintro e w' ⟨rfl,hB⟩
 have hs':w'.cell? ⟨sb,1,none⟩=some (.slice (some ⟨b,0,none⟩) n c):=by rw[hB.cell (p:=⟨sb,1,none⟩) hsl];exact hs
 have hp':w'.cell? ⟨b,k,none⟩=some (.pointer (some ⟨z,0,none⟩)):=by rw[hB.cell (p:=⟨b,k,none⟩) hbl];exact hp
 have HB:=(show Aside _ from hB)
 clear hC hB hs hp
 go_wp2
 go_ret2
 exact⟨rfl,HB.out⟩
end
def OkV(t:Int)(v:V3):Prop:=v.1=t∧chk v.1 v.2.1 v.2.2.data.toList=0
theorem OkV.text{v:V3}(h:OkV 3 v):v.2.1=0:=by
 obtain⟨h1,h2⟩:=h
 rw[h1] at h2
 unfold chk at h2
 split at h2
 ·cases h2
 ·split at h2
  ·cases h2
  ·split at h2
   ·cases h2
   ·split at h2
    ·cases h2
    ·next h=>simp at h;exact h
theorem OkV.other{t:Int}{v:V3}(h:OkV t v)(ht:t≠3):v.2.2.data.toList=[]:=by
 obtain⟨h1,h2⟩:=h
 rw[h1] at h2
 unfold chk at h2
 split at h2
 ·cases h2
 ·split at h2
  ·cases h2
  ·split at h2
   ·cases h2
   ·split at h2
    ·cases h2
    ·next h=>simp[ht] at h;simpa using h
theorem zdw{t:Int}{a b:V3}(ha:OkV t a)(hb:OkV t b):cmpV3 a b=if t=3 then cmpS a.2.2.data.toList b.2.2.data.toList else cmpI a.2.1 b.2.1:=by
 obtain⟨h1,h2⟩:=ha
 obtain⟨h3,h4⟩:=hb
 unfold cmpV3 cmpN cmpE
 rw[if_neg (by rw[if_neg (by simp[h2]),if_neg (by simp[h4]),if_neg (by simp[h1,h3])];simp),h1]
theorem ziE{a b:ByteArray}(h:a.data.toList=b.data.toList):a=b:=by
 obtain⟨a⟩:=a
 obtain⟨b⟩:=b
 congr 1
 exact Array.ext' h
theorem zcw(x y:List UInt8):(x<y∧cmpS x y=-1∧cmpS y x=1)∨(x=y∧cmpS x y=0)∨(y<x∧cmpS x y=1∧cmpS y x=-1):=by
 by_cases h1:x<y
 ·have h2:¬y<x:=fun h=>List.lt_irrefl _ (List.lt_trans h1 h)
  exact .inl ⟨h1,by rw[cmpS,if_pos h1],by rw[cmpS,if_neg h2,if_pos h1]⟩
 ·by_cases h2:y<x
  ·exact .inr (.inr ⟨h2,by rw[cmpS,if_neg h1,if_pos h2],by rw[cmpS,if_pos h2]⟩)
  ·exact .inr (.inl ⟨List.le_antisymm (List.not_lt.1 h2) (List.not_lt.1 h1),by rw[cmpS,if_neg h1,if_neg h2]⟩)
theorem zcG(x y:Int):(x<y∧cmpI x y=-1∧cmpI y x=1)∨(x=y∧cmpI x y=0)∨(y<x∧cmpI x y=1∧cmpI y x=-1):=by
 by_cases h1:x<y
 ·exact .inl ⟨h1,by rw[cmpI,if_pos h1],by rw[cmpI,if_neg (by omega),if_pos h1]⟩
 ·by_cases h2:y<x
  ·exact .inr (.inr ⟨h2,by rw[cmpI,if_neg h1,if_pos h2],by rw[cmpI,if_pos h2]⟩)
  ·exact .inr (.inl ⟨by omega,by rw[cmpI,if_neg h1,if_neg h2]⟩)
theorem zcA{t:Int}{a b:V3}(ha:OkV t a)(hb:OkV t b):(cmpV3 a b=-1∧cmpV3 b a=1)∨(a=b∧cmpV3 a b=0)∨(cmpV3 a b=1∧cmpV3 b a=-1):=by
 rw[zdw ha hb,zdw hb ha]
 have e1:=ha.1
 have e2:=hb.1
 by_cases ht:t=3
 ·subst ht
  rw[if_pos rfl,if_pos rfl]
  rcases zcw a.2.2.data.toList b.2.2.data.toList with h|h|h
  ·exact .inl h.2
  ·refine .inr (.inl ⟨?_,h.2⟩)
   exact Prod.ext (e1.trans e2.symm) (Prod.ext (ha.text.trans hb.text.symm) (ziE h.1))
  ·exact .inr (.inr h.2)
 ·rw[if_neg ht,if_neg ht]
  rcases zcG a.2.1 b.2.1 with h|h|h
  ·exact .inl h.2
  ·refine .inr (.inl ⟨?_,h.2⟩)
   exact Prod.ext (e1.trans e2.symm) (Prod.ext h.1 (ziE ((ha.other ht).trans (hb.other ht).symm)))
  ·exact .inr (.inr h.2)
theorem zjC{t:Int}{a b c:V3}(ha:OkV t a)(hb:OkV t b)(hc:OkV t c)(h1:cmpV3 a b<0)(h2:cmpV3 b c<0):cmpV3 a c<0:=by
 rw[zdw ha hb] at h1
 rw[zdw hb hc] at h2
 rw[zdw ha hc]
 by_cases ht:t=3
 ·subst ht
  rw[if_pos rfl] at *
  rcases zcw a.2.2.data.toList b.2.2.data.toList with h|h|h<;>rcases zcw b.2.2.data.toList c.2.2.data.toList with k|k|k<;>first|omega|(rw[cmpS,if_pos (List.lt_trans h.1 k.1)];decide)
 ·rw[if_neg ht] at *
  rcases zcG a.2.1 b.2.1 with h|h|h<;>rcases zcG b.2.1 c.2.1 with k|k|k<;>first|omega|(rw[cmpI,if_pos (Int.lt_trans h.1 k.1)];decide)
def OkK:List Int→List V3→Prop
 | [],[]=>True
 | t::ts,v::vs=>OkV t v∧OkK ts vs
 | _,_=>False
theorem zbZ:∀{ts:List Int} {a b:List V3},OkK ts a→OkK ts b→(keyC a b<0∧0<keyC b a)∨(a=b∧keyC a b=0)∨(0<keyC a b∧keyC b a<0)
 | [],[],[],_,_=>.inr (.inl ⟨rfl,rfl⟩)
 | t::ts,x::l,y::m,ha,hb=>by
  have ih:=zbZ ha.2 hb.2
  rcases zcA ha.1 hb.1 with h|h|h
  ·left
   rw[keyC,keyC,if_pos (by omega),if_pos (by omega)]
   omega
  ·obtain⟨rfl,h⟩:=h
   rw[keyC,keyC,if_neg (by omega),if_neg (by omega)]
   rcases ih with k|k|k
   ·exact .inl k
   ·exact .inr (.inl ⟨by rw[k.1],k.2⟩)
   ·exact .inr (.inr k)
  ·right;right
   rw[keyC,keyC,if_pos (by omega),if_pos (by omega)]
   omega
 | [],_::_,_,ha,_=>ha.elim
 | [],[],_::_,_,hb=>hb.elim
 | _::_,[],_,ha,_=>ha.elim
 | _::_,_::_,[],_,hb=>hb.elim
theorem zfU:∀{ts:List Int} {a b c:List V3},OkK ts a→OkK ts b→OkK ts c→keyC a b<0→keyC b c<0→keyC a c<0
 | [],[],[],[],_,_,_,h,_=>by simp[keyC] at h
 | t::ts,x::l,y::m,z::n,ha,hb,hc,h1,h2=>by
  rw[keyC] at h1 h2 ⊢
  rcases zcA ha.1 hb.1 with h|h|h
  ·rcases zcA hb.1 hc.1 with k|k|k
   ·have:=zjC ha.1 hb.1 hc.1 (by omega) (by omega)
    rw[if_pos (by omega)];exact this
   ·obtain⟨rfl,k⟩:=k
    rw[if_pos (by omega)];omega
   ·rw[if_pos (by omega)] at h2;omega
  ·obtain⟨rfl,h⟩:=h
   rw[if_neg (by omega)] at h1
   by_cases hz:cmpV3 x z=0
   ·rw[if_neg (by omega)] at h2 ⊢
    exact zfU ha.2 hb.2 hc.2 h1 h2
   ·rw[if_pos hz] at h2 ⊢
    exact h2
  ·rw[if_pos (by omega)] at h1;omega
 | [],_::_,_,_,ha,_,_,_,_=>ha.elim
 | [],[],_::_,_,_,hb,_,_,_=>hb.elim
 | [],[],[],_::_,_,_,hc,_,_=>hc.elim
 | _::_,[],_,_,ha,_,_,_,_=>ha.elim
 | _::_,_::_,[],_,_,hb,_,_,_=>hb.elim
 | _::_,_::_,_::_,[],_,_,hc,_,_=>hc.elim
abbrev Ot:=List V3×Int×Int
abbrev PG:=List V3×List (List V3)
abbrev PW:=Int×List PG
open Classical in
noncomputable def tlE(ps0:List Pt)(rs:List (List V3)):Int:=if h:∃ps,Acu ps0 rs ps then reE h.choose (rs.length:Int) else 0
open Classical in
noncomputable def tlR(ps0:List Pt)(rs:List (List V3)):List V3:=if h:∃ps,Acu ps0 rs ps then reV h.choose (rs.length:Int) else []
theorem tl_of{ps0 ps:List Pt}{rs:List (List V3)}(h:Acu ps0 rs ps):reE ps (rs.length:Int)=tlE ps0 rs∧reV ps (rs.length:Int)=tlR ps0 rs:=by
 have hx:∃ps,Acu ps0 rs ps:=⟨ps,h⟩
 rw[tlE,tlR,dif_pos hx,dif_pos hx]
 exact zmS h hx.choose_spec (List.Perm.refl _)
noncomputable def gOt(ps0:List Pt)(fr:Int)(g:PG):Ot:=if tlE ps0 g.2=0 then (g.1++tlR ps0 g.2,0,fr) else ([],tlE ps0 g.2,fr)
noncomputable def wOt(ps0:List Pt)(x:PW):List Ot:=x.2.map (gOt ps0 x.1)
def gAdd(key vs:List V3):List PG→List PG
 | []=>[(key,[vs])]
 | g::t=>if keyC g.1 key<0 then g::gAdd key vs t else if keyC g.1 key=0 then (g.1,g.2++[vs])::t else (key,[vs])::g::t
def wAdd(key vs:List V3)(fr:Int):List PW→List PW
 | []=>[(fr,gAdd key vs [])]
 | x::t=>if x.1<fr then x::wAdd key vs fr t else if x.1=fr then (x.1,gAdd key vs x.2)::t else (fr,gAdd key vs [])::x::t
def gRoom(key:List V3)(l:List PG):Bool:=l.any (fun g=>keyC g.1 key == 0)||decide (l.length<40)
def wFull(key:List V3)(l:List PW)(fr:Int):Bool:=l.any fun x=>x.1 == fr&&!gRoom key x.2
structure GOk(kt:List Int)(c:Nat)(l:List PG):Prop where
 ok:∀g∈l,OkK kt g.1∧g.2.length≤c
 rise:l.Pairwise fun g h=>keyC g.1 h.1<0
 few:l.length≤40
structure WOk(kt:List Int)(c:Nat)(l:List PW):Prop where
 ok:∀x∈l,GOk kt c x.2
 rise:l.Pairwise fun x y=>x.1<y.1
theorem znA{kt:List Int}{a b:List V3}(ha:OkK kt a)(hb:OkK kt b)(h:keyC a b=0):a=b:=by
 rcases zbZ ha hb with h1|h1|h1
 ·omega
 ·exact h1.1
 ·omega
theorem zca{α:Type}(f:α→List V3)(kt:List Int)(key:List V3)(hk:OkK kt key):∀(l:List α),(∀a∈l,OkK kt (f a))→(l.Pairwise fun a b=>keyC (f a) (f b)<0)→∃l1 l2,l=l1++l2∧(∀a∈l1,keyC (f a) key<0)∧(∀a∈l2,0≤keyC (f a) key)∧(∀a∈l2.tail,0<keyC (f a) key)
 | [],_,_=>⟨[],[],rfl,by simp,by simp,by simp⟩
 | g::t,hok,hr=>by
  have hg:=hok g (List.mem_cons_self ..)
  have ht:∀a∈t,OkK kt (f a):=fun a ha=>hok a (List.mem_cons_of_mem _ ha)
  obtain⟨hr1,hr2⟩:=List.pairwise_cons.1 hr
  by_cases hc:keyC (f g) key<0
  ·obtain⟨l1,l2,e,h1,h2,h3⟩:=zca f kt key hk t ht hr2
   exact⟨g::l1,l2,by rw[e];rfl,fun a ha=>by
    rcases List.mem_cons.1 ha with rfl|ha
    ·exact hc
    ·exact h1 a ha,h2,h3⟩
  ·have hb:∀a∈t,0<keyC (f a) key:=fun a ha=>by
    rcases zbZ (ht a ha) hk with h|h|h
    ·exact absurd (zfU hg (ht a ha) hk (hr1 a ha) h.1) hc
    ·exact absurd (by have:=hr1 a ha;rw[h.1] at this;exact this) hc
    ·exact h.1
   refine⟨[],g::t,rfl,by simp,fun a ha=>?_,hb⟩
   rcases List.mem_cons.1 ha with rfl|ha
   ·omega
   ·have:=hb a ha;omega
theorem zcW(key vs:List V3)(l2:List PG):∀l1:List PG,(∀g∈l1,keyC g.1 key<0)→gAdd key vs (l1++l2)=l1++gAdd key vs l2
 | [],_=>rfl
 | g::t,h=>by
  rw[List.cons_append,gAdd,if_pos (h g (List.mem_cons_self ..)),zcW key vs l2 t (fun a ha=>h a (List.mem_cons_of_mem _ ha))]
  rfl
theorem zkj(key vs:List V3):∀l2:List PG,(∀g∈l2,0<keyC g.1 key)→gAdd key vs l2=(key,[vs])::l2
 | [],_=>rfl
 | g::t,h=>by
  have:=h g (List.mem_cons_self ..)
  rw[gAdd,if_neg (by omega),if_neg (by omega)]
theorem zmh(key vs:List V3)(g:PG)(t:List PG)(h:keyC g.1 key=0):gAdd key vs (g::t)=(g.1,g.2++[vs])::t:=by
 rw[gAdd,if_neg (by omega),if_pos h]
theorem zmT{kt:List Int}{a b:List V3}(ha:OkK kt a)(hb:OkK kt b)(h:0<keyC a b):keyC b a<0:=by
 rcases zbZ ha hb with h1|h1|h1
 ·omega
 ·omega
 ·exact h1.2
theorem GOk.add{kt:List Int}{c:Nat}{l:List PG}{key:List V3}(h:GOk kt c l)(hk:OkK kt key)(hr:gRoom key l=true)(vs:List V3):GOk kt (c+1) (gAdd key vs l):=by
 obtain⟨l1,l2,rfl,h1,h2,h3⟩:=zca (·.1) kt key hk l (fun g hg=>(h.ok g hg).1) h.rise
 obtain⟨p1,p2,p3⟩:=List.pairwise_append.1 h.rise
 have o1:∀g∈l1,OkK kt g.1∧g.2.length≤c:=fun g hg=>h.ok g (List.mem_append_left _ hg)
 have o2:∀g∈l2,OkK kt g.1∧g.2.length≤c:=fun g hg=>h.ok g (List.mem_append_right _ hg)
 have up:∀{g:PG},OkK kt g.1∧g.2.length≤c→OkK kt g.1∧g.2.length≤c+1:=fun h=>⟨h.1,by omega⟩
 rw[zcW key vs l2 l1 h1]
 have hf:=h.few
 rw[List.length_append] at hf
 have hnew:(∀g∈l2,0<keyC g.1 key)→GOk kt (c+1) (l1++gAdd key vs l2):=fun hp=>by
  rw[zkj key vs l2 hp]
  refine⟨fun g hg=>?_,List.pairwise_append.2 ⟨p1,List.pairwise_cons.2 ⟨fun b hb=>zmT (o2 b hb).1 hk (hp b hb),p2⟩,fun a ha b hb=>?_⟩,?_⟩
  ·rcases List.mem_append.1 hg with hg|hg
   ·exact up (o1 g hg)
   ·rcases List.mem_cons.1 hg with rfl|hg
    ·exact⟨hk,by simp⟩
    ·exact up (o2 g hg)
  ·rcases List.mem_cons.1 hb with rfl|hb
   ·exact h1 a ha
   ·exact p3 a ha b hb
  ·rw[gRoom,Bool.or_eq_true] at hr
   rcases hr with hr|hr
   ·obtain⟨g,hg,hz⟩:=List.any_eq_true.1 hr
    have hz:keyC g.1 key=0:=by simpa using hz
    rcases List.mem_append.1 hg with hg|hg
    ·have:=h1 g hg;omega
    ·have:=hp g hg;omega
   ·have:=of_decide_eq_true hr
    rw[List.length_append] at this
    rw[List.length_append,List.length_cons];omega
 cases l2 with
 | nil=>exact hnew (by simp)
 | cons g t =>
  by_cases hz:keyC g.1 key=0
  ·rw[zmh key vs g t hz]
   obtain⟨q1,q2⟩:=List.pairwise_cons.1 p2
   refine⟨fun b hb=>?_,List.pairwise_append.2 ⟨p1,List.pairwise_cons.2 ⟨q1,q2⟩,fun a ha b hb=>?_⟩,by simpa using hf⟩
   ·rcases List.mem_append.1 hb with hb|hb
    ·exact up (o1 b hb)
    ·rcases List.mem_cons.1 hb with rfl|hb
     ·have:=o2 g (List.mem_cons_self ..);exact⟨this.1,by simp;omega⟩
     ·exact up (o2 b (List.mem_cons_of_mem _ hb))
   ·rcases List.mem_cons.1 hb with rfl|hb
    ·exact p3 a ha g (List.mem_cons_self ..)
    ·exact p3 a ha b (List.mem_cons_of_mem _ hb)
  ·refine hnew fun a ha=>?_
   rcases List.mem_cons.1 ha with rfl|ha
   ·have:=h2 a (List.mem_cons_self ..);omega
   ·exact h3 a ha
theorem GOk.up{kt:List Int}{c d:Nat}{l:List PG}(h:GOk kt c l)(hd:c≤d):GOk kt d l:=⟨fun g hg=>⟨(h.ok g hg).1,by have:=(h.ok g hg).2;omega⟩,h.rise,h.few⟩
theorem zcY{α:Type}(f:α→Int)(fr:Int):∀(l:List α),(l.Pairwise fun a b=>f a<f b)→∃l1 l2,l=l1++l2∧(∀a∈l1,f a<fr)∧(∀a∈l2,fr≤f a)∧(∀a∈l2.tail,fr<f a)
 | [],_=>⟨[],[],rfl,by simp,by simp,by simp⟩
 | g::t,hr=>by
  obtain⟨hr1,hr2⟩:=List.pairwise_cons.1 hr
  by_cases hc:f g<fr
  ·obtain⟨l1,l2,e,h1,h2,h3⟩:=zcY f fr t hr2
   exact⟨g::l1,l2,by rw[e];rfl,fun a ha=>by
    rcases List.mem_cons.1 ha with rfl|ha
    ·exact hc
    ·exact h1 a ha,h2,h3⟩
  ·have hb:∀a∈t,fr<f a:=fun a ha=>by have:=hr1 a ha;omega
   refine⟨[],g::t,rfl,by simp,fun a ha=>?_,hb⟩
   rcases List.mem_cons.1 ha with rfl|ha
   ·omega
   ·have:=hb a ha;omega
theorem zdn(key vs:List V3)(fr:Int)(l2:List PW):∀l1:List PW,(∀x∈l1,x.1<fr)→wAdd key vs fr (l1++l2)=l1++wAdd key vs fr l2
 | [],_=>rfl
 | g::t,h=>by
  rw[List.cons_append,wAdd,if_pos (h g (List.mem_cons_self ..)),zdn key vs fr l2 t (fun a ha=>h a (List.mem_cons_of_mem _ ha))]
  rfl
theorem zlB(key vs:List V3)(fr:Int):∀l2:List PW,(∀x∈l2,fr<x.1)→wAdd key vs fr l2=(fr,gAdd key vs [])::l2
 | [],_=>rfl
 | g::t,h=>by
  have:=h g (List.mem_cons_self ..)
  rw[wAdd,if_neg (by omega),if_neg (by omega)]
theorem zlZ(key vs:List V3)(fr:Int)(x:PW)(t:List PW)(h:x.1=fr):wAdd key vs fr (x::t)=(x.1,gAdd key vs x.2)::t:=by
 rw[wAdd,if_neg (by omega),if_pos h]
theorem WOk.up{kt:List Int}{c d:Nat}{l:List PW}(h:WOk kt c l)(hd:c≤d):WOk kt d l:=⟨fun g hg=>(h.ok g hg).up hd,h.rise⟩
theorem GOk.one{kt:List Int}{c:Nat}{key:List V3}(hk:OkK kt key)(vs:List V3):GOk kt (c+1) (gAdd key vs []) :=
 ⟨fun g hg=>by rw[gAdd] at hg;rw[List.mem_singleton.1 hg];exact⟨hk,by simp⟩,by simp[gAdd],by simp[gAdd]⟩
theorem WOk.add{kt:List Int}{c:Nat}{l:List PW}{key:List V3}(h:WOk kt c l)(hk:OkK kt key)(fr:Int)(hr:wFull key l fr=false)(vs:List V3):WOk kt (c+1) (wAdd key vs fr l):=by
 obtain⟨l1,l2,rfl,h1,h2,h3⟩:=zcY (·.1) fr l h.rise
 obtain⟨p1,p2,p3⟩:=List.pairwise_append.1 h.rise
 have o1:∀g∈l1,GOk kt (c+1) g.2:=fun g hg=>(h.ok g (List.mem_append_left _ hg)).up (by omega)
 have o2:∀g∈l2,GOk kt (c+1) g.2:=fun g hg=>(h.ok g (List.mem_append_right _ hg)).up (by omega)
 rw[zdn key vs fr l2 l1 h1]
 have hnew:(∀g∈l2,fr<g.1)→WOk kt (c+1) (l1++wAdd key vs fr l2):=fun hp=>by
  rw[zlB key vs fr l2 hp]
  refine⟨fun g hg=>?_,List.pairwise_append.2 ⟨p1,List.pairwise_cons.2 ⟨fun b hb=>hp b hb,p2⟩,fun a ha b hb=>?_⟩⟩
  ·rcases List.mem_append.1 hg with hg|hg
   ·exact o1 g hg
   ·rcases List.mem_cons.1 hg with rfl|hg
    ·exact GOk.one hk vs
    ·exact o2 g hg
  ·rcases List.mem_cons.1 hb with rfl|hb
   ·exact h1 a ha
   ·exact p3 a ha b hb
 cases l2 with
 | nil=>exact hnew (by simp)
 | cons g t =>
  by_cases hz:g.1=fr
  ·rw[zlZ key vs fr g t hz]
   obtain⟨q1,q2⟩:=List.pairwise_cons.1 p2
   have hg:=h.ok g (List.mem_append_right _ (List.mem_cons_self ..))
   have hroom:gRoom key g.2=true:=by
    rw[wFull] at hr
    have:=List.any_eq_false.1 hr g (List.mem_append_right _ (List.mem_cons_self ..))
    simpa [hz] using this
   refine⟨fun b hb=>?_,List.pairwise_append.2 ⟨p1,List.pairwise_cons.2 ⟨q1,q2⟩,fun a ha b hb=>?_⟩⟩
   ·rcases List.mem_append.1 hb with hb|hb
    ·exact o1 b hb
    ·rcases List.mem_cons.1 hb with rfl|hb
     ·exact hg.add hk hroom vs
     ·exact o2 b (List.mem_cons_of_mem _ hb)
   ·rcases List.mem_cons.1 hb with rfl|hb
    ·exact p3 a ha g (List.mem_cons_self ..)
    ·exact p3 a ha b (List.mem_cons_of_mem _ hb)
  ·refine hnew fun a ha=>?_
   rcases List.mem_cons.1 ha with rfl|ha
   ·have:=h2 a (List.mem_cons_self ..);omega
   ·exact h3 a ha
theorem zfr:∀(l:List PW) (a b:Int),(l.Pairwise fun x y=>x.1<y.1)→(∀x∈l,a≤x.1∧x.1≤b)→(l.length:Int)≤max 0 (b-a+1)
 | [],a,b,_,_=>by simp;omega
 | x::t,a,b,hr,h=>by
  obtain⟨h1,h2⟩:=List.pairwise_cons.1 hr
  have hx:=h x (List.mem_cons_self ..)
  have:=zfr t (x.1+1) b h2 (fun y hy=>⟨by have:=h1 y hy;omega,(h y (List.mem_cons_of_mem _ hy)).2⟩)
  rw[List.length_cons]
  push_cast
  omega
def Gm.pl(g:Gm):PG:=(g.key,g.rs)
def Wm.pl(x:Wm):PW:=(x.fr,x.gs.map Gm.pl)
theorem OkK.len:∀{ts:List Int} {l:List V3},OkK ts l→l.length=ts.length
 | [],[],_=>rfl
 | t::ts,v::vs,h=>by rw[List.length_cons,List.length_cons,OkK.len h.2]
 | [],_::_,h=>h.elim
 | _::_,[],h=>h.elim
theorem OkK.small:∀{ts:List Int} {l:List V3},OkK ts l→∀v∈l,v.2.2.size≤40
 | [],[],_=>fun v h=>by cases h
 | t::ts,v::vs,h=>fun u hu=>by
  rcases List.mem_cons.1 hu with rfl|hu
  ·have:=zdP h.1.2;simpa using this
  ·exact OkK.small h.2 u hu
 | [],_::_,h=>h.elim
 | _::_,[],h=>h.elim
def dgm:Gm:=⟨0,[],0,.nilIface,[]⟩
def hdZ(ls:List V3):List Gm→Bool
 | []=>false
 | g::_=>keyC g.key ls == 0
theorem zbq{α:Type}{l:List α}{d:α}{j:Nat}(h:j<l.length):l.getD j d=l[j]:=by rw[List.getD_eq_getElem?_getD,List.getElem?_eq_getElem h];rfl
theorem zbt{α:Type}{l:List α}{d:α}{j:Nat}(h:j<l.length):l.getD j d∈l:=by rw[zbq h];exact List.getElem_mem h
theorem WmAt.keys{w:World}{base:Nat}{ps0:List Pt}{x:Wm}(h:WmAt w base ps0 x){kt:List Int}(hk:∀g∈x.gs,OkK kt g.key)(hn:x.gs.length≤1000)(hm:kt.length≤1000){g c:Nat}(hg:x.gv=.slice (some ⟨g,0,none⟩) x.gs.length c):zmX w g x.gs.length kt.length (fun j=>(x.gs.getD j dgm).z) (fun j=>(x.gs.getD j dgm).key):=by
 have hrow:=h.row
 rw[hg] at hrow
 refine⟨(zdW hrow g rfl).2,by omega,by omega,fun j hj=>?_,fun j hj=>?_,fun j hj v hv=>?_⟩
 ·have:=World.ownsRow.cells hrow (g:=g) rfl j (x.gs.getD j dgm).p (by rw[List.getElem?_map,List.getElem?_eq_getElem hj,zbq hj];rfl)
  rw[Go.WideShapes.add_plain,Nat.zero_add] at this
  exact this
 ·have hmem:=zbt (d:=dgm) hj
  generalize x.gs.getD j dgm=y at hmem ⊢
  obtain⟨kv,h1,h2⟩:=(h.gp y hmem).blk
  obtain⟨q,c,rfl⟩:=zaa h2
  have hl:=(hk y hmem).len
  refine⟨hl,q,c,?_,zev rfl h2⟩
  have:=h1.cell 0
  rw[←hl]
  simpa using this
 ·have:=(hk _ (zbt (d:=dgm) hj)).small v hv
  unfold maxLen;omega
theorem zhD{l1 l2 gs:List Gm}{ls:List V3}(hs:gs=l1++l2)(h1:∀g∈l1,keyC g.key ls<0)(h2:∀g∈l2,0≤keyC g.key ls):(∀j,j<l1.length→keyC (gs.getD j dgm).key ls<0)∧(∀j,l1.length≤j→j<gs.length→0≤keyC (gs.getD j dgm).key ls)∧(decide (l1.length<gs.length)&&(keyC (gs.getD l1.length dgm).key ls == 0))=hdZ ls l2:=by
 subst hs
 refine⟨fun j hj=>?_,fun j h3 h4=>?_,?_⟩
 ·have e:(l1++l2).getD j dgm=l1[j]:=by rw[List.getD_eq_getElem?_getD,List.getElem?_append_left hj,List.getElem?_eq_getElem hj];rfl
  rw[e];exact h1 _ (List.getElem_mem _)
 ·have h5:j-l1.length<l2.length:=by rw[List.length_append] at h4;omega
  have e:(l1++l2).getD j dgm=l2[j-l1.length]:=by rw[List.getD_eq_getElem?_getD,List.getElem?_append_right h3,List.getElem?_eq_getElem h5];rfl
  rw[e];exact h2 _ (List.getElem_mem _)
 ·cases l2 with
  | nil=>simp[hdZ]
  | cons g t =>
   have e:(l1++g::t).getD l1.length dgm=g:=by rw[List.getD_eq_getElem?_getD,List.getElem?_append_right (Nat.le_refl _),Nat.sub_self];rfl
   rw[e]
   simp[hdZ]
theorem wfind{w:World}{base:Nat}{ps0:List Pt}{x:Wm}(h:WmAt w base ps0 x){kt:List Int}(hk:∀g∈x.gs,OkK kt g.key)(hn:x.gs.length≤1000)(hm:kt.length≤1000)(q2:Option Addr)(c2:Nat)(ls:List V3)(hl:OkK kt ls)(hv:zah w q2 ls)(l1 l2:List Gm)(hs:x.gs=l1++l2)(h1:∀g∈l1,keyC g.key ls<0)(h2:∀g∈l2,0≤keyC g.key ls) :
  Calls Tryz.prog 175 #[.pointer (some ⟨x.z,0,none⟩),.slice q2 ls.length c2] w fun e w'=>e=.returned (.tuple #[.int .i64 (l1.length:Int),.bool (hdZ ls l2)])∧Below w.heap.size w w':=by
 obtain⟨q,c,hq⟩:=zaa h.row
 have hc:=h.blk.cell 1
 have hc1:w.cell? ⟨x.z,1,none⟩=some x.gv:=by simpa using hc
 obtain⟨b1,b2,b3⟩:=zhD hs h1 h2
 by_cases h0:x.gs.length=0
 ·have e1:l1=[]:=by rw[hs,List.length_append] at h0;exact List.length_eq_zero_iff.1 (by omega)
  have e2:l2=[]:=by rw[hs,List.length_append] at h0;exact List.length_eq_zero_iff.1 (by omega)
  subst e1 e2
  rw[hq,h0] at hc1
  refine (zoH x.z q c (.slice q2 ls.length c2) w hc1).mono ?_
  rintro e w' ⟨rfl,rfl⟩
  exact⟨rfl,Below.refl _ _⟩
 ·obtain⟨n,hn'⟩:∃n,x.gs.length=n+1:=⟨x.gs.length-1,by omega⟩
  have hrow:=h.row
  rw[hn'] at hrow
  obtain⟨g,cap,hg⟩:=zdQ hrow
  rw[←hn'] at hg
  rw[hg] at hc1
  have hK:=h.keys hk hn hm hg
  have hl1:l1.length≤x.gs.length:=by rw[hs,List.length_append];omega
  have:=zql x.z g x.gs.length cap kt.length (fun j=>(x.gs.getD j dgm).z) (fun j=>(x.gs.getD j dgm).key) q2 c2 ls w hc1 hK hl.len hv (fun v hv=>by have:=hl.small v hv;unfold maxLen;omega) l1.length hl1 b1 b2
  rw[b3,←hl.len] at this
  exact this
theorem wroom{w:World}{base:Nat}{ps0:List Pt}{x:Wm}(h:WmAt w base ps0 x){kt:List Int}(hk:∀g∈x.gs,OkK kt g.key)(hr:x.gs.Pairwise fun g h=>keyC g.key h.key<0)(hn:x.gs.length≤1000)(hm:kt.length≤1000)(q2:Option Addr)(c2:Nat)(ls:List V3)(hl:OkK kt ls)(hv:zah w q2 ls) :
  Calls Tryz.prog 146 #[.pointer (some ⟨x.z,0,none⟩),.slice q2 ls.length c2] w fun e w'=>e=.returned (.bool (gRoom ls (x.gs.map Gm.pl)))∧Below w.heap.size w w':=by
 obtain⟨l1,l2,hs,h1,h2,h3⟩:=zca (·.key) kt ls hl x.gs hk hr
 obtain⟨q,c,hq⟩:=zaa h.row
 have hc:=h.blk.cell 1
 have hc1:w.cell? ⟨x.z,1,none⟩=some x.gv:=by simpa using hc
 obtain⟨b1,b2,b3⟩:=zhD hs h1 h2
 have hroom:gRoom ls (x.gs.map Gm.pl)=(hdZ ls l2||decide (x.gs.length<40)):=by
  rw[gRoom,List.length_map]
  congr 1
  rw[hs,List.map_append,List.any_append]
  have e1:(l1.map Gm.pl).any (fun g=>keyC g.1 ls == 0)=false:=by
   rw[List.any_eq_false]
   intro g hg
   obtain⟨y,hy,rfl⟩:=List.mem_map.1 hg
   have:=h1 y hy
   show ¬((keyC y.key ls == 0)=true)
   simp;omega
  rw[e1,Bool.false_or]
  cases l2 with
  | nil=>rfl
  | cons g t =>
   rw[List.map_cons,List.any_cons]
   have e2:(t.map Gm.pl).any (fun g=>keyC g.1 ls == 0)=false:=by
    rw[List.any_eq_false]
    intro g' hg
    obtain⟨y,hy,rfl⟩:=List.mem_map.1 hg
    have:=h3 y hy
    show ¬((keyC y.key ls == 0)=true)
    simp;omega
   rw[e2,Bool.or_false]
   rfl
 rw[hroom]
 by_cases h0:x.gs.length=0
 ·rw[hq,h0] at hc1
  refine (zlF x.z q c (.slice q2 ls.length c2) w hc1).mono ?_
  rintro e w' ⟨rfl,rfl⟩
  refine⟨by rw[h0];simp,Below.refl _ _⟩
 ·obtain⟨n,hn'⟩:∃n,x.gs.length=n+1:=⟨x.gs.length-1,by omega⟩
  have hrow:=h.row
  rw[hn'] at hrow
  obtain⟨g,cap,hg⟩:=zdQ hrow
  rw[←hn'] at hg
  rw[hg] at hc1
  have hK:=h.keys hk hn hm hg
  have hl1:l1.length≤x.gs.length:=by rw[hs,List.length_append];omega
  have:=zmL x.z g x.gs.length cap kt.length (fun j=>(x.gs.getD j dgm).z) (fun j=>(x.gs.getD j dgm).key) q2 c2 ls w hc1 hK hl.len hv (fun v hv=>by have:=hl.small v hv;unfold maxLen;omega) l1.length hl1 b1 b2
  rw[b3,←hl.len] at this
  exact this
structure zmE(w w':World)(base:Nat)(ps0:List Pt)(x:Wm)(ls:List V3)(l1:List Gm)(x':Wm)(g:Gm)(l2:List Gm):Prop where
 at_:WmAt w' base ps0 x'
 form:x'.z=x.z∧x'.fr=x.fr∧x'.gs=l1++g::l2
 key:g.key=ls
 add:∀vs,gAdd ls vs (x.gs.map Gm.pl)=l1.map Gm.pl++(ls,g.rs++[vs])::l2.map Gm.pl
 kp:Kp (fun k=>k=x.z∨x.gv.ownBlock=some k) w w'
 foot:∀k,x'.S k→x.S k∨w.heap.size≤k
 rows:g∈x.gs∨g.rs=[]
theorem zgA{l1 l2:List Gm}{gs:List Gm}(hs:gs=l1++l2):(gs.map Gm.p).take l1.length=l1.map Gm.p∧(gs.map Gm.p).drop l1.length=l2.map Gm.p:=by
 subst hs
 rw[List.map_append]
 exact⟨by rw[List.take_append_of_le_length (by simp),List.take_of_length_le (by simp)],by rw[List.drop_append_of_le_length (by simp),List.drop_of_length_le (by simp)];rfl⟩
theorem zjt{w:World}{base:Nat}{ps0:List Pt}{x:Wm}(h:WmAt w base ps0 x){kt:List Int}(hk:∀g∈x.gs,OkK kt g.key)(hr:x.gs.Pairwise fun g h=>keyC g.key h.key<0)(hn:x.gs.length≤1000)(hm:kt.length≤1000)(q2:Option Addr)(c2:Nat)(ls:List V3)(hl:OkK kt ls)(hv:zah w q2 ls)(hbase:base≤w.heap.size)(av tv:Value)
  (hN:∀W,Below w.heap.size w W→Calls Tryz.prog 200 #[av,tv] W fun e w'=>∃a v,e=.returned (.tuple #[.pointer (some ⟨a,0,none⟩),.nilIface])∧Aside (AcAt w' a v ps0 []∧(∀k,accS a v k→W.heap.size≤k))∧Below W.heap.size W w') :
  Calls Tryz.prog 178 #[.pointer (some ⟨x.z,0,none⟩),.slice q2 ls.length c2,av,tv] w fun e w'=>∃gz,e=.returned (.tuple #[.pointer (some ⟨gz,0,none⟩),.nilIface])∧∃l1 x' g l2,g.z=gz∧zmE w w' base ps0 x ls l1 x' g l2:=by
 obtain⟨l1,l2,hs,h1,h2,h3⟩:=zca (·.key) kt ls hl x.gs hk hr
 have hF:=wfind h hk hn hm q2 c2 ls hl hv l1 l2 hs h1 h2
 obtain⟨q,c,hq⟩:=zaa h.row
 have hc:=h.blk.cell 1
 have hc1:w.cell? ⟨x.z,1,none⟩=some x.gv:=by simpa using hc
 obtain⟨b1,b2,b3⟩:=zhD hs h1 h2
 have hpl1:∀g∈l1.map Gm.pl,keyC g.1 ls<0:=fun g hg=>by obtain⟨y,hy,rfl⟩:=List.mem_map.1 hg;exact h1 y hy
 have hl1:l1.length≤x.gs.length:=by rw[hs,List.length_append];omega
 by_cases hz:hdZ ls l2=true
 ·obtain⟨g,t,rfl⟩:∃g t,l2=g::t:=by
   cases l2 with
   | nil=>simp[hdZ] at hz
   | cons g t=>exact⟨g,t,rfl⟩
  have hz0:keyC g.key ls=0:=by simpa [hdZ] using hz
  obtain⟨n,hn'⟩:∃n,x.gs.length=n+1:=⟨x.gs.length-1,by rw[hs,List.length_append,List.length_cons];omega⟩
  have hrow:=h.row
  rw[hn'] at hrow
  obtain⟨gg,cap,hg⟩:=zdQ hrow
  rw[←hn'] at hg
  rw[hg] at hc1
  have hK:=h.keys hk hn hm hg
  have hgm:g∈x.gs:=by rw[hs];exact List.mem_append_right _ (List.mem_cons_self ..)
  have hgl:x.gs.getD l1.length dgm=g:=by rw[hs,List.getD_eq_getElem?_getD,List.getElem?_append_right (Nat.le_refl _),Nat.sub_self];rfl
  have:=zfI x.z gg x.gs.length cap kt.length (fun j=>(x.gs.getD j dgm).z) (fun j=>(x.gs.getD j dgm).key) q2 c2 ls av tv w hc1 hK hl.len hv (fun v hv=>by have:=hl.small v hv;unfold maxLen;omega) l1.length (by rw[hs,List.length_append,List.length_cons];omega) b1 b2 (by rw[hgl];exact hz0)
  rw[hgl,←hl.len] at this
  refine this.mono ?_
  rintro e w' ⟨rfl,hB⟩
  have hke:g.key=ls:=znA (hk g hgm) hl hz0
  refine⟨_,rfl,l1,x,g,t,rfl,⟨h.on hB,⟨rfl,rfl,hs⟩,hke,fun vs=>?_,Kp.of_below hB,fun k hk=>.inl hk,.inl hgm⟩⟩
  rw[hs,List.map_append,zcW _ _ _ _ hpl1,List.map_cons,zmh _ _ _ _ hz0,Gm.pl,hke]
 ·have hzf:hdZ ls l2=false:=by simpa using hz
  rw[hzf] at hF
  have hp2:∀g∈l2,0<keyC g.key ls:=fun g hg=>by
   cases l2 with
   | nil=>cases hg
   | cons y t =>
    rcases List.mem_cons.1 hg with rfl|hg
    ·have:=h2 g (List.mem_cons_self ..)
     have h5:keyC g.key ls≠0:=by simpa [hdZ] using hzf
     omega
    ·exact h3 g hg
  have hblk:=h.blk
  have hrow:=h.row
  rw[hq] at hblk hrow
  obtain⟨m1,m2⟩:=zgA hs
  have:=zjA x.z base x.fr q x.gs.length c l1.length (x.gs.map Gm.p) ps0 q2 c2 ls av tv w hblk hrow (fun u hu=>by obtain⟨y,_,rfl⟩:=List.mem_map.1 hu;rfl) hl1 hn hbase hv (by rw[hl.len];exact hm) (fun v hv=>by have:=hl.small v hv;omega) hF hN
  refine this.mono ?_
  rintro e w' ⟨gz,rfl,a,v,q',c',kv,hA,hKp,hB⟩
  obtain⟨e1,e2,e3,e4,e5,e6,e7⟩:=hA.out
  rw[m1,m2] at e2
  have hsz:=hKp.out.size
  have hM:MutS w (fun k=>k=x.z∨(Value.slice q x.gs.length c).ownBlock=some k):=(MutS.one h.blk (by decide)).or (zdG hrow (by decide))
  have old:∀g∈x.gs,GmAt w' base ps0 g:=fun g hg=>(h.gp g hg).kp hKp.out hM (fun k hs hk=>by
   rcases hk with rfl|hk
   ·exact (h.gp g hg).acc.notblk h.blk (by decide) hs
   ·exact (h.gp g hg).acc.notown hrow (by decide) hk hs)
  have hnew:GmAt w' base ps0 ⟨gz,ls,a,v,[]⟩:=⟨⟨kv,e3,e4⟩,e5,fun k hk=>by have:=e6 k hk;omega⟩
  have hgs:∀g∈x.gs,∀k,g.S k→k<w.heap.size:=fun g hg k hk=>(h.gp g hg).acc.lt k hk
  have hdj:=h.dj
  rw[hs] at hdj
  obtain⟨p1,p2,p3⟩:=List.pairwise_append.1 hdj
  refine⟨gz,rfl,l1,⟨x.z,x.fr,.slice q' (x.gs.length+1) c',l1++⟨gz,ls,a,v,[]⟩::l2⟩,⟨gz,ls,a,v,[]⟩,l2,rfl,⟨⟨e1,?_,fun g hg=>?_,?_,h.low⟩,⟨rfl,rfl,rfl⟩,rfl,fun vs=>?_,by rw[hq];exact hKp.out,fun k hk=>?_,.inr rfl⟩⟩
  ·have hlen:(l1++(⟨gz,ls,a,v,[]⟩:Gm)::l2).length=x.gs.length+1:=by rw[hs];simp;omega
   rw[hlen,List.map_append,List.map_cons]
   exact e2
  ·rcases List.mem_append.1 hg with hg|hg
   ·exact old g (by rw[hs];exact List.mem_append_left _ hg)
   ·rcases List.mem_cons.1 hg with rfl|hg
    ·exact hnew
    ·exact old g (by rw[hs];exact List.mem_append_right _ hg)
  ·refine List.pairwise_append.2 ⟨p1,List.pairwise_cons.2 ⟨fun y hy k hk hk2=>?_,p2⟩,fun y hy z hz k hk hk2=>?_⟩
   ·have h6:=e6 k hk
    have h7:=hgs y (by rw[hs];exact List.mem_append_right _ hy) k hk2
    omega
   ·rcases List.mem_cons.1 hz with rfl|hz
    ·have h6:=e6 k hk2
     have h7:=hgs y (by rw[hs];exact List.mem_append_left _ hy) k hk
     omega
    ·exact p3 y hy z hz k hk hk2
  ·rw[hs,List.map_append,zcW _ _ _ _ hpl1,zkj _ _ _ (fun g hg=>by obtain⟨y,hy,rfl⟩:=List.mem_map.1 hg;exact hp2 y hy)]
   rfl
  ·rcases hk with hk|hk|⟨g,hg,hk⟩
   ·exact .inl (.inl hk)
   ·rcases hB.out with hb|⟨i,hb,hi⟩
    ·exact .inl (.inr (.inl (by rw[hq,←hb];exact hk)))
    ·right
     have hk:(Value.slice q' (x.gs.length+1) c').ownBlock=some k:=hk
     rw[hb] at hk
     injection hk with hk
     omega
   ·rcases List.mem_append.1 hg with hg|hg
    ·exact .inl (.inr (.inr ⟨g,by rw[hs];exact List.mem_append_left _ hg,hk⟩))
    ·rcases List.mem_cons.1 hg with rfl|hg
     ·exact .inr (e6 k hk)
     ·exact .inl (.inr (.inr ⟨g,by rw[hs];exact List.mem_append_right _ hg,hk⟩))
theorem WmAt.ty{w:World}{base:Nat}{ps0:List Pt}{x:Wm}(h:WmAt w base ps0 x){k:Nat}(hk:x.S k):∃cs t,Blk w k cs t∧(t=182∨t=254∨t=290∨t=298):=by
 rcases hk with rfl|hk|⟨g,hg,hs⟩
 ·exact⟨_,_,h.blk,.inl rfl⟩
 ·rcases h.row.2 with ⟨e1,-⟩|⟨g,cap,cur,e1,-,hg,-⟩
  ·rw[e1] at hk;simp[Value.ownBlock] at hk
  ·rw[e1] at hk
   have hk:g=k:=by simpa [Value.ownBlock] using hk
   subst hk
   exact⟨_,_,hg,.inr (.inl rfl)⟩
 ·obtain⟨cs,t,h1,h2⟩:=(h.gp g hg).acc.ty hs
  exact⟨cs,t,h1,.inr (.inr h2)⟩
theorem WmAt.notblk{w:World}{base:Nat}{ps0:List Pt}{x:Wm}(h:WmAt w base ps0 x){b:Nat}{cs:Array Value}{t:TypeId}(hb:Blk w b cs t)(ht:t≠182∧t≠254∧t≠290∧t≠298):¬x.S b:=fun hk=>by
 obtain⟨ds,u,h1,h2⟩:=h.ty hk
 exact zfq hb h1 (by rcases h2 with rfl|rfl|rfl|rfl;exact ht.1;exact ht.2.1;exact ht.2.2.1;exact ht.2.2.2) rfl
theorem WmAt.notown{w:World}{base:Nat}{ps0:List Pt}{x:Wm}(h:WmAt w base ps0 x){B n size:Nat}{u:Value}{e:TypeId}{xs:List Value}(ho:w.ownsRow B e size u n xs)(ht:e≠182∧e≠254∧e≠290∧e≠298){k:Nat}(hu:u.ownBlock=some k):¬x.S k:=by
 rcases ho.2 with ⟨e1,-⟩|⟨g,cap,cur,e1,-,hg,-⟩
 ·rw[e1] at hu;simp[Value.ownBlock] at hu
 ·rw[e1] at hu
  have hk:g=k:=by simpa [Value.ownBlock] using hu
  subst hk
  exact h.notblk (show Blk w g cur e from hg) ht
theorem WmAt.upd{w w':World}{base:Nat}{ps0:List Pt}{x:Wm}{l1 l2:List Gm}{g:Gm}(h:WmAt w base ps0 x)(hs:x.gs=l1++g::l2){rs':List (List V3)}(ha:AcAt w' g.a g.v ps0 rs')(hk:Kp (accS g.a g.v) w w'):WmAt w' base ps0 { x with gs:=l1++{ g with rs:=rs' }::l2 }:=by
 have hg:g∈x.gs:=by rw[hs];exact List.mem_append_right _ (List.mem_cons_self ..)
 have hgm:=h.gp g hg
 have hm:MutS w (accS g.a g.v):=hgm.acc.mut
 have hdj:=h.dj
 rw[hs] at hdj
 obtain⟨p1,p2,p3⟩:=List.pairwise_append.1 hdj
 obtain⟨q1,q2⟩:=List.pairwise_cons.1 p2
 have hlen:(l1++({ g with rs:=rs' }:Gm)::l2).length=x.gs.length:=by rw[hs];simp
 have hmap:(l1++({ g with rs:=rs' }:Gm)::l2).map Gm.p=x.gs.map Gm.p:=by rw[hs,List.map_append,List.map_append,List.map_cons,List.map_cons];rfl
 refine⟨h.blk.kp hk (hgm.acc.notblk h.blk (by decide)),?_,fun y hy=>?_,?_,h.low⟩
 ·rw[hlen,hmap]
  exact zgw h.row hk (fun k e hs=>hgm.acc.notown h.row (by decide) e hs)
 ·rcases List.mem_append.1 hy with hy|hy
  ·exact (h.gp y (by rw[hs];exact List.mem_append_left _ hy)).kp hk hm (fun k k1 k2=>p3 y hy g (List.mem_cons_self ..) k k1 k2)
  ·rcases List.mem_cons.1 hy with rfl|hy
   ·obtain⟨kv,b1,b2⟩:=hgm.blk
    exact⟨⟨kv,b1.kp hk (hm.blk b1 (by decide)),zgw b2 hk (zoQ b2 hm)⟩,ha,hgm.low⟩
   ·exact (h.gp y (by rw[hs];exact List.mem_append_right _ (List.mem_cons_of_mem _ hy))).kp hk hm (fun k k1 k2=>q1 y hy k k2 k1)
 ·refine List.pairwise_append.2 ⟨p1,List.pairwise_cons.2 ⟨fun y hy=>q1 y hy,q2⟩,fun y hy z hz=>?_⟩
  rcases List.mem_cons.1 hz with rfl|hz
  ·exact p3 y hy g (List.mem_cons_self ..)
  ·exact p3 y hy z (List.mem_cons_of_mem _ hz)
theorem GrAt.upd{w w':World}{base:Nat}{ps0:List Pt}{gb:Nat}{s:Gs}{last:Int}{ov:Value}{xs1 xs2:List Wm}{x x':Wm}{S:Nat→Prop}(h:GrAt w base ps0 gb s last ov (xs1++x::xs2))(hk:Kp S w w')(hm:MutS w S)(hS:∀k,S k→x.S k)(hx':WmAt w' base ps0 x')(hz:x'.z=x.z)(hf:∀k,x'.S k→x.S k∨w.heap.size≤k):GrAt w' base ps0 gb s last ov (xs1++x'::xs2):=by
 have hx:x∈xs1++x::xs2:=List.mem_append_right _ (List.mem_cons_self ..)
 have hxm:=h.wm x hx
 obtain⟨p1,p2,p3⟩:=List.pairwise_append.1 h.dj
 obtain⟨q1,q2⟩:=List.pairwise_cons.1 p2
 obtain⟨C,c1,c2⟩:=h.blk
 have hlen:(xs1++x'::xs2).length=(xs1++x::xs2).length:=by simp
 have hmap:(xs1++x'::xs2).map Wm.p=(xs1++x::xs2).map Wm.p:=by rw[List.map_append,List.map_append,List.map_cons,List.map_cons,Wm.p,Wm.p,hz]
 refine⟨⟨C,c1.kp hk (fun e=>hxm.notblk c1 (by decide) (hS _ e)),c2⟩,?_,fun y hy=>?_,?_,h.lt⟩
 ·rw[hlen,hmap]
  exact zgw h.row hk (fun k e hs=>hxm.notown h.row (by decide) e (hS k hs))
 ·rcases List.mem_append.1 hy with hy|hy
  ·exact (h.wm y (List.mem_append_left _ hy)).kp hk hm (fun k k1 k2=>p3 y hy x (List.mem_cons_self ..) k k1 (hS k k2))
  ·rcases List.mem_cons.1 hy with rfl|hy
   ·exact hx'
   ·exact (h.wm y (List.mem_append_right _ (List.mem_cons_of_mem _ hy))).kp hk hm (fun k k1 k2=>q1 y hy k (hS k k2) k1)
 ·refine List.pairwise_append.2 ⟨p1,List.pairwise_cons.2 ⟨fun y hy k k1 k2=>?_,q2⟩,fun y hy z hz k k1 k2=>?_⟩
  ·rcases hf k k1 with k1|k1
   ·exact q1 y hy k k1 k2
   ·have:=((h.wm y (List.mem_append_right _ (List.mem_cons_of_mem _ hy))).lt k k2).2;omega
  ·rcases List.mem_cons.1 hz with rfl|hz
   ·rcases hf k k2 with k2|k2
    ·exact p3 y hy x (List.mem_cons_self ..) k k1 k2
    ·have:=((h.wm y (List.mem_append_left _ hy)).lt k k1).2;omega
   ·exact p3 y hy z (List.mem_cons_of_mem _ hz) k k1 k2
def dwm:Wm:=⟨0,0,.nilIface,[]⟩
def hdF(fr:Int):List Wm→Bool
 | []=>false
 | x::_=>x.fr == fr
theorem zqS{l1 l2 gs:List Wm}{fr:Int}(hs:gs=l1++l2)(h1:∀g∈l1,g.fr<fr)(h2:∀g∈l2,fr≤g.fr):(∀j,j<l1.length→(gs.getD j dwm).fr<fr)∧(∀j,l1.length≤j→j<gs.length→fr≤(gs.getD j dwm).fr)∧(decide (l1.length<gs.length)&&((gs.getD l1.length dwm).fr == fr))=hdF fr l2:=by
 subst hs
 refine⟨fun j hj=>?_,fun j h3 h4=>?_,?_⟩
 ·have e:(l1++l2).getD j dwm=l1[j]:=by rw[List.getD_eq_getElem?_getD,List.getElem?_append_left hj,List.getElem?_eq_getElem hj];rfl
  rw[e];exact h1 _ (List.getElem_mem _)
 ·have h5:j-l1.length<l2.length:=by rw[List.length_append] at h4;omega
  have e:(l1++l2).getD j dwm=l2[j-l1.length]:=by rw[List.getD_eq_getElem?_getD,List.getElem?_append_right h3,List.getElem?_eq_getElem h5];rfl
  rw[e];exact h2 _ (List.getElem_mem _)
 ·cases l2 with
  | nil=>simp[hdF]
  | cons g t =>
   have e:(l1++g::t).getD l1.length dwm=g:=by rw[List.getD_eq_getElem?_getD,List.getElem?_append_right (Nat.le_refl _),Nat.sub_self];rfl
   rw[e]
   simp[hdF]
theorem GrAt.ptr{w:World}{base:Nat}{ps0:List Pt}{gb:Nat}{s:Gs}{last:Int}{ov:Value}{xs:List Wm}(h:GrAt w base ps0 gb s last ov xs){g c:Nat}(hg:ov=.slice (some ⟨g,0,none⟩) xs.length c){j:Nat}(hj:j<xs.length):w.cell? ⟨g,j,none⟩=some (xs.getD j dwm).p:=by
 have hrow:=h.row
 rw[hg] at hrow
 have:=World.ownsRow.cells hrow (g:=g) rfl j (xs.getD j dwm).p (by rw[List.getElem?_map,List.getElem?_eq_getElem hj,zbq hj];rfl)
 rw[Go.WideShapes.add_plain,Nat.zero_add] at this
 exact this
theorem GrAt.row_some{w:World}{base:Nat}{ps0:List Pt}{gb:Nat}{s:Gs}{last:Int}{ov:Value}{xs:List Wm}(h:GrAt w base ps0 gb s last ov xs)(hn:0<xs.length):∃g c,ov=.slice (some ⟨g,0,none⟩) xs.length c∧g<w.heap.size∧base≤g:=by
 rcases h.row.2 with ⟨_,h0⟩|⟨g,cap,cur,e,hb,hg,-⟩
 ·omega
 ·exact⟨g,cap,e,(Array.getElem?_eq_some_iff.1 hg).1,hb⟩
theorem GrAt.c16{w:World}{base:Nat}{ps0:List Pt}{gb:Nat}{s:Gs}{last:Int}{ov:Value}{xs:List Wm}(h:GrAt w base ps0 gb s last ov xs):w.cell? ⟨gb,16,none⟩=some ov:=by
 obtain⟨C,c1,c2⟩:=h.blk
 rw[c1.cell];exact c2.c16
theorem gfind{w:World}{base:Nat}{ps0:List Pt}{gb:Nat}{s:Gs}{last:Int}{ov:Value}{xs:List Wm}(h:GrAt w base ps0 gb s last ov xs)(hn:xs.length≤1000)(fr:Int)(l1 l2:List Wm)(hs:xs=l1++l2)(h1:∀g∈l1,g.fr<fr)(h2:∀g∈l2,fr≤g.fr) :
  Calls Tryz.prog 145 #[.pointer (some ⟨gb,0,none⟩),.int .i64 fr] w fun e w'=>e=.returned (.tuple #[.int .i64 (l1.length:Int),.bool (hdF fr l2)])∧Below w.heap.size w w':=by
 have hc1:=h.c16
 obtain⟨b1,b2,b3⟩:=zqS hs h1 h2
 by_cases h0:xs.length=0
 ·have e1:l1=[]:=by rw[hs,List.length_append] at h0;exact List.length_eq_zero_iff.1 (by omega)
  have e2:l2=[]:=by rw[hs,List.length_append] at h0;exact List.length_eq_zero_iff.1 (by omega)
  obtain⟨q,c,hq⟩:=zaa h.row
  subst e1 e2
  rw[hq,h0] at hc1
  refine (zsN gb q c fr w hc1).mono ?_
  rintro e w' ⟨rfl,rfl⟩
  exact⟨rfl,Below.refl _ _⟩
 ·obtain⟨g,c,hg,hgl,-⟩:=h.row_some (by omega)
  rw[hg] at hc1
  have:=zvw gb g xs.length c (fun j=>(xs.getD j dwm).z) (fun j=>(xs.getD j dwm).fr) fr w hc1 (by omega) hgl (fun j hj=>h.ptr hg hj) (fun j hj=>by
   have:=(h.wm _ (zbt (d:=dwm) hj)).blk.cell 0
   simpa using this) l1.length (by rw[hs,List.length_append];omega) b1 b2
  rw[b3] at this
  exact this
theorem zsX{w:World}{B size:Nat}{e:TypeId}:w.ownsRow B e size (.slice none 0 0) 0 []:=World.ownsRow_nil _ _ _ _
theorem GrAt.ins{w4 w5:World}{base:Nat}{ps0:List Pt}{gb:Nat}{s:Gs}{last fr:Int}{ov ov':Value}{xs1 xs2:List Wm}{zx:Nat}(h:GrAt w4 base ps0 gb s last ov (xs1++xs2))(hz:Blk w4 zx #[.int .i64 fr,.slice none 0 0] 182)(hzb:base≤zx)(hzn:∀k,GrS gb ov (xs1++xs2) k→k≠zx)
  (hk:Kp (fun k=>ov.ownBlock=some k) w4 w5)(hrow:w5.ownsRow base 152 1 ov' ((xs1++xs2).length+1) (xs1.map Wm.p++.pointer (some ⟨zx,0,none⟩)::xs2.map Wm.p))(hb:ov'.ownBlock=ov.ownBlock∨∃g,ov'.ownBlock=some g∧w4.heap.size≤g) :
  GrAt (w5.setCell ⟨gb,16,none⟩ ov') base ps0 gb s last ov' (xs1++⟨zx,fr,.slice none 0 0,[]⟩::xs2)∧Kp (GrS gb ov (xs1++xs2)) w4 (w5.setCell ⟨gb,16,none⟩ ov'):=by
 obtain⟨C,c1,c2⟩:=h.blk
 have hog:ov.ownBlock≠some gb:=fun e=>by
  rcases h.row.2 with ⟨e1,-⟩|⟨g,cap,cur,e1,-,hg,-⟩
  ·rw[e1] at e;simp[Value.ownBlock] at e
  ·rw[e1] at e
   have e:g=gb:=by simpa [Value.ownBlock] using e
   subst e
   exact zfq (show Blk w4 g cur _ from hg) c1 (by decide) rfl
 have hog':ov'.ownBlock≠some gb:=fun e=>by
  rcases hb with hb|⟨g,hb,hg⟩
  ·exact hog (hb.symm.trans e)
  ·rw[hb] at e;injection e with e;have:=c1.lt;omega
 have K:Kp (fun k=>k=gb∨ov.ownBlock=some k) w4 (w5.setCell ⟨gb,16,none⟩ ov'):=(hk.mono (fun _ _ h=>.inr h)).set 16 _ (fun _=>.inl rfl)
 have hM:MutS w4 (fun k=>k=gb∨ov.ownBlock=some k):=(MutS.one c1 (by decide)).or (zdG h.row (by decide))
 have hy:∀y∈xs1++xs2,WmAt (w5.setCell ⟨gb,16,none⟩ ov') base ps0 y:=fun y hy=>(h.wm y hy).kp K hM (fun k k1 k2=>by
  rcases k2 with rfl|k2
  ·exact (h.wm y hy).notblk c1 (by decide) k1
  ·exact (h.wm y hy).notown h.row (by decide) k2 k1)
 have hS0:∀k,(⟨zx,fr,.slice none 0 0,[]⟩:Wm).S k→k=zx:=fun k hk=>by
  rcases hk with hk|hk|⟨g,hg,_⟩
  ·exact hk
  ·have hk:(Value.slice none 0 0).ownBlock=some k:=hk
   simp[Value.ownBlock] at hk
  ·cases hg
 obtain⟨p1,p2,p3⟩:=List.pairwise_append.1 h.dj
 refine⟨⟨⟨_,(c1.kp hk hog).set 16 _,c2.opens⟩,?_,fun y hy'=>?_,?_,h.lt⟩,K.mono fun k _ hk=>?_⟩
 ·have hl:(xs1++(⟨zx,fr,.slice none 0 0,[]⟩:Wm)::xs2).length=(xs1++xs2).length+1:=by simp;omega
  rw[hl,List.map_append,List.map_cons]
  exact ownsRow_setCell_other hrow (a:=⟨gb,16,none⟩) hog' ov'
 ·rcases List.mem_append.1 hy' with hy'|hy'
  ·exact hy y (List.mem_append_left _ hy')
  ·rcases List.mem_cons.1 hy' with rfl|hy'
   ·exact⟨hz.kp K (fun e=>by
     rcases e with e|e
     ·exact hzn gb (.inl rfl) e.symm
     ·exact hzn zx (.inr (.inl e)) rfl),zsX,by simp,by simp,hzb⟩
   ·exact hy y (List.mem_append_right _ hy')
 ·refine List.pairwise_append.2 ⟨p1,List.pairwise_cons.2 ⟨fun y hy' k k1 k2=>?_,p2⟩,fun y hy' z hz' k k1 k2=>?_⟩
  ·rw[hS0 k k1] at k2
   exact hzn zx (.inr (.inr ⟨y,List.mem_append_right _ hy',k2⟩)) rfl
  ·rcases List.mem_cons.1 hz' with rfl|hz'
   ·rw[hS0 k k2] at k1
    exact hzn zx (.inr (.inr ⟨y,List.mem_append_left _ hy',k1⟩)) rfl
   ·exact p3 y hy' z hz' k k1 k2
 ·rcases hk with hk|hk
  ·exact .inl hk
  ·exact .inr (.inl hk)
theorem ztO{l1 l2:List Wm}:((l1++l2).map Wm.p).take l1.length=l1.map Wm.p∧((l1++l2).map Wm.p).drop l1.length=l2.map Wm.p:=by
 rw[List.map_append]
 exact⟨by rw[List.take_append_of_le_length (by simp),List.take_of_length_le (by simp)],by rw[List.drop_append_of_le_length (by simp),List.drop_of_length_le (by simp)];rfl⟩
structure PuMid(w wx:World)(base:Nat)(ps0:List Pt)(gb:Nat)(s:Gs)(last fr:Int)(kt:List Int)(ls:List V3)(ov:Value)(xs:List Wm)(xs1:List Wm)(ov4:Value)(x:Wm)(xs2:List Wm):Prop where
 at_:GrAt wx base ps0 gb s last ov4 (xs1++x::xs2)
 frm:x.fr=fr
 keys:(∀g∈x.gs,OkK kt g.key)∧(x.gs.Pairwise fun g h=>keyC g.key h.key<0)∧x.gs.length≤1000∧∀g∈x.gs,g.rs.length+1≤10000
 add:∀vs,wAdd ls vs fr (xs.map Wm.pl)=xs1.map Wm.pl++(fr,gAdd ls vs (x.gs.map Gm.pl))::xs2.map Wm.pl
 kp:Kp (GrS gb ov xs) w wx
 foot:∀k,GrS gb ov4 (xs1++x::xs2) k→GrS gb ov xs k∨w.heap.size≤k
 few:(xs1++x::xs2).length≤1001
theorem PuMid.on{w wx wy:World}{base:Nat}{ps0:List Pt}{gb:Nat}{s:Gs}{last fr:Int}{kt:List Int}{ls:List V3}{ov:Value}{xs xs1:List Wm}{ov4:Value}{x:Wm}{xs2:List Wm}(h:PuMid w wx base ps0 gb s last fr kt ls ov xs xs1 ov4 x xs2)(hb:Below wx.heap.size wx wy):PuMid w wy base ps0 gb s last fr kt ls ov xs xs1 ov4 x xs2 :=
 ⟨h.at_.on hb,h.frm,h.keys,h.add,h.kp.on hb,h.foot,h.few⟩
theorem zvv{w wc w5 w6:World}{base:Nat}{ps0:List Pt}{gb:Nat}{s:Gs}{last fr:Int}{kt:List Int}{ls:List V3}{ov:Value}{xs xs1:List Wm}{ov4:Value}{x x':Wm}{xs2:List Wm}{l1 l2:List Gm}{g:Gm}{vs:List V3}(P:PuMid w wc base ps0 gb s last fr kt ls ov xs xs1 ov4 x xs2)(GP:zmE wc w5 base ps0 x ls l1 x' g l2)(hA:AcAt w6 g.a g.v ps0 (g.rs++[vs]))(hK:Kp (accS g.a g.v) w5 w6) :
  ∃ov' xs',GrAt w6 base ps0 gb s last ov' xs'∧xs'.map Wm.pl=wAdd ls vs fr (xs.map Wm.pl)∧Kp (GrS gb ov xs) w w6∧(∀k,GrS gb ov' xs' k→GrS gb ov xs k∨w.heap.size≤k):=by
 obtain⟨f1,f2,f3⟩:=GP.form
 have hx:x∈xs1++x::xs2:=List.mem_append_right _ (List.mem_cons_self ..)
 have hxm:=P.at_.wm x hx
 have hS5:∀k,(k=x.z∨x.gv.ownBlock=some k)→x.S k:=fun k hk=>hk.imp id .inl
 have hM5:MutS wc (fun k=>k=x.z∨x.gv.ownBlock=some k):=hxm.mut.mono hS5
 have G5:=P.at_.upd GP.kp hM5 hS5 GP.at_ f1 GP.foot
 have hgm:g∈x'.gs:=by rw[f3];exact List.mem_append_right _ (List.mem_cons_self ..)
 have hx6:=GP.at_.upd f3 hA hK
 have hS6:∀k,accS g.a g.v k→x'.S k:=fun k hk=>.inr (.inr ⟨g,hgm,hk⟩)
 have hfx:∀k,({ x' with gs:=l1++{ g with rs:=g.rs++[vs] }::l2 }:Wm).S k→x'.S k:=fun k hk=>by
  rcases hk with hk|hk|⟨y,hy,hk⟩
  ·exact .inl hk
  ·exact .inr (.inl hk)
  ·rcases List.mem_append.1 hy with hy|hy
   ·exact .inr (.inr ⟨y,by rw[f3];exact List.mem_append_left _ hy,hk⟩)
   ·rcases List.mem_cons.1 hy with rfl|hy
    ·exact .inr (.inr ⟨g,hgm,hk⟩)
    ·exact .inr (.inr ⟨y,by rw[f3];exact List.mem_append_right _ (List.mem_cons_of_mem _ hy),hk⟩)
 have G6:=G5.upd (x':={ x' with gs:=l1++{ g with rs:=g.rs++[vs] }::l2 }) hK (hgm |> fun hm=>(GP.at_.gp g hm).acc.mut) hS6 hx6 rfl (fun k hk=>.inl (hfx k hk))
 have hs5:=GP.kp.size
 have hsc:=P.kp.size
 have hsub:∀k,x'.S k→GrS gb ov xs k∨w.heap.size≤k:=fun k hk=>by
  rcases GP.foot k hk with hk|hk
  ·exact P.foot k (.inr (.inr ⟨x,hx,hk⟩))
  ·exact .inr (by omega)
 have k5:Kp (GrS gb ov xs) w w5:=⟨P.kp.low.trans GP.kp.low,fun k hk hn=>by
  rw[GP.kp.kept k (by omega) (fun h=>(P.foot k (.inr (.inr ⟨x,hx,hS5 k h⟩))).elim hn (fun h=>by omega)),P.kp.kept k hk hn]⟩
 refine⟨ov4,_,G6,?_,⟨k5.low.trans hK.low,fun k hk hn=>by rw[hK.kept k (by omega) (fun h=>(hsub k (hS6 k h)).elim hn (fun h=>by omega)),k5.kept k hk hn]⟩,fun k hk=>?_⟩
 ·rw[P.add vs,GP.add vs,List.map_append,List.map_cons]
  congr 2
  rw[Wm.pl]
  simp only[f2,P.frm,List.map_append,List.map_cons]
  congr 2
  rw[Gm.pl]
  simp only[GP.key]
 ·rcases hk with hk|hk|⟨y,hy,hk⟩
  ·exact .inl (.inl hk)
  ·exact P.foot k (.inr (.inl hk))
  ·rcases List.mem_append.1 hy with hy|hy
   ·exact P.foot k (.inr (.inr ⟨y,List.mem_append_left _ hy,hk⟩))
   ·rcases List.mem_cons.1 hy with rfl|hy
    ·exact hsub k (hfx k hk)
    ·exact P.foot k (.inr (.inr ⟨y,List.mem_append_right _ (List.mem_cons_of_mem _ hy),hk⟩))
end Go.Proofs.YtopghagjmdbglaaGreatDoor
