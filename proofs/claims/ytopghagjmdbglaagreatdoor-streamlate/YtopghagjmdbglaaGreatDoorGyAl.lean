/-
  InUp, InGu, AgW, AgP, AgT, AgU, Clone, ValFr, AgM.
-/
import Derived.Test.YtopghagjmdbglaaGreatDoorGyAk
import Derived.Shelf.Spec.SlicesInsert
import Derived.Test.YtopghagjmdbglaaGreatDoorProg
import Derived.Test.YtopghagjmdbglaaGreatDoorGyAh
import Derived.Laws.AppendOwnNone
import Derived.Laws.OwnMore
import Derived.Laws.Externs
import Derived.WalkSmall
import Derived.BigQuiet
import Derived.Deep.QuietTactic
import Derived.Deep.LoopGhost
import Derived.Deep.OwnRows
import Derived.Test.YtopghagjmdbglaaGreatDoorYShelf
import Derived.WalkKit
import Derived.Below
import Derived.Deep.RegionWith
namespace Go.Proofs.YtopghagjmdbglaaGreatDoor
open Go.RowKit
set_option linter.unusedVariables false
set_option linter.unusedSimpArgs false
set_option maxHeartbeats 8000000
set_option maxRecDepth 20000
theorem zlI{L:List Value}{e:Value}{c i n:Nat}(hL:L.length=c)(hi:i<n)(hr:n+1≤c):(splice (splice L (i+1) ((L.drop i).take (n-i))) i [e]).length=L.length:=by
 simp only[splice,List.length_append,List.length_take,List.length_drop,List.length_singleton];omega
theorem zib{L xs:List Value}{e:Value}{c i n:Nat}(hL:L.length=c)(ht:L.take n=xs)(hi:i<n)(hr:n+1≤c):(splice (splice L (i+1) ((L.drop i).take (n-i))) i [e]).take (n+1)=xs.take i++e::xs.drop i:=by
 subst ht
 refine List.ext_getElem? fun j=>?_
 simp only[splice,List.getElem?_take,List.getElem?_append,List.getElem?_drop,List.length_append,List.length_take,List.length_drop,List.length_singleton,List.getElem?_cons]
 grind
theorem zjV{ROW xs:List Value}{e:Value}{G i n:Nat}(hR:ROW.length=G)(hx:xs.length=n)(hi:i<n)(hG:n+1≤G):(splice (splice ROW i [e]) (i+1) (xs.drop i)).length=G:=by
 simp only[splice,List.length_append,List.length_take,List.length_drop,List.length_singleton];omega
theorem zik{ROW xs:List Value}{e:Value}{G i n:Nat}(hR:ROW.length=G)(ht:ROW.take i=xs.take i)(hx:xs.length=n)(hi:i<n)(hG:n+1≤G):(splice (splice ROW i [e]) (i+1) (xs.drop i)).take (n+1)=xs.take i++e::xs.drop i:=by
 have hA:splice ROW i [e]=xs.take i++e::ROW.drop (i+1):=by simp[splice,ht]
 rw[hA]
 have hl:(xs.take i).length=i:=by rw[List.length_take];omega
 have h1:(xs.take i++e::ROW.drop (i+1)).take (i+1)=xs.take i++[e]:=by
  rw[List.take_append,hl]
  simp[List.take_of_length_le,hl]
 rw[splice,h1,List.append_assoc,List.take_append]
 simp only[hl,List.singleton_append]
 rw[List.take_of_length_le (by omega),show n+1-i=(n-i)+1 by omega,List.take_succ_cons,List.take_append]
 have h3:n-i-(List.drop i xs).length=0:=by rw[List.length_drop];omega
 rw[h3,List.take_zero,List.append_nil,List.take_of_length_le (l:=List.drop i xs) (by rw[List.length_drop];omega)]
theorem zqT{L xs:List Value}{c j n:Nat}{r:List Value}(hL:L.length=c)(ht:L.take n=xs)(hn:n≤c)(hj:j≤n)(hr:r.length=j):(splice (splice L 0 ((L.take n).drop j)) (n-j) r).take (n-j)=xs.drop j∧(splice (splice L 0 ((L.take n).drop j)) (n-j) r).length=c:=by
 subst ht
 have h1:(splice L 0 ((L.take n).drop j))=(L.take n).drop j++L.drop (n-j):=by simp[splice];congr 1;omega
 have h2:((L.take n).drop j).length=n-j:=by rw[List.length_drop,List.length_take];omega
 rw[h1]
 refine⟨?_,?_⟩
 ·refine List.ext_getElem? fun k=>?_
  simp only[splice,List.getElem?_take,List.getElem?_append,List.getElem?_drop,List.length_append,List.length_take,List.length_drop]
  grind
 ·simp only[splice,List.length_append,List.length_take,List.length_drop]
  omega
section
open Go.BigFrame
theorem zjh(base:Nat)(q:Option Addr)(n c i:Nat)(xs:List Value)(ge:Nat)(e:Value)(w:World)(hown:w.ownsRow base 254 1 (.slice q n c) n xs)(hx1:∀x∈xs,x.oneCell'=true)(hge:Blk w ge #[e] 254)(hne:(Value.slice q n c).ownBlock≠some ge)(he:e.oneCell'=true)(hi:i≤n)(hn:n≤100000)(hbase:base≤w.heap.size) :
  Calls Tryz.prog 201 #[.slice q n c,.int .i64 (i:Int),.slice (some ⟨ge,0,none⟩) 1 1] w fun r w'=>∃q' c',r=.returned (.slice q' (n+1) c')∧Aside (w'.ownsRow base 254 1 (.slice q' (n+1) c') (n+1) (xs.take i++e::xs.drop i))∧Aside (Kp (fun k=>(Value.slice q n c).ownBlock=some k) w w')∧Aside ((Value.slice q' (n+1) c').ownBlock=(Value.slice q n c).ownBlock∨(Value.slice q' (n+1) c').ownBlock=some w.heap.size):=by
 have hxl:xs.length=n:=by have:=hown.1;omega
 by_cases hin:i=n
 ·subst hin
  refine (zjp base q i c xs ge e w hown hge he hn hbase).mono ?_
  rintro r w' ⟨q',c',rfl,ho,hg,hb⟩
  refine⟨q',c',rfl,?_,(show Aside _ from (Kp.refl _ w).grown hg.out (fun k hk _=>hk)),(show Aside _ from hb)⟩
  rw[List.take_of_length_le (by omega),List.drop_of_length_le (by omega)]
  exact ho
 ·have hlt:i<n:=by omega
  rcases hown.2 with ⟨e1,h0⟩|⟨g,cap,cur,e1,hb,hg,hnc,hm,hcs,htk⟩
  ·omega
  injection e1 with e1 _ e3
  subst e1
  subst e3
  simp only[Nat.mul_one] at hcs htk
  by_cases hroom:n+1≤c
  ·refine (zho g n c i cur xs ge e w hg hcs htk hxl hge (fun h=>hne (by rw[h];rfl)) he hx1 hlt hn hroom hm).mono ?_
   rintro r w' ⟨rfl,ho,hk⟩
   refine⟨_,_,rfl,?_,(show Aside _ from hk.mono (fun k _ hs=>by rw[show k=g from hs];rfl)),(show Aside _ from .inl rfl)⟩
   refine (show Aside _ from ⟨by simp;omega,.inr ⟨g,c,_,rfl,hb,ho.out,hroom,hm,?_,?_⟩⟩)
   ·simp only[List.size_toArray]
    rw[←hcs,←Array.length_toList]
    exact (by have hL:cur.toList.length=c:=by rw[Array.length_toList,hcs]
         rw[zlI hL hlt (by omega),hL];omega)
   ·have hL:cur.toList.length=c:=by rw[Array.length_toList,hcs]
    rw[Nat.mul_one]
    exact zib hL htk hlt hroom
  ·refine (zhL w.heap.size g n c i cur xs ge e w hg hcs htk hxl hge he hx1 hlt hn (by omega) hnc (Nat.le_refl _)).mono ?_
   rintro r w' ⟨G,ROW,rfl,ho,hk⟩
   obtain⟨h1,h2,h3,h4,h5⟩:=ho.out
   refine⟨_,_,rfl,?_,(show Aside _ from ?_),(show Aside _ from .inr rfl)⟩
   ·refine (show Aside _ from ⟨by simp;omega,.inr ⟨_,G,_,rfl,hbase,h1,h4,h5,?_,?_⟩⟩)
    ·simp only[List.size_toArray]
     rw[zjV h2 hxl hlt h4];omega
    ·rw[Nat.mul_one]
     exact zik h2 h3 hxl hlt h4
   ·exact Kp.of_below hk
end
def sv:List Int→Int
 | []=>0
 | [x]=>if 9223372036854775808≤x then x-18446744073709551616 else x
 | x::y::r=>x+18446744073709551616*sv (y::r)
def wdR(ws:List Int):Prop:=∀x∈ws,0≤x∧x<18446744073709551616
def byW(ws:List Int):Int:=if 9223372036854775807<ws.getLast?.getD 0 then 18446744073709551615 else 0
def wordW(ws:List Int)(i:Nat):Int:=if h:i<ws.length then ws[i] else byW ws
def extW(ws:List Int)(n:Nat):List Int:=(List.range n).map (wordW ws)
def addW:List Int→List Int→Int→List Int
 | x::a,y::b,c=>(x+y+c) % 18446744073709551616::addW a b ((x+y+c) / 18446744073709551616)
 | _,_,_=>[]
def carW:List Int→List Int→Int→Int
 | x::a,y::b,c=>carW a b ((x+y+c) / 18446744073709551616)
 | _,_,c=>c
theorem zqJ(ws:List Int):byW ws=0∨byW ws=18446744073709551615:=by unfold byW;split<;>simp
theorem zcR(x:Int){r:List Int}(h:r≠[]):sv (x::r)=x+18446744073709551616*sv r:=by
 cases r with
 | nil=>exact absurd rfl h
 | cons y r=>rfl
theorem zbT{x:Int}{r:List Int}(h:wdR (x::r)):wdR r:=fun y hy=>h y (List.mem_cons_of_mem _ hy)
theorem zkd(x:Int){r:List Int}(h:r≠[]):byW (x::r)=byW r:=by
 cases r with
 | nil=>exact absurd rfl h
 | cons y r=>simp[byW,List.getLast?_cons_cons]
theorem zrw(ws:List Int)(b:Int):byW (ws++[b])=if 9223372036854775807<b then 18446744073709551615 else 0:=by simp[byW]
theorem zkx:∀(ws:List Int),ws≠[]→wdR ws→sv (ws++[byW ws])=sv ws
 | [],h,_=>absurd rfl h
 | [x],_,hw=>by
  have hx:=hw x (by simp)
  by_cases h:9223372036854775808≤x
  ·have hb:byW [x]=18446744073709551615:=by simp[byW];omega
   rw[hb];simp only[List.cons_append,List.nil_append,sv,if_pos h];simp;omega
  ·have hb:byW [x]=0:=by simp[byW];omega
   rw[hb];simp only[List.cons_append,List.nil_append,sv,if_neg h];simp
 | x::y::r,_,hw=>by
  have ih:=zkx (y::r) (by simp) (zbT hw)
  rw[zkd x (by simp),List.cons_append,zcR x (by simp),ih,zcR x (by simp)]
theorem zrL{a b:List Int}(ha:wdR a)(hb:wdR b):wdR (a++b):=fun x hx=>(List.mem_append.1 hx).elim (ha x) (hb x)
theorem byW_R(ws:List Int):wdR [byW ws]:=fun x hx=>by
 have:x=byW ws:=by simpa using hx
 rw[this]
 rcases zqJ ws with h|h<;>rw[h]<;>omega
theorem zqx(ws:List Int):byW (ws++[byW ws])=byW ws:=by
 rw[zrw]
 rcases zqJ ws with h|h<;>rw[h]<;>simp
theorem zbr(ws:List Int)(n:Nat):(extW ws n).length=n:=by simp[extW]
theorem zdd(ws:List Int)(n:Nat):extW ws (n+1)=extW ws n++[wordW ws n]:=by simp[extW,List.range_succ]
theorem zpI(ws:List Int):extW ws ws.length=ws:=by
 apply List.ext_getElem
 ·simp[extW]
 ·intro i h1 h2
  simp[extW,wordW,h2]
theorem zfj{ws:List Int}{n:Nat}(h:ws.length≤n):wordW ws n=byW ws:=by rw[wordW,dif_neg (by omega)]
theorem zhK(ws:List Int):∀k,wdR ws→ws≠[]→sv (extW ws (ws.length+k))=sv ws∧wdR (extW ws (ws.length+k))∧byW (extW ws (ws.length+k))=byW ws
 | 0,hw,_=>by rw[Nat.add_zero,zpI];exact⟨rfl,hw,rfl⟩
 | k+1,hw,hn=>by
  obtain⟨h1,h2,h3⟩:=zhK ws k hw hn
  have hne:extW ws (ws.length+k)≠[]:=by
   intro e
   have:=zbr ws (ws.length+k)
   rw[e] at this
   have:ws.length=0:=by simp at this;omega
   exact hn (List.length_eq_zero_iff.1 this)
  rw[←Nat.add_assoc,zdd,zfj (by omega),←h3]
  exact⟨by rw[zkx _ hne h2,h1],zrL h2 (byW_R _),zqx _⟩
theorem zma:∀n,sv (extW [] n)=0∧wdR (extW [] n)
 | 0=>⟨rfl,fun x hx=>by simp[extW] at hx⟩
 | n+1=>by
  have hz:∀x∈extW [] (n+1),x=0:=fun x hx=>by
   simp only[extW,List.mem_map] at hx
   obtain⟨i,_,rfl⟩:=hx
   simp[wordW,byW]
  have sv_z:∀l:List Int,(∀x∈l,x=0)→sv l=0:=fun l=>by
   induction l with
   | nil=>intro _;rfl
   | cons x r ih =>
    intro h
    have hx:=h x (by simp)
    have hr:=ih (fun y hy=>h y (by simp[hy]))
    by_cases hn:r=[]
    ·subst hn;subst hx;rfl
    ·rw[zcR x hn,hr,hx];rfl
  exact⟨sv_z _ hz,fun x hx=>by rw[hz x hx];omega⟩
theorem zlh(ws:List Int)(n:Nat)(hw:wdR ws)(hn:ws.length<n):sv (extW ws n)=sv ws∧wdR (extW ws n)∧∃a t,extW ws n=a++[t]∧(t=0∨t=18446744073709551615):=by
 obtain⟨k,rfl⟩:∃k,n=k+1:=⟨n-1,by omega⟩
 refine⟨?_,?_,extW ws k,wordW ws k,zdd _ _,by rw[zfj (by omega)];exact zqJ _⟩
 ·by_cases h:ws=[]
  ·subst h;rw[(zma _).1];rfl
  ·obtain⟨j,hj⟩:∃j,k+1=ws.length+j:=⟨k+1-ws.length,by omega⟩
   rw[hj];exact (zhK ws j hw h).1
 ·by_cases h:ws=[]
  ·subst h;exact (zma _).2
  ·obtain⟨j,hj⟩:∃j,k+1=ws.length+j:=⟨k+1-ws.length,by omega⟩
   rw[hj];exact (zhK ws j hw h).2.1
theorem ztS:∀(a b:List Int) (c:Int),wdR (addW a b c)
 | [],_,_=>by intro x hx;simp[addW] at hx
 | x::a,[],_=>by intro x hx;simp[addW] at hx
 | x::a,y::b,c=>by
  intro z hz
  rw[addW] at hz
  rcases List.mem_cons.1 hz with rfl|h
  ·omega
  ·exact ztS a b _ z h
theorem zeV:∀(a b:List Int) (c:Int),a.length=b.length→(addW a b c).length=a.length
 | [],[],_,_=>rfl
 | x::a,[],_,h=>by simp at h
 | [],y::b,_,h=>by simp at h
 | x::a,y::b,c,h=>by rw[addW,List.length_cons,zeV a b _ (by simpa using h),List.length_cons]
theorem zot:∀(a b:List Int) (c:Int),wdR a→wdR b→(c=0∨c=1)→carW a b c=0∨carW a b c=1
 | [],_,c,_,_,h=>by simpa [carW] using h
 | x::a,[],c,_,_,h=>by simpa [carW] using h
 | x::a,y::b,c,ha,hb,h=>by
  rw[carW]
  refine zot a b _ (zbT ha) (zbT hb) ?_
  have:=ha x (by simp);have:=hb y (by simp)
  omega
theorem zlk:∀(a b:List Int) (c x y:Int),a.length=b.length→addW (a++[x]) (b++[y]) c=addW a b c++[(x+y+carW a b c) % 18446744073709551616]∧carW (a++[x]) (b++[y]) c=(x+y+carW a b c) / 18446744073709551616
 | [],[],c,x,y,_=>by simp[addW,carW]
 | _::_,[],_,_,_,h=>by simp at h
 | [],_::_,_,_,_,h=>by simp at h
 | p::a,q::b,c,x,y,h=>by
  obtain⟨h1,h2⟩:=zlk a b ((p+q+c) / 18446744073709551616) x y (by simpa using h)
  simp only[List.cons_append,addW,carW,h1,h2,and_self]
theorem zsO:∀(a b:List Int) (c x y:Int),a.length=b.length→wdR (a++[x])→wdR (b++[y])→(x=0∨x=18446744073709551615)→(y=0∨y=18446744073709551615)→(c=0∨c=1)→sv (addW (a++[x]) (b++[y]) c)=sv (a++[x])+sv (b++[y])+c
 | [],[],c,x,y,_,_,_,hx,hy,hc=>by
  simp only[List.nil_append,addW,sv]
  rcases hx with rfl|rfl<;>rcases hy with rfl|rfl<;>rcases hc with rfl|rfl<;>decide
 | _::_,[],_,_,_,h,_,_,_,_,_=>by simp at h
 | [],_::_,_,_,_,h,_,_,_,_,_=>by simp at h
 | p::a,q::b,c,x,y,h,ha,hb,hx,hy,hc=>by
  have hp:=ha p (by simp);have hq:=hb q (by simp)
  have ih:=zsO a b ((p+q+c) / 18446744073709551616) x y (by simpa using h) (zbT ha) (zbT hb) hx hy (by omega)
  have hne:addW (a++[x]) (b++[y]) ((p+q+c) / 18446744073709551616)≠[]:=by
   intro e
   have:=zeV (a++[x]) (b++[y]) ((p+q+c) / 18446744073709551616) (by simpa using h)
   rw[e] at this;simp at this
  rw[List.cons_append,List.cons_append,addW,zcR _ hne,ih,zcR p (by simp),zcR q (by simp)]
  omega
def sumW(a b:List Int):List Int:=addW (extW a (max a.length b.length+1)) (extW b (max a.length b.length+1)) 0
theorem zlA(a b:List Int)(ha:wdR a)(hb:wdR b):sv (sumW a b)=sv a+sv b∧wdR (sumW a b)∧(sumW a b).length=max a.length b.length+1:=by
 obtain⟨h1,h2,p,x,e1,hx⟩:=zlh a (max a.length b.length+1) ha (by omega)
 obtain⟨k1,k2,q,y,e2,hy⟩:=zlh b (max a.length b.length+1) hb (by omega)
 have hl1:=zbr a (max a.length b.length+1)
 have hl2:=zbr b (max a.length b.length+1)
 refine⟨?_,ztS _ _ _,by rw[sumW,zeV _ _ _ (by rw[hl1,hl2]),hl1]⟩
 rw[sumW,e1,e2,zsO p q 0 x y (by rw[e1] at hl1;rw[e2] at hl2;simp at hl1 hl2;omega) (by rw[←e1];exact h2) (by rw[←e2];exact k2) hx hy (.inl rfl),←e1,←e2,h1,k1]
 omega
def cutW(ws:List Int)(k:Nat):Bool:=decide (0<k)&&(wordW ws k == byW (ws.take k))
def shN(ws:List Int):Nat→Nat
 | 0=>1
 | k+1=>if cutW ws (k+1)=true then shN ws k else k+2
def shW(ws:List Int):List Int:=ws.take (shN ws (ws.length-1))
def Short(ws:List Int):Prop:=∀a t,ws=a++[t]→a≠[]→t≠byW a
theorem zuA(ws:List Int)(hw:wdR ws):∀k,k<ws.length→sv (ws.take (shN ws k))=sv (ws.take (k+1))∧Short (ws.take (shN ws k))
 | 0,h=>by
  refine⟨rfl,fun a t e hn=>?_⟩
  have:=congrArg List.length e
  simp[shN] at this
  have:a.length=0:=by omega
  exact absurd (List.length_eq_zero_iff.1 this) hn
 | k+1,h=>by
  rw[shN]
  have ht:ws.take (k+1+1)=ws.take (k+1)++[ws[k+1]]:=List.take_succ_eq_append_getElem h
  have hw1:wordW ws (k+1)=ws[k+1]:=by rw[wordW,dif_pos h]
  by_cases hc:cutW ws (k+1)=true
  ·rw[if_pos hc]
   obtain⟨i1,i2⟩:=zuA ws hw k (by omega)
   refine⟨?_,i2⟩
   have he:ws[k+1]=byW (ws.take (k+1)):=by
    simp only[cutW,Bool.and_eq_true,beq_iff_eq,hw1] at hc
    exact hc.2
   rw[i1,ht,he,zkx _ (by intro e;have:=congrArg List.length e;rw[List.length_take,List.length_nil] at this;omega) (fun x hx=>hw x (List.mem_of_mem_take hx))]
  ·rw[if_neg hc]
   refine⟨rfl,fun a t e hn et=>hc ?_⟩
   rw[ht] at e
   obtain⟨e1,e2⟩:=List.append_inj' e rfl
   simp only[List.cons.injEq,and_true] at e2
   simp only[cutW,Bool.and_eq_true,beq_iff_eq,hw1]
   exact⟨by simp,by rw[e1,e2,et]⟩
theorem zsA(ws:List Int)(hw:wdR ws)(hn:ws≠[]):sv (shW ws)=sv ws∧Short (shW ws)∧wdR (shW ws)∧(shW ws).length≤ws.length:=by
 have hl:0<ws.length:=by cases ws with
  | nil=>exact absurd rfl hn
  | cons x r=>simp
 obtain⟨h1,h2⟩:=zuA ws hw (ws.length-1) (by omega)
 refine⟨?_,h2,fun x hx=>hw x (List.mem_of_mem_take hx),by rw[shW,List.length_take];omega⟩
 rw[shW,h1,show ws.length-1+1=ws.length by omega,List.take_length]
theorem Short.tail{x:Int}{r:List Int}(h:Short (x::r)):Short r:=fun a t e hn et=>h (x::a) t (by rw[e];rfl) (by simp) (by rw[zkd x hn];exact et)
theorem zeJ:∀(ws:List Int),wdR ws→Short ws→2≤ws.length→sv ws < -9223372036854775808∨9223372036854775807<sv ws
 | [],_,_,h=>by simp at h
 | [_],_,_,h=>by simp at h
 | [x,y],hw,hs,_=>by
  have hx:=hw x (by simp);have hy:=hw y (by simp)
  have hne:=hs [x] y rfl (by simp)
  have hb:byW [x]=if 9223372036854775807<x then 18446744073709551615 else 0:=rfl
  rw[hb] at hne
  simp only[sv]
  split at hne<;>split<;>omega
 | x::y::z::r,hw,hs,_=>by
  have hx:=hw x (by simp)
  have ih:=zeJ (y::z::r) (zbT hw) hs.tail (by simp)
  rw[zcR x (by simp)]
  omega
theorem znR(ws:List Int)(hw:wdR ws)(hs:Short ws)(h:-170141183460469231731687303715884105728≤sv ws∧sv ws<170141183460469231731687303715884105728):ws.length≤2:=by
 match ws,hw,hs,h with
 | [],_,_,_=>simp
 | [_],_,_,_=>simp
 | [_,_],_,_,_=>simp
 | x::y::z::r,hw,hs,h =>
  exfalso
  have hx:=hw x (by simp)
  have ih:=zeJ (y::z::r) (zbT hw) hs.tail (by simp)
  rw[zcR x (by simp)] at h
  omega
theorem zvg(ws:List Int)(hw:wdR ws)(hl:ws.length≤1):sv ws=(if 9223372036854775808≤wordW ws 0 then wordW ws 0-18446744073709551616 else wordW ws 0)∧-9223372036854775808≤sv ws∧sv ws≤9223372036854775807:=by
 match ws,hw,hl with
 | [],_,_=>simp[sv,wordW,byW]
 | [x],hw,_ =>
  have hx:=hw x (by simp)
  simp only[sv,wordW]
  simp
  split<;>omega
 | _::_::_,_,h=>simp at h
theorem zue(n:Int)(h:-9223372036854775808≤n∧n≤9223372036854775807):sv [n % 18446744073709551616]=n:=by
 simp only[sv]
 split<;>omega
def zaQ:List UInt8:=[99,111,117,110,116]
def wSum:List UInt8:=[115,117,109]
def zaK:List UInt8:=[108,101,97,115,116]
def wMost:List UInt8:=[109,111,115,116]
structure Pt where
 what:ByteArray
 kind:Int
 ws:List Int
 best:V3
def Pt.wh(p:Pt):List UInt8:=p.what.data.toList
def cmpX(a b:V3):Int:=cmpN a.1 a.2.1 a.2.2.data.toList b.1 b.2.1 b.2.2.data.toList
def zbi(p o:Pt):Bool :=
 if p.best.1=0∨o.best.1=0 then decide (p.best.1≠0)
 else if p.wh=zaK then decide (cmpX p.best o.best<0) else decide (0<cmpX p.best o.best)
def tkP(p o:Pt):Pt :=
 if p.wh=wSum then { p with ws:=shW (sumW p.ws o.ws) }
 else if p.wh=zaK∨p.wh=wMost then (if zbi o p=true then { p with best:=o.best } else p) else p
def oneP(p:Pt)(v:V3):Pt :=
 if p.wh=wSum then ⟨p.what,p.kind,[v.2.1 % 18446744073709551616],noV⟩
 else if p.wh=zaK∨p.wh=wMost then ⟨p.what,p.kind,[],v⟩ else ⟨p.what,p.kind,[],noV⟩
def ckPt(p:Pt)(v:V3):Int:=if p.wh=zaQ then 0 else if chk v.1 v.2.1 v.2.2.data.toList≠0 then chk v.1 v.2.1 v.2.2.data.toList else if v.1≠p.kind then 8 else 0
def resP(p:Pt)(rows:Int):V3×Int :=
 if p.wh=zaQ then ((1,rows,⟨#[]⟩),0)
 else if p.wh=wSum then (if -9223372036854775808≤sv p.ws∧sv p.ws≤9223372036854775807 then ((1,sv p.ws,⟨#[]⟩),0) else ((1,0,⟨#[]⟩),9))
 else if p.best.1=0 then (noV,5) else (p.best,0)
def npE(x:List UInt8)(k:Int):Int:=if isAg x=false then 2 else if x=zaQ then 0 else if ¬(k=1∨k=2∨k=3) then 1 else if x=wSum∧k≠1 then 8 else 0
def npP(x:ByteArray)(k:Int):Pt:=if npE x.data.toList k≠0 then ⟨⟨#[]⟩,0,[],noV⟩ else ⟨x,if x.data.toList=zaQ then 0 else k,[],noV⟩
structure OkPt(p:Pt):Prop where
 ag:isAg p.wh=true
 kn:p.wh≠zaQ→p.kind=1∨p.kind=2∨p.kind=3
 ks:p.wh=wSum→p.kind=1
 ws:wdR p.ws∧Short p.ws∧p.ws.length≤900
 best:p.best.1=0∧p.best=noV∨p.best.1=p.kind∧chk p.best.1 p.best.2.1 p.best.2.2.data.toList=0∧inB p.best.2.1
theorem zgq{s:List UInt8}(h:isAg s=true):s=zaQ∨s=wSum∨s=zaK∨s=wMost:=by
 simp only[isAg,Bool.or_eq_true,decide_eq_true_eq] at h
 exact h
theorem zmd(p o:Pt):(tkP p o).what=p.what∧(tkP p o).kind=p.kind:=by
 unfold tkP
 split
 ·exact⟨rfl,rfl⟩
 ·split
  ·split<;>exact⟨rfl,rfl⟩
  ·exact⟨rfl,rfl⟩
theorem zcc(p:Pt)(v:V3):(oneP p v).what=p.what∧(oneP p v).kind=p.kind:=by
 unfold oneP
 split
 ·exact⟨rfl,rfl⟩
 ·split<;>exact⟨rfl,rfl⟩
theorem zra:(Tryz.prog.info? 267).map (fun i=>(i.zero,i.size,i.bytes))=some (some (.int .u64 0),1,8):=by kernel_rfl
def TotA(w:World)(v:Value)(ws:List Int):Prop:=∃p c,v=.slice p ws.length c∧(ws.length≤c∧ws.length≤1000)∧(p=none→c=0)∧wdR ws∧∀a,p=some a→∃g off,a=⟨g,off,none⟩∧(∃cs,w.heap[g]?=some (.cells cs 267 (0,0)))∧∀j (h:j<ws.length),w.cell? ⟨g,off+j,none⟩=some (.int .u64 ws[j])
theorem TotA.keep{w w':World}{v:Value}{ws:List Int}(h:TotA w v ws)(hk:∀(g:Nat) (cs:Array Value),w.heap[g]?=some (Obj.cells cs 267 (0,0))→w'.heap[g]?=w.heap[g]?):TotA w' v ws:=by
 obtain⟨p,c,e,h1,h2,h3,h4⟩:=h
 refine⟨p,c,e,h1,h2,h3,fun a ha=>?_⟩
 obtain⟨g,off,e2,⟨cs,h5⟩,h6⟩:=h4 a ha
 have:=hk g cs h5
 exact⟨g,off,e2,⟨cs,by rw[this];exact h5⟩,fun j hj=>by rw[World.cell?_of_block (w:=w) (a:=⟨g,off+j,none⟩) this];exact h6 j hj⟩
theorem TotA.on{w w':World}{v:Value}{ws:List Int}(h:TotA w v ws)(hb:Below w.heap.size w w'):TotA w' v ws :=
 h.keep fun g cs hg=>hb.block g (Array.getElem?_eq_some_iff.1 hg).1
theorem TotA.nil(w:World):TotA w (.slice none 0 0) []:=⟨none,0,rfl,⟨Nat.le_refl _,Nat.zero_le _⟩,fun _=>rfl,fun x hx=>absurd hx (by simp),fun a h=>nomatch h⟩
theorem TotA.form{w:World}{v:Value}{ws:List Int}(h:TotA w v ws):∃q c,v=.slice q ws.length c∧ws.length≤1000:=by
 obtain⟨p,c,e,h,_⟩:=h
 exact⟨p,c,e,h.2⟩
theorem TotA.at{w:World}{q:Option Addr}{n c m:Nat}{ws:List Int}(h:TotA w (.slice q n c) ws)(hm:m<ws.length):∃g off,q=some ⟨g,off,none⟩∧g<w.heap.size∧∀j (h:j<ws.length),w.cell? ⟨g,off+j,none⟩=some (.int .u64 ws[j]):=by
 obtain⟨p',c',e,⟨h1,h64⟩,h2,_,h3⟩:=h
 injection e with e1 e2 e3
 subst e1 e3
 cases q with
 | none=>have:=h2 rfl;omega
 | some a =>
  obtain⟨g,off,rfl,⟨cs,h5⟩,h6⟩:=h3 a rfl
  exact⟨g,off,rfl,(Array.getElem?_eq_some_iff.1 h5).1,h6⟩
theorem TotA.R{w:World}{v:Value}{ws:List Int}(h:TotA w v ws):wdR ws:=by
 obtain⟨p,c,e,h,_,h2,_⟩:=h
 exact h2
theorem zew{w:World}{p:Option Addr}{n c l:Nat}{ts:List Int}(h:TotA w (.slice p n c) ts)(hn:ts.length=n)(hl:l≤n):(∀W,Sem.run Tryz.prog (Instr.slice 296 (.slice p n c) none (some (.int .i64 (l:Int))) none) W=.ok (.slice p l c) W)∧TotA w (.slice p l c) (ts.take l):=by
 subst hn
 obtain⟨p',c',e,⟨h1,h64⟩,h2,hR,h3⟩:=h
 injection e with e1 e2 e3
 subst e1 e3
 have hr:∀W,Sem.run Tryz.prog (Instr.slice 296 (.slice p ts.length c) none (some (.int .i64 (l:Int))) none) W=.ok (sliced p 0 l c 1) W:=fun W=>by
  have g0:(0:Int)≤(l:Int):=by omega
  have g1:(l:Int)≤(c:Int):=by omega
  have g2:Sem.run Tryz.prog (Go.sizeOf (Tryz.prog.elem 296)) W=.ok 1 W:=by kernel_rfl
  rw[run_slice_h W 296 p ts.length c (by kernel_rfl) .i64 l g0 g1,g2]
  rfl
 have hlen:(ts.take l).length=l:=by rw[List.length_take];omega
 refine⟨fun W=>?_,p,c,by rw[hlen],⟨by omega,by omega⟩,h2,fun x hx=>hR x (List.mem_of_mem_take hx),fun a ha=>?_⟩
 ·rw[hr W,sliced]
  cases p with
  | none=>simp
  | some a =>
   obtain⟨g,off,rfl,-⟩:=h3 a rfl
   simp[Addr.add]
 ·obtain⟨g,off,e2,h5,h6⟩:=h3 a ha
  refine⟨g,off,e2,h5,fun j hj=>?_⟩
  rw[List.getElem_take]
  exact h6 j (by omega)
theorem zqN{ws:List Int}{n:Nat}(h:ws.length=n+1):byW ws=if 9223372036854775807<ws[n]'(by omega) then 18446744073709551615 else 0:=by
 rw[byW,List.getLast?_eq_getElem?,show ws.length-1=n by omega,List.getElem?_eq_getElem (by omega)]
 rfl
theorem zfS(v:Value)(ws:List Int)(w:World)(h:TotA w v ws) :
  Calls Tryz.prog 265 #[v] w fun e w'=>e=.returned (.int .u64 (byW ws))∧w'=w:=by
 obtain⟨q,c,rfl,hl⟩:=h.form
 by_cases h0:ws.length=0
 ·have hb:byW ws=0:=by rw[List.length_eq_zero_iff.1 h0];rfl
  rw[h0,hb]
  clear h h0 hb
  go_enter Tryz.func265,Tryz.ntmps265
  go_wp2
  go_ret
  exact⟨rfl,rfl⟩
 ·obtain⟨n,hn⟩:∃n,ws.length=n+1:=⟨ws.length-1,by omega⟩
  obtain⟨g,off,rfl,hg,hc⟩:=h.at (m:=n) (by omega)
  have hx:=hc n (by omega)
  have hw:IntKind.i64.wrap ((ws.length:Int)-1)=(n:Int):=by rw[IntKind.wrap_i64];omega
  have hpos:(0:Int)<(ws.length:Int):=by omega
  have hlt:(n:Int)<(ws.length:Int):=by omega
  have hnn:(0:Int)≤(n:Int):=by omega
  have hl2:(ws.length:Int)≤1000:=by omega
  have hB:Hid (byW ws=if 9223372036854775807<ws[n]'(by omega) then 18446744073709551615 else 0):=zqN hn
  generalize ws[n]'(by omega)=x at hx hB
  generalize byW ws=R at hB ⊢
  clear hc hn h0 h
  generalize ws.length=L at *
  by_cases hxx:9223372036854775807<x
  ·have:=hB.out
   rw[if_pos hxx] at this
   subst this
   go_enter Tryz.func265,Tryz.ntmps265
   go_wp2
   go_ret
   exact⟨rfl,rfl⟩
  ·have:=hB.out
   rw[if_neg hxx] at this
   subst this
   go_enter Tryz.func265,Tryz.ntmps265
   go_wp2
   go_ret
   exact⟨rfl,rfl⟩
theorem zhg(v:Value)(ws:List Int)(i:Nat)(w:World)(h:TotA w v ws)(hi:i≤100000) :
  Calls Tryz.prog 257 #[v,.int .i64 (i:Int)] w fun e w'=>e=.returned (.int .u64 (wordW ws i))∧w'=w:=by
 have cB:=zfS v ws w h
 obtain⟨q,c,rfl,hl⟩:=h.form
 by_cases hlt:i<ws.length
 ·obtain⟨g,off,rfl,hg,hc⟩:=h.at hlt
  have hx:=hc i hlt
  have hW:wordW ws i=ws[i]:=by rw[wordW,dif_pos hlt]
  rw[hW]
  generalize ws[i]=x at hx ⊢
  have h1:(i:Int)<(ws.length:Int):=by omega
  have h2:(0:Int)≤(i:Int):=by omega
  clear hc hW cB h
  generalize ws.length=L at *
  go_enter Tryz.func257,Tryz.ntmps257
  go_wp2
  go_ret
  exact⟨rfl,rfl⟩
 ·have hW:wordW ws i=byW ws:=zfj (by omega)
  rw[hW]
  have h1:¬(i:Int)<(ws.length:Int):=by omega
  clear hW h
  generalize byW ws=R at cB ⊢
  generalize ws.length=L at *
  go_enter Tryz.func257,Tryz.ntmps257
  go_wp2_with fail
  refine cB.mono ?_
  rintro e w1 ⟨rfl,rfl⟩
  go_wp2
  go_ret
  exact⟨rfl,rfl⟩
theorem zgG(v:Value)(ws:List Int)(w:World)(h:TotA w v ws)(hs:Short ws)(T E:Int)(hT:(if -9223372036854775808≤sv ws∧sv ws≤9223372036854775807 then (sv ws,(0:Int)) else (0,9))=(T,E)) :
  Calls Tryz.prog 241 #[v] w fun e w'=>e=.returned (.tuple #[.int .i64 T,errV E])∧w'=w:=by
 have cW:=zhg v ws 0 w h (by omega)
 have hR:=h.R
 obtain⟨q,c,rfl,hl⟩:=h.form
 by_cases h1:ws.length≤1
 ·obtain⟨o1,o2,o3⟩:=zvg ws hR h1
  rw[if_pos ⟨o2,o3⟩] at hT
  obtain⟨rfl,rfl⟩:=Prod.mk.inj hT
  have hw0:0≤wordW ws 0∧wordW ws 0<18446744073709551616:=by
   rw[wordW]
   split
   ·exact hR _ (List.getElem_mem _)
   ·exact byW_R ws _ (by simp)
  have hwr:IntKind.i64.wrap (wordW ws 0)=sv ws:=by rw[IntKind.wrap_i64,o1];split<;>omega
  have hg:¬(1:Int)<(ws.length:Int):=by omega
  generalize sv ws=S at *
  generalize wordW ws 0=x at *
  generalize ws.length=L at *
  rw[show errV 0=.nilIface from rfl]
  clear o1 hT h1 h hR
  go_enter Tryz.func241,Tryz.ntmps241
  go_wp2_with fail
  refine cW.mono ?_
  rintro e w1 ⟨rfl,rfl⟩
  clear cW
  go_wp2
  go_ret2
  exact⟨rfl,rfl⟩
 ·rw[if_neg (by have:=zeJ ws hR hs (by omega);omega)] at hT
  obtain⟨rfl,rfl⟩:=Prod.mk.inj hT
  have hg:(1:Int)<(ws.length:Int):=by omega
  generalize ws.length=L at *
  rw[show errV 9=.iface 35 (.int .i64 9) from rfl]
  clear cW h h1 hT
  go_enter Tryz.func241,Tryz.ntmps241
  go_wp2
  go_ret2
  exact⟨rfl,rfl⟩
theorem zus{ws:List Int}{k:Nat}(h:k<ws.length)(hk:0<k):cutW ws k=(ws[k] == byW (ws.take k)):=by
 rw[cutW,decide_eq_true hk,Bool.true_and,wordW,dif_pos h]
theorem zob(v:Value)(ws:List Int)(w:World)(h:TotA w v ws)(hn:ws≠[]) :
  Calls Tryz.prog 258 #[v] w fun e w'=>(∃u,e=.returned u∧TotA w' u (shW ws))∧Below w.heap.size w w':=by
 obtain⟨q,c,rfl,hl⟩:=h.form
 have h0:0<ws.length:=by cases ws with
  | nil=>exact absurd rfl hn
  | cons x r=>simp
 have HT:Aside (TotA w (.slice q ws.length c) ws):=h
 have hw:IntKind.i64.wrap ((ws.length:Int)-1)=((ws.length-1:Nat):Int):=by rw[IntKind.wrap_i64];omega
 have hl2:(ws.length:Int)≤1000:=by omega
 obtain⟨PST,hPST⟩:∃PST:Ending→World→Prop,(fun (e:Ending) (w':World)=>(∃u,e=.returned u∧TotA w' u (shW ws))∧Below w.heap.size w w')=PST:=⟨_,rfl⟩
 have HPE:Hid (∀e w',((∃u,e=.returned u∧TotA w' u (shW ws))∧Below w.heap.size w w')→PST e w'):=by
  intro e w' h
  rw[←hPST]
  exact h
 rw[hPST]
 obtain⟨L,hL⟩:∃L,ws.length=L:=⟨_,rfl⟩
 have HL:Hid (ws.length=L):=hL
 rw[hL] at hw hl2 h0 ⊢
 clear hPST h hl hn
 obtain⟨M,hM⟩:∃M,L=M+1:=⟨L-1,by omega⟩
 have HM:Hid (L=M+1):=hM
 rw[show L-1=M by omega] at hw
 have hLM:M<L:=by omega
 clear hL hM
 go_enter Tryz.func258,Tryz.ntmps258
 go_wp2
 go_loopg [0,3] M (fun gg s0 s3 wr=>∃(kk:Nat),kk≤M∧kk≤gg∧s0=.slice q (kk+1) c∧s3=.int .i64 (kk:Int)∧Hid (shN ws kk=shN ws M)∧Aside (Below w.heap.size w wr))
 case atStart=>exact⟨M,Nat.le_refl _,Nat.le_refl _,by rw[HM.out],rfl,(show Hid _ from rfl),(show Aside _ from Below.refl _ _)⟩
 case round =>
  obtain⟨kk,hkk,hg,rfl,rfl,HS,BW⟩:=hrel
  have HT2:=(zew HT.out rfl (l:=kk+1) (by rw[HL.out];omega)).2
  have hlen:(ws.take (kk+1)).length=kk+1:=by rw[List.length_take,HL.out];omega
  by_cases h00:kk=0
  ·subst h00
   have HF:Hid (shW ws=ws.take (0+1)):=by
    show shW ws=_
    rw[shW,HL.out,HM.out,Nat.add_sub_cancel,←HS.out]
    rfl
   have hgt:∀W,Sem.run Tryz.prog (binOp .gtr 3 (.int .i64 ((0:Nat):Int)) (.int .i64 0)) W=.ok (.bool false) W:=fun W=>by kernel_rfl
   go_wp2
   go_quiet (fail)
   go_wp2
   exact HPE.out _ _ ⟨⟨_,rfl,by rw[HF.out];exact (HT2.on BW.out).on (below_drewN (Below.refl _ _) _)⟩,below_drewN BW.out _⟩
  ·have hz:(0:Int)<(kk:Int):=by omega
   have hd:((kk:Int) > 0:Bool)=true:=decide_eq_true hz
   have hgt:∀W,Sem.run Tryz.prog (binOp .gtr 3 (.int .i64 (kk:Int)) (.int .i64 0)) W=.ok (.bool true) W:=fun W=>by rw[binOp_gtr,hd];rfl
   have hkp:0<kk:=by omega
   have hki:kk<ws.length:=by rw[HL.out];omega
   obtain⟨g,off,rfl,hgl,hcc⟩:=HT.out.at hki
   have hcl:wr.cell? ⟨g,off+kk,none⟩=some (.int .u64 ws[kk]):=by rw[BW.out.cell (p:=⟨g,off+kk,none⟩) hgl];exact hcc kk hki
   obtain⟨r1,t1⟩:=zew (l:=kk) HT2 hlen (by omega)
   rw[List.take_take,Nat.min_eq_left (by omega)] at t1
   have cB:=fun (W:World) (hW:Below w.heap.size w W)=>zfS _ (ws.take kk) W (t1.on hW)
   have hk0:(0:Int)≤(kk:Int):=by omega
   have hk1:(kk:Int)<(kk:Int)+1:=by omega
   have hcut:=zus hki (by omega)
   obtain⟨m,hm⟩:∃m,kk=m+1:=⟨kk-1,by omega⟩
   have hwk:IntKind.i64.wrap ((kk:Int)-1)=(m:Int):=by rw[IntKind.wrap_i64];omega
   have HSN:Hid (shN ws kk=if cutW ws kk=true then shN ws m else kk+1):=by
    show shN ws kk=_
    rw[hm,shN]
   have HKM:Hid (kk=m+1):=hm
   clear hcc hm
   generalize hx:ws[kk]=x at hcl hcut
   generalize hy:byW (ws.take kk)=y at cB hcut
   have cQ:∀W,(∃n,W=wr.drewN n)→Calls Tryz.prog 265 #[.slice (some ⟨g,off,none⟩) kk c] W fun e w'=>e=.returned (.int .u64 y)∧w'=W:=fun W hW=>by
    obtain⟨n,rfl⟩:=hW
    exact cB _ (below_drewN BW.out _)
   by_cases hxy:x=y
   ·subst hxy
    have qe:(x == x)=true:=by simp
    have HC:Hid (shN ws m=shN ws M):=by
     show shN ws m=_
     rw[←HS.out,HSN.out,if_pos (by rw[hcut];exact qe)]
    clear hcut HSN HS
    go_wp2
    go_quiet ((go_at_call 265;exact Calls.quiet_of_same (cQ _ ⟨_,rfl⟩)))
    go_wp2
    go_roundg m
    case measure=>have:=HKM.out;omega
    case rel=>exact⟨m,by have:=HKM.out;omega,Nat.le_refl _,by rw[HKM.out],rfl,HC,(show Aside _ from below_drewN BW.out _)⟩
   ·have qe:(x == y)=false:=by simpa using hxy
    have HF:Hid (shW ws=ws.take (kk+1)):=by
     show shW ws=_
     rw[shW,HL.out,HM.out,Nat.add_sub_cancel,←HS.out,HSN.out,if_neg (by rw[hcut,qe];simp)]
    clear hcut HSN HS
    go_wp2
    go_quiet ((go_at_call 265;exact Calls.quiet_of_same (cQ _ ⟨_,rfl⟩)))
    go_wp2
    exact HPE.out _ _ ⟨⟨_,rfl,by rw[HF.out];exact (HT2.on BW.out).on (below_drewN (Below.refl _ _) _)⟩,below_drewN BW.out _⟩
theorem zhH(x y c:Int)(hx:0≤x)(hy:0≤y)(hc:c=0∨c=1)(w:World):Sem.run Tryz.prog (callFunc 256 #[.int .u64 x,.int .u64 y,.int .u64 c]) w=.ok (.value (.tuple #[.int .u64 ((x+y+c) % 18446744073709551616),.int .u64 ((x+y+c) / 18446744073709551616)])) w:=by
 rw[run_callFunc_extern Tryz.func256 (by kernel_rfl) (by kernel_rfl) (by kernel_rfl) (e:=add64Entry) (by kernel_rfl),run_add64 x y c hx hy (by omega) (by omega)]
 rfl
def fillT(ws:List Int)(n:Nat):List Value:=ws.map (fun x=>.int .u64 x)++List.replicate (n-ws.length) (.int .u64 0)
theorem zkr(n:Nat):fillT [] n=(madeCells #[.int .u64 0] n).toList:=by
 simp[fillT,madeCells]
 apply List.ext_getElem
 ·simp
 ·intro i h1 h2
  have:i % 1=0:=Nat.mod_one i
  simp[this]
theorem zqz{ws:List Int}{n:Nat}(h:ws.length<n):(fillT ws n)[ws.length]?=some (.int .u64 0):=by
 rw[fillT,List.getElem?_append_right (by simp),List.length_map,Nat.sub_self,List.getElem?_replicate,if_pos (by omega)]
theorem zoc{ws:List Int}{n:Nat}(h:ws.length<n)(x:Int):(fillT ws n).set ws.length (.int .u64 x)=fillT (ws++[x]) n:=by
 obtain⟨m,hm⟩:∃m,n-ws.length=m+1:=⟨n-ws.length-1,by omega⟩
 rw[fillT,fillT,hm,List.length_append,List.length_singleton,show n-(ws.length+1)=m by omega,List.replicate_succ,List.set_append_right _ _ (by simp)]
 simp
theorem zmf{ws:List Int}{n:Nat}(h:ws.length=n):fillT ws n=ws.map (fun x=>.int .u64 x):=by
 rw[fillT,h,Nat.sub_self];simp
theorem zjZ{ws:List Int}(h:wdR ws)(i:Nat):0≤wordW ws i∧wordW ws i<18446744073709551616:=by
 rw[wordW]
 split
 ·exact h _ (List.getElem_mem _)
 ·exact byW_R ws _ (by simp)
theorem zsi{ws:List Int}(h:wdR ws)(n:Nat):wdR (extW ws n):=fun x hx=>by
 simp only[extW,List.mem_map] at hx
 obtain⟨i,_,rfl⟩:=hx
 exact zjZ h i
theorem ztJ{w:World}{B:Nat}{g n:Nat}{ws:List Int}(hn:ws.length=n)(hl:n≤1000)(h:w.ownsRow B 267 1 (.slice (some ⟨g,0,none⟩) n n) n (ws.map fun x=>.int .u64 x))(hR:wdR ws):TotA w (.slice (some ⟨g,0,none⟩) n n) ws:=by
 subst hn
 refine⟨_,_,rfl,⟨Nat.le_refl _,hl⟩,(fun hp=>nomatch hp),hR,fun a ha=>?_⟩
 injection ha with ha
 subst ha
 rcases id h.2 with ⟨e,_⟩|⟨g',cap,cur,e,hb,hg,hm,hx,hs,ht⟩
 ·injection e with e1;exact absurd e1 (by simp)
 ·injection e with e1 e2 e3
  injection e1 with e1
  injection e1 with e1
  subst e1
  refine⟨g,0,rfl,⟨cur,hg⟩,fun j hj=>?_⟩
  have:=h.cells (g:=g) rfl j (.int .u64 ws[j]) (by rw[List.getElem?_map,List.getElem?_eq_getElem hj];rfl)
  rw[Go.WideShapes.add_plain] at this
  exact this
theorem zpA(u v:Value)(as_ bs:List Int)(w:World)(hu:TotA w u as_)(hv:TotA w v bs)(hla:as_.length≤900)(hlb:bs.length≤900) :
  Calls Tryz.prog 239 #[u,v] w fun e w'=>(∃r,e=.returned r∧TotA w' r (shW (sumW as_ bs)))∧Below w.heap.size w w':=by
 obtain⟨p,c,rfl,_⟩:=hu.form
 obtain⟨q,d,rfl,_⟩:=hv.form
 obtain⟨n,hn⟩:∃n,max as_.length bs.length+1=n:=⟨_,rfl⟩
 have HN:Hid (addW (extW as_ n) (extW bs n) 0=sumW as_ bs):=by
  show addW (extW as_ n) (extW bs n) 0=_
  rw[sumW,hn]
 have hnb:n≤901:=by omega
 have hnp:1≤n:=by omega
 have hmk:=run_make_row' (P:=Tryz.prog) 296 267 (.int .u64 0) 8 Tryz.underlying296 zra rfl .i64 .i64 n (by omega) (by omega)
 have HU:Aside (TotA w (.slice p as_.length c) as_):=hu
 have HV:Aside (TotA w (.slice q bs.length d) bs):=hv
 have HSU:Aside _:=zlA as_ bs hu.R hv.R
 have hmx0:(if (as_.length:Int)<(bs.length:Int) then (bs.length:Int) else (as_.length:Int))+1=(n:Int):=by split<;>omega
 have hmx:Hid _:=hmx0
 clear hmx0
 obtain⟨PST,hPST⟩:∃PST:Ending→World→Prop,(fun (e:Ending) (w':World)=>(∃r,e=.returned r∧TotA w' r (shW (sumW as_ bs)))∧Below w.heap.size w w')=PST:=⟨_,rfl⟩
 have HPE:Hid (∀e w',((∃r,e=.returned r∧TotA w' r (shW (sumW as_ bs)))∧Below w.heap.size w w')→PST e w'):=by
  intro e w' h
  rw[←hPST]
  exact h
 rw[hPST]
 clear hPST hu hv hn
 generalize as_.length=LA at *
 generalize bs.length=LB at *
 have hsplit:((LA:Int)<(LB:Int)∧∀W:World,Sem.run Tryz.prog (Instr.makeSlice 296 (.int .i64 ((LB:Int)+1)) (.int .i64 ((LB:Int)+1))) W=.ok (.slice (some ⟨W.heap.size,0,none⟩) n n) (W.alloc (.cells (madeCells #[.int .u64 0] n) 267)))∨(¬(LA:Int)<(LB:Int)∧∀W:World,Sem.run Tryz.prog (Instr.makeSlice 296 (.int .i64 ((LA:Int)+1)) (.int .i64 ((LA:Int)+1))) W=.ok (.slice (some ⟨W.heap.size,0,none⟩) n n) (W.alloc (.cells (madeCells #[.int .u64 0] n) 267))):=by
  have:=hmx.out
  by_cases h:(LA:Int)<(LB:Int)
  ·rw[if_pos h] at this;rw[this];exact .inl ⟨h,hmk⟩
  ·rw[if_neg h] at this;rw[this];exact .inr ⟨h,hmk⟩
 clear hmk hmx
 rcases hsplit with ⟨hab,hmk⟩|⟨hab,hmk⟩
 all_goals
  go_enter Tryz.func239,Tryz.ntmps239
  go_wp2
  go_loopg [6,17] n (fun gg s6 s17 wr=>∃kk:Nat,kk≤n∧n-kk≤gg∧s6=.int .u64 (carW (extW as_ kk) (extW bs kk) 0)∧s17=.int .i64 kk∧Aside (wr.ownsRow w.heap.size 267 1 (.slice (some ⟨w.heap.size,0,none⟩) n n) n (fillT (addW (extW as_ kk) (extW bs kk) 0) n))∧Aside (Below w.heap.size w wr))
  case atStart =>
   refine⟨0,Nat.zero_le _,by omega,rfl,rfl,?_,?_⟩
   ·show World.ownsRow _ _ _ _ _ _ _
    have o1:=World.ownsRow_lit (base:=w.heap.size) (e:=267) (size:=1) w (madeCells #[.int .u64 0] n) n (Nat.le_refl _) (by unfold maxLen;omega) (by rw[size_madeCells,Nat.mul_one])
    rw[←zkr] at o1
    exact o1
   ·exact (Below.refl _ w).alloc (Nat.le_refl _) _
  case round =>
   obtain⟨kk,hkk,hg,rfl,rfl,OW,BW⟩:=hrel
   have hcar:=zot (extW as_ kk) (extW bs kk) 0 (zsi HU.out.R kk) (zsi HV.out.R kk) (.inl rfl)
   obtain⟨ap1,ap2⟩:=zlk (extW as_ kk) (extW bs kk) 0 (wordW as_ kk) (wordW bs kk) (by rw[zbr,zbr])
   have hlen:=zeV (extW as_ kk) (extW bs kk) 0 (by rw[zbr,zbr])
   rw[zbr] at hlen
   rw[←zdd,←zdd] at ap1 ap2
   by_cases hlt:kk<n
   ·have hltz:(kk:Int)<(n:Int):=by omega
    have h0z:(0:Int)≤(kk:Int):=by omega
    obtain⟨x1,x2⟩:=zjZ HU.out.R kk
    obtain⟨y1,y2⟩:=zjZ HV.out.R kk
    have c1:=fun (hW:Below w.heap.size w wr)=>zhg _ as_ kk wr (HU.out.on hW) (by omega)
    have c2:=fun (hW:Below w.heap.size w wr)=>zhg _ bs kk wr (HV.out.on hW) (by omega)
    have c1:=c1 BW.out
    have c2:=c2 BW.out
    have hfz:wr.frozen? ⟨w.heap.size,kk,none⟩=false:=OW.out.frozenAt kk
    have hce:wr.cell? ⟨w.heap.size,kk,none⟩=some (.int .u64 0):=by
     rw[OW.out.cellAt kk (by omega)]
     have:=zqz (ws:=addW (extW as_ kk) (extW bs kk) 0) (n:=n) (by omega)
     rw[hlen] at this
     exact this
    have hst:=(OW.out.stored kk (.int .u64 ((wordW as_ kk+wordW bs kk+carW (extW as_ kk) (extW bs kk) 0) % 18446744073709551616))).1
    have hse:=zoc (ws:=addW (extW as_ kk) (extW bs kk) 0) (n:=n) (by omega) ((wordW as_ kk+wordW bs kk+carW (extW as_ kk) (extW bs kk) 0) % 18446744073709551616)
    rw[hlen] at hse
    rw[hse,←ap1] at hst
    have HST:Aside _:=hst
    have HAP:Hid _:=ap2
    have BW2:Aside (Below w.heap.size w (wr.setCell ⟨w.heap.size,kk,none⟩ (.int .u64 ((wordW as_ kk+wordW bs kk+carW (extW as_ kk) (extW bs kk) 0) % 18446744073709551616)))):=BW.out.setCell (Nat.le_refl _) _
    have hadd:=zhH (wordW as_ kk) (wordW bs kk) (carW (extW as_ kk) (extW bs kk) 0) x1 y1 hcar
    clear hst hse ap1 ap2 hlen OW BW hcar
    generalize hx:wordW as_ kk=x at *
    generalize hy:wordW bs kk=y at *
    generalize carW (extW as_ kk) (extW bs kk) 0=cr at *
    generalize (x+y+cr) % 18446744073709551616=sm at *
    generalize (x+y+cr) / 18446744073709551616=co at *
    go_wp2_with fail
    refine c1.mono ?_
    rintro e w1 ⟨rfl,rfl⟩
    clear c1
    go_wp2_with fail
    refine c2.mono ?_
    rintro e w2 ⟨rfl,rfl⟩
    clear c2
    go_wp2
    go_roundg (n-(kk+1))
    case measure=>omega
    case rel=>exact⟨kk+1,by omega,by omega,by rw[HAP.out],by go_num,HST,BW2⟩
   ·have hltz:¬(kk:Int)<(n:Int):=by omega
    obtain rfl:kk=n:=by omega
    rw[HN.out] at OW hlen
    have hsl:=HSU.out.2.2
    have cS:∀W,Below wr.heap.size wr W→Calls Tryz.prog 258 #[.slice (some ⟨w.heap.size,0,none⟩) kk kk] W fun e w'=>(∃u,e=.returned u∧TotA w' u (shW (sumW as_ bs)))∧Below W.heap.size W w':=fun W hW=>by
     have ho:=OW.out
     rw[zmf hlen] at ho
     exact zob _ _ _ ((ztJ hlen (by omega) ho HSU.out.2.1).on hW) (by intro e;rw[e] at hlen;simp at hlen;omega)
    clear OW hlen hsl ap1 ap2 hcar
    go_wp2_with fail
    refine (cS _ (Below.refl _ _)).mono ?_
    rintro e w1 ⟨⟨r,rfl,T1⟩,B1⟩
    clear cS
    have BW3:Aside (Below w.heap.size w w1):=BW.out.trans (B1.mono BW.out.size)
    have T2:Aside (TotA w1 r (shW (sumW as_ bs))):=T1
    clear B1 T1 BW
    go_wp2
    exact HPE.out _ _ ⟨⟨_,rfl,T2.out⟩,BW3.out⟩
theorem zbz(s:ByteArray)(w:World)(hs:s.size≤281474976710656) :
  Calls Tryz.prog 49 #[.string s] w fun e w'=>e=.returned (.string s)∧Below w.heap.size w w':=by
 go_enter Tryz.func49,Tryz.ntmps49
 go_wp2_with fail
 refine (Tryz.stringslite_Clone s _ hs).mono ?_
 rintro e w1 ⟨rfl,b1⟩
 go_wp2
 go_ret
 exact⟨rfl,b1⟩
theorem zbW(t n:Int)(s:ByteArray)(w:World)(hs:s.size≤281474976710656):Calls Tryz.prog 168 #[.agg #[.int .i64 t,.int .i64 n,.string s]] w fun e w'=>e=.returned (.agg #[.int .i64 t,.int .i64 n,.string s])∧Below w.heap.size w w':=by
 have c:=fun W=>zbz s W hs
 have b1:Below w.heap.size w ((w.alloc (.cells #[.int .i64 t,.int .i64 n,.string s] 27)).alloc (.cells #[.int .i64 0,.int .i64 0,.string ⟨#[]⟩] 27)):=((Below.refl _ w).alloc (Nat.le_refl _) _).alloc (by simp) _
 go_enter Tryz.func168,Tryz.ntmps168
 go_wp2_with fail
 refine (c _).mono ?_
 rintro e w1 ⟨rfl,b2⟩
 obtain⟨k1,k2,hl1⟩:=zhh _ _ _ b2 (by simp)
 obtain⟨j1,j2,hl0⟩:=zhh w _ _ (((Below.refl _ (w.alloc (.cells #[.int .i64 t,.int .i64 n,.string s] 27))).alloc (Nat.le_refl _) _).trans (b2.mono (by simp))) (by simp)
 simp at k1 k2 hl1 j1 j2
 have f0:w1.cell? ⟨w.heap.size+1,0,none⟩=some (.int .i64 0):=k1 0
 have f1:w1.cell? ⟨w.heap.size+1,1,none⟩=some (.int .i64 0):=k1 1
 have f2:w1.cell? ⟨w.heap.size+1,2,none⟩=some (.string ⟨#[]⟩):=k1 2
 have g0:w1.cell? ⟨w.heap.size,0,none⟩=some (.int .i64 t):=j1 0
 have g1:w1.cell? ⟨w.heap.size,1,none⟩=some (.int .i64 n):=j1 1
 have g2:w1.cell? ⟨w.heap.size,2,none⟩=some (.string s):=j1 2
 have b4:Below w.heap.size w w1:=b1.trans (b2.mono b1.size)
 clear c b1 b2 k1 j1
 go_wp2
 refine bodyPost_ret (v:=.agg #[.int .i64 t,.int .i64 n,.string s]) (by simp[results,Tryz.results168,go_sem,World.cell?_setCell_other,World.cell?_setCell_same,f0,f1,f2]) rfl ⟨rfl,?_⟩
 exact (((b4.setCell (p:=⟨w.heap.size,2,none⟩) (Nat.le_refl _) _).setCell (p:=⟨w.heap.size+1,0,none⟩) (by simp) _).setCell (p:=⟨w.heap.size+1,1,none⟩) (by simp) _).setCell (p:=⟨w.heap.size+1,2,none⟩) (by simp) _
structure zbG(w:World)(b off:Nat)(p:Pt)(q:Option Addr)(c:Nat):Prop where
 c0:w.cell? ⟨b,off,none⟩=some (.string p.what)
 c1:w.cell? ⟨b,off+1,none⟩=some (.int .i64 p.kind)
 c2:w.cell? ⟨b,off+2,none⟩=some (.slice q p.ws.length c)
 c3:w.cell? ⟨b,off+3,none⟩=some (.int .i64 p.best.1)
 c4:w.cell? ⟨b,off+4,none⟩=some (.int .i64 p.best.2.1)
 c5:w.cell? ⟨b,off+5,none⟩=some (.string p.best.2.2)
 tot:TotA w (.slice q p.ws.length c) p.ws
 lt:b<w.heap.size
theorem zbG.on{w w':World}{b off:Nat}{p:Pt}{q:Option Addr}{c:Nat}(h:zbG w b off p q c)(hb:Below w.heap.size w w'):zbG w' b off p q c:=by
 obtain⟨c0,c1,c2,c3,c4,c5,t,lt⟩:=h
 have k:∀o,w'.cell? ⟨b,o,none⟩=w.cell? ⟨b,o,none⟩:=fun o=>hb.cell (p:=⟨b,o,none⟩) lt
 exact⟨by rw[k];exact c0,by rw[k];exact c1,by rw[k];exact c2,by rw[k];exact c3,by rw[k];exact c4,by rw[k];exact c5,t.on hb,by have:=hb.size;omega⟩
def partW(p:Pt)(q:Option Addr)(c:Nat):Value:=.agg #[.string p.what,.int .i64 p.kind,.slice q p.ws.length c,.int .i64 p.best.1,.int .i64 p.best.2.1,.string p.best.2.2]
theorem zcI(b off:Nat)(t:Int)(w:World)(h:w.cell? ⟨b,off+3,none⟩=some (.int .i64 t)) :
  Calls Tryz.prog 242 #[.pointer (some ⟨b,off,none⟩)] w fun e w'=>e=.returned (.bool (t == 0))∧w'=w:=by
 go_enter Tryz.func242,Tryz.ntmps242
 go_wp2
 go_ret
 exact⟨rfl,rfl⟩
theorem zjj(b off b2 off2:Nat)(p o:Pt)(q q2:Option Addr)(c c2:Nat)(w:World)(hp:zbG w b off p q c)(ho:zbG w b2 off2 o q2 c2)(kp:OkPt p)(ko:OkPt o)(hk:p.kind=o.kind) :
  Calls Tryz.prog 240 #[.pointer (some ⟨b,off,none⟩),.pointer (some ⟨b2,off2,none⟩)] w fun e w'=>e=.returned (.bool (zbi p o))∧Below w.heap.size w w':=by
 have e1:=zcI b off p.best.1 w hp.c3
 have e2:=zcI b2 off2 o.best.1 w ho.c3
 by_cases h1:p.best.1=0
 ·have hA:zbi p o=false:=by rw[zbi,if_pos (.inl h1)];simp[h1]
  rw[hA]
  rw[h1,show ((0:Int) == 0)=true from rfl] at e1
  clear hA e2
  go_enter Tryz.func240,Tryz.ntmps240
  go_wp2_with fail
  refine e1.mono ?_
  rintro e w1 ⟨rfl,rfl⟩
  go_wp2_with fail
  refine e1.mono ?_
  rintro e w1 ⟨rfl,rfl⟩
  go_wp2
  go_ret
  exact⟨rfl,Below.refl _ _⟩
 ·have hb1:(p.best.1 == 0)=false:=by simpa using h1
  rw[hb1] at e1
  by_cases h2:o.best.1=0
  ·have hA:zbi p o=true:=by rw[zbi,if_pos (.inr h2)];simp[h1]
   rw[hA]
   rw[h2,show ((0:Int) == 0)=true from rfl] at e2
   clear hA hb1
   go_enter Tryz.func240,Tryz.ntmps240
   go_wp2_with fail
   refine e1.mono ?_
   rintro e w1 ⟨rfl,rfl⟩
   go_wp2_with fail
   refine e2.mono ?_
   rintro e w1 ⟨rfl,rfl⟩
   go_wp2_with fail
   refine e1.mono ?_
   rintro e w1 ⟨rfl,rfl⟩
   go_wp2
   go_ret
   exact⟨rfl,Below.refl _ _⟩
  ·have hb2:(o.best.1 == 0)=false:=by simpa using h2
   rw[hb2] at e2
   have b1:=kp.best.resolve_left (fun h=>h1 h.1)
   have b2':=ko.best.resolve_left (fun h=>h2 h.1)
   have hcE:cmpE p.best.1 p.best.2.1 p.best.2.2.data.toList o.best.1 o.best.2.1 o.best.2.2.data.toList=0:=by
    rw[cmpE,if_neg (by rw[b1.2.1];simp),if_neg (by rw[b2'.2.1];simp),if_neg (by rw[b1.1,b2'.1,hk];simp)]
   have s1:p.best.2.2.size≤maxLen:=by have:=zdP b1.2.1;simp at this;unfold maxLen;omega
   have s2:o.best.2.2.size≤maxLen:=by have:=zdP b2'.2.1;simp at this;unfold maxLen;omega
   have cC:=fun W=>zes p.best.1 p.best.2.1 p.best.2.2 o.best.1 o.best.2.1 o.best.2.2 W s1 s2
   rw[hcE,show errV 0=.nilIface from rfl] at cC
   have hA:zbi p o=if p.wh=zaK then decide (cmpX p.best o.best<0) else decide (0<cmpX p.best o.best):=by rw[zbi,if_neg (by rintro (h|h);exact h1 h;exact h2 h)]
   have hX:cmpN p.best.1 p.best.2.1 p.best.2.2.data.toList o.best.1 o.best.2.1 o.best.2.2.data.toList=cmpX p.best o.best:=rfl
   rw[hX] at cC
   generalize zbi p o=R at hA ⊢
   generalize cmpX p.best o.best=X at hA cC
   have hp0:=hp.c0
   have hp3:=hp.c3
   have hp4:=hp.c4
   have hp5:=hp.c5
   have ho3:=ho.c3
   have ho4:=ho.c4
   have ho5:=ho.c5
   have hpl:=hp.lt
   have hol:=ho.lt
   generalize p.best.1=pt at *
   generalize p.best.2.1=pn at *
   generalize p.best.2.2=ps at *
   generalize o.best.1=ot at *
   generalize o.best.2.1=on at *
   generalize o.best.2.2=os at *
   have hA2:Hid (R=if p.what.data.toList=zaK then decide (X<0) else decide (0<X)):=hA
   generalize p.what=x at *
   clear hp ho kp ko hA b1 b2' hcE hX hk
   go_enter Tryz.func240,Tryz.ntmps240
   go_wp2_with fail
   refine e1.mono ?_
   rintro e w1 ⟨rfl,rfl⟩
   go_wp2_with fail
   refine e2.mono ?_
   rintro e w1 ⟨rfl,rfl⟩
   clear e1 e2
   go_wp2
   go_region_with (go_at_call 221;refine (cC _).mono ?_;rintro e w2 ⟨rfl,B2⟩;have B3:Below w1.heap.size w1 w2:=(Below.drew (Below.refl _ w1)).trans B2;have hp0':w2.cell? ⟨b,off,none⟩=some (.string x):=by rw[B3.cell (p:=⟨b,off,none⟩) hpl];exact hp0)
   all_goals
    by_cases hx:x.data.toList=zaK
    ·have hq:(x.toList == [108,101,97,115,116])=true:=by rw[Lib.toList_data];simpa [zaK] using hx
     have hR:=hA2.out
     rw[if_pos hx] at hR
     subst hR
     clear hA2 hx
     go_wp2
     go_ret
     exact⟨rfl,B3⟩
    ·have hq:(x.toList == [108,101,97,115,116])=false:=by rw[Lib.toList_data];simpa [zaK] using hx
     have hR:=hA2.out
     rw[if_neg hx] at hR
     subst hR
     clear hA2 hx
     go_wp2
     go_ret
     exact⟨rfl,B3⟩
theorem zcS{x:ByteArray}{l:List UInt8}(h:x.data.toList=l):(x.toList == l)=true:=by rw[Lib.toList_data];simpa using h
theorem zbF{x:ByteArray}{l:List UInt8}(h:x.data.toList≠l):(x.toList == l)=false:=by rw[Lib.toList_data];simpa using h
theorem zjq(b off:Nat)(x:ByteArray)(k t n:Int)(s:ByteArray)(w:World)(h0:w.cell? ⟨b,off,none⟩=some (.string x))(h1:w.cell? ⟨b,off+1,none⟩=some (.int .i64 k))(hl:b<w.heap.size)(hs:s.size≤maxLen)
  (E:Int)(hE:(if x.data.toList=zaQ then 0 else if chk t n s.data.toList≠0 then chk t n s.data.toList else if t≠k then 8 else 0)=E) :
  Calls Tryz.prog 205 #[.pointer (some ⟨b,off,none⟩),.agg #[.int .i64 t,.int .i64 n,.string s]] w fun e w'=>e=.returned (errV E)∧Below w.heap.size w w':=by
 have cC:=fun W=>zcg t n s W hs
 have B1:Below w.heap.size w (w.alloc (.cells #[.int .i64 t,.int .i64 n,.string s] 27)):=alB _ _
 by_cases hx:x.data.toList=zaQ
 ·rw[if_pos hx] at hE
  subst hE
  have hq:=zcS hx
  simp only[zaQ] at hq
  rw[show errV 0=.nilIface from rfl]
  clear cC hx
  go_enter Tryz.func205,Tryz.ntmps205
  go_wp2
  go_ret
  exact⟨rfl,B1⟩
 ·rw[if_neg hx] at hE
  have hq:=zbF hx
  simp only[zaQ] at hq
  clear hx
  by_cases hc:chk t n s.data.toList=0
  ·rw[if_neg (fun h=>h hc)] at hE
   rw[hc,show errV 0=.nilIface from rfl] at cC
   clear hc
   by_cases ht:t=k
   ·rw[if_neg (fun h=>h ht)] at hE
    subst hE ht
    rw[show errV 0=.nilIface from rfl]
    have qt:(t != t)=false:=by simp
    go_enter Tryz.func205,Tryz.ntmps205
    go_wp2_with fail
    refine (cC _).mono ?_
    rintro e w1 ⟨rfl,B2⟩
    obtain⟨k1,k2,k3⟩:=zhh w _ _ B2 (by simp)
    have f0:w1.cell? ⟨w.heap.size,0,none⟩=some (.int .i64 t):=k1 0
    have B3:Below w.heap.size w w1:=B1.trans (B2.mono B1.size)
    have f1:w1.cell? ⟨b,off+1,none⟩=some (.int .i64 t):=by rw[B3.cell (p:=⟨b,off+1,none⟩) hl];exact h1
    clear cC B2 k1 k2 h0 h1
    go_wp2
    go_quiet (fail)
    go_wp2
    go_ret
    exact⟨rfl,below_drewN B3 _⟩
   ·rw[if_pos ht] at hE
    subst hE
    rw[show errV 8=.iface 35 (.int .i64 8) from rfl]
    have qt:(t != k)=true:=by simpa using ht
    go_enter Tryz.func205,Tryz.ntmps205
    go_wp2_with fail
    refine (cC _).mono ?_
    rintro e w1 ⟨rfl,B2⟩
    obtain⟨k1,k2,k3⟩:=zhh w _ _ B2 (by simp)
    have f0:w1.cell? ⟨w.heap.size,0,none⟩=some (.int .i64 t):=k1 0
    have B3:Below w.heap.size w w1:=B1.trans (B2.mono B1.size)
    have f1:w1.cell? ⟨b,off+1,none⟩=some (.int .i64 k):=by rw[B3.cell (p:=⟨b,off+1,none⟩) hl];exact h1
    clear cC B2 k1 k2 h0 h1
    go_wp2
    go_quiet (fail)
    go_wp2
    go_ret
    exact⟨rfl,below_drewN B3 _⟩
  ·rw[if_pos hc] at hE
   have cB:=fun W=>zfc t n s W hs hc
   rw[hE] at cB hc
   rw[errV,if_neg hc]
   clear cC hE hc
   go_enter Tryz.func205,Tryz.ntmps205
   go_wp2_with fail
   refine (cB _).mono ?_
   rintro e w1 ⟨rfl,B2⟩
   have B3:Below w.heap.size w w1:=B1.trans (B2.mono B1.size)
   clear cB B2 h0 h1
   go_wp2
   go_ret
   exact⟨rfl,B3⟩
end Go.Proofs.YtopghagjmdbglaaGreatDoor
