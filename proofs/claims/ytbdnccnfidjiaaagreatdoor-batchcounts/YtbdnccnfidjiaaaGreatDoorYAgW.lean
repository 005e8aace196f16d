/-
  AgW.
-/
import Derived.Test.YtbdnccnfidjiaaaGreatDoorProg
namespace Go.Proofs.YtbdnccnfidjiaaaGreatDoor
set_option linter.unusedVariables false
set_option linter.unusedSimpArgs false
set_option maxHeartbeats 8000000
def sv:List Int→Int
 | []=>0
 | [x]=>if 9223372036854775808≤x then x-18446744073709551616 else x
 | x::y::r=>x+18446744073709551616*sv (y::r)
def wdR(ws:List Int):Prop:=∀x∈ws,0≤x∧x<18446744073709551616
def byW(ws:List Int):Int:=if 9223372036854775807<ws.getLast?.getD 0 then 18446744073709551615 else 0
def wordW(ws:List Int)(i:Nat):Int:=if h:i<ws.length then ws[i] else byW ws
def extW(ws:List Int)(n:Nat):List Int:=(List.range n).map (wordW ws)
def addW:List Int→List Int→Int→List Int
 | x::a,y::b,c=>(x+y+c) % 18446744073709551616::addW a b ((x+y+c) / 18446744073709551616)
 | _,_,_=>[]
def carW:List Int→List Int→Int→Int
 | x::a,y::b,c=>carW a b ((x+y+c) / 18446744073709551616)
 | _,_,c=>c
theorem znX(ws:List Int):byW ws=0∨byW ws=18446744073709551615:=by unfold byW;split<;>simp
theorem zcw(x:Int){r:List Int}(h:r≠[]):sv (x::r)=x+18446744073709551616*sv r:=by
 cases r with
 | nil=>exact absurd rfl h
 | cons y r=>rfl
theorem zbD{x:Int}{r:List Int}(h:wdR (x::r)):wdR r:=fun y hy=>h y (List.mem_cons_of_mem _ hy)
theorem zje(x:Int){r:List Int}(h:r≠[]):byW (x::r)=byW r:=by
 cases r with
 | nil=>exact absurd rfl h
 | cons y r=>simp[byW,List.getLast?_cons_cons]
theorem zqg(ws:List Int)(b:Int):byW (ws++[b])=if 9223372036854775807<b then 18446744073709551615 else 0:=by simp[byW]
theorem zkS:∀(ws:List Int),ws≠[]→wdR ws→sv (ws++[byW ws])=sv ws
 | [],h,_=>absurd rfl h
 | [x],_,hw=>by
  have hx:=hw x (by simp)
  by_cases h:9223372036854775808≤x
  ·have hb:byW [x]=18446744073709551615:=by simp[byW];omega
   rw[hb];simp only[List.cons_append,List.nil_append,sv,if_pos h];simp;omega
  ·have hb:byW [x]=0:=by simp[byW];omega
   rw[hb];simp only[List.cons_append,List.nil_append,sv,if_neg h];simp
 | x::y::r,_,hw=>by
  have ih:=zkS (y::r) (by simp) (zbD hw)
  rw[zje x (by simp),List.cons_append,zcw x (by simp),ih,zcw x (by simp)]
theorem zsA{a b:List Int}(ha:wdR a)(hb:wdR b):wdR (a++b):=fun x hx=>(List.mem_append.1 hx).elim (ha x) (hb x)
theorem byW_R(ws:List Int):wdR [byW ws]:=fun x hx=>by
 have:x=byW ws:=by simpa using hx
 rw[this]
 rcases znX ws with h|h<;>rw[h]<;>omega
theorem znZ(ws:List Int):byW (ws++[byW ws])=byW ws:=by
 rw[zqg]
 rcases znX ws with h|h<;>rw[h]<;>simp
theorem zbc(ws:List Int)(n:Nat):(extW ws n).length=n:=by simp[extW]
theorem zcE(ws:List Int)(n:Nat):extW ws (n+1)=extW ws n++[wordW ws n]:=by simp[extW,List.range_succ]
theorem zos(ws:List Int):extW ws ws.length=ws:=by
 apply List.ext_getElem
 ·simp[extW]
 ·intro i h1 h2
  simp[extW,wordW,h2]
theorem zeT{ws:List Int}{n:Nat}(h:ws.length≤n):wordW ws n=byW ws:=by rw[wordW,dif_neg (by omega)]
theorem zgs(ws:List Int):∀k,wdR ws→ws≠[]→sv (extW ws (ws.length+k))=sv ws∧wdR (extW ws (ws.length+k))∧byW (extW ws (ws.length+k))=byW ws
 | 0,hw,_=>by rw[Nat.add_zero,zos];exact⟨rfl,hw,rfl⟩
 | k+1,hw,hn=>by
  obtain⟨h1,h2,h3⟩:=zgs ws k hw hn
  have hne:extW ws (ws.length+k)≠[]:=by
   intro e
   have:=zbc ws (ws.length+k)
   rw[e] at this
   have:ws.length=0:=by simp at this;omega
   exact hn (List.length_eq_zero_iff.1 this)
  rw[←Nat.add_assoc,zcE,zeT (by omega),←h3]
  exact⟨by rw[zkS _ hne h2,h1],zsA h2 (byW_R _),znZ _⟩
theorem zjD:∀n,sv (extW [] n)=0∧wdR (extW [] n)
 | 0=>⟨rfl,fun x hx=>by simp[extW] at hx⟩
 | n+1=>by
  have hz:∀x∈extW [] (n+1),x=0:=fun x hx=>by
   simp only[extW,List.mem_map] at hx
   obtain⟨i,_,rfl⟩:=hx
   simp[wordW,byW]
  have sv_z:∀l:List Int,(∀x∈l,x=0)→sv l=0:=fun l=>by
   induction l with
   | nil=>intro _;rfl
   | cons x r ih =>
    intro h
    have hx:=h x (by simp)
    have hr:=ih (fun y hy=>h y (by simp[hy]))
    by_cases hn:r=[]
    ·subst hn;subst hx;rfl
    ·rw[zcw x hn,hr,hx];rfl
  exact⟨sv_z _ hz,fun x hx=>by rw[hz x hx];omega⟩
theorem zjC(ws:List Int)(n:Nat)(hw:wdR ws)(hn:ws.length<n):sv (extW ws n)=sv ws∧wdR (extW ws n)∧∃a t,extW ws n=a++[t]∧(t=0∨t=18446744073709551615):=by
 obtain⟨k,rfl⟩:∃k,n=k+1:=⟨n-1,by omega⟩
 refine⟨?_,?_,extW ws k,wordW ws k,zcE _ _,by rw[zeT (by omega)];exact znX _⟩
 ·by_cases h:ws=[]
  ·subst h;rw[(zjD _).1];rfl
  ·obtain⟨j,hj⟩:∃j,k+1=ws.length+j:=⟨k+1-ws.length,by omega⟩
   rw[hj];exact (zgs ws j hw h).1
 ·by_cases h:ws=[]
  ·subst h;exact (zjD _).2
  ·obtain⟨j,hj⟩:∃j,k+1=ws.length+j:=⟨k+1-ws.length,by omega⟩
   rw[hj];exact (zgs ws j hw h).2.1
theorem zpQ:∀(a b:List Int) (c:Int),wdR (addW a b c)
 | [],_,_=>by intro x hx;simp[addW] at hx
 | x::a,[],_=>by intro x hx;simp[addW] at hx
 | x::a,y::b,c=>by
  intro z hz
  rw[addW] at hz
  rcases List.mem_cons.1 hz with rfl|h
  ·omega
  ·exact zpQ a b _ z h
theorem zdX:∀(a b:List Int) (c:Int),a.length=b.length→(addW a b c).length=a.length
 | [],[],_,_=>rfl
 | x::a,[],_,h=>by simp at h
 | [],y::b,_,h=>by simp at h
 | x::a,y::b,c,h=>by rw[addW,List.length_cons,zdX a b _ (by simpa using h),List.length_cons]
theorem zmT:∀(a b:List Int) (c:Int),wdR a→wdR b→(c=0∨c=1)→carW a b c=0∨carW a b c=1
 | [],_,c,_,_,h=>by simpa [carW] using h
 | x::a,[],c,_,_,h=>by simpa [carW] using h
 | x::a,y::b,c,ha,hb,h=>by
  rw[carW]
  refine zmT a b _ (zbD ha) (zbD hb) ?_
  have:=ha x (by simp);have:=hb y (by simp)
  omega
theorem ziO:∀(a b:List Int) (c x y:Int),a.length=b.length→addW (a++[x]) (b++[y]) c=addW a b c++[(x+y+carW a b c) % 18446744073709551616]∧carW (a++[x]) (b++[y]) c=(x+y+carW a b c) / 18446744073709551616
 | [],[],c,x,y,_=>by simp[addW,carW]
 | _::_,[],_,_,_,h=>by simp at h
 | [],_::_,_,_,_,h=>by simp at h
 | p::a,q::b,c,x,y,h=>by
  obtain⟨h1,h2⟩:=ziO a b ((p+q+c) / 18446744073709551616) x y (by simpa using h)
  simp only[List.cons_append,addW,carW,h1,h2,and_self]
theorem zsj:∀(a b:List Int) (c x y:Int),a.length=b.length→wdR (a++[x])→wdR (b++[y])→(x=0∨x=18446744073709551615)→(y=0∨y=18446744073709551615)→(c=0∨c=1)→sv (addW (a++[x]) (b++[y]) c)=sv (a++[x])+sv (b++[y])+c
 | [],[],c,x,y,_,_,_,hx,hy,hc=>by
  simp only[List.nil_append,addW,sv]
  rcases hx with rfl|rfl<;>rcases hy with rfl|rfl<;>rcases hc with rfl|rfl<;>decide
 | _::_,[],_,_,_,h,_,_,_,_,_=>by simp at h
 | [],_::_,_,_,_,h,_,_,_,_,_=>by simp at h
 | p::a,q::b,c,x,y,h,ha,hb,hx,hy,hc=>by
  have hp:=ha p (by simp);have hq:=hb q (by simp)
  have ih:=zsj a b ((p+q+c) / 18446744073709551616) x y (by simpa using h) (zbD ha) (zbD hb) hx hy (by omega)
  have hne:addW (a++[x]) (b++[y]) ((p+q+c) / 18446744073709551616)≠[]:=by
   intro e
   have:=zdX (a++[x]) (b++[y]) ((p+q+c) / 18446744073709551616) (by simpa using h)
   rw[e] at this;simp at this
  rw[List.cons_append,List.cons_append,addW,zcw _ hne,ih,zcw p (by simp),zcw q (by simp)]
  omega
def sumW(a b:List Int):List Int:=addW (extW a (max a.length b.length+1)) (extW b (max a.length b.length+1)) 0
theorem zkR(a b:List Int)(ha:wdR a)(hb:wdR b):sv (sumW a b)=sv a+sv b∧wdR (sumW a b)∧(sumW a b).length=max a.length b.length+1:=by
 obtain⟨h1,h2,p,x,e1,hx⟩:=zjC a (max a.length b.length+1) ha (by omega)
 obtain⟨k1,k2,q,y,e2,hy⟩:=zjC b (max a.length b.length+1) hb (by omega)
 have hl1:=zbc a (max a.length b.length+1)
 have hl2:=zbc b (max a.length b.length+1)
 refine⟨?_,zpQ _ _ _,by rw[sumW,zdX _ _ _ (by rw[hl1,hl2]),hl1]⟩
 rw[sumW,e1,e2,zsj p q 0 x y (by rw[e1] at hl1;rw[e2] at hl2;simp at hl1 hl2;omega) (by rw[←e1];exact h2) (by rw[←e2];exact k2) hx hy (.inl rfl),←e1,←e2,h1,k1]
 omega
def cutW(ws:List Int)(k:Nat):Bool:=decide (0<k)&&(wordW ws k == byW (ws.take k))
def shN(ws:List Int):Nat→Nat
 | 0=>1
 | k+1=>if cutW ws (k+1)=true then shN ws k else k+2
def shW(ws:List Int):List Int:=ws.take (shN ws (ws.length-1))
def Short(ws:List Int):Prop:=∀a t,ws=a++[t]→a≠[]→t≠byW a
theorem zsl(ws:List Int)(hw:wdR ws):∀k,k<ws.length→sv (ws.take (shN ws k))=sv (ws.take (k+1))∧Short (ws.take (shN ws k))
 | 0,h=>by
  refine⟨rfl,fun a t e hn=>?_⟩
  have:=congrArg List.length e
  simp[shN] at this
  have:a.length=0:=by omega
  exact absurd (List.length_eq_zero_iff.1 this) hn
 | k+1,h=>by
  rw[shN]
  have ht:ws.take (k+1+1)=ws.take (k+1)++[ws[k+1]]:=List.take_succ_eq_append_getElem h
  have hw1:wordW ws (k+1)=ws[k+1]:=by rw[wordW,dif_pos h]
  by_cases hc:cutW ws (k+1)=true
  ·rw[if_pos hc]
   obtain⟨i1,i2⟩:=zsl ws hw k (by omega)
   refine⟨?_,i2⟩
   have he:ws[k+1]=byW (ws.take (k+1)):=by
    simp only[cutW,Bool.and_eq_true,beq_iff_eq,hw1] at hc
    exact hc.2
   rw[i1,ht,he,zkS _ (by intro e;have:=congrArg List.length e;rw[List.length_take,List.length_nil] at this;omega) (fun x hx=>hw x (List.mem_of_mem_take hx))]
  ·rw[if_neg hc]
   refine⟨rfl,fun a t e hn et=>hc ?_⟩
   rw[ht] at e
   obtain⟨e1,e2⟩:=List.append_inj' e rfl
   simp only[List.cons.injEq,and_true] at e2
   simp only[cutW,Bool.and_eq_true,beq_iff_eq,hw1]
   exact⟨by simp,by rw[e1,e2,et]⟩
theorem zrT(ws:List Int)(hw:wdR ws)(hn:ws≠[]):sv (shW ws)=sv ws∧Short (shW ws)∧wdR (shW ws)∧(shW ws).length≤ws.length:=by
 have hl:0<ws.length:=by cases ws with
  | nil=>exact absurd rfl hn
  | cons x r=>simp
 obtain⟨h1,h2⟩:=zsl ws hw (ws.length-1) (by omega)
 refine⟨?_,h2,fun x hx=>hw x (List.mem_of_mem_take hx),by rw[shW,List.length_take];omega⟩
 rw[shW,h1,show ws.length-1+1=ws.length by omega,List.take_length]
theorem Short.tail{x:Int}{r:List Int}(h:Short (x::r)):Short r:=fun a t e hn et=>h (x::a) t (by rw[e];rfl) (by simp) (by rw[zje x hn];exact et)
theorem zeK:∀(ws:List Int),wdR ws→Short ws→2≤ws.length→sv ws < -9223372036854775808∨9223372036854775807<sv ws
 | [],_,_,h=>by simp at h
 | [_],_,_,h=>by simp at h
 | [x,y],hw,hs,_=>by
  have hx:=hw x (by simp);have hy:=hw y (by simp)
  have hne:=hs [x] y rfl (by simp)
  have hb:byW [x]=if 9223372036854775807<x then 18446744073709551615 else 0:=rfl
  rw[hb] at hne
  simp only[sv]
  split at hne<;>split<;>omega
 | x::y::z::r,hw,hs,_=>by
  have hx:=hw x (by simp)
  have ih:=zeK (y::z::r) (zbD hw) hs.tail (by simp)
  rw[zcw x (by simp)]
  omega
theorem zmw(ws:List Int)(hw:wdR ws)(hs:Short ws)(h:-170141183460469231731687303715884105728≤sv ws∧sv ws<170141183460469231731687303715884105728):ws.length≤2:=by
 match ws,hw,hs,h with
 | [],_,_,_=>simp
 | [_],_,_,_=>simp
 | [_,_],_,_,_=>simp
 | x::y::z::r,hw,hs,h =>
  exfalso
  have hx:=hw x (by simp)
  have ih:=zeK (y::z::r) (zbD hw) hs.tail (by simp)
  rw[zcw x (by simp)] at h
  omega
theorem ztp(ws:List Int)(hw:wdR ws)(hl:ws.length≤1):sv ws=(if 9223372036854775808≤wordW ws 0 then wordW ws 0-18446744073709551616 else wordW ws 0)∧-9223372036854775808≤sv ws∧sv ws≤9223372036854775807:=by
 match ws,hw,hl with
 | [],_,_=>simp[sv,wordW,byW]
 | [x],hw,_ =>
  have hx:=hw x (by simp)
  simp only[sv,wordW]
  simp
  split<;>omega
 | _::_::_,_,h=>simp at h
theorem zsk(n:Int)(h:-9223372036854775808≤n∧n≤9223372036854775807):sv [n % 18446744073709551616]=n:=by
 simp only[sv]
 split<;>omega
end Go.Proofs.YtbdnccnfidjiaaaGreatDoor
