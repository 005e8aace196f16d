/-
  QrF, QrG, QrH, QrI.
-/
import Derived.Test.YtopghagjmdbglaaGreatDoorGyAy
namespace Go.Proofs.YtopghagjmdbglaaGreatDoor
open Go.RowKit
set_option linter.unusedVariables false
set_option linter.unusedSimpArgs false
set_option maxHeartbeats 8000000
set_option maxRecDepth 20000
section
open Go.BigFrame
variable {en : Nat} {WZ : World}

theorem zkk:(Tryz.prog.info? 30).map (fun i=>(i.zero,i.size,i.bytes))=some (some (.agg #[.string ⟨#[]⟩,.string ⟨#[]⟩,.int .i64 0,.int .i64 0,.string ⟨#[]⟩,.slice none 0 0,.int .i64 0]),7,96):=by kernel_rfl
theorem zeg(x:Ex)(xp:Option Addr)(xc:Nat):∀u∈exL x xp xc,u.oneCell'=true:=by
 intro u hu
 simp at hu
 rcases hu with rfl|rfl|rfl|rfl|rfl|rfl|rfl<;>rfl
def putLq:List Value→Nat→List Value→List Value
 | xs,_,[]=>xs
 | xs,o,v::r=>putLq (xs.set o v) (o+1) r
theorem zim:∀(vs A B:List Value),B.length=vs.length→putLq (A++B) A.length vs=A++vs
 | [],A,B,h=>by
  have:B=[]:=List.length_eq_zero_iff.1 h
  subst this;rfl
 | v::r,A,[],h=>by simp at h
 | v::r,A,b::B,h=>by
  have e:(A++b::B).set A.length v=(A++[v])++B:=by simp
  rw[putLq,e]
  have:=zim r (A++[v]) B (by simpa using h)
  rw[List.length_append,List.length_singleton] at this
  rw[this];simp
theorem zhS{B:Nat}{e:TypeId}{size n cap g:Nat}:∀(vs:List Value) (o:Nat) (w:World) (xs:List Value),w.ownsRow B e size (.slice (some ⟨g,0,none⟩) n cap) n xs→(w.setCells g o vs).ownsRow B e size (.slice (some ⟨g,0,none⟩) n cap) n (putLq xs o vs)
 | [],_,_,_,h=>h
 | v::r,o,w,xs,h=>zhS r (o+1) _ _ (h.stored o v).1
theorem ArgsO.addU{w w':World}{B:Nat}{v v':Value}{u:Option Nat}{xs:List Ex}{cs:List Value}{b0 b1 b2 b3 b4 b5 b6:Value}{x:Ex}(hlen:cs.length=xs.length*7)
  (key:∀(y:Ex) (z:Value),ExIn w (fun b=>B≤b∧some b≠v.ownBlock∧some b≠u) z y→ExIn w' (fun b=>B≤b∧some b≠v'.ownBlock∧some b≠u) z y)
  (pR:∀j (h:j<xs.length),∃a0 a1 a2 a3 a4 a5 a6,cs[j*7]?=some a0∧cs[j*7+1]?=some a1∧cs[j*7+2]?=some a2∧cs[j*7+3]?=some a3∧cs[j*7+4]?=some a4∧cs[j*7+5]?=some a5∧cs[j*7+6]?=some a6∧ExIn w (fun b=>B≤b∧some b≠v.ownBlock∧some b≠u) (.agg #[a0,a1,a2,a3,a4,a5,a6]) xs[j])
  (hx:ExIn w (fun b=>B≤b∧some b≠v.ownBlock∧some b≠u) (.agg #[b0,b1,b2,b3,b4,b5,b6]) x)(hown':w'.ownsRow B 30 7 v' (xs.length+1) (cs++[b0,b1,b2,b3,b4,b5,b6])):ArgsO w' B v' u (xs++[x]):=by
 refine⟨cs++[b0,b1,b2,b3,b4,b5,b6],by rw[List.length_append,List.length_singleton];exact hown',fun j hj=>?_⟩
 rw[List.length_append,List.length_singleton] at hj
 by_cases hj2:j<xs.length
 ·obtain⟨a0,a1,a2,a3,a4,a5,a6,e0,e1,e2,e3,e4,e5,e6,hy⟩:=pR j hj2
  refine⟨a0,a1,a2,a3,a4,a5,a6,?_,?_,?_,?_,?_,?_,?_,?_⟩
  ·rw[List.getElem?_append_left (by omega)];exact e0
  ·rw[List.getElem?_append_left (by omega)];exact e1
  ·rw[List.getElem?_append_left (by omega)];exact e2
  ·rw[List.getElem?_append_left (by omega)];exact e3
  ·rw[List.getElem?_append_left (by omega)];exact e4
  ·rw[List.getElem?_append_left (by omega)];exact e5
  ·rw[List.getElem?_append_left (by omega)];exact e6
  ·rw[List.getElem_append_left hj2];exact key _ _ hy
 ·obtain rfl:j=xs.length:=by omega
  refine⟨b0,b1,b2,b3,b4,b5,b6,?_,?_,?_,?_,?_,?_,?_,?_⟩
  ·rw[List.getElem?_append_right (by omega),show xs.length*7-cs.length=0 by omega];rfl
  ·rw[List.getElem?_append_right (by omega),show xs.length*7+1-cs.length=1 by omega];rfl
  ·rw[List.getElem?_append_right (by omega),show xs.length*7+2-cs.length=2 by omega];rfl
  ·rw[List.getElem?_append_right (by omega),show xs.length*7+3-cs.length=3 by omega];rfl
  ·rw[List.getElem?_append_right (by omega),show xs.length*7+4-cs.length=4 by omega];rfl
  ·rw[List.getElem?_append_right (by omega),show xs.length*7+5-cs.length=5 by omega];rfl
  ·rw[List.getElem?_append_right (by omega),show xs.length*7+6-cs.length=6 by omega];rfl
  ·rw[List.getElem_append_right (Nat.le_refl _)]
   simp only[Nat.sub_self,List.getElem_cons_zero]
   exact key _ _ hx
abbrev bc2(BC:Array Value)(u v:Value):Array Value:=(BC.setIfInBounds 9 u).setIfInBounds 10 v
structure CoX(WZ:World)(en:Nat)(W0 W:World)(tr rb:Nat)(BC:Array Value)(ts:List Tok)(cs:List Ex)(ns:List ByteArray)(cq:Option Addr)(k cc:Nat)(nq:Option Addr)(n nc:Nat):Prop where
 qh:QH WZ en W tr rb ts
 box:Blk W rb (bc2 BC (.slice cq k cc) (.slice nq n nc)) 60
 cols:ArgsO W W0.heap.size (.slice cq k cc) (Value.slice nq n nc).ownBlock cs
 names:W.ownsRow W0.heap.size 9 1 (.slice nq n nc) n (ns.map .string)
 ck:cs.length=k
 nk:ns.length=n
 fr:Fr tr (fun k=>k=rb) W0 W
 sz:10<BC.size
 lt:rb<W0.heap.size
section
variable {W0 W : World} {tr rb : Nat} {BC : Array Value} {ts : List Tok} {cs : List Ex} {ns : List ByteArray} {cq : Option Addr} {k cc : Nat} {nq : Option Addr} {n nc : Nat}
theorem CoX.at9(h:CoX WZ en W0 W tr rb BC ts cs ns cq k cc nq n nc):W.cell? ⟨rb,9,none⟩=some (.slice cq k cc):=by
 have:=h.sz
 rw[h.box.cell,Array.getElem?_setIfInBounds,if_neg (by decide),Array.getElem?_setIfInBounds,if_pos rfl,if_pos (by omega)]
theorem CoX.at10(h:CoX WZ en W0 W tr rb BC ts cs ns cq k cc nq n nc):W.cell? ⟨rb,10,none⟩=some (.slice nq n nc):=by
 have:=h.sz
 rw[h.box.cell,Array.getElem?_setIfInBounds,if_pos rfl,if_pos (by simpa using this)]
theorem CoX.keep{w':World}{ts':List Tok}{S:Nat→Prop}(h:CoX WZ en W0 W tr rb BC ts cs ns cq k cc nq n nc)(hf:Fr tr S W w')(hS:∀b,b<W.heap.size→¬S b)(hq:QH WZ en w' tr rb ts'):CoX WZ en W0 w' tr rb BC ts' cs ns cq k cc nq n nc:=by
 have hne:=h.qh.ne
 have hlt:=h.lt
 have kb:KeepB rb W w':=⟨hf.size,fun b h1 h2=>hf.kept b h2 (by omega) (hS b h2)⟩
 exact⟨hq,h.box.fr hf (by omega) (hS rb h.qh.lt),h.cols.keepB kb (by omega),zar h.names kb (by omega),h.ck,h.nk,h.fr.trans (hf.mono (fun b hb e=>(hS b hb e).elim)),h.sz,h.lt⟩
structure MidC(WZ:World)(en:Nat)(W0 W wM:World)(tr rb:Nat)(BC:Array Value)(ts:List Tok)(ns:List ByteArray)(cq:Option Addr)(k cc:Nat)(nq:Option Addr)(n nc:Nat)(q9:Option Addr)(c9:Nat)(L:List Value):Prop where
 qh:QH WZ en wM tr rb ts
 box:Blk wM rb (bc2 BC (.slice q9 (k+1) c9) (.slice nq n nc)) 60
 names:wM.ownsRow W0.heap.size 9 1 (.slice nq n nc) n (ns.map .string)
 own:wM.ownsRow W0.heap.size 30 7 (.slice q9 (k+1) c9) (k+1) L
 fr:Fr tr (fun k=>k=rb) W0 wM
 key:∀(y:Ex) (z:Value),ExIn W (fun b=>W0.heap.size≤b∧some b≠(Value.slice cq k cc).ownBlock∧some b≠(Value.slice nq n nc).ownBlock) z y→ExIn wM (fun b=>W0.heap.size≤b∧some b≠(Value.slice q9 (k+1) c9).ownBlock∧some b≠(Value.slice nq n nc).ownBlock) z y
 keep:∀b,W.heap.size≤b→False∨True
theorem CoX.grow{V w9:World}{q9:Option Addr}{c9:Nat}{L CS:List Value}(h:CoX WZ en W0 W tr rb BC ts cs ns cq k cc nq n nc)
  (o1:W.ownsRow W0.heap.size 30 7 (.slice cq k cc) k CS)
  (hb:Below W.heap.size W V)(hown':w9.ownsRow W0.heap.size 30 7 (.slice q9 (k+1) c9) (k+1) L)(hgrow:V.grownBy w9 (Value.slice cq k cc).ownBlock)(hf:(Value.slice q9 (k+1) c9).ownBlock=(Value.slice cq k cc).ownBlock∨(Value.slice q9 (k+1) c9).ownBlock=some V.heap.size) :
  (w9.cell? ⟨rb,9,none⟩=some (.slice cq k cc)∧w9.frozen? ⟨rb,9,none⟩=false∧rb<w9.heap.size)∧Aside (MidC WZ en W0 W (w9.setCell ⟨rb,9,none⟩ (.slice q9 (k+1) c9)) tr rb BC ts ns cq k cc nq n nc q9 c9 L)∧Aside (∀z,z<W.heap.size→z≠rb→some z≠(Value.slice cq k cc).ownBlock→(w9.setCell ⟨rb,9,none⟩ (.slice q9 (k+1) c9)).heap[z]?=W.heap[z]?):=by
 have hne:=h.qh.ne
 have hlt:=h.lt
 have s0:=h.fr.size
 have sV:=hb.size
 have s9:=hgrow.size
 have ownlt:∀j,(Value.slice cq k cc).ownBlock=some j→W0.heap.size≤j∧j<W.heap.size:=fun j hj=>o1.lt j hj
 have b9:Blk w9 rb (bc2 BC (.slice cq k cc) (.slice nq n nc)) 60:=(h.box.on hb).grown hgrow (zmz o1 hlt)
 have F9:Fr tr (fun k=>k=rb) W0 w9:=(h.fr.on hb (by omega)).grown hgrow (fun j hj=>by
  have:=(ownlt j hj).1
  exact⟨by omega,fun h=>by omega⟩) (by omega)
 have B10:=b9.set 9 (.slice q9 (k+1) c9)
 have F10:=F9.set 9 (.slice q9 (k+1) c9) (b:=rb) (by omega) (fun _=>rfl)
 have hr9:RdAt en w9 tr ts:=(h.qh.rd.on hb).onB ((Below.refl (tr+1) V).grown hgrow (by have:=h.qh.rd.lt;omega) (fun j hj=>by have:=(ownlt j hj).1;omega)) hgrow.size
 have hr10:RdAt en (w9.setCell ⟨rb,9,none⟩ (.slice q9 (k+1) c9)) tr ts:=hr9.onB ((Below.refl (tr+1) w9).setCell (p:=⟨rb,9,none⟩) hne _) (by simp[World.setCell])
 have hbc:(bc2 BC (.slice cq k cc) (.slice nq n nc)).setIfInBounds 9 (.slice q9 (k+1) c9)=bc2 BC (.slice q9 (k+1) c9) (.slice nq n nc):=by
  apply Array.ext_getElem?
  intro i
  simp only[bc2,Array.getElem?_setIfInBounds,Array.size_setIfInBounds]
  by_cases h9:9=i
  ·subst h9;simp
  ·simp[h9]
 rw[hbc] at B10
 have nW:=zco (zab h.names hb) (zab o1 hb) (by decide) hgrow
 have k9:KeepB (rb+1) w9 (w9.setCell ⟨rb,9,none⟩ (.slice q9 (k+1) c9)):=KeepB.set w9 9 _ (Nat.lt_succ_self rb)
 refine⟨⟨?_,b9.frozen 9,b9.lt⟩,⟨?_,B10,zar nW k9 (by omega),zar hown' k9 (by omega),F10,fun y z hy=>?_,fun _ _=>.inr trivial⟩,fun z hz hzr hzo=>?_⟩
 ·have:=h.sz
  rw[b9.cell,Array.getElem?_setIfInBounds,if_neg (by decide),Array.getElem?_setIfInBounds,if_pos rfl,if_pos (by omega)]
 ·have Fq:Fr tr (fun k=>k=rb∨W0.heap.size≤k) W (w9.setCell ⟨rb,9,none⟩ (.slice q9 (k+1) c9)):=((Fr.of_below hb (by omega)).grown hgrow (fun j hj=>by
   have:=(ownlt j hj).1
   exact⟨by omega,fun h=>.inr this⟩) (by omega)).set 9 _ (by omega) (fun _=>.inl rfl)
  refine h.qh.go Fq hr10 List.suffix_rfl ?_
  rw[World.cell?_setCell_other _ _ _ _ (by simp),b9.cell,←h.box.cell]
  exact h.qh.p0
 ·have h3:=ExIn.low (lo':=fun b=>(W0.heap.size≤b∧some b≠(Value.slice cq k cc).ownBlock∧some b≠(Value.slice nq n nc).ownBlock)∧b<V.heap.size) (fun b hb hb2=>⟨hb2,hb⟩) _ _ (hy.on hb)
  have h4:=ExIn.keep (w':=w9) hgrow.size (fun b o hb _=>by simp only[World.cell?,hgrow.block b hb.2 hb.1.2.1]) _ _ h3
  have h5:=ExIn.low (lo':=fun b=>W0.heap.size≤b∧some b≠(Value.slice q9 (k+1) c9).ownBlock∧some b≠(Value.slice nq n nc).ownBlock) (fun b _ hb=>⟨hb.1.1,by
   rcases hf with hf|hf
   ·rw[hf];exact hb.1.2.1
   ·rw[hf];intro e;injection e with e;have:=hb.2;omega,hb.1.2.2⟩) _ _ h4
  exact zdf h5 k9 (fun b hb=>by omega)
 ·rw[heap_setCell_other w9 _ z _ hzr,hgrow.block z (by omega) hzo,hb.block z hz]
theorem MidC.store{wM:World}{q9:Option Addr}{c9 g:Nat}{x:Ex}{xp:Option Addr}{xc:Nat}{A:List Value}{b0 b1 b2 b3 b4 b5 b6:Value}(h:MidC WZ en W0 W wM tr rb BC ts ns cq k cc nq n nc q9 c9 (A++[b0,b1,b2,b3,b4,b5,b6]))(hlt:rb<W0.heap.size)(hq:q9=some ⟨g,0,none⟩)(hA:A.length=k*7)(hs:W0.heap.size≤wM.heap.size) :
  MidC WZ en W0 W (wM.setCells g (k*7) (exL x xp xc)) tr rb BC ts ns cq k cc nq n nc q9 c9 (A++exL x xp xc):=by
 subst hq
 have hg:=(h.own.lt g rfl).1
 have hgl:=(h.own.lt g rfl).2
 have hne:=h.qh.ne
 have hFr:Fr tr (·=g) wM (wM.setCells g (k*7) (exL x xp xc)):=Fr.cells (tr:=tr) (S:=(·=g)) (b:=g) (by omega) (fun _=>rfl) (exL x xp xc) (k*7) wM (Fr.refl _ _ _)
 have hsz:=zbs (b:=g) (exL x xp xc) (k*7) wM
 have hrd:RdAt en (wM.setCells g (k*7) (exL x xp xc)) tr ts:=h.qh.rd.onB (zbe (by omega) _ _ wM (Below.refl _ _)) (by omega)
 have own':=zhS (exL x xp xc) (k*7) wM _ h.own
 rw[←hA,zim (exL x xp xc) A [b0,b1,b2,b3,b4,b5,b6] rfl] at own'
 rw[←hA]
 have ngrow:∀(u:Nat),u≠g→(wM.setCells g A.length (exL x xp xc)).heap[u]?=wM.heap[u]?:=fun u hu=>by
  rw[hA]
  by_cases hul:u<wM.heap.size
  ·by_cases hut:u=tr
   ·subst hut
    exact (zbe (B:=u+1) (b:=g) (by omega) (exL x xp xc) (k*7) wM (Below.refl _ _)).block u (Nat.lt_succ_self u)
   ·exact hFr.kept u hul hut hu
  ·rw[Array.getElem?_eq_none (by omega),Array.getElem?_eq_none (by omega)]
 rw[hA] at own' ⊢
 rw[hA] at ngrow
 refine⟨h.qh.fr hFr hrd List.suffix_rfl (by omega),h.box.fr hFr (by omega) (by omega),?_,own',⟨h.fr.below.trans hFr.below,fun b hb hr hn=>by rw[hFr.kept b (by have:=h.fr.size;omega) hr (by omega)];exact h.fr.kept b hb hr hn⟩,fun y z hy=>?_,fun _ _=>.inr trivial⟩
 ·refine⟨h.names.1,?_⟩
  rcases h.names.2 with hn|⟨g',cap,cur,e,h1,hgg,rest⟩
  ·exact .inl hn
  ·refine .inr ⟨g',cap,cur,e,h1,?_,rest⟩
   rw[ngrow g' (fun e2=>?_)]
   ·exact hgg
   ·subst e2
    rcases h.own.2 with ⟨hh,_⟩|⟨g2,cap2,cur2,hh,_,hgg2,_⟩
    ·simp at hh
    ·simp only[Value.slice.injEq,Option.some.injEq,Addr.mk.injEq,and_true,true_and] at hh
     obtain⟨rfl,rfl⟩:=hh
     rw[hgg] at hgg2
     injection hgg2 with hgg2
     injection hgg2 with _ h2 _
     exact absurd h2 (by decide)
 ·have h1:=h.key y z hy
  exact ExIn.keep (by omega) (fun b o hb _=>by
   have:b≠g:=fun e=>hb.2.1 (by rw[e];rfl)
   simp only[World.cell?,ngrow b this]) _ _ h1
theorem MidC.done{wM:World}{q9:Option Addr}{c9:Nat}{x:Ex}{xp:Option Addr}{xc:Nat}{CS:List Value}(h:MidC WZ en W0 W wM tr rb BC ts ns cq k cc nq n nc q9 c9 (CS++exL x xp xc))(hk:cs.length=k)(hn:ns.length=n)(hsz:10<BC.size)(hlt:rb<W0.heap.size)(hlen:CS.length=cs.length*7)
  (pR:∀j (h:j<cs.length),∃a0 a1 a2 a3 a4 a5 a6,CS[j*7]?=some a0∧CS[j*7+1]?=some a1∧CS[j*7+2]?=some a2∧CS[j*7+3]?=some a3∧CS[j*7+4]?=some a4∧CS[j*7+5]?=some a5∧CS[j*7+6]?=some a6∧ExIn W (fun b=>W0.heap.size≤b∧some b≠(Value.slice cq k cc).ownBlock∧some b≠(Value.slice nq n nc).ownBlock) (.agg #[a0,a1,a2,a3,a4,a5,a6]) cs[j])
  (hx:ExIn W (fun b=>W0.heap.size≤b∧some b≠(Value.slice cq k cc).ownBlock∧some b≠(Value.slice nq n nc).ownBlock) (exV x xp xc) x):CoX WZ en W0 wM tr rb BC ts (cs++[x]) ns q9 (k+1) c9 nq n nc:=by
 subst hk
 exact⟨h.qh,h.box,ArgsO.addU hlen h.key pR hx h.own,h.names,by simp,hn,h.fr,hsz,hlt⟩
end
end
section
open Go.BigFrame
variable {en : Nat} {WZ : World}

section
variable {W0 W : World} {tr rb : Nat} {BC : Array Value} {ts : List Tok} {cs : List Ex} {ns : List ByteArray} {cq : Option Addr} {k cc : Nat} {nq : Option Addr} {n nc : Nat}
theorem CoX.addN{V w9:World}{q9:Option Addr}{c9:Nat}{nm:ByteArray}(h:CoX WZ en W0 W tr rb BC ts cs ns cq k cc nq n nc)
  (hb:Below W.heap.size W V)(hown':w9.ownsRow W0.heap.size 9 1 (.slice q9 (n+1) c9) (n+1) (ns.map .string++[.string nm]))(hgrow:V.grownBy w9 (Value.slice nq n nc).ownBlock)(hf:(Value.slice q9 (n+1) c9).ownBlock=(Value.slice nq n nc).ownBlock∨(Value.slice q9 (n+1) c9).ownBlock=some V.heap.size) :
  (w9.cell? ⟨rb,10,none⟩=some (.slice nq n nc)∧w9.frozen? ⟨rb,10,none⟩=false∧rb<w9.heap.size)∧Aside (CoX WZ en W0 (w9.setCell ⟨rb,10,none⟩ (.slice q9 (n+1) c9)) tr rb BC ts cs (ns++[nm]) cq k cc q9 (n+1) c9):=by
 have hne:=h.qh.ne
 have hlt:=h.lt
 have s0:=h.fr.size
 have sV:=hb.size
 have s9:=hgrow.size
 have o1:=h.names
 have ownlt:∀j,(Value.slice nq n nc).ownBlock=some j→W0.heap.size≤j∧j<W.heap.size:=fun j hj=>o1.lt j hj
 have b9:Blk w9 rb (bc2 BC (.slice cq k cc) (.slice nq n nc)) 60:=(h.box.on hb).grown hgrow (zmz o1 hlt)
 have F9:Fr tr (fun k=>k=rb) W0 w9:=(h.fr.on hb (by omega)).grown hgrow (fun j hj=>by
  have:=(ownlt j hj).1
  exact⟨by omega,fun h=>by omega⟩) (by omega)
 have B10:=b9.set 10 (.slice q9 (n+1) c9)
 have F10:=F9.set 10 (.slice q9 (n+1) c9) (b:=rb) (by omega) (fun _=>rfl)
 have hr9:RdAt en w9 tr ts:=(h.qh.rd.on hb).onB ((Below.refl (tr+1) V).grown hgrow (by have:=h.qh.rd.lt;omega) (fun j hj=>by have:=(ownlt j hj).1;omega)) hgrow.size
 have hr10:RdAt en (w9.setCell ⟨rb,10,none⟩ (.slice q9 (n+1) c9)) tr ts:=hr9.onB ((Below.refl (tr+1) w9).setCell (p:=⟨rb,10,none⟩) hne _) (by simp[World.setCell])
 have hbc:(bc2 BC (.slice cq k cc) (.slice nq n nc)).setIfInBounds 10 (.slice q9 (n+1) c9)=bc2 BC (.slice cq k cc) (.slice q9 (n+1) c9):=zkF _ _ _ _
 rw[hbc] at B10
 have k9:KeepB (rb+1) w9 (w9.setCell ⟨rb,10,none⟩ (.slice q9 (n+1) c9)):=KeepB.set w9 10 _ (Nat.lt_succ_self rb)
 have A9:=(h.cols.on hb).other (u':=.slice q9 (n+1) c9) (zab o1 hb) (by decide) hgrow hf
 refine⟨⟨?_,b9.frozen 10,b9.lt⟩,⟨?_,B10,A9.keepB k9 (by omega),?_,h.ck,by simp[h.nk],F10,h.sz,hlt⟩⟩
 ·have:=h.sz
  rw[b9.cell,Array.getElem?_setIfInBounds,if_pos rfl,if_pos (by simpa using this)]
 ·have Fq:Fr tr (fun k=>k=rb∨W0.heap.size≤k) W (w9.setCell ⟨rb,10,none⟩ (.slice q9 (n+1) c9)):=((Fr.of_below hb (by omega)).grown hgrow (fun j hj=>by
   have:=(ownlt j hj).1
   exact⟨by omega,fun h=>.inr this⟩) (by omega)).set 10 _ (by omega) (fun _=>.inl rfl)
  refine h.qh.go Fq hr10 List.suffix_rfl ?_
  rw[World.cell?_setCell_other _ _ _ _ (by simp),b9.cell,←h.box.cell]
  exact h.qh.p0
 ·rw[List.map_append]
  exact zar hown' k9 (by omega)
end
theorem zlD{w:World}{B:Nat}{e:TypeId}{size n c:Nat}{q:Option Addr}{xs:List Value}(h:w.ownsRow B e size (.slice q (n+1) c) (n+1) xs):∃g,q=some ⟨g,0,none⟩:=by
 rcases h.2 with ⟨_,h0⟩|⟨g,cap,cur,hh,_⟩
 ·exact absurd h0 (by omega)
 ·simp only[Value.slice.injEq] at hh
  exact⟨g,hh.1⟩
theorem zaS{g u:Nat}(h:u≠g):∀(vs:List Value) (o:Nat) (w:World),(w.setCells g o vs).heap[u]?=w.heap[u]?
 | [],_,_=>rfl
 | v::r,o,w=>by
  show ((w.setCell ⟨g,o,none⟩ v).setCells g (o+1) r).heap[u]?=_
  rw[zaS h r (o+1) _,heap_setCell_other w _ u v h]
theorem ziz{w:World}{B:Nat}{e:TypeId}{size n c g:Nat}{xs:List Value}(h:w.ownsRow B e size (.slice (some ⟨g,0,none⟩) n c) n xs)(o m:Nat)(hm:o+m≤n*size):w.there g o m:=fun j hj=>by
 refine⟨?_,h.frozenAt _⟩
 rw[h.cellAt _ (by omega),List.getElem?_eq_getElem (by have:=h.1;omega)]
 rfl
theorem col_q(W0 W:World)(tr rb:Nat)(BC:Array Value)(ts:List Tok)(cs:List Ex)(ns:List ByteArray)(cq:Option Addr)(k cc:Nat)(nq:Option Addr)(n nc:Nat)(h:CoX WZ en W0 W tr rb BC ts cs ns cq k cc nq n nc)(hl:k≤1000)(hl2:n≤1000) :
  Calls Tryz.prog 56 #[.pointer (some ⟨rb,0,none⟩)] W fun e w'=>∃(R:Bool)(x:Ex)(nm:ByteArray)(cq':Option Addr)(cc':Nat)(nq':Option Addr)(nc':Nat),e=.returned (.bool R)∧Aside (CoX WZ en W0 w' tr rb BC (colU ts).2 (cs++[x]) (ns++[nm]) cq' (k+1) cc' nq' (n+1) nc')∧Hid ((colU ts).1=if R=true then some (x,nm) else none):=by
 have HX:Aside (CoX WZ en W0 W tr rb BC ts cs ns cq k cc nq n nc):=h
 have hne:=h.qh.ne
 have htl:=h.qh.rd.lt
 have hp0:=h.qh.p0
 have hrl:=h.qh.lt
 have hW:=h.fr.size
 have hlt:=h.lt
 have hsz:=h.sz
 have hck:=h.ck
 have hnk:=h.nk
 obtain⟨i0,hi,hz0,hz1,hzz⟩:=info_parts zkk
 obtain⟨i1,hi1,hy0,hy1,hyz⟩:=info_parts zcZ
 have bA:Below W.heap.size W ((W.alloc (.cells #[.string ⟨#[]⟩,.string ⟨#[]⟩,.int .i64 0,.int .i64 0,.string ⟨#[]⟩,.slice none 0 0,.int .i64 0] 30)).alloc (.cells #[.string ⟨#[]⟩] 9)):=(al W _).alloc (by simp) _
 have F0:Fr tr (fun _=>False) W ((W.alloc (.cells #[.string ⟨#[]⟩,.string ⟨#[]⟩,.int .i64 0,.int .i64 0,.string ⟨#[]⟩,.slice none 0 0,.int .i64 0] 30)).alloc (.cells #[.string ⟨#[]⟩] 9)):=Fr.of_below bA (by omega)
 have Q0:=h.qh.fr F0 (h.qh.rd.on bA) List.suffix_rfl (fun h=>h)
 have Z1:Blk ((W.alloc (.cells #[.string ⟨#[]⟩,.string ⟨#[]⟩,.int .i64 0,.int .i64 0,.string ⟨#[]⟩,.slice none 0 0,.int .i64 0] 30)).alloc (.cells #[.string ⟨#[]⟩] 9)) W.heap.size #[.string ⟨#[]⟩,.string ⟨#[]⟩,.int .i64 0,.int .i64 0,.string ⟨#[]⟩,.slice none 0 0,.int .i64 0] 30:=(zac W _ _).on (al _ _)
 have Z2:Blk ((W.alloc (.cells #[.string ⟨#[]⟩,.string ⟨#[]⟩,.int .i64 0,.int .i64 0,.string ⟨#[]⟩,.slice none 0 0,.int .i64 0] 30)).alloc (.cells #[.string ⟨#[]⟩] 9)) (W.heap.size+1) #[.string ⟨#[]⟩] 9:=by
  have:=zac (W.alloc (.cells #[.string ⟨#[]⟩,.string ⟨#[]⟩,.int .i64 0,.int .i64 0,.string ⟨#[]⟩,.slice none 0 0,.int .i64 0] 30)) #[.string ⟨#[]⟩] 9
  simpa using this
 have cE:=zbN _ tr rb ts Q0 W.heap.size 0 _ 30 Z1 (by omega) (by simp) (fun e=>by omega)
 clear h Q0
 go_enter Tryz.func56,Tryz.ntmps56
 go_wp2_with fail
 refine cE.mono ?_
 rintro e w1 ⟨R1,x,xp,xc,rfl,Q1,F1,B1,E1,HR1⟩
 have B1':Blk w1 W.heap.size (exL x xp xc).toArray 30:=B1.out
 have FW1:Fr tr (W.heap.size≤·) W w1:=F0.weak.trans ⟨F1.out.below,fun b hb hr hn=>F1.out.kept b hb hr (fun e=>hn (by omega))⟩
 have s1:=FW1.size
 have N1:Blk w1 (W.heap.size+1) #[.string ⟨#[]⟩] 9:=Z2.fr F1.out (by omega) (by omega)
 have E1':ExIn w1 (W.heap.size+1+1≤·) (exV x xp xc) x:=by
  have:=E1.out
  simp only[World.size_alloc] at this
  exact this
 clear cE Z1 Z2 F0 F1 B1 E1 bA
 cases R1
 ·have HA:Hid (colU ts=(if false=true then some (x,⟨#[]⟩) else none,(readE ts).2)):=by
   show _=_
   rw[colU,zai (rs:=(readE ts).2) (Prod.ext HR1.out rfl)];rfl
  have HC:=HX.out.keep FW1 (fun b h1 h2=>by omega) Q1.out
  have EX:=E1'
  have BE:=B1'
  have BN:=N1
  have FW:=FW1
  clear Q1 HR1 E1' B1' N1 FW1
  go_wp2
  go_region
  ·obtain⟨V4,hV4⟩:∃V4,(w1.alloc (.cells #[.bool false] 4)).drew=V4:=⟨_,rfl⟩
   have bV:Below w1.heap.size w1 V4:=by rw[←hV4];exact Below.drew (al _ _)
   rw[hV4]
   clear hV4
   have sV:=bV.size
   have HCV:=HC.keep (S:=fun _=>False) (Fr.of_below bV (by omega)) (fun _ _ h=>h) (HC.qh.fr (S:=fun _=>False) (Fr.of_below bV (by omega)) (HC.qh.rd.on bV) List.suffix_rfl (fun h=>h))
   have EXV:=EX.on bV
   have BEV:=BE.on bV
   have BNV:=BN.on bV
   have FWV:Fr tr (W.heap.size≤·) W V4:=FW.on bV (by omega)
   clear HC EX BE BN FW bV
   obtain⟨CS,oC,pC⟩:=HCV.cols
   rw[hck] at oC
   have hCl:CS.length=k*7:=by have:=oC.1;omega
   have hCl2:CS.length=cs.length*7:=by rw[hck];exact hCl
   have ownC:∀V,Below V4.heap.size V4 V→V.ownsRow W0.heap.size 30 7 (.slice cq k cc) k CS:=fun V hb=>zab oC hb
   have oblt:∀j,(Value.slice cq k cc).ownBlock=some j→j<W.heap.size:=fun j hj=>by
    obtain⟨cs',hc',-⟩:=HX.out.cols
    exact (hc'.lt j hj).2
   have nblt:∀j,(Value.slice nq n nc).ownBlock=some j→j<W.heap.size:=fun j hj=>(HX.out.names.lt j hj).2
   have hxE:ExIn V4 (fun b=>W0.heap.size≤b∧some b≠(Value.slice cq k cc).ownBlock∧some b≠(Value.slice nq n nc).ownBlock) (exV x xp xc) x:=ExIn.low (fun b _ hb=>⟨by omega,fun e=>by have:=oblt b e.symm;omega,fun e=>by have:=nblt b e.symm;omega⟩) _ _ EXV
   have hgr:=fun (V w9:World) (q9:Option Addr) (c9:Nat) (L:List Value)=>HCV.grow (V:=V) (w9:=w9) (q9:=q9) (c9:=c9) (L:=L) oC
   have hW0:W0.heap.size≤V4.heap.size:=by have:=FWV.size;omega
   have c9':=HCV.at9
   have hrlw:=HCV.qh.lt
   have hzl:=BEV.lt
   have hznl:=BNV.lt
   have nz1:some W.heap.size≠(Value.slice cq k cc).ownBlock:=fun e=>by have:=oblt _ e.symm;omega
   have nz2:some (W.heap.size+1)≠(Value.slice cq k cc).ownBlock:=fun e=>by have:=oblt _ e.symm;omega
   have m0:V4.cell? ⟨W.heap.size,0,none⟩=some (.string x.op):=by rw[BEV.cell];rfl
   have m1:V4.cell? ⟨W.heap.size,1,none⟩=some (.string x.nm):=by rw[BEV.cell];rfl
   have m2:V4.cell? ⟨W.heap.size,2,none⟩=some (.int .i64 x.vt):=by rw[BEV.cell];rfl
   have m3:V4.cell? ⟨W.heap.size,3,none⟩=some (.int .i64 x.vn):=by rw[BEV.cell];rfl
   have m4:V4.cell? ⟨W.heap.size,4,none⟩=some (.string x.vs):=by rw[BEV.cell];rfl
   have m5:V4.cell? ⟨W.heap.size,5,none⟩=some (.slice xp x.args.length xc):=by rw[BEV.cell];rfl
   have m6:V4.cell? ⟨W.heap.size,6,none⟩=some (.int .i64 x.pos):=by rw[BEV.cell];rfl
   clear FWV HX EXV
   go_wp2
   go_region_law (refine zak rfl (.tmp 32) (.tmp 34) 28 rfl W0.heap.size 30 i0 _ 7 96 Tryz.underlying28 hi hz0 hz1 hzz rfl (by decide) (.slice cq k cc) k CS (by simp[Act.eval]) (ownC _ (by repeat (first|exact Below.refl _ _|refine Below.drew ?_|refine zaf ?_ (Nat.le_refl _) _))) ⟨V4.heap.size,0,none⟩ 1 1 (exL x xp xc) (by simp[Act.eval]) rfl (zbU (t:=30) (by first|exact zaW _ _ _|rfl)) (zeg _ _ _) (by decide) (by simp[maxLen];omega) (by omega) (by simp;omega) ?_;intro q9 c9 w9 hown' hgrow hfr';obtain⟨⟨k1,k2,k3⟩,KM,KH⟩:=hgr _ w9 q9 c9 _ (by repeat (first|exact Below.refl _ _|refine Below.drew ?_|refine zaf ?_ (Nat.le_refl _) _)) hown' hgrow hfr')
   all_goals
    have HCM:=KM.out.done hck hnk hsz hlt hCl2 pC hxE
    have BNM:=BNV.keep (KH.out _ hznl (by omega) nz2)
    clear KM KH hgr ownC HCV BEV BNV hxE pC oC hown' hgrow hfr'
    generalize w9.setCell ⟨rb,9,none⟩ (.slice q9 (k+1) c9)=wM at *
    have a10:=HCM.at10
    have hrM:=HCM.qh.lt
    have n0:wM.cell? ⟨W.heap.size+1,0,none⟩=some (.string ⟨#[]⟩):=by rw[BNM.cell];rfl
    have hnlM:=BNM.lt
    have OwnN:∀V,Below wM.heap.size wM V→V.ownsRow W0.heap.size 9 1 (.slice nq n nc) n (ns.map .string):=fun V hb=>zab HCM.names hb
    have hWM:W0.heap.size≤wM.heap.size:=HCM.fr.size
    have AddN:=fun (V w9:World) (q9:Option Addr) (c9:Nat)=>HCM.addN (V:=V) (w9:=w9) (q9:=q9) (c9:=c9) (nm:=⟨#[]⟩)
    clear HCM BNM
    generalize ns.map Value.string=NS at *
    go_wp2
    go_region_law (refine zak rfl (.tmp 44) (.tmp 46) 31 rfl W0.heap.size 9 i1 _ 1 16 Tryz.underlying31 hi1 hy0 hy1 hyz rfl (by decide) (.slice nq n nc) n NS (by simp[Act.eval]) (OwnN _ (by repeat (first|exact Below.refl _ _|refine Below.drew ?_|refine zaf ?_ (Nat.le_refl _) _))) ⟨wM.heap.size,0,none⟩ 1 1 [.string ⟨#[]⟩] (by simp[Act.eval]) rfl (zdK (by simp)) (by intro u hu;simp at hu;subst hu;rfl) (by decide) (by simp[maxLen];omega) (by omega) (by simp;omega) ?_;intro q8 c8 w8 hown8 hgrow8 hfr8;obtain⟨⟨e1,e2,e3⟩,KS⟩:=AddN _ w8 q8 c8 (by repeat (first|exact Below.refl _ _|refine Below.drew ?_|refine zaf ?_ (Nat.le_refl _) _)) hown8 hgrow8 hfr8)
    all_goals
     go_wp2
     go_ret
     refine⟨false,x,⟨#[]⟩,q9,c9,q8,c8,rfl,?_,?_⟩
     ·rw[HA.out];exact KS
     ·show _=_;rw[HA.out]
  ·obtain⟨V4,hV4⟩:∃V4,(w1.alloc (.cells #[.bool true] 4)).drew=V4:=⟨_,rfl⟩
   have bV:Below w1.heap.size w1 V4:=by rw[←hV4];exact Below.drew (al _ _)
   rw[hV4]
   clear hV4
   have sV:=bV.size
   have HCV:=HC.keep (S:=fun _=>False) (Fr.of_below bV (by omega)) (fun _ _ h=>h) (HC.qh.fr (S:=fun _=>False) (Fr.of_below bV (by omega)) (HC.qh.rd.on bV) List.suffix_rfl (fun h=>h))
   have EXV:=EX.on bV
   have BEV:=BE.on bV
   have BNV:=BN.on bV
   have FWV:Fr tr (W.heap.size≤·) W V4:=FW.on bV (by omega)
   clear HC EX BE BN FW bV
   obtain⟨CS,oC,pC⟩:=HCV.cols
   rw[hck] at oC
   have hCl:CS.length=k*7:=by have:=oC.1;omega
   have hCl2:CS.length=cs.length*7:=by rw[hck];exact hCl
   have ownC:∀V,Below V4.heap.size V4 V→V.ownsRow W0.heap.size 30 7 (.slice cq k cc) k CS:=fun V hb=>zab oC hb
   have oblt:∀j,(Value.slice cq k cc).ownBlock=some j→j<W.heap.size:=fun j hj=>by
    obtain⟨cs',hc',-⟩:=HX.out.cols
    exact (hc'.lt j hj).2
   have nblt:∀j,(Value.slice nq n nc).ownBlock=some j→j<W.heap.size:=fun j hj=>(HX.out.names.lt j hj).2
   have hxE:ExIn V4 (fun b=>W0.heap.size≤b∧some b≠(Value.slice cq k cc).ownBlock∧some b≠(Value.slice nq n nc).ownBlock) (exV x xp xc) x:=ExIn.low (fun b _ hb=>⟨by omega,fun e=>by have:=oblt b e.symm;omega,fun e=>by have:=nblt b e.symm;omega⟩) _ _ EXV
   have hgr:=fun (V w9:World) (q9:Option Addr) (c9:Nat) (L:List Value)=>HCV.grow (V:=V) (w9:=w9) (q9:=q9) (c9:=c9) (L:=L) oC
   have hW0:W0.heap.size≤V4.heap.size:=by have:=FWV.size;omega
   have c9':=HCV.at9
   have hrlw:=HCV.qh.lt
   have hzl:=BEV.lt
   have hznl:=BNV.lt
   have nz1:some W.heap.size≠(Value.slice cq k cc).ownBlock:=fun e=>by have:=oblt _ e.symm;omega
   have nz2:some (W.heap.size+1)≠(Value.slice cq k cc).ownBlock:=fun e=>by have:=oblt _ e.symm;omega
   clear FWV EXV HX
   have hkz:(k:Int)<(k:Int)+1:=by omega
   have hk0:(0:Int)≤(k:Int):=by omega
   go_wp2_with (at_builtin;refine zae rfl _ _ 28 rfl W0.heap.size 30 i0 _ 7 96 Tryz.underlying28 hi hz0 hz1 hzz rfl (by decide) (.slice cq k cc) k CS rfl (ownC _ (al _ _)) ⟨V4.heap.size,0,none⟩ 1 1 (exL ex0 none 0) rfl rfl (zbU (t:=30) (zaW _ _ _)) (zeg _ _ _) (by decide) (by simp[maxLen];omega) (by omega) (by simp;omega) ?_)
   intro v' w9 hown' hgrow hfr'
   obtain⟨q9,c9,rfl⟩:=zaa hown'
   obtain⟨g,rfl⟩:=zlD hown'
   obtain⟨⟨k1,k2,k3⟩,KM,KH⟩:=hgr _ w9 _ c9 _ (al _ _) hown' hgrow (by first|exact hfr'|(rw[World.size_alloc];exact hfr'))
   have hgz:g≠W.heap.size+1:=fun e=>by
    rcases hfr' with h|h
    ·exact nz2 (by rw[←h,e];rfl)
    ·have:g=V4.heap.size+1:=by simpa [Value.ownBlock] using h
     omega
   have hgz1:g≠W.heap.size:=fun e=>by
    rcases hfr' with h|h
    ·exact nz1 (by rw[←h,e];rfl)
    ·have:g=V4.heap.size+1:=by simpa [Value.ownBlock] using h
     omega
   have BNM0:=BNV.keep (KH.out _ hznl (by omega) nz2)
   have BEM:=BEV.keep (KH.out _ hzl (by omega) nz1)
   have hrM0:=KM.out.qh.lt
   clear KH hgr ownC HCV BEV BNV oC hown' hgrow hfr'
   obtain⟨wM0,hwM⟩:∃wM0,w9.setCell ⟨rb,9,none⟩ (.slice (some ⟨g,0,none⟩) (k+1) c9)=wM0:=⟨_,rfl⟩
   rw[hwM] at KM BNM0 BEM hrM0
   have hs0:W0.heap.size≤wM0.heap.size:=KM.out.fr.size
   have KMA:=(show Aside _ from KM.out)
   have BEA:=(show Aside _ from BEM)
   have BNA:=(show Aside _ from BNM0)
   have HXE:=(show Aside _ from hxE)
   have HPC:=(show Aside _ from pC)
   have HWM:Hid (w9.setCell ⟨rb,9,none⟩ (.slice (some ⟨g,0,none⟩) (k+1) c9)=wM0):=hwM
   clear KM BEM BNM0 hxE pC hwM
   go_upto_region 6 with fail
   refine wp_region_lit ?_
   refine wpList_load_row rfl 30 (.tmp 3) rfl W.heap.size rfl _ (exL x xp xc).toArray _ _ (by rw[HWM.out];exact BEA.out) Tryz.underlying30 rfl zaM ?_
   clear hCl2 nz1 nz2 hgz1
   iterate 3 go_step
   have hs0:W0.heap.size≤wM0.heap.size:=KMA.out.fr.size
   have hth:=ziz KMA.out.own (k*7) 7 (by omega)
   refine wpList_store_mid rfl 30 (.tmp 26) (.tmp 25) rfl g (k*7) (exL x xp xc).toArray rfl rfl (by rw[HWM.out];exact hth) zaM (zlz x xp xc) ?_
   rw[HWM.out]
   have HCM:=(KMA.out.store (x:=x) (xp:=xp) (xc:=xc) hlt rfl hCl hs0).done hck hnk hsz hlt (by rw[hck];exact hCl) HPC.out HXE.out
   have BNM:Blk (wM0.setCells g (k*7) (exL x xp xc)) (W.heap.size+1) #[.string ⟨#[]⟩] 9:=Blk.keep (show Blk wM0 (W.heap.size+1) #[.string ⟨#[]⟩] 9 from BNA.out) (zaS (fun e=>hgz e.symm) _ _ _)
   clear KMA BEA BNA HXE HPC HWM hth hs0
   show wpList _ _ _ _ _ (wM0.setCells g (k*7) (exL x xp xc))
   generalize wM0.setCells g (k*7) (exL x xp xc)=wM at *
   have a10:=HCM.at10
   have hrM:=HCM.qh.lt
   have n0:wM.cell? ⟨W.heap.size+1,0,none⟩=some (.string ⟨#[]⟩):=by rw[BNM.cell];rfl
   have hnlM:=BNM.lt
   have OwnN:∀V,Below wM.heap.size wM V→V.ownsRow W0.heap.size 9 1 (.slice nq n nc) n (ns.map .string):=fun V hb=>zab HCM.names hb
   have hWM:W0.heap.size≤wM.heap.size:=HCM.fr.size
   have AddN:=fun (V w9:World) (q9:Option Addr) (c9:Nat)=>HCM.addN (V:=V) (w9:=w9) (q9:=q9) (c9:=c9) (nm:=⟨#[]⟩)
   clear HCM BNM
   generalize ns.map Value.string=NS at *
   go_wp2
   go_region_law (refine zak rfl (.tmp 44) (.tmp 46) 31 rfl W0.heap.size 9 i1 _ 1 16 Tryz.underlying31 hi1 hy0 hy1 hyz rfl (by decide) (.slice nq n nc) n NS (by simp[Act.eval]) (OwnN _ (by repeat (first|exact Below.refl _ _|refine Below.drew ?_|refine zaf ?_ (Nat.le_refl _) _))) ⟨wM.heap.size,0,none⟩ 1 1 [.string ⟨#[]⟩] (by simp[Act.eval]) rfl (zdK (by simp)) (by intro u hu;simp at hu;subst hu;rfl) (by decide) (by simp[maxLen];omega) (by omega) (by simp;omega) ?_;intro q8 c8 w8 hown8 hgrow8 hfr8;obtain⟨⟨e1,e2,e3⟩,KS⟩:=AddN _ w8 q8 c8 (by repeat (first|exact Below.refl _ _|refine Below.drew ?_|refine zaf ?_ (Nat.le_refl _) _)) hown8 hgrow8 hfr8)
   all_goals
    go_wp2
    go_ret
    refine⟨false,x,⟨#[]⟩,(some ⟨g,0,none⟩),c9,q8,c8,rfl,?_,?_⟩
    ·rw[HA.out];exact KS
    ·show _=_;rw[HA.out]
 ·have cA:=as_q w1 tr rb (readE ts).2 Q1.out (W.heap.size+1) 0 #[.string ⟨#[]⟩] 9 N1 (by omega) ⟨#[]⟩ rfl (fun e=>by omega)
  go_wp2_with fail
  refine cA.mono ?_
  rintro e w2 ⟨R2,nm,rfl,Q2,F2,B2,HR2⟩
  have HA:Hid (colU ts=(if R2=true then some (x,nm) else none,(asU (readE ts).2).2)):=by
   show _=_
   rw[colU,zad (x:=x) (rs:=(readE ts).2) (Prod.ext HR1.out rfl)]
   cases R2
   ·rw[zai (rs:=(asU (readE ts).2).2) (Prod.ext HR2.out rfl)];rfl
   ·rw[zad (x:=nm) (rs:=(asU (readE ts).2).2) (Prod.ext HR2.out rfl)];rfl
  have FW:Fr tr (W.heap.size≤·) W w2:=FW1.trans ⟨F2.out.below,fun b hb hr hn=>F2.out.kept b hb hr (fun e=>hn (by omega))⟩
  have s2:=FW.size
  have HC:=HX.out.keep FW (fun b h1 h2=>by omega) Q2.out
  have EX:ExIn w2 (W.heap.size+1+1≤·) (exV x xp xc) x:=zit E1' F2.out (fun b hb _=>⟨by omega,by omega⟩)
  have BE:=B1'.fr F2.out (by omega) (by omega)
  have BN:Blk w2 (W.heap.size+1) #[.string nm] 9:=B2.out
  clear Q1 HR1 E1' B1' N1 FW1 cA Q2 F2 B2 HR2
  go_wp2
  go_region
  ·obtain⟨V4,hV4⟩:∃V4,(w2.alloc (.cells #[.bool false] 4)).drew=V4:=⟨_,rfl⟩
   have bV:Below w2.heap.size w2 V4:=by rw[←hV4];exact Below.drew (al _ _)
   rw[hV4]
   clear hV4
   have sV:=bV.size
   have HCV:=HC.keep (S:=fun _=>False) (Fr.of_below bV (by omega)) (fun _ _ h=>h) (HC.qh.fr (S:=fun _=>False) (Fr.of_below bV (by omega)) (HC.qh.rd.on bV) List.suffix_rfl (fun h=>h))
   have EXV:=EX.on bV
   have BEV:=BE.on bV
   have BNV:=BN.on bV
   have FWV:Fr tr (W.heap.size≤·) W V4:=FW.on bV (by omega)
   clear HC EX BE BN FW bV
   obtain⟨CS,oC,pC⟩:=HCV.cols
   rw[hck] at oC
   have hCl:CS.length=k*7:=by have:=oC.1;omega
   have hCl2:CS.length=cs.length*7:=by rw[hck];exact hCl
   have ownC:∀V,Below V4.heap.size V4 V→V.ownsRow W0.heap.size 30 7 (.slice cq k cc) k CS:=fun V hb=>zab oC hb
   have oblt:∀j,(Value.slice cq k cc).ownBlock=some j→j<W.heap.size:=fun j hj=>by
    obtain⟨cs',hc',-⟩:=HX.out.cols
    exact (hc'.lt j hj).2
   have nblt:∀j,(Value.slice nq n nc).ownBlock=some j→j<W.heap.size:=fun j hj=>(HX.out.names.lt j hj).2
   have hxE:ExIn V4 (fun b=>W0.heap.size≤b∧some b≠(Value.slice cq k cc).ownBlock∧some b≠(Value.slice nq n nc).ownBlock) (exV x xp xc) x:=ExIn.low (fun b _ hb=>⟨by omega,fun e=>by have:=oblt b e.symm;omega,fun e=>by have:=nblt b e.symm;omega⟩) _ _ EXV
   have hgr:=fun (V w9:World) (q9:Option Addr) (c9:Nat) (L:List Value)=>HCV.grow (V:=V) (w9:=w9) (q9:=q9) (c9:=c9) (L:=L) oC
   have hW0:W0.heap.size≤V4.heap.size:=by have:=FWV.size;omega
   have c9':=HCV.at9
   have hrlw:=HCV.qh.lt
   have hzl:=BEV.lt
   have hznl:=BNV.lt
   have nz1:some W.heap.size≠(Value.slice cq k cc).ownBlock:=fun e=>by have:=oblt _ e.symm;omega
   have nz2:some (W.heap.size+1)≠(Value.slice cq k cc).ownBlock:=fun e=>by have:=oblt _ e.symm;omega
   have m0:V4.cell? ⟨W.heap.size,0,none⟩=some (.string x.op):=by rw[BEV.cell];rfl
   have m1:V4.cell? ⟨W.heap.size,1,none⟩=some (.string x.nm):=by rw[BEV.cell];rfl
   have m2:V4.cell? ⟨W.heap.size,2,none⟩=some (.int .i64 x.vt):=by rw[BEV.cell];rfl
   have m3:V4.cell? ⟨W.heap.size,3,none⟩=some (.int .i64 x.vn):=by rw[BEV.cell];rfl
   have m4:V4.cell? ⟨W.heap.size,4,none⟩=some (.string x.vs):=by rw[BEV.cell];rfl
   have m5:V4.cell? ⟨W.heap.size,5,none⟩=some (.slice xp x.args.length xc):=by rw[BEV.cell];rfl
   have m6:V4.cell? ⟨W.heap.size,6,none⟩=some (.int .i64 x.pos):=by rw[BEV.cell];rfl
   clear FWV HX EXV
   go_wp2
   go_region_law (refine zak rfl (.tmp 32) (.tmp 34) 28 rfl W0.heap.size 30 i0 _ 7 96 Tryz.underlying28 hi hz0 hz1 hzz rfl (by decide) (.slice cq k cc) k CS (by simp[Act.eval]) (ownC _ (by repeat (first|exact Below.refl _ _|refine Below.drew ?_|refine zaf ?_ (Nat.le_refl _) _))) ⟨V4.heap.size,0,none⟩ 1 1 (exL x xp xc) (by simp[Act.eval]) rfl (zbU (t:=30) (by first|exact zaW _ _ _|rfl)) (zeg _ _ _) (by decide) (by simp[maxLen];omega) (by omega) (by simp;omega) ?_;intro q9 c9 w9 hown' hgrow hfr';obtain⟨⟨k1,k2,k3⟩,KM,KH⟩:=hgr _ w9 q9 c9 _ (by repeat (first|exact Below.refl _ _|refine Below.drew ?_|refine zaf ?_ (Nat.le_refl _) _)) hown' hgrow hfr')
   all_goals
    have HCM:=KM.out.done hck hnk hsz hlt hCl2 pC hxE
    have BNM:=BNV.keep (KH.out _ hznl (by omega) nz2)
    clear KM KH hgr ownC HCV BEV BNV hxE pC oC hown' hgrow hfr'
    generalize w9.setCell ⟨rb,9,none⟩ (.slice q9 (k+1) c9)=wM at *
    have a10:=HCM.at10
    have hrM:=HCM.qh.lt
    have n0:wM.cell? ⟨W.heap.size+1,0,none⟩=some (.string nm):=by rw[BNM.cell];rfl
    have hnlM:=BNM.lt
    have OwnN:∀V,Below wM.heap.size wM V→V.ownsRow W0.heap.size 9 1 (.slice nq n nc) n (ns.map .string):=fun V hb=>zab HCM.names hb
    have hWM:W0.heap.size≤wM.heap.size:=HCM.fr.size
    have AddN:=fun (V w9:World) (q9:Option Addr) (c9:Nat)=>HCM.addN (V:=V) (w9:=w9) (q9:=q9) (c9:=c9) (nm:=nm)
    clear HCM BNM
    generalize ns.map Value.string=NS at *
    go_wp2
    go_region_law (refine zak rfl (.tmp 44) (.tmp 46) 31 rfl W0.heap.size 9 i1 _ 1 16 Tryz.underlying31 hi1 hy0 hy1 hyz rfl (by decide) (.slice nq n nc) n NS (by simp[Act.eval]) (OwnN _ (by repeat (first|exact Below.refl _ _|refine Below.drew ?_|refine zaf ?_ (Nat.le_refl _) _))) ⟨wM.heap.size,0,none⟩ 1 1 [.string nm] (by simp[Act.eval]) rfl (zdK (by simp)) (by intro u hu;simp at hu;subst hu;rfl) (by decide) (by simp[maxLen];omega) (by omega) (by simp;omega) ?_;intro q8 c8 w8 hown8 hgrow8 hfr8;obtain⟨⟨e1,e2,e3⟩,KS⟩:=AddN _ w8 q8 c8 (by repeat (first|exact Below.refl _ _|refine Below.drew ?_|refine zaf ?_ (Nat.le_refl _) _)) hown8 hgrow8 hfr8)
    all_goals
     go_wp2
     go_ret
     refine⟨R2,x,nm,q9,c9,q8,c8,rfl,?_,?_⟩
     ·rw[HA.out];exact KS
     ·show _=_;rw[HA.out]
  ·obtain⟨V4,hV4⟩:∃V4,(w2.alloc (.cells #[.bool true] 4)).drew=V4:=⟨_,rfl⟩
   have bV:Below w2.heap.size w2 V4:=by rw[←hV4];exact Below.drew (al _ _)
   rw[hV4]
   clear hV4
   have sV:=bV.size
   have HCV:=HC.keep (S:=fun _=>False) (Fr.of_below bV (by omega)) (fun _ _ h=>h) (HC.qh.fr (S:=fun _=>False) (Fr.of_below bV (by omega)) (HC.qh.rd.on bV) List.suffix_rfl (fun h=>h))
   have EXV:=EX.on bV
   have BEV:=BE.on bV
   have BNV:=BN.on bV
   have FWV:Fr tr (W.heap.size≤·) W V4:=FW.on bV (by omega)
   clear HC EX BE BN FW bV
   obtain⟨CS,oC,pC⟩:=HCV.cols
   rw[hck] at oC
   have hCl:CS.length=k*7:=by have:=oC.1;omega
   have hCl2:CS.length=cs.length*7:=by rw[hck];exact hCl
   have ownC:∀V,Below V4.heap.size V4 V→V.ownsRow W0.heap.size 30 7 (.slice cq k cc) k CS:=fun V hb=>zab oC hb
   have oblt:∀j,(Value.slice cq k cc).ownBlock=some j→j<W.heap.size:=fun j hj=>by
    obtain⟨cs',hc',-⟩:=HX.out.cols
    exact (hc'.lt j hj).2
   have nblt:∀j,(Value.slice nq n nc).ownBlock=some j→j<W.heap.size:=fun j hj=>(HX.out.names.lt j hj).2
   have hxE:ExIn V4 (fun b=>W0.heap.size≤b∧some b≠(Value.slice cq k cc).ownBlock∧some b≠(Value.slice nq n nc).ownBlock) (exV x xp xc) x:=ExIn.low (fun b _ hb=>⟨by omega,fun e=>by have:=oblt b e.symm;omega,fun e=>by have:=nblt b e.symm;omega⟩) _ _ EXV
   have hgr:=fun (V w9:World) (q9:Option Addr) (c9:Nat) (L:List Value)=>HCV.grow (V:=V) (w9:=w9) (q9:=q9) (c9:=c9) (L:=L) oC
   have hW0:W0.heap.size≤V4.heap.size:=by have:=FWV.size;omega
   have c9':=HCV.at9
   have hrlw:=HCV.qh.lt
   have hzl:=BEV.lt
   have hznl:=BNV.lt
   have nz1:some W.heap.size≠(Value.slice cq k cc).ownBlock:=fun e=>by have:=oblt _ e.symm;omega
   have nz2:some (W.heap.size+1)≠(Value.slice cq k cc).ownBlock:=fun e=>by have:=oblt _ e.symm;omega
   clear FWV EXV HX
   have hkz:(k:Int)<(k:Int)+1:=by omega
   have hk0:(0:Int)≤(k:Int):=by omega
   go_wp2_with (at_builtin;refine zae rfl _ _ 28 rfl W0.heap.size 30 i0 _ 7 96 Tryz.underlying28 hi hz0 hz1 hzz rfl (by decide) (.slice cq k cc) k CS rfl (ownC _ (al _ _)) ⟨V4.heap.size,0,none⟩ 1 1 (exL ex0 none 0) rfl rfl (zbU (t:=30) (zaW _ _ _)) (zeg _ _ _) (by decide) (by simp[maxLen];omega) (by omega) (by simp;omega) ?_)
   intro v' w9 hown' hgrow hfr'
   obtain⟨q9,c9,rfl⟩:=zaa hown'
   obtain⟨g,rfl⟩:=zlD hown'
   obtain⟨⟨k1,k2,k3⟩,KM,KH⟩:=hgr _ w9 _ c9 _ (al _ _) hown' hgrow (by first|exact hfr'|(rw[World.size_alloc];exact hfr'))
   have hgz:g≠W.heap.size+1:=fun e=>by
    rcases hfr' with h|h
    ·exact nz2 (by rw[←h,e];rfl)
    ·have:g=V4.heap.size+1:=by simpa [Value.ownBlock] using h
     omega
   have hgz1:g≠W.heap.size:=fun e=>by
    rcases hfr' with h|h
    ·exact nz1 (by rw[←h,e];rfl)
    ·have:g=V4.heap.size+1:=by simpa [Value.ownBlock] using h
     omega
   have BNM0:=BNV.keep (KH.out _ hznl (by omega) nz2)
   have BEM:=BEV.keep (KH.out _ hzl (by omega) nz1)
   have hrM0:=KM.out.qh.lt
   clear KH hgr ownC HCV BEV BNV oC hown' hgrow hfr'
   obtain⟨wM0,hwM⟩:∃wM0,w9.setCell ⟨rb,9,none⟩ (.slice (some ⟨g,0,none⟩) (k+1) c9)=wM0:=⟨_,rfl⟩
   rw[hwM] at KM BNM0 BEM hrM0
   have hs0:W0.heap.size≤wM0.heap.size:=KM.out.fr.size
   have KMA:=(show Aside _ from KM.out)
   have BEA:=(show Aside _ from BEM)
   have BNA:=(show Aside _ from BNM0)
   have HXE:=(show Aside _ from hxE)
   have HPC:=(show Aside _ from pC)
   have HWM:Hid (w9.setCell ⟨rb,9,none⟩ (.slice (some ⟨g,0,none⟩) (k+1) c9)=wM0):=hwM
   clear KM BEM BNM0 hxE pC hwM
   go_upto_region 6 with fail
   refine wp_region_lit ?_
   refine wpList_load_row rfl 30 (.tmp 3) rfl W.heap.size rfl _ (exL x xp xc).toArray _ _ (by rw[HWM.out];exact BEA.out) Tryz.underlying30 rfl zaM ?_
   clear hCl2 nz1 nz2 hgz1
   iterate 3 go_step
   have hs0:W0.heap.size≤wM0.heap.size:=KMA.out.fr.size
   have hth:=ziz KMA.out.own (k*7) 7 (by omega)
   refine wpList_store_mid rfl 30 (.tmp 26) (.tmp 25) rfl g (k*7) (exL x xp xc).toArray rfl rfl (by rw[HWM.out];exact hth) zaM (zlz x xp xc) ?_
   rw[HWM.out]
   have HCM:=(KMA.out.store (x:=x) (xp:=xp) (xc:=xc) hlt rfl hCl hs0).done hck hnk hsz hlt (by rw[hck];exact hCl) HPC.out HXE.out
   have BNM:Blk (wM0.setCells g (k*7) (exL x xp xc)) (W.heap.size+1) #[.string nm] 9:=Blk.keep (show Blk wM0 (W.heap.size+1) #[.string nm] 9 from BNA.out) (zaS (fun e=>hgz e.symm) _ _ _)
   clear KMA BEA BNA HXE HPC HWM hth hs0
   show wpList _ _ _ _ _ (wM0.setCells g (k*7) (exL x xp xc))
   generalize wM0.setCells g (k*7) (exL x xp xc)=wM at *
   have a10:=HCM.at10
   have hrM:=HCM.qh.lt
   have n0:wM.cell? ⟨W.heap.size+1,0,none⟩=some (.string nm):=by rw[BNM.cell];rfl
   have hnlM:=BNM.lt
   have OwnN:∀V,Below wM.heap.size wM V→V.ownsRow W0.heap.size 9 1 (.slice nq n nc) n (ns.map .string):=fun V hb=>zab HCM.names hb
   have hWM:W0.heap.size≤wM.heap.size:=HCM.fr.size
   have AddN:=fun (V w9:World) (q9:Option Addr) (c9:Nat)=>HCM.addN (V:=V) (w9:=w9) (q9:=q9) (c9:=c9) (nm:=nm)
   clear HCM BNM
   generalize ns.map Value.string=NS at *
   go_wp2
   go_region_law (refine zak rfl (.tmp 44) (.tmp 46) 31 rfl W0.heap.size 9 i1 _ 1 16 Tryz.underlying31 hi1 hy0 hy1 hyz rfl (by decide) (.slice nq n nc) n NS (by simp[Act.eval]) (OwnN _ (by repeat (first|exact Below.refl _ _|refine Below.drew ?_|refine zaf ?_ (Nat.le_refl _) _))) ⟨wM.heap.size,0,none⟩ 1 1 [.string nm] (by simp[Act.eval]) rfl (zdK (by simp)) (by intro u hu;simp at hu;subst hu;rfl) (by decide) (by simp[maxLen];omega) (by omega) (by simp;omega) ?_;intro q8 c8 w8 hown8 hgrow8 hfr8;obtain⟨⟨e1,e2,e3⟩,KS⟩:=AddN _ w8 q8 c8 (by repeat (first|exact Below.refl _ _|refine Below.drew ?_|refine zaf ?_ (Nat.le_refl _) _)) hown8 hgrow8 hfr8)
   all_goals
    go_wp2
    go_ret
    refine⟨R2,x,nm,(some ⟨g,0,none⟩),c9,q8,c8,rfl,?_,?_⟩
    ·rw[HA.out];exact KS
    ·show _=_;rw[HA.out]
end
section
open Go.BigFrame
variable {en : Nat} {WZ : World}

theorem zdc{α:Type}{part:List Tok→Option α×List Tok}{k:Nat}{acc:List α}{ts rs rs':List Tok}{x:α}{t:Tok}(h:part ts=(some x,rs))(hn:nxT (sgT [[44]]) rs=some (t,rs')):sevU part (k+1) acc ts=sevU part k (acc++[x]) rs':=by
 rw[sevU,h]
 simp only[hn]
theorem zdo{α:Type}{part:List Tok→Option α×List Tok}{k:Nat}{acc:List α}{ts rs:List Tok}{x:α}(h:part ts=(some x,rs))(hn:nxT (sgT [[44]]) rs=none):sevU part (k+1) acc ts=(some (acc++[x]),rs):=by
 rw[sevU,h]
 simp only[hn]
theorem zdk{α:Type}{part:List Tok→Option α×List Tok}{k:Nat}{acc:List α}{ts rs:List Tok}(h:part ts=(none,rs)):sevU part (k+1) acc ts=(none,rs):=by rw[sevU,h]
theorem zfu{α:Type}(St:World→List Tok→List α→Prop)(part:List Tok→Option α×List Tok)(f:FuncId)(hent:∀(args:Array Value) (W:World),Sem.run Tryz.prog (callFunc f args) W=.ok (.enter f args) W)(tr rb:Nat)
  (hqh:∀W ts acc,St W ts acc→QH WZ en W tr rb ts)(hgo:∀W w' ts ts' acc,St W ts acc→Fr tr (fun _=>False) W w'→QH WZ en w' tr rb ts'→St w' ts' acc)(hsuf:∀ts,(part ts).2 <:+ ts)
  (hpart:∀W ts acc,St W ts acc→acc.length≤1000→Calls Tryz.prog f #[.pointer (some ⟨rb,0,none⟩)] W fun e w'=>∃(R:Bool) (acc':List α),e=.returned (.bool R)∧Aside (St w' (part ts).2 acc')∧Hid ((R=true∧∃x,(part ts).1=some x∧acc'=acc++[x])∨(R=false∧(part ts).1=none)))
  (W:World)(ts:List Tok)(h:St W ts [])(hl:ts.length≤400) :
  Calls Tryz.prog 54 #[.pointer (some ⟨rb,0,none⟩),.func (.func f) #[.pointer (some ⟨rb,0,none⟩)] #[]] W fun e w'=>∃(R:Bool)(acc':List α),e=.returned (.bool R)∧Aside (St w' (sevU part (ts.length+1) [] ts).2 acc')∧Hid ((R=true∧(sevU part (ts.length+1) [] ts).1=some acc')∨(R=false∧(sevU part (ts.length+1) [] ts).1=none)):=by
 have HS:Aside (St W ts []):=h
 have HP:=(show Aside _ from hpart)
 have HG:=(show Aside _ from hgo)
 have HQ:=(show Aside _ from hqh)
 have HF:=(show Aside _ from hsuf)
 clear h hpart hgo hqh hsuf
 obtain⟨T,hT⟩:∃T,sevU part (ts.length+1) [] ts=T:=⟨_,rfl⟩
 have HT:Hid (sevU part (ts.length+1) [] ts=T):=hT
 rw[hT]
 clear hT
 go_enter Tryz.func54,Tryz.ntmps54
 go_wp2
 go_loopg [6] (ts.length+1) (fun gg _ wr=>∃(acc:List α) (ts':List Tok),ts'.length+1≤gg∧acc.length+ts'.length≤400∧Aside (St wr ts' acc)∧Hid (sevU part gg acc ts'=T))
 case atStart=>exact⟨[],ts,Nat.le_refl _,by simpa using hl,(show Aside _ from HS.out),HT⟩
 case round =>
  obtain⟨acc,ts',hg,hL,hS,hV⟩:=hrel
  clear HS HT
  have cP:=HP.out wr ts' acc hS.out (by omega)
  obtain⟨kk,rfl⟩:∃kk,gk=kk+1:=⟨gk-1,by omega⟩
  go_wp2_with fail
  refine cP.mono ?_
  rintro e w1 ⟨R,acc',rfl,S1,HR⟩
  have hsu:=HF.out ts'
  clear cP hS
  cases R
  ·have hp:part ts'=(none,(part ts').2):=by
    rcases HR.out with ⟨h,-⟩|⟨-,h⟩
    ·exact absurd h (by decide)
    ·exact Prod.ext h rfl
   have HV:Hid (T=(none,(part ts').2)):=by show _=_;rw[←hV.out,zdk hp]
   clear HR hp hV HP HG HQ HF
   go_wp2
   go_ret
   refine⟨false,acc',rfl,?_,.inr ⟨rfl,?_⟩⟩
   ·rw[HV.out];exact S1
   ·rw[HV.out]
  ·obtain⟨x,hx,rfl⟩:∃x,(part ts').1=some x∧acc'=acc++[x]:=by
    rcases HR.out with ⟨-,h⟩|⟨h,-⟩
    ·exact h
    ·exact absurd h (by decide)
   have hp:part ts'=(some x,(part ts').2):=Prod.ext hx rfl
   obtain⟨R2,rs2,hj⟩:=zaI [44] (part ts').2
   have cJ:=zcn [44] w1 tr rb (part ts').2 (HQ.out _ _ _ S1.out) R2 rs2 hj
   cases R2
   ·have hn:nxT (sgT [[44]]) (part ts').2=none:=by
     rw[jU] at hj
     cases hh:nxT (sgT [[44]]) (part ts').2 with
     | none=>rfl
     | some p=>rw[hh] at hj;exact absurd (Prod.mk.inj hj).1 (by simp)
    have hrs:rs2=(part ts').2:=by
     rw[jU,hn] at hj
     exact (Prod.mk.inj hj).2.symm
    have HV:Hid (T=(some (acc++[x]),(part ts').2)):=by show _=_;rw[←hV.out,zdo hp hn]
    have HG2:=HG.out w1
    clear HR hp hV HP HG HQ HF hn hj
    go_wp2_with fail
    refine cJ.mono ?_
    rintro e w2 ⟨rfl,Q2,F2⟩
    have S2:=HG2 w2 _ rs2 _ S1.out F2.out Q2.out
    rw[hrs] at S2
    clear HG2 cJ Q2 F2 S1
    go_wp2
    go_ret
    refine⟨true,acc++[x],rfl,?_,.inl ⟨rfl,?_⟩⟩
    ·rw[HV.out];exact S2
    ·rw[HV.out]
   ·obtain⟨t,hn⟩:∃t,nxT (sgT [[44]]) (part ts').2=some (t,rs2):=by
     rw[jU] at hj
     cases hh:nxT (sgT [[44]]) (part ts').2 with
     | none=>rw[hh] at hj;exact absurd (Prod.mk.inj hj).1 (by simp)
     | some p=>rw[hh] at hj;exact⟨p.1,by rw[←(Prod.mk.inj hj).2]⟩
    have HV:Hid (sevU part kk (acc++[x]) rs2=T):=by show _=_;rw[←hV.out,zdc hp hn]
    have hlen:rs2.length+1=(part ts').2.length:=by rw[(zag hn).1];simp
    have hle:=hsu.length_le
    have HG2:=HG.out w1
    clear HR hp hV hn hj
    go_wp2_with fail
    refine cJ.mono ?_
    rintro e w2 ⟨rfl,Q2,F2⟩
    have S2:=HG2 w2 _ rs2 _ S1.out F2.out Q2.out
    clear HG2 cJ Q2 F2 S1
    go_wp2
    go_roundg kk
    case measure=>omega
    case rel=>exact⟨acc++[x],rs2,by omega,by simp;omega,(show Aside _ from S2),HV⟩
end
section
open Go.BigFrame
variable {en : Nat} {WZ : World}

structure QS(WZ:World)(en:Nat)(W:World)(tr rb:Nat)(ts:List Tok)(BC:Array Value)(I:World→Prop):Prop where
 qh:QH WZ en W tr rb ts
 box:Blk W rb BC 60
 inv:I W
def KpQ(tr rb:Nat)(I:World→Prop):Prop:=∀W w',rb<W.heap.size→I W→Fr tr (·=rb) W w'→I w'
theorem QS.go{W w':World}{tr rb:Nat}{ts ts':List Tok}{BC:Array Value}{I:World→Prop}(h:QS WZ en W tr rb ts BC I)(hc:KpQ tr rb I)(hf:Fr tr (fun _=>False) W w')(hq:QH WZ en w' tr rb ts'):QS WZ en w' tr rb ts' BC I :=
 ⟨hq,h.box.fr hf (by have:=h.qh.ne;omega) (fun h=>h),hc W w' h.qh.lt h.inv hf.weak⟩
theorem QS.put{W w':World}{tr rb:Nat}{ts ts':List Tok}{BC BC':Array Value}{I:World→Prop}(h:QS WZ en W tr rb ts BC I)(hc:KpQ tr rb I)(hf:Fr tr (·=rb) W w')(hq:QH WZ en w' tr rb ts')(hb:Blk w' rb BC' 60):QS WZ en w' tr rb ts' BC' I :=
 ⟨hq,hb,hc W w' h.qh.lt h.inv hf⟩
theorem cl_ex{tr rb B:Nat}{v:Value}{x:Ex}(hB:tr<B)(hB2:rb<B):KpQ tr rb (fun W=>ExIn W (B≤·) v x):=fun W w' hl h hf=>zit h hf (fun b hb _=>⟨by omega,by omega⟩)
theorem zoe{tr rb:Nat}{I J:World→Prop}(h:KpQ tr rb I)(k:KpQ tr rb J):KpQ tr rb (fun W=>I W∧J W):=fun W w' hl hh hf=>⟨h W w' hl hh.1 hf,k W w' hl hh.2 hf⟩
theorem zjS{tr rb:Nat}{W w':World}(hf:Fr tr (·=rb) W w')(hne:tr<rb):KeepB (rb+1) W w':=⟨hf.size,fun b h1 h2=>hf.kept b h2 (by omega) (by omega)⟩
theorem zkP(ts:List Tok):(whU ts).2 <:+ ts:=by
 rw[whU]
 cases h:nxT (sgT [zeP]) ts with
 | none=>exact List.suffix_rfl
 | some p=>exact (zaY _).trans (zcF h)
theorem zvf{ts rs:List Tok}(hj:jU zeP ts=(none,rs)):whU ts=(some ex0,rs):=by
 rw[jU] at hj
 rw[whU]
 cases h:nxT (sgT [zeP]) ts with
 | none=>rw[h] at hj;rw[(Prod.mk.inj hj).2.symm]
 | some p=>rw[h] at hj;exact absurd (Prod.mk.inj hj).1 (by simp)
theorem zry{ts rs:List Tok}(hj:jU zeP ts=(some (),rs)):whU ts=readE rs:=by
 rw[jU] at hj
 rw[whU]
 cases h:nxT (sgT [zeP]) ts with
 | none=>rw[h] at hj;exact absurd (Prod.mk.inj hj).1 (by simp)
 | some p=>rw[h] at hj;rw[(Prod.mk.inj hj).2.symm]
theorem zuI{z:Int}{ts rs:List Tok}(hj:jU zgf ts=(none,rs)):slU z ts=(some z,rs):=by
 rw[jU] at hj
 rw[slU]
 cases h:nxT (sgT [zgf]) ts with
 | none=>rw[h] at hj;rw[(Prod.mk.inj hj).2.symm]
 | some p=>rw[h] at hj;exact absurd (Prod.mk.inj hj).1 (by simp)
theorem ztC{z:Int}{ts rs:List Tok}(hj:jU zgf ts=(some (),rs)):slU z ts=iU rs:=by
 rw[jU] at hj
 rw[slU]
 cases h:nxT (sgT [zgf]) ts with
 | none=>rw[h] at hj;exact absurd (Prod.mk.inj hj).1 (by simp)
 | some p=>rw[h] at hj;rw[(Prod.mk.inj hj).2.symm]
theorem zoq(W:World)(tr rb:Nat)(ts:List Tok)(BC:Array Value)(I:World→Prop)(h:QS WZ en W tr rb ts BC I)(hc:KpQ tr rb I)(hsz:BC.size=15)(h0:putB BC 2 (exL ex0 none 0)=BC) :
  Calls Tryz.prog 29 #[.pointer (some ⟨rb,0,none⟩)] W fun e w'=>∃(R:Bool)(x:Ex)(xp:Option Addr)(xc:Nat),e=.returned (.bool R)∧Aside (QS WZ en w' tr rb (whU ts).2 (putB BC 2 (exL x xp xc)) (fun V=>I V∧ExIn V (rb+1≤·) (exV x xp xc) x))∧Hid ((whU ts).1=if R=true then some x else none):=by
 obtain⟨R1,rs1,hj⟩:=zaI zeP ts
 have cJ:=zcn zeP W tr rb ts h.qh R1 rs1 hj
 have HS:Aside (QS WZ en W tr rb ts BC I):=h
 have hne:=h.qh.ne
 have hrl:=h.qh.lt
 have cE:=fun W1 (h1:QH WZ en W1 tr rb rs1) (B1:Blk W1 rb BC 60)=>zbN W1 tr rb rs1 h1 rb 2 BC 60 B1 hne (by omega) (fun _=>by decide)
 clear h
 cases R1
 ·have HA:=(show Hid _ from zvf hj)
  go_enter Tryz.func29,Tryz.ntmps29
  go_wp2_with fail
  refine cJ.mono ?_
  rintro e w1 ⟨rfl,Q1,F1⟩
  have S1:=HS.out.go hc F1.out Q1.out
  clear cJ cE
  go_wp2
  go_ret
  refine⟨true,ex0,none,0,rfl,?_,?_⟩
  ·rw[HA.out,h0]
   exact⟨S1.qh,S1.box,S1.inv,zeA _ _⟩
  ·show _=_;rw[HA.out];rfl
 ·have HA:=(show Hid _ from zry hj)
  go_enter Tryz.func29,Tryz.ntmps29
  go_wp2_with fail
  refine cJ.mono ?_
  rintro e w1 ⟨rfl,Q1,F1⟩
  have S1:=HS.out.go hc F1.out Q1.out
  have c2:=cE w1 S1.qh S1.box
  have s1:=F1.out.size
  have hrl1:rb<w1.heap.size:=by omega
  clear cJ cE Q1 F1
  go_wp2_with fail
  refine c2.mono ?_
  rintro e w2 ⟨R,x,xp,xc,rfl,Q2,F2,B2,E2,HR⟩
  have S2:=S1.put hc F2.out Q2.out B2.out
  clear c2
  go_wp2
  go_ret
  refine⟨R,x,xp,xc,rfl,?_,?_⟩
  ·rw[HA.out]
   exact⟨S2.qh,S2.box,S2.inv,ExIn.low (fun b _ (hb:w1.heap.size≤b)=>(show rb+1≤b by omega)) _ _ E2.out⟩
  ·show _=_;rw[HA.out];exact HR.out
theorem ztF(W:World)(tr rb:Nat)(ts:List Tok)(BC:Array Value)(I:World→Prop)(h:QS WZ en W tr rb ts BC I)(hc:KpQ tr rb I)(hsz:BC.size=15)(z y0:Int)(h12:BC[12]?=some (.int .i64 z))(h13:BC[13]?=some (.int .i64 y0)) :
  Calls Tryz.prog 62 #[.pointer (some ⟨rb,0,none⟩)] W fun e w'=>∃(R:Bool)(y:Int),e=.returned (.bool R)∧Aside (QS WZ en w' tr rb (slU z ts).2 (BC.setIfInBounds 13 (.int .i64 y)) I)∧Hid ((slU z ts).1=if R=true then some y else none):=by
 obtain⟨R1,rs1,hj⟩:=zaI zgf ts
 have cJ:=zcn zgf W tr rb ts h.qh R1 rs1 hj
 have HS:Aside (QS WZ en W tr rb ts BC I):=h
 have hne:=h.qh.ne
 have hrl:=h.qh.lt
 have cE:=fun W1 (h1:QH WZ en W1 tr rb rs1) (B1:Blk W1 rb BC 60)=>zkG W1 tr rb rs1 h1 rb 13 BC 60 B1 hne (by omega) (fun _=>by decide)
 clear h
 cases R1
 ·have HA:=(show Hid _ from zuI (z:=z) hj)
  go_enter Tryz.func62,Tryz.ntmps62
  go_wp2_with fail
  refine cJ.mono ?_
  rintro e w1 ⟨rfl,Q1,F1⟩
  have S1:=HS.out.go hc F1.out Q1.out
  have k12:w1.cell? ⟨rb,12,none⟩=some (.int .i64 z):=by rw[S1.box.cell];exact h12
  have k13:w1.cell? ⟨rb,13,none⟩=some (.int .i64 y0):=by rw[S1.box.cell];exact h13
  have kf:w1.frozen? ⟨rb,13,none⟩=false:=S1.box.frozen 13
  have kl:=S1.box.lt
  have F2:Fr tr (·=rb) w1 (w1.setCell ⟨rb,13,none⟩ (.int .i64 z)):=(Fr.refl _ _ _).set 13 _ (by omega) (fun _=>rfl)
  have B2:=S1.box.set 13 (.int .i64 z)
  have R2:RdAt en (w1.setCell ⟨rb,13,none⟩ (.int .i64 z)) tr rs1:=S1.qh.rd.onB ((Below.refl (tr+1) w1).setCell (p:=⟨rb,13,none⟩) hne _) (by simp[World.setCell])
  have S2:Aside (QS WZ en (w1.setCell ⟨rb,13,none⟩ (.int .i64 z)) tr rb rs1 (BC.setIfInBounds 13 (.int .i64 z)) I):=S1.put hc F2 (S1.qh.go F2 R2 List.suffix_rfl (by rw[World.cell?_setCell_other _ _ _ _ (by simp)];exact S1.qh.p0)) B2
  clear cJ cE HS S1 F2 B2 R2 Q1 F1
  go_wp2
  go_ret
  refine⟨true,z,rfl,?_,?_⟩
  ·rw[HA.out];exact S2
  ·show _=_;rw[HA.out];rfl
 ·have HA:=(show Hid _ from ztC (z:=z) hj)
  go_enter Tryz.func62,Tryz.ntmps62
  go_wp2_with fail
  refine cJ.mono ?_
  rintro e w1 ⟨rfl,Q1,F1⟩
  have S1:=HS.out.go hc F1.out Q1.out
  have c2:=cE w1 S1.qh S1.box
  have s1:=F1.out.size
  have hrl1:rb<w1.heap.size:=by omega
  clear cJ cE Q1 F1
  go_wp2_with fail
  refine c2.mono ?_
  rintro e w2 ⟨R,y,rfl,Q2,F2,B2,HR⟩
  have S2:=S1.put hc F2.out Q2.out B2.out
  clear c2
  go_wp2
  go_ret
  refine⟨R,y,rfl,?_,?_⟩
  ·rw[HA.out];exact S2
  ·show _=_;rw[HA.out];exact HR.out
end
end Go.Proofs.YtopghagjmdbglaaGreatDoor
