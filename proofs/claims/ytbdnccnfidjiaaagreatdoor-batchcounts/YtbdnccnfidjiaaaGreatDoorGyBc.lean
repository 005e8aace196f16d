/-
  OtC, OuA, OuS.
-/
import Derived.Test.YtbdnccnfidjiaaaGreatDoorGyAi
import Derived.Test.YtbdnccnfidjiaaaGreatDoorGyAj
import Derived.Laws.AppendOwnNone
import Derived.Test.YtbdnccnfidjiaaaGreatDoorGyAv
namespace Go.Proofs.YtbdnccnfidjiaaaGreatDoor
open Go.RowKit
set_option linter.unusedVariables false
set_option linter.unusedSimpArgs false
set_option maxHeartbeats 8000000
section
open Go.BigFrame
theorem zjS:(Tryz.prog.info? 49).map (fun i=>(i.zero,i.size,i.bytes))=some (some (.agg #[.slice none 0 0,.int .i64 0,.int .i64 0]),3,40):=by kernel_rfl
def OffR(k:Option Nat)(rq:Option Addr)(r:List V3):Prop:=r.length=0∨∃b off,rq=some ⟨b,off,none⟩∧some b≠k
def OtCs(W:World)(k:Option Nat)(cs:List Value)(l:List Ot):Prop:=cs.length=l.length*3∧∀j (h:j<l.length),∃rq rc,cs[j*3]?=some (.slice rq l[j].1.length rc)∧cs[j*3+1]?=some (.int .i64 l[j].2.1)∧cs[j*3+2]?=some (.int .i64 l[j].2.2)∧zaf W rq l[j].1∧OffR k rq l[j].1
theorem OtCs.nil(W:World)(k:Option Nat):OtCs W k [] []:=⟨rfl,fun j h=>absurd h (by simp)⟩
theorem OtCs.on{W W':World}{k:Option Nat}{cs:List Value}{l:List Ot}(h:OtCs W k cs l)(hb:Below W.heap.size W W'):OtCs W' k cs l :=
 ⟨h.1,fun j hj=>by
  obtain⟨rq,rc,h1,h2,h3,h4,h5⟩:=h.2 j hj
  exact⟨rq,rc,h1,h2,h3,h4.on hb,h5⟩⟩
theorem zca{W W':World}{k:Option Nat}{rq:Option Addr}{r:List V3}(h:zaf W rq r)(ho:OffR k rq r)(hg:W.grownBy W' k)(hs:W.heap.size≤W'.heap.size):zaf W' rq r:=by
 rcases h with h|⟨b,off,rfl,hl,h⟩
 ·exact .inl h
 ·rcases ho with ho|⟨b2,off2,e,hne⟩
  ·exact .inl ho
  ·injection e with e
   injection e with e1 e2
   subst e1
   have hk:W'.heap[b]?=W.heap[b]?:=hg.block b hl hne
   have kc:∀o,W'.cell? ⟨b,o,none⟩=W.cell? ⟨b,o,none⟩:=fun o=>World.cell?_of_block (w:=W) (a:=⟨b,o,none⟩) hk
   refine .inr ⟨b,off,rfl,by omega,fun j hj=>?_⟩
   obtain⟨h1,h2,h3⟩:=h j hj
   exact⟨by rw[kc];exact h1,by rw[kc];exact h2,by rw[kc];exact h3⟩
theorem OtCs.push{W W':World}{k k':Option Nat}{cs:List Value}{l:List Ot}{o:Ot}{rq:Option Addr}{rc:Nat}(h:OtCs W k cs l)(hv:zaf W rq o.1)(ho:OffR k rq o.1)(hg:W.grownBy W' k)(hs:W.heap.size≤W'.heap.size)(hk:k'=k∨k'=some W.heap.size):OtCs W' k' (cs++[.slice rq o.1.length rc,.int .i64 o.2.1,.int .i64 o.2.2]) (l++[o]):=by
 have off':∀{q:Option Addr} {r:List V3},zaf W q r→OffR k q r→OffR k' q r:=fun {q r} hv ho=>by
  rcases hk with rfl|rfl
  ·exact ho
  ·rcases hv with hv|⟨b,off,e,hl,-⟩
   ·exact .inl hv
   ·exact .inr ⟨b,off,e,by intro e;injection e with e;omega⟩
 refine⟨by rw[List.length_append,List.length_append,h.1];simp;omega,fun j hj=>?_⟩
 by_cases hj2:j<l.length
 ·obtain⟨rq',rc',h1,h2,h3,h4,h5⟩:=h.2 j hj2
  have e:(l++[o])[j]=l[j]:=List.getElem_append_left hj2
  rw[e]
  have hl:=h.1
  refine⟨rq',rc',?_,?_,?_,zca h4 h5 hg hs,off' h4 h5⟩
  ·rw[List.getElem?_append_left (by omega)];exact h1
  ·rw[List.getElem?_append_left (by omega)];exact h2
  ·rw[List.getElem?_append_left (by omega)];exact h3
 ·have hjl:j=l.length:=by simp at hj;omega
  subst hjl
  have e:(l++[o])[l.length]=o:=by simp
  rw[e]
  have hl:=h.1
  refine⟨rq,rc,?_,?_,?_,zca hv ho hg hs,off' hv ho⟩
  ·rw[List.getElem?_append_right (by omega),hl,Nat.sub_self];rfl
  ·rw[List.getElem?_append_right (by omega),hl,show l.length*3+1-l.length*3=1 by omega];rfl
  ·rw[List.getElem?_append_right (by omega),hl,show l.length*3+2-l.length*3=2 by omega];rfl
set_option maxRecDepth 20000 in
theorem zcA{w:World}{ops:Array Oper}{rest:List Oper}{o:Oper}{a:Act}{Q:Exit→Act→World→Prop}(hgd:o.guard=none)(s x:Operand)
  (ho:o.op=.call { callee:=.builtin .append,args:=#[s,x],argTypes:=#[43,43] })
  (base:Nat)(v:Value)(n:Nat)(cs:List Value)(hs:a.eval s=v)(hown:w.ownsRow base 49 3 v n cs)
  (g:Nat)(rq:Option Addr)(rl rc:Nat)(e f:Int)(hx:a.eval x=.slice (some ⟨g,0,none⟩) 1 1)(h0:w.cell? ⟨g,0,none⟩=some (.slice rq rl rc))(h1:w.cell? ⟨g,1,none⟩=some (.int .i64 e))(h2:w.cell? ⟨g,2,none⟩=some (.int .i64 f))
  (hsm:n≤1000000)(hbase:base≤w.heap.size)
  (h:∀q' c' w',w'.ownsRow base 49 3 (.slice q' (n+1) c') (n+1) (cs++[.slice rq rl rc,.int .i64 e,.int .i64 f])→w.grownBy w' v.ownBlock→((Value.slice q' (n+1) c').ownBlock=v.ownBlock∨(Value.slice q' (n+1) c').ownBlock=some w.heap.size)→wpList Tryz.prog ops Q rest (a.put o.dst (.slice q' (n+1) c')) w'):wpList Tryz.prog ops Q (o::rest) a w:=by
 obtain⟨i0,hi,hz0,hz1,hzz⟩:=info_parts zjS
 refine zad hgd s x 43 ho base 49 i0 _ 3 40 Tryz.underlying43 hi hz0 hz1 hzz rfl (by decide) v n cs hs hown ⟨g,0,none⟩ 1 1 [.slice rq rl rc,.int .i64 e,.int .i64 f] hx rfl (fun j u hu=>?_) (fun u hu=>?_) (by decide) (by unfold maxLen;omega) (by omega) hbase (fun v' w' o1 o2 o3=>?_)
 ·rw[Go.WideShapes.add_plain]
  have hj:j<3:=by have:=(List.getElem?_eq_some_iff.1 hu).1;simpa using this
  have:j=0∨j=1∨j=2:=by omega
  rcases this with rfl|rfl|rfl
  ·have hu:some (Value.slice rq rl rc)=some u:=hu
   injection hu with hu
   subst hu
   exact h0
  ·have hu:some (Value.int .i64 e)=some u:=hu
   injection hu with hu
   subst hu
   exact h1
  ·have hu:some (Value.int .i64 f)=some u:=hu
   injection hu with hu
   subst hu
   exact h2
 ·simp at hu
  rcases hu with rfl|rfl|rfl<;>rfl
 ·obtain⟨q',c',rfl⟩:=zaa o1
  exact h q' c' w' o1 o2 o3
def OutsV(W:World)(u:Value)(l:List Ot):Prop:=∃q c,u=.slice q l.length c∧(l.length=0∨∃b,q=some ⟨b,0,none⟩∧b<W.heap.size∧∀j (h:j<l.length),∃rq rc,W.cell? ⟨b,j*3,none⟩=some (.slice rq l[j].1.length rc)∧W.cell? ⟨b,j*3+1,none⟩=some (.int .i64 l[j].2.1)∧W.cell? ⟨b,j*3+2,none⟩=some (.int .i64 l[j].2.2)∧zaf W rq l[j].1)
theorem OutsV.own{W:World}{B n:Nat}{u:Value}{cs:List Value}{l:List Ot}{k:Option Nat}(hn:l.length=n)(h:W.ownsRow B 49 3 u n cs)(hc:OtCs W k cs l):OutsV W u l:=by
 subst hn
 obtain⟨q,c,rfl⟩:=zaa h
 refine⟨q,c,rfl,?_⟩
 rcases h.2 with ⟨e1,h0⟩|⟨g,cap,cur,e1,hb,hg,_⟩
 ·exact .inl h0
 ·injection e1 with e1
  subst e1
  refine .inr ⟨g,rfl,(Array.getElem?_eq_some_iff.1 hg).1,fun j hj=>?_⟩
  obtain⟨rq,rc,a0,a1,a2,a3,-⟩:=hc.2 j hj
  have h1:=h.cells (g:=g) rfl _ _ a0
  have h2:=h.cells (g:=g) rfl _ _ a1
  have h3:=h.cells (g:=g) rfl _ _ a2
  rw[Go.WideShapes.add_plain] at h1 h2 h3
  exact⟨rq,rc,by simpa using h1,by simpa [Nat.add_assoc] using h2,by simpa [Nat.add_assoc] using h3,a3⟩
theorem OutsV.on{W W':World}{u:Value}{l:List Ot}(h:OutsV W u l)(hb:Below W.heap.size W W'):OutsV W' u l:=by
 obtain⟨q,c,e,h⟩:=h
 refine⟨q,c,e,?_⟩
 rcases h with h|⟨b,e,hl,h⟩
 ·exact .inl h
 ·refine .inr ⟨b,e,by have:=hb.size;omega,fun j hj=>?_⟩
  obtain⟨rq,rc,h0,h1,h2,h3⟩:=h j hj
  exact⟨rq,rc,by rw[hb.cell (p:=⟨b,_,none⟩) hl];exact h0,by rw[hb.cell (p:=⟨b,_,none⟩) hl];exact h1,by rw[hb.cell (p:=⟨b,_,none⟩) hl];exact h2,h3.on hb⟩
def FrC(B:Nat)(cs:List Value):Prop:=∀j rq n rc,cs[j*3]?=some (.slice rq n rc)→n=0∨∃b off,rq=some ⟨b,off,none⟩∧B≤b
theorem FrC.nil(B:Nat):FrC B []:=fun j rq n rc h=>by simp at h
theorem FrC.append{B B2:Nat}{cs ds:List Value}{n:Nat}(hn:cs.length=n*3)(h:FrC B cs)(k:FrC B2 ds)(hB:B≤B2):FrC B (cs++ds):=fun j rq m rc e=>by
 by_cases hj:j<n
 ·rw[List.getElem?_append_left (by omega)] at e
  exact h j rq m rc e
 ·rw[List.getElem?_append_right (by omega),hn,show j*3-n*3=(j-n)*3 by omega] at e
  rcases k _ rq m rc e with h|⟨b,off,e1,e2⟩
  ·exact .inl h
  ·exact .inr ⟨b,off,e1,by omega⟩
structure OutsF(B:Nat)(W:World)(u:Value)(l:List Ot):Prop where
 own:∃cs,W.ownsRow B 49 3 u l.length cs∧OtCs W u.ownBlock cs l∧FrC B cs
 non:l=[]→u=.slice none 0 0
theorem OutsF.nil(B:Nat)(W:World):OutsF B W (.slice none 0 0) []:=⟨⟨[],World.ownsRow_nil _ _ _ _,OtCs.nil _ _,FrC.nil _⟩,fun _=>rfl⟩
theorem OutsF.on{B:Nat}{W W':World}{u:Value}{l:List Ot}(h:OutsF B W u l)(hb:Below W.heap.size W W'):OutsF B W' u l:=by
 obtain⟨cs,h1,h2,h3⟩:=h.own
 exact⟨⟨cs,zac h1 hb,h2.on hb,h3⟩,h.non⟩
theorem OutsF.lt{B:Nat}{W:World}{u:Value}{l:List Ot}(h:OutsF B W u l):∀k,u.ownBlock=some k→B≤k∧k<W.heap.size:=by
 obtain⟨cs,h1,-⟩:=h.own
 exact fun k hk=>World.ownsRow.lt h1 k hk
theorem OutsF.low{B B':Nat}{W:World}{u:Value}{l:List Ot}(h:OutsF B W u l)(hB:B'≤B):OutsF B' W u l:=by
 obtain⟨cs,h1,h2,h3⟩:=h.own
 refine⟨⟨cs,⟨h1.1,h1.2.imp id (fun ⟨g,cap,cur,e,hbg,r⟩=>⟨g,cap,cur,e,Nat.le_trans hB hbg,r⟩)⟩,h2,fun j rq n rc e=>?_⟩,h.non⟩
 rcases h3 j rq n rc e with h|⟨b,off,e1,e2⟩
 ·exact .inl h
 ·exact .inr ⟨b,off,e1,by omega⟩
theorem zdp{S:Nat→Prop}{W W':World}{rq:Option Addr}{r:List V3}(h:zaf W rq r)(hk:Kp S W W')(ho:r.length=0∨∀b off,rq=some ⟨b,off,none⟩→¬S b):zaf W' rq r:=by
 rcases h with h|⟨b,off,rfl,hl,h⟩
 ·exact .inl h
 ·rcases ho with ho|ho
  ·exact .inl ho
  ·have kc:∀o,W'.cell? ⟨b,o,none⟩=W.cell? ⟨b,o,none⟩:=fun o=>hk.cell o hl (ho b off rfl)
   refine .inr ⟨b,off,rfl,by have:=hk.size;omega,fun j hj=>?_⟩
   obtain⟨h1,h2,h3⟩:=h j hj
   exact⟨by rw[kc];exact h1,by rw[kc];exact h2,by rw[kc];exact h3⟩
theorem OutsF.kp{S:Nat→Prop}{B:Nat}{W W':World}{u:Value}{l:List Ot}(h:OutsF B W u l)(hk:Kp S W W')(hS:∀k,S k→k<B):OutsF B W' u l:=by
 obtain⟨cs,h1,h2,h3⟩:=h.own
 refine⟨⟨cs,?_,⟨h2.1,fun j hj=>?_⟩,h3⟩,h.non⟩
 ·refine⟨h1.1,?_⟩
  rcases h1.2 with hn|⟨g,cap,cur,rfl,h1,hgg,rest⟩
  ·exact .inl hn
  ·exact .inr ⟨g,cap,cur,rfl,h1,by rw[hk.kept g (Array.getElem?_eq_some_iff.1 hgg).1 (fun hs=>by have:=hS g hs;omega)];exact hgg,rest⟩
 ·obtain⟨rq,rc,a1,a2,a3,a4,a5⟩:=h2.2 j hj
  refine⟨rq,rc,a1,a2,a3,zdp a4 hk ?_,a5⟩
  rcases h3 j rq _ rc a1 with h|⟨b,off,e1,e2⟩
  ·exact .inl h
  ·refine .inr fun b' off' e hs=>?_
   rw[e1] at e
   injection e with e
   injection e with e _
   subst e
   have:=hS b hs
   omega
def FrP(P:Nat→Prop)(cs:List Value):Prop:=∀j rq n rc,cs[j*3]?=some (.slice rq n rc)→n=0∨∃b off,rq=some ⟨b,off,none⟩∧P b
theorem FrP.append{P P2 Q:Nat→Prop}{cs ds:List Value}{n:Nat}(hn:cs.length=n*3)(h:FrP P cs)(k:FrP P2 ds)(h1:∀i,P i→Q i)(h2:∀i,P2 i→Q i):FrP Q (cs++ds):=fun j rq m rc e=>by
 by_cases hj:j<n
 ·rw[List.getElem?_append_left (by omega)] at e
  exact (h j rq m rc e).imp id fun ⟨b,off,e1,e2⟩=>⟨b,off,e1,h1 b e2⟩
 ·rw[List.getElem?_append_right (by omega),hn,show j*3-n*3=(j-n)*3 by omega] at e
  exact (k _ rq m rc e).imp id fun ⟨b,off,e1,e2⟩=>⟨b,off,e1,h2 b e2⟩
structure OutsG(P:Nat→Prop)(W:World)(u:Value)(l:List Ot):Prop where
 own:∃cs,W.ownsRow 0 49 3 u l.length cs∧OtCs W u.ownBlock cs l∧FrP P cs
 blk:∀k,u.ownBlock=some k→P k
 non:l=[]→u=.slice none 0 0
theorem OutsG.nil(P:Nat→Prop)(W:World):OutsG P W (.slice none 0 0) []:=⟨⟨[],World.ownsRow_nil _ _ _ _,OtCs.nil _ _,fun j rq n rc h=>by simp at h⟩,fun k h=>by simp[Value.ownBlock] at h,fun _=>rfl⟩
theorem OutsG.form{P:Nat→Prop}{W:World}{u:Value}{l:List Ot}(h:OutsG P W u l):∃q c,u=.slice q l.length c:=by
 obtain⟨cs,h1,-⟩:=h.own
 exact zaa h1
theorem OutsG.v{P:Nat→Prop}{W:World}{u:Value}{l:List Ot}(h:OutsG P W u l):OutsV W u l:=by
 obtain⟨cs,h1,h2,-⟩:=h.own
 exact OutsV.own rfl h1 h2
theorem OutsG.on{P:Nat→Prop}{W W':World}{u:Value}{l:List Ot}(h:OutsG P W u l)(hb:Below W.heap.size W W'):OutsG P W' u l:=by
 obtain⟨cs,h1,h2,h3⟩:=h.own
 exact⟨⟨cs,zac h1 hb,h2.on hb,h3⟩,h.blk,h.non⟩
theorem OutsG.mono{P Q:Nat→Prop}{W:World}{u:Value}{l:List Ot}(h:OutsG P W u l)(hq:∀k,P k→Q k):OutsG Q W u l:=by
 obtain⟨cs,h1,h2,h3⟩:=h.own
 exact⟨⟨cs,h1,h2,fun j rq n rc e=>(h3 j rq n rc e).imp id fun ⟨b,off,e1,e2⟩=>⟨b,off,e1,hq b e2⟩⟩,fun k hk=>hq k (h.blk k hk),h.non⟩
theorem OutsG.kp{P S:Nat→Prop}{W W':World}{u:Value}{l:List Ot}(h:OutsG P W u l)(hk:Kp S W W')(hS:∀k,P k→¬S k):OutsG P W' u l:=by
 obtain⟨cs,h1,h2,h3⟩:=h.own
 refine⟨⟨cs,?_,⟨h2.1,fun j hj=>?_⟩,h3⟩,h.blk,h.non⟩
 ·refine⟨h1.1,?_⟩
  rcases h1.2 with hn|⟨g,cap,cur,e,h1,hgg,rest⟩
  ·exact .inl hn
  ·exact .inr ⟨g,cap,cur,e,h1,by rw[hk.kept g (Array.getElem?_eq_some_iff.1 hgg).1 (hS g (h.blk g (by rw[e];rfl)))];exact hgg,rest⟩
 ·obtain⟨rq,rc,a1,a2,a3,a4,a5⟩:=h2.2 j hj
  refine⟨rq,rc,a1,a2,a3,zdp a4 hk ?_,a5⟩
  rcases h3 j rq _ rc a1 with h|⟨b,off,e1,e2⟩
  ·exact .inl h
  ·refine .inr fun b' off' e hs=>?_
   rw[e1] at e
   injection e with e
   injection e with e _
   subst e
   exact hS b e2 hs
theorem OutsG.lt{P:Nat→Prop}{W:World}{u:Value}{l:List Ot}(h:OutsG P W u l):OutsG (fun k=>P k∧k<W.heap.size) W u l:=by
 obtain⟨cs,h1,h2,h3⟩:=h.own
 refine⟨⟨cs,h1,h2,fun j rq n rc e=>?_⟩,fun k hk=>⟨h.blk k hk,(World.ownsRow.lt h1 k hk).2⟩,h.non⟩
 rcases h3 j rq n rc e with h|⟨b,off,rfl,e2⟩
 ·exact .inl h
 ·have hj:j<l.length:=by have:=(List.getElem?_eq_some_iff.1 e).1;rw[h2.1] at this;omega
  obtain⟨rq',rc',a1,-,-,a4,-⟩:=h2.2 j hj
  rw[a1] at e
  injection e with e
  injection e with q1 q2 q3
  subst q1
  rcases a4 with h|⟨b',off',e,hl,-⟩
  ·exact .inl (q2▸h)
  ·injection e with e
   injection e with e _
   subst e
   exact .inr ⟨b,off,rfl,e2,hl⟩
theorem OutsF.g{B:Nat}{W:World}{u:Value}{l:List Ot}(h:OutsF B W u l):OutsG (fun k=>B≤k∧k<W.heap.size) W u l:=by
 obtain⟨cs,h1,h2,h3⟩:=h.own
 exact OutsG.lt ⟨⟨cs,⟨h1.1,h1.2.imp id (fun ⟨g,cap,cur,e,hbg,r⟩=>⟨g,cap,cur,e,Nat.zero_le _,r⟩)⟩,h2,h3⟩,fun k hk=>(h.lt k hk).1,h.non⟩
theorem OutsG.f{P:Nat→Prop}{B:Nat}{W:World}{u:Value}{l:List Ot}(h:OutsG P W u l)(hB:∀k,P k→B≤k):OutsF B W u l:=by
 obtain⟨cs,h1,h2,h3⟩:=h.own
 exact⟨⟨cs,⟨h1.1,h1.2.imp id (fun ⟨g,cap,cur,e,_,r⟩=>⟨g,cap,cur,e,hB g (h.blk g (by rw[e];rfl)),r⟩)⟩,h2,fun j rq n rc e=>(h3 j rq n rc e).imp id fun ⟨b,off,e1,e2⟩=>⟨b,off,e1,hB b e2⟩⟩,h.non⟩
theorem OtCs.append{W W':World}{k k2 k':Option Nat}{cs ds:List Value}{l m:List Ot}{P2:Nat→Prop}(h:OtCs W k cs l)(h2:OtCs W k2 ds m)(hf:FrP P2 ds)(hB2:∀i,k=some i→¬P2 i)(hg:W.grownBy W' k)(hs:W.heap.size≤W'.heap.size)(hk:k'=k∨k'=some W.heap.size):OtCs W' k' (cs++ds) (l++m):=by
 have off':∀{q:Option Addr} {r:List V3},zaf W q r→OffR k q r→OffR k' q r:=fun {q r} hv ho=>by
  rcases hk with rfl|rfl
  ·exact ho
  ·rcases hv with hv|⟨b,off,e,hl,-⟩
   ·exact .inl hv
   ·exact .inr ⟨b,off,e,by intro e;injection e with e;omega⟩
 have hl:=h.1
 refine⟨by rw[List.length_append,List.length_append,h.1,h2.1];omega,fun j hj=>?_⟩
 by_cases hj2:j<l.length
 ·obtain⟨rq',rc',h1,h2,h3,h4,h5⟩:=h.2 j hj2
  have e:(l++m)[j]=l[j]:=List.getElem_append_left hj2
  rw[e]
  refine⟨rq',rc',?_,?_,?_,zca h4 h5 hg hs,off' h4 h5⟩
  ·rw[List.getElem?_append_left (by omega)];exact h1
  ·rw[List.getElem?_append_left (by omega)];exact h2
  ·rw[List.getElem?_append_left (by omega)];exact h3
 ·have hj3:j-l.length<m.length:=by rw[List.length_append] at hj;omega
  obtain⟨rq',rc',g1,g2,g3,g4,g5⟩:=h2.2 (j-l.length) hj3
  have e:(l++m)[j]=m[j-l.length]:=List.getElem_append_right (by omega)
  rw[e]
  have ho:OffR k rq' m[j-l.length].1:=by
   rcases hf _ rq' _ rc' g1 with h|⟨b,off,e1,e2⟩
   ·exact .inl h
   ·exact .inr ⟨b,off,e1,fun e=>hB2 b e.symm e2⟩
  refine⟨rq',rc',?_,?_,?_,zca g4 ho hg hs,off' g4 ho⟩
  ·rw[List.getElem?_append_right (by omega),hl,show j*3-l.length*3=(j-l.length)*3 by omega];exact g1
  ·rw[List.getElem?_append_right (by omega),hl,show j*3+1-l.length*3=(j-l.length)*3+1 by omega];exact g2
  ·rw[List.getElem?_append_right (by omega),hl,show j*3+2-l.length*3=(j-l.length)*3+2 by omega];exact g3
theorem zpd{W:World}{k:Option Nat}{cs:List Value}{l:List Ot}(h:OtCs W k cs l):∀u∈cs,u.oneCell'=true:=by
 intro u hu
 obtain⟨i,hi⟩:=List.mem_iff_getElem?.1 hu
 have hil:i<cs.length:=(List.getElem?_eq_some_iff.1 hi).1
 rw[h.1] at hil
 obtain⟨rq,rc,h1,h2,h3,-⟩:=h.2 (i / 3) (by omega)
 have:i=i / 3*3∨i=i / 3*3+1∨i=i / 3*3+2:=by omega
 rcases this with e|e|e
 ·rw[e,h1] at hi;injection hi with hi;rw[←hi];rfl
 ·rw[e,h2] at hi;injection hi with hi;rw[←hi];rfl
 ·rw[e,h3] at hi;injection hi with hi;rw[←hi];rfl
set_option maxRecDepth 20000 in
theorem zar{w:World}{ops:Array Oper}{rest:List Oper}{o:Oper}{a:Act}{Q:Exit→Act→World→Prop}(hgd:o.guard=none)(s x:Operand)
  (ho:o.op=.call { callee:=.builtin .append,args:=#[s,x],argTypes:=#[43,43] })
  (P P2:Nat→Prop)(v:Value)(l:List Ot)(hs:a.eval s=v)(hA:OutsG P w v l)(u:Value)(m:List Ot)(hx:a.eval x=u)(hF:OutsG P2 w u m)(hd:∀k,v.ownBlock=some k→¬P2 k)(hsm:l.length+m.length≤1000000)
  (h:∀v' w',OutsG (fun k=>P k∨P2 k∨v'.ownBlock=some k) w' v' (l++m)→w.grownBy w' v.ownBlock→(v'.ownBlock=v.ownBlock∨v'.ownBlock=some w.heap.size)→wpList Tryz.prog ops Q rest (a.put o.dst v') w'):wpList Tryz.prog ops Q (o::rest) a w:=by
 obtain⟨i0,hi,hz0,hz1,hzz⟩:=info_parts zjS
 obtain⟨cs,o1,o2,o3⟩:=hA.own
 by_cases hm:m=[]
 ·subst hm
  refine wpList_append_own_none hgd s x 43 ho 0 49 i0 3 Tryz.underlying43 hi v l.length cs hs o1 (by rw[hx,hF.non rfl]) ?_
  exact h v w (by rw[List.append_nil];exact hA.mono fun k hk=>.inl hk) (World.grownBy.refl w _) (.inl rfl)
 ·obtain⟨ds,p1,p2,p3⟩:=hF.own
  obtain⟨q,c,rfl⟩:=hF.form
  have hml:0<m.length:=List.length_pos_iff.2 hm
  obtain⟨g,cap,e⟩:∃g cap,(Value.slice q m.length c)=.slice (some ⟨g,0,none⟩) m.length cap:=by
   rcases p1.2 with ⟨_,h0⟩|⟨g,cap,cur,e,-⟩
   ·omega
   ·exact⟨g,cap,e⟩
  injection e with e1 _ e2
  subst e1
  subst e2
  refine zad hgd s x 43 ho 0 49 i0 _ 3 40 Tryz.underlying43 hi hz0 hz1 hzz rfl (by decide) v l.length cs hs o1 ⟨g,0,none⟩ m.length c ds hx p1.1 (fun j u hu=>p1.cells (g:=g) rfl j u hu) (zpd p2) hml (by unfold maxLen;omega) (by omega) (Nat.zero_le _) (fun v' w' q1 q2 q3=>?_)
  have hsz:=q2.size
  refine h v' w' ⟨⟨cs++ds,by rw[List.length_append];exact q1,OtCs.append o2 p2 p3 hd q2 hsz q3,FrP.append (by rw[o1.1]) o3 p3 (fun _ h=>.inl h) fun _ h=>.inr (.inl h)⟩,fun k hk=>.inr (.inr hk),fun hn=>?_⟩ q2 q3
  exact absurd (List.append_eq_nil_iff.1 hn).2 hm
theorem zcs{w:World}{ops:Array Oper}{rest:List Oper}{o:Oper}{a:Act}{Q:Exit→Act→World→Prop}(hgd:o.guard=none)(s x:Operand)
  (ho:o.op=.call { callee:=.builtin .append,args:=#[s,x],argTypes:=#[43,43] })
  (base:Nat)(v:Value)(l:List Ot)(hs:a.eval s=v)(hA:OutsF base w v l)(B2:Nat)(u:Value)(m:List Ot)(hx:a.eval x=u)(hF:OutsF B2 w u m)(hB2:∀k,v.ownBlock=some k→k<B2)(hbB:base≤B2)(hsm:l.length+m.length≤1000000)(hbase:base≤w.heap.size)
  (h:∀v' w',OutsF base w' v' (l++m)→w.grownBy w' v.ownBlock→(v'.ownBlock=v.ownBlock∨v'.ownBlock=some w.heap.size)→wpList Tryz.prog ops Q rest (a.put o.dst v') w'):wpList Tryz.prog ops Q (o::rest) a w :=
 zar hgd s x ho _ _ v l hs hA.g u m hx hF.g (fun k hk hp=>by have:=hB2 k hk;omega) hsm fun v' w' hG hg hw=>h v' w' (hG.f fun k hk=>by
  rcases hk with h|h|h
  ·exact h.1
  ·omega
  ·rcases hw with e|e
   ·rw[e] at h;exact (hA.lt k h).1
   ·rw[e] at h;injection h with h;omega) hg hw
set_option maxRecDepth 20000 in
theorem zts(sb b n c:Nat)(fr:Int)(zs:Nat→Nat)(L:Nat→List V3)(E:Nat→Int)(w:World)(hf:w.cell? ⟨sb,0,none⟩=some (.int .i64 fr))(hs:w.cell? ⟨sb,1,none⟩=some (.slice (some ⟨b,0,none⟩) n c))(hn:n≤1000)(hbl:b<w.heap.size)
  (hp:∀j,j<n→w.cell? ⟨b,j,none⟩=some (.pointer (some ⟨zs j,0,none⟩)))
  (hO:∀j,j<n→∀W,Below w.heap.size w W→Calls Tryz.prog 175 #[.pointer (some ⟨zs j,0,none⟩)] W fun e w'=>(∃rq rc,e=.returned (.agg #[.slice rq (L j).length rc,.int .i64 (E j),.int .i64 0])∧Aside (zaf w' rq (L j)∧((L j).length=0∨∃b off,rq=some ⟨b,off,none⟩∧W.heap.size≤b)))∧Below W.heap.size W w') :
  Calls Tryz.prog 145 #[.pointer (some ⟨sb,0,none⟩)] w fun e w'=>(∃u,e=.returned u∧Aside (OutsF w.heap.size w' u ((List.range n).map fun j=>(L j,E j,fr))))∧Below w.heap.size w w':=by
 have hsl:sb<w.heap.size:=by
  rcases Nat.lt_or_ge sb w.heap.size with h|h
  ·exact h
  ·simp[World.cell?,Array.getElem?_eq_none h] at hs
 have HP:Aside _:=hp
 have HO:Aside _:=hO
 have HF:Aside (w.cell? ⟨sb,0,none⟩=some (.int .i64 fr)):=hf
 have hnz:(n:Int)≤1000:=by omega
 clear hp hO hf
 go_enter Tryz.func145,Tryz.ntmps145
 go_wp2
 go_loopg [3,5,6,12] n (fun gg s3 _ _ s12 wr=>∃(kk:Nat) (cs:List Value) (u:Value),kk≤n∧n-kk≤gg∧s12=.int .i64 (kk:Int)∧s3=u∧Aside (wr.ownsRow w.heap.size 49 3 u kk cs)∧Aside (OtCs wr u.ownBlock cs ((List.range kk).map fun j=>(L j,E j,fr))∧FrC w.heap.size cs∧(kk=0→u=.slice none 0 0))∧Aside (Below w.heap.size w wr))
 case atStart=>exact⟨0,[],.slice none 0 0,Nat.zero_le _,by omega,rfl,rfl,(show Aside _ from World.ownsRow_nil _ _ _ _),(show Aside _ from ⟨OtCs.nil _ _,FrC.nil _,fun _=>rfl⟩),(show Aside _ from Below.refl _ _)⟩
 case round =>
  obtain⟨kk,cs,u,hkk,hg,rfl,hu,OJ,CJ,BJ⟩:=hrel
  obtain rfl:u=_:=hu.symm
  by_cases hlt:kk<n
  ·have hltz:(kk:Int)<(n:Int):=by omega
   have h0z:(0:Int)≤(kk:Int):=by omega
   have hcell:=HP.out kk hlt
   rw[←BJ.out.cell (p:=⟨b,kk,none⟩) hbl] at hcell
   have cO:=HO.out kk hlt wr BJ.out
   have hbs:=BJ.out.size
   have HR:Hid (((List.range (kk+1)).map fun j=>(L j,E j,fr))=((List.range kk).map fun j=>(L j,E j,fr))++[(L kk,E kk,fr)]):=by show _=_;rw[List.range_succ,List.map_append];rfl
   generalize zs kk=z at hcell cO
   obtain⟨uq,uc,rfl⟩:=zaa OJ.out
   go_wp2_with fail
   refine cO.mono ?_
   rintro e w4 ⟨⟨rq,rc,rfl,hV⟩,b4⟩
   obtain⟨gv,gd⟩:=hV.out
   have hs6:=b4.size
   have hf4:w4.cell? ⟨sb,0,none⟩=some (.int .i64 fr):=by rw[(BJ.out.trans (b4.mono hbs)).cell (p:=⟨sb,0,none⟩) hsl];exact HF.out
   have hown0:∀m,(Value.slice uq kk uc).ownBlock=some m→w.heap.size≤m∧m<wr.heap.size:=fun m hm=>OJ.out.lt m hm
   have hoff:OffR (Value.slice uq kk uc).ownBlock rq (L kk):=by
    rcases gd with gd|⟨b',off',e1,e2⟩
    ·exact .inl gd
    ·refine .inr ⟨b',off',e1,fun e=>?_⟩
     have:=hown0 b' e.symm
     omega
   have O4:=zac OJ.out b4
   have C4:=CJ.out.1.on b4
   have HFR:Aside (FrC w.heap.size (cs++[.slice rq (L kk).length rc,.int .i64 (E kk),.int .i64 fr])):=FrC.append (n:=kk) (by rw[CJ.out.1.1];simp) CJ.out.2.1 (B2:=wr.heap.size) (fun j rq' n' rc' e=>by
    have hj:j=0:=by have:=(List.getElem?_eq_some_iff.1 e).1;simp at this;omega
    subst hj
    simp at e
    obtain⟨rfl,rfl,rfl⟩:=e
    exact gd) hbs
   have B4:=BJ.out.trans (b4.mono hbs)
   obtain⟨LN,hLN⟩:∃LN,(L kk).length=LN:=⟨_,rfl⟩
   have HLN:Hid ((L kk).length=LN):=hLN
   obtain⟨Ek,hEk⟩:∃Ek,E kk=Ek:=⟨_,rfl⟩
   have HEk:Hid (E kk=Ek):=hEk
   have x3:Below w4.heap.size w4 ((w4.alloc (.cells #[.slice rq LN rc,.int .i64 Ek,.int .i64 fr] 49)).alloc (.cells #[.slice rq LN rc,.int .i64 Ek,.int .i64 fr] 49)):=(alB w4 _).alloc (by simp) _
   have K3:=zab (w4.alloc (.cells #[.slice rq LN rc,.int .i64 Ek,.int .i64 fr] 49)) #[.slice rq LN rc,.int .i64 Ek,.int .i64 fr] 49
   rw[show (w4.alloc (.cells #[.slice rq LN rc,.int .i64 Ek,.int .i64 fr] 49)).heap.size=w4.heap.size+1 by simp] at K3
   have HO4:=(show Aside _ from zac O4 x3)
   have HC4:=(show Aside _ from C4.on x3)
   have HB4:=(show Aside _ from B4.trans (x3.mono B4.size))
   have HV4:=(show Aside _ from gv.on x3)
   have HOF:Aside _:=hoff
   have g0:=K3.cell 0
   have g1:=K3.cell 1
   have g2:=K3.cell 2
   have hown1:∀m,(Value.slice uq kk uc).ownBlock=some m→w.heap.size≤m:=fun m hm=>(hown0 m hm).1
   have HW:Hid (w.heap.size≤w4.heap.size):=B4.size
   have hsb4:sb<w4.heap.size:=by have:=B4.size;omega
   rw[hLN,hEk] at HFR
   rw[hLN,hEk]
   clear hV gv gd hoff hown0 O4 C4 B4 cO b4 OJ CJ BJ hcell x3 K3 hs6 hbs hLN hEk
   go_wp2_with (at_builtin;refine zcA rfl _ _ rfl w.heap.size (.slice uq kk uc) kk cs rfl HO4.out (w4.heap.size+1) rq LN rc Ek fr rfl g0 g1 g2 (by omega) (by have:=HW.out;simp;omega) ?_)
   intro q' c' w6 ho hg ho3
   have hsz6:=hg.size
   have B6:Aside (Below w.heap.size w w6):=HB4.out.grown hg (by have:=HW.out;simp;omega) hown1
   have C6:Aside (OtCs w6 (Value.slice q' (kk+1) c').ownBlock (cs++[.slice rq LN rc,.int .i64 Ek,.int .i64 fr]) ((List.range (kk+1)).map fun j=>(L j,E j,fr))):=by
    have:=OtCs.push (o:=(L kk,E kk,fr)) (rc:=rc) HC4.out HV4.out HOF.out hg hsz6 (k':=(Value.slice q' (kk+1) c').ownBlock) (by simpa using ho3)
    simp only[HLN.out,HEk.out] at this
    rw[HR.out]
    simp only[HEk.out]
    exact this
   have O6:Aside (w6.ownsRow w.heap.size 49 3 (.slice q' (kk+1) c') (kk+1) (cs++[.slice rq LN rc,.int .i64 Ek,.int .i64 fr])):=ho
   clear ho hg ho3 HO4 HC4 HB4 hown1 HV4 HOF g0 g1 g2 hf4
   go_wp2
   go_roundg (n-(kk+1))
   case measure=>omega
   case rel=>exact⟨kk+1,_,_,by omega,by omega,by go_num,rfl,O6,(show Aside _ from ⟨C6.out,HFR.out,fun h=>by omega⟩),B6⟩
  ·have hltz:¬(kk:Int)<(n:Int):=by omega
   obtain rfl:kk=n:=by omega
   have hV:OutsF w.heap.size _ _ ((List.range kk).map fun j=>(L j,E j,fr)):=⟨⟨cs,by simpa using OJ.out,CJ.out.1,CJ.out.2.1⟩,fun h=>CJ.out.2.2 (by simpa using h)⟩
   have HV:Aside _:=hV
   clear hV OJ CJ
   go_wp2
   go_ret
   exact⟨⟨_,rfl,HV⟩,BJ.out⟩
end
end Go.Proofs.YtbdnccnfidjiaaaGreatDoor
