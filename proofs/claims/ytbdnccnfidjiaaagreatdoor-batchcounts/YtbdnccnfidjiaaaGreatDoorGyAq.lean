/-
  QrB, QrC, QrD, QrE, QrF.
-/
import Derived.Test.YtbdnccnfidjiaaaGreatDoorGyAn
import Derived.Test.YtbdnccnfidjiaaaGreatDoorGyAp
import Derived.Deep.RegionLaw
namespace Go.Proofs.YtbdnccnfidjiaaaGreatDoor
open Go.RowKit
set_option linter.unusedVariables false
set_option linter.unusedSimpArgs false
set_option maxHeartbeats 8000000
section
open Go.BigFrame
variable {en : Nat} {WZ : World}

theorem zrg(t:Tok)(w:World)(henv:TEnv w)(hs:t.2.1.size≤maxLen) :
  Calls Tryz.prog 52 #[tokV t] w fun e w'=>e=.returned (.bool (nmT t))∧Below w.heap.size w w':=by
 obtain⟨tk,tx,ta⟩:=t
 rw[tokV,nmT]
 simp only at hs ⊢
 have cC:=fun W (hb:Below w.heap.size w W)=>zbz tx W (henv.on hb) hs
 generalize nameT tx.data.toList=R at cC
 go_enter Tryz.func52,Tryz.ntmps52
 go_wp2_with fail
 refine (cC _ (al _ _)).mono ?_
 rintro e w1 ⟨rfl,b1⟩
 go_wp2
 go_ret
 exact⟨rfl,(al _ _).trans (b1.mono (by simp))⟩
theorem zjb(t:Tok)(w:World)(henv:AEnv w) :
  Calls Tryz.prog 48 #[tokV t] w fun e w'=>e=.returned (.bool (agB t))∧Below w.heap.size w w':=by
 obtain⟨tk,tx,ta⟩:=t
 rw[tokV,agB]
 simp only
 have cC:=fun W (hb:Below w.heap.size w W)=>zem tx W (henv.on hb)
 generalize isAg tx.data.toList=R at cC
 go_enter Tryz.func48,Tryz.ntmps48
 go_wp2_with fail
 refine (cC _ (al _ _)).mono ?_
 rintro e w1 ⟨rfl,rfl⟩
 go_wp2
 go_ret
 exact⟨rfl,al _ _⟩
theorem zmi(t:Tok)(w:World) :
  Calls Tryz.prog 91 #[tokV t] w fun e w'=>e=.returned (.bool (isNum t))∧Below w.heap.size w w':=by
 obtain⟨tk,tx,ta⟩:=t
 rw[tokV]
 have hd:isNum (tk,tx,ta)=(tk == 2):=by rw[isNum];by_cases h:tk=2<;>simp[h]
 obtain⟨R,hR⟩:∃R,isNum (tk,tx,ta)=R:=⟨_,rfl⟩
 rw[hR]
 rw[hR] at hd
 have hd2:=hd.symm
 clear hR hd
 go_enter Tryz.func91,Tryz.ntmps91
 go_wp2
 go_ret
 exact⟨rfl,al _ _⟩
theorem zlA(n:Int):Lib.atoiAll (⟨#[]⟩:ByteArray).data.toList≠.ok n:=by
 intro h
 simp[Lib.atoiAll] at h
theorem zon(args:Array Value)(W:World):Sem.run Tryz.prog (callFunc 52 args) W=.ok (.enter 52 args) W:=by kernel_rfl
theorem zoo(args:Array Value)(W:World):Sem.run Tryz.prog (callFunc 91 args) W=.ok (.enter 91 args) W:=by kernel_rfl
theorem zjw(args:Array Value)(W:World):Sem.run Tryz.prog (callFunc 48 args) W=.ok (.enter 48 args) W:=by kernel_rfl
theorem zpy(P:Tok→Bool)(f:FuncId)(hent:∀(args:Array Value) (W:World),Sem.run Tryz.prog (callFunc f args) W=.ok (.enter f args) W)(V:World)(tr:Nat)(ts:List Tok)(h:RdAt en V tr ts)
  (hf:∀t∈ts,∀W,Below V.heap.size V W→Calls Tryz.prog f #[tokV t] W fun e w'=>e=.returned (.bool (P t))∧Below W.heap.size W w') :
  Calls Tryz.prog 45 #[.pointer (some ⟨tr,0,none⟩),.func (.func f) #[] #[]] V fun e w'=>∃(R:Bool) (k:Int) (x:ByteArray) (a:Int) (rs:List Tok),e=.returned (.tuple #[.agg #[.int .i64 k,.string x,.int .i64 a],.bool R])∧Aside (RdAt en w' tr rs)∧Aside (But tr V w')∧Hid ((R=false∧nxT P ts=none∧rs=ts∧x=⟨#[]⟩)∨(R=true∧∃a',nxT P ts=some ((k,x,a'),rs))):=by
 cases hn:nxT P ts with
 | none =>
  exact (zbX P f #[] hent V tr ts h (fun t ht W hb=>hf t ht W hb) hn).mono fun e w' hh=>⟨false,0,⟨#[]⟩,0,ts,hh.1,hh.2.1,hh.2.2,.inl ⟨rfl,rfl,rfl,rfl⟩⟩
 | some q =>
  obtain⟨⟨k,x,a⟩,rs⟩:=q
  exact (zcK P f #[] hent V tr (k,x,a) ts rs h (fun t ht W hb=>hf t ht W hb) hn).mono fun e w' hh=>⟨true,k,x,a,rs,hh.1,hh.2.1,hh.2.2,.inr ⟨rfl,a,rfl⟩⟩
set_option maxRecDepth 20000 in
theorem zoU(W:World)(tr rb:Nat)(ts:List Tok)(h:QH WZ en W tr rb ts)(b o:Nat)(cs:Array Value)(tt:TypeId)(hB:Blk W b cs tt)(hbr:tr<b)(ho:o<cs.size)(hro:b=rb→1≤o) :
  Calls Tryz.prog 23 #[.pointer (some ⟨rb,0,none⟩),.pointer (some ⟨b,o,none⟩)] W fun e w'=>∃(R:Bool) (x:ByteArray),e=.returned (.bool R)∧Aside (QH WZ en w' tr rb (nU ts).2)∧Aside (Fr tr (·=b) W w')∧Aside (Blk w' b (cs.setIfInBounds o (.string x)) tt)∧Hid ((nU ts).1=if R=true then some x else none):=by
 have HH:Aside (QH WZ en W tr rb ts):=h
 have HB:Aside (Blk W b cs tt):=hB
 have hp0:=h.p0
 have hlt:=h.lt
 have hne:=h.ne
 have hrl:=h.rd.lt
 have hbl:=hB.lt
 have cT:=zpy nmT _ zon W tr ts h.rd (fun t ht V hb=>zrg t V (h.env.on hb) (by have:=h.fit t ht;unfold maxLen;omega))
 clear h hB
 go_enter Tryz.func23,Tryz.ntmps23
 go_wp2_with fail
 refine cT.mono ?_
 rintro e w1 ⟨R,k,x,a,rs,rfl,hr1,bt1,HR⟩
 have B1:Blk w1 b cs tt:=HB.out.but bt1.out (by omega)
 obtain⟨v0,hv0⟩:∃v0,cs[o]?=some v0:=⟨_,Array.getElem?_eq_getElem ho⟩
 have hcell:w1.cell? ⟨b,o,none⟩=some v0:=by rw[B1.cell];exact hv0
 have hfz:w1.frozen? ⟨b,o,none⟩=false:=B1.frozen o
 have hbl1:b<w1.heap.size:=B1.lt
 have hne1:b≠w1.heap.size:=by omega
 have F1:Fr tr (·=b) W (w1.setCell ⟨b,o,none⟩ (.string x)):=(Fr.of_but bt1.out).set o _ (by omega) (fun _=>rfl)
 have X1:=B1.set o (.string x)
 have R1:RdAt en (w1.setCell ⟨b,o,none⟩ (.string x)) tr rs:=hr1.out.onB ((Below.refl (tr+1) w1).setCell (p:=⟨b,o,none⟩) hbr _) (by simp[World.setCell])
 have hnU:nU ts=(if R=true then some x else none,rs):=by
  rw[nU]
  rcases HR.out with ⟨rfl,h1,rfl,rfl⟩|⟨rfl,a',h1⟩
  ·rw[h1];rfl
  ·rw[h1];rfl
 have hsuf:rs <:+ ts:=by have:=zkg ts;rw[hnU] at this;exact this
 have Q1:QH WZ en (w1.setCell ⟨b,o,none⟩ (.string x)) tr rb rs:=HH.out.go F1 R1 hsuf (by
  by_cases e:b=rb
  ·subst e
   have h1:=hro rfl
   rw[World.cell?_setCell_other _ _ _ _ (by first|(simp;done)|(simp;omega)),bt1.out.cell 0 hlt (by omega)]
   exact hp0
  ·rw[F1.cell 0 hlt (by omega) (fun h=>e h.symm)];exact hp0)
 have HF:Hid ((nU ts).1=if R=true then some x else none):=by show _=_;rw[hnU]
 have hz:tr≤(w1.setCell ⟨b,o,none⟩ (.string x)).heap.size:=by have:=F1.size;omega
 have AQ:∀o',Aside (QH WZ en ((w1.setCell ⟨b,o,none⟩ (.string x)).alloc o') tr rb (nU ts).2)∧Aside (Fr tr (·=b) W ((w1.setCell ⟨b,o,none⟩ (.string x)).alloc o'))∧Aside (Blk ((w1.setCell ⟨b,o,none⟩ (.string x)).alloc o') b (cs.setIfInBounds o (.string x)) tt):=fun o'=>by
  have F2:=F1.on (al _ o') hz
  refine⟨?_,F2,X1.on (al _ _)⟩
  rw[hnU]
  exact Q1.fr (S:=fun _=>False) (Fr.of_below (al _ _) hz) (R1.on (al _ _)) List.suffix_rfl (fun h=>h)
 clear HH HB hr1 bt1 B1 F1 X1 R1 Q1 hnU hsuf cT hv0 HR
 go_wp2
 go_ret
 exact⟨R,x,rfl,(AQ _).1,(AQ _).2.1,(AQ _).2.2,HF⟩
set_option maxRecDepth 20000 in
theorem zkl(W:World)(tr rb:Nat)(ts:List Tok)(h:QH WZ en W tr rb ts)(b o:Nat)(cs:Array Value)(tt:TypeId)(hB:Blk W b cs tt)(hbr:tr<b)(ho:o<cs.size)(hro:b=rb→1≤o) :
  Calls Tryz.prog 56 #[.pointer (some ⟨rb,0,none⟩),.pointer (some ⟨b,o,none⟩)] W fun e w'=>∃(R:Bool) (x:Int),e=.returned (.bool R)∧Aside (QH WZ en w' tr rb (iU ts).2)∧Aside (Fr tr (·=b) W w')∧Aside (Blk w' b (cs.setIfInBounds o (.int .i64 x)) tt)∧Hid ((iU ts).1=if R=true then some x else none):=by
 have HH:Aside (QH WZ en W tr rb ts):=h
 have HB:Aside (Blk W b cs tt):=hB
 have hp0:=h.p0
 have hlt:=h.lt
 have hne:=h.ne
 have hrl:=h.rd.lt
 have hbl:=hB.lt
 have cT:=zpy isNum _ zoo W tr ts h.rd (fun t ht V hb=>zmi t V)
 clear h hB
 go_enter Tryz.func56,Tryz.ntmps56
 go_wp2_with fail
 refine cT.mono ?_
 rintro e w1 ⟨R,k,tx,a,rs,rfl,hr1,bt1,HR⟩
 have hsz:tx.size≤140737488355328:=by
  rcases HR.out with ⟨rfl,h1,rfl,rfl⟩|⟨rfl,a',h1⟩
  ·decide
  ·have:=HH.out.fit _ (by rw[(zal h1).1];exact List.mem_cons_self ..)
   simp only at this
   omega
 have bA:=al w1 (.cells #[.int .i64 k,.string tx,.int .i64 a] 78)
 have E1:TEnv (w1.alloc (.cells #[.int .i64 k,.string tx,.int .i64 a] 78)):=(HH.out.env.but bt1.out HH.out.gt).on bA
 have cA:Calls Tryz.prog 92 #[.string tx] (w1.alloc (.cells #[.int .i64 k,.string tx,.int .i64 a] 78)) fun e w'=>(∃x v,e=.returned (.tuple #[.int .i64 x,v])∧Hid (R=true→x=nuI tx.data.toList))∧Below (w1.alloc (.cells #[.int .i64 k,.string tx,.int .i64 a] 78)).heap.size (w1.alloc (.cells #[.int .i64 k,.string tx,.int .i64 a] 78)) w':=by
  rcases HR.out with ⟨rfl,h1,rfl,rfl⟩|⟨rfl,a',h1⟩
  ·refine (zcd ⟨#[]⟩ _ (by decide) zlA E1.env).mono fun e w' hh=>?_
   obtain⟨n,t,v,he,hb⟩:=hh
   exact⟨⟨n,_,he,(show Hid _ from fun h=>absurd h (by decide))⟩,hb⟩
  ·have hn:=HH.out.num _ (by rw[(zal h1).1];exact List.mem_cons_self ..) (zal h1).2
   refine (zcO tx _ _ hsz hn).mono fun e w' hh=>?_
   exact⟨⟨_,_,hh.1,(show Hid _ from fun _=>rfl)⟩,hh.2⟩
 go_wp2_with fail
 refine cA.mono ?_
 rintro e w2 ⟨⟨x,v,rfl,HX⟩,b2⟩
 have bt2:But tr W w2:=(bt1.out.on bA (by omega)).on b2 (by omega)
 have hr2:RdAt en w2 tr rs:=(hr1.out.on bA).on b2
 have B1:Blk w2 b cs tt:=HB.out.but bt2 (by omega)
 obtain⟨v0,hv0⟩:∃v0,cs[o]?=some v0:=⟨_,Array.getElem?_eq_getElem ho⟩
 have hcell:w2.cell? ⟨b,o,none⟩=some v0:=by rw[B1.cell];exact hv0
 have hfz:w2.frozen? ⟨b,o,none⟩=false:=B1.frozen o
 have hbl1:b<w2.heap.size:=B1.lt
 have F1:Fr tr (·=b) W (w2.setCell ⟨b,o,none⟩ (.int .i64 x)):=(Fr.of_but bt2).set o _ (by omega) (fun _=>rfl)
 have X1:=B1.set o (.int .i64 x)
 have R1:RdAt en (w2.setCell ⟨b,o,none⟩ (.int .i64 x)) tr rs:=hr2.onB ((Below.refl (tr+1) w2).setCell (p:=⟨b,o,none⟩) hbr _) (by simp[World.setCell])
 have hiU:iU ts=(if R=true then some x else none,rs):=by
  rw[iU]
  rcases HR.out with ⟨rfl,h1,rfl,rfl⟩|⟨rfl,a',h1⟩
  ·rw[h1];rfl
  ·rw[h1,HX.out rfl];rfl
 have hsuf:rs <:+ ts:=by have:=zth ts;rw[hiU] at this;exact this
 have Q1:Aside (QH WZ en (w2.setCell ⟨b,o,none⟩ (.int .i64 x)) tr rb (iU ts).2):=by
  show QH _ _ _ _ _ _
  rw[hiU]
  exact HH.out.go F1 R1 hsuf (by
   by_cases e:b=rb
   ·subst e
    have h1:=hro rfl
    rw[World.cell?_setCell_other _ _ _ _ (by first|(simp;done)|(simp;omega)),bt2.cell 0 hlt (by omega)]
    exact hp0
   ·rw[F1.cell 0 hlt (by omega) (fun h=>e h.symm)];exact hp0)
 have HF:Hid ((iU ts).1=if R=true then some x else none):=by show _=_;rw[hiU]
 have F2:Aside (Fr tr (·=b) W (w2.setCell ⟨b,o,none⟩ (.int .i64 x))):=F1
 have X2:Aside (Blk (w2.setCell ⟨b,o,none⟩ (.int .i64 x)) b (cs.setIfInBounds o (.int .i64 x)) tt):=X1
 clear HH HB hr1 bt1 bt2 hr2 B1 F1 X1 R1 hiU hsuf cT hv0 HR HX E1 bA b2 cA
 go_wp2
 go_ret
 exact⟨R,x,rfl,Q1,F2,X2,HF⟩
abbrev exL(x:Ex)(xp:Option Addr)(xc:Nat):List Value:=[.string x.op,.string x.nm,.int .i64 x.vt,.int .i64 x.vn,.string x.vs,.slice xp x.args.length xc,.int .i64 x.pos]
theorem zqE(x:Ex)(xp:Option Addr)(xc:Nat):(exL x xp xc).toArray.all (·.oneCell')=true:=all_oneCell_toArray (fun v hv=>by
 simp at hv
 rcases hv with rfl|rfl|rfl|rfl|rfl|rfl|rfl<;>rfl)
theorem zmC{w:World}{b:Nat}{cs:Array Value}{t:TypeId}(h:Blk w b cs t)(o n:Nat)(hn:o+n≤cs.size):w.there b o n:=fun j hj=>by
 refine⟨?_,h.frozen _⟩
 rw[h.cell,Array.getElem?_eq_getElem (by omega)]
 rfl
def putB:Array Value→Nat→List Value→Array Value
 | cs,_,[]=>cs
 | cs,o,v::r=>putB (cs.setIfInBounds o v) (o+1) r
theorem Blk.cellsB{b:Nat}{t:TypeId}:∀(vs:List Value) (o:Nat) (w:World) (cs:Array Value),Blk w b cs t→Blk (w.setCells b o vs) b (putB cs o vs) t
 | [],_,_,_,h=>h
 | v::r,o,_,_,h=>Blk.cellsB r (o+1) _ _ (h.set o v)
theorem zcP{B b:Nat}{a:World}(hb:B≤b):∀(vs:List Value) (o:Nat) (w:World),Below B a w→Below B a (w.setCells b o vs)
 | [],_,_,h=>h
 | v::r,o,w,h=>zcP hb r (o+1) _ (h.setCell (p:=⟨b,o,none⟩) hb v)
theorem zhJ:∀(vs:List Value) (o:Nat) (cs:Array Value),1≤o→(putB cs o vs)[0]?=cs[0]?
 | [],_,_,_=>rfl
 | v::r,o,cs,h=>by
  rw[putB,zhJ r (o+1) _ (by omega),Array.getElem?_setIfInBounds,if_neg (by omega)]
theorem zcv{b:Nat}:∀(vs:List Value) (o:Nat) (w:World),(w.setCells b o vs).heap.size=w.heap.size
 | [],_,_=>rfl
 | v::r,o,w=>by
  show ((w.setCell ⟨b,o,none⟩ v).setCells b (o+1) r).heap.size=_
  rw[zcv r (o+1) _];simp[World.setCell]
theorem zfl{lo:Nat→Prop}{b:Nat}(hb:∀k,lo k→k≠b){x:Ex}{v:Value}:∀(vs:List Value) (o:Nat) (w:World),ExIn w lo v x→ExIn (w.setCells b o vs) lo v x
 | [],_,_,h=>h
 | u::r,o,w,h=>zfl hb r (o+1) _ (ExIn.keep (by simp[World.setCell]) (fun k p h1 h2=>by have:=hb k h1;simp[World.cell?_setCell_other]) x v h)
set_option maxRecDepth 20000 in
theorem zcT(W:World)(tr rb:Nat)(ts:List Tok)(h:QH WZ en W tr rb ts)(b o:Nat)(cs:Array Value)(tt:TypeId)(hB:Blk W b cs tt)(hbr:tr<b)(ho:o+7≤cs.size)(hro:b=rb→1≤o) :
  Calls Tryz.prog 54 #[.pointer (some ⟨rb,0,none⟩),.pointer (some ⟨b,o,none⟩)] W fun e w'=>∃(R:Bool) (x:Ex) (xp:Option Addr) (xc:Nat),e=.returned (.bool R)∧Aside (QH WZ en w' tr rb (readE ts).2)∧Aside (Fr tr (·=b) W w')∧Aside (Blk w' b (putB cs o (exL x xp xc)) tt)∧Aside (ExIn w' (W.heap.size≤·) (exV x xp xc) x)∧Hid ((readE ts).1=if R=true then some x else none):=by
 have HH:Aside (QH WZ en W tr rb ts):=h
 have HB:Aside (Blk W b cs tt):=hB
 have hp0:=h.p0
 have hlt:=h.lt
 have hne:=h.ne
 have hbl:=hB.lt
 have cE:=zcU ts h.fit W tr h.rd h.env h.gt
 clear h hB
 go_enter Tryz.func54,Tryz.ntmps54
 go_wp2_with fail
 refine cE.mono ?_
 rintro e w1 ⟨v,R,x,rfl,hx,hr1,bt1,HR⟩
 obtain⟨xp,xc,rfl,-⟩:=hx.out.whole
 have B1:Blk w1 b cs tt:=HB.out.but bt1.out (by omega)
 have hst:∀{ops:Array Oper} {rest:List Oper} {op:Oper} {a:Act} {Q:Exit→Act→World→Prop} (hgd:op.guard=none) (p y:Operand) (ho:op.op=.store 31 p y) (hx:a.eval p=.pointer (some ⟨b,o,none⟩)) (hy:a.eval y=.agg (exL x xp xc).toArray),wpList Tryz.prog ops Q rest (a.put op.dst undef) (w1.setCells b o (exL x xp xc))→wpList Tryz.prog ops Q (op::rest) a w1:=fun hgd p y hop hx hy hh=>wpList_store_mid hgd 31 p y hop b o (exL x xp xc).toArray hx hy (zmC B1 o 7 ho) zbf (zqE x xp xc) hh
 have hsz:=zcv (b:=b) (exL x xp xc) o w1
 have F1:Aside (Fr tr (·=b) W (w1.setCells b o (exL x xp xc))):=Fr.cells (tr:=tr) (S:=(·=b)) (b:=b) (Nat.le_of_lt hbr) (fun _=>rfl) (exL x xp xc) o w1 (Fr.of_but bt1.out)
 have X1:Aside (Blk (w1.setCells b o (exL x xp xc)) b (putB cs o (exL x xp xc)) tt):=Blk.cellsB _ o w1 cs B1
 have R1:RdAt en (w1.setCells b o (exL x xp xc)) tr (readE ts).2:=hr1.out.onB (zcP hbr _ o w1 (Below.refl _ _)) (by omega)
 have E1:Aside (ExIn (w1.setCells b o (exL x xp xc)) (W.heap.size≤·) (exV x xp xc) x):=zfl (fun k hk=>by omega) _ o w1 hx.out
 have Q1:Aside (QH WZ en (w1.setCells b o (exL x xp xc)) tr rb (readE ts).2):=by
  refine HH.out.go F1.out R1 (zbU ts) ?_
  by_cases e:b=rb
  ·subst e
   have h1:=hro rfl
   rw[X1.out.cell,zhJ _ _ _ h1,←HB.out.cell 0];exact hp0
  ·rw[F1.out.cell 0 hlt (by omega) (fun h=>e h.symm)];exact hp0
 have HF:Hid ((readE ts).1=if R=true then some x else none):=HR
 have hbl1:b<w1.heap.size:=B1.lt
 clear HH HB hr1 bt1 B1 R1 cE hsz HR hx
 generalize w1.setCells b o (exL x xp xc)=w2 at *
 go_wp2_with (refine hst rfl _ _ rfl rfl rfl ?_)
 go_ret
 exact⟨R,x,xp,xc,rfl,Q1,F1,X1,E1,HF⟩
end
section
open Go.BigFrame
variable {en : Nat} {WZ : World}

theorem zjB{tr:Nat}{S lo:Nat→Prop}{w w':World}{v:Value}{x:Ex}(h:ExIn w lo v x)(hf:Fr tr S w w')(hs:∀b,lo b→b<w.heap.size→b≠tr∧¬S b):ExIn w' lo v x:=by
 have h3:=ExIn.low (lo':=fun b=>lo b∧b<w.heap.size) (fun b hb hb2=>⟨hb2,hb⟩) _ _ h
 have h4:=ExIn.keep (w':=w') hf.size (fun b o hb _=>by
  obtain⟨h1,h2⟩:=hs b hb.1 hb.2
  simp only[World.cell?,hf.kept b hb.2 h1 h2]) _ _ h3
 exact ExIn.low (fun b _ hb=>hb.1) _ _ h4
theorem zgO{cs:Array Value}{o:Nat}{v:Value}(h:cs[o]?=some v):cs.setIfInBounds o v=cs:=by
 obtain⟨ho,hv⟩:=Array.getElem?_eq_some_iff.1 h
 apply Array.ext
 ·simp
 ·intro i h1 h2
  rw[Array.getElem_setIfInBounds (by simpa using h1)]
  split
  ·rename_i e;subst e;exact hv.symm
  ·rfl
theorem zae{α β:Type}{x:α}{rs:List Tok}{f:α→List Tok→Option β×List Tok}{a:Option α×List Tok}(h:a=(some x,rs)):thU a f=f x rs:=by rw[h];rfl
theorem zag{α β:Type}{rs:List Tok}{f:α→List Tok→Option β×List Tok}{a:Option α×List Tok}(h:a=(none,rs)):thU a f=(none,rs):=by rw[h];rfl
theorem zaJ(g:List UInt8)(ts:List Tok):∃(R:Bool) (rs:List Tok),jU g ts=(if R=true then some () else none,rs):=by
 rw[jU]
 cases nxT (sgT [g]) ts with
 | none=>exact⟨false,ts,rfl⟩
 | some p=>exact⟨true,p.2,rfl⟩
theorem Fr.weak{tr:Nat}{S:Nat→Prop}{w w1:World}(h:Fr tr (fun _=>False) w w1):Fr tr S w w1:=h.mono (fun _ _ h=>h.elim)
set_option maxRecDepth 20000 in
theorem as_q(W:World)(tr rb:Nat)(ts:List Tok)(h:QH WZ en W tr rb ts)(b o:Nat)(cs:Array Value)(tt:TypeId)(hB:Blk W b cs tt)(hbr:tr<b)(x0:ByteArray)(ho:cs[o]?=some (.string x0))(hro:b=rb→1≤o) :
  Calls Tryz.prog 87 #[.pointer (some ⟨rb,0,none⟩),.pointer (some ⟨b,o,none⟩)] W fun e w'=>∃(R:Bool) (x:ByteArray),e=.returned (.bool R)∧Aside (QH WZ en w' tr rb (asU ts).2)∧Aside (Fr tr (·=b) W w')∧Aside (Blk w' b (cs.setIfInBounds o (.string x)) tt)∧Hid ((asU ts).1=if R=true then some x else none):=by
 obtain⟨R1,rs1,hj⟩:=zaJ wAs ts
 have cJ:=zdb wAs W tr rb ts h R1 rs1 hj
 have HB:Aside (Blk W b cs tt):=hB
 have hosz:o<cs.size:=(Array.getElem?_eq_some_iff.1 ho).1
 have cN:=fun W1 (h1:QH WZ en W1 tr rb rs1) (B1:Blk W1 b cs tt)=>zoU W1 tr rb rs1 h1 b o cs tt B1 hbr hosz hro
 have hsame:=zgO ho
 clear h hB
 cases R1
 ·have HA:Hid (asU ts=(none,rs1)):=by show _=_;rw[asU,zag hj]
  go_enter Tryz.func87,Tryz.ntmps87
  go_wp2_with fail
  refine cJ.mono ?_
  rintro e w1 ⟨rfl,Q1,F1⟩
  clear cN cJ
  go_wp2
  go_ret
  refine⟨false,x0,rfl,?_,F1.out.weak,?_,?_⟩
  ·rw[HA.out];exact Q1
  ·rw[hsame];exact HB.out.fr F1.out (by omega) (fun h=>h)
  ·show _=_;rw[HA.out];rfl
 ·have HA:Hid (asU ts=nU rs1):=by show _=_;rw[asU,zae hj]
  go_enter Tryz.func87,Tryz.ntmps87
  go_wp2_with fail
  refine cJ.mono ?_
  rintro e w1 ⟨rfl,Q1,F1⟩
  have c2:=cN w1 Q1.out (HB.out.fr F1.out (by omega) (fun h=>h))
  clear cN cJ
  go_wp2_with fail
  refine c2.mono ?_
  rintro e w2 ⟨R,x,rfl,Q2,F2,B2,HR⟩
  clear c2
  go_wp2
  go_ret
  refine⟨R,x,rfl,?_,F1.out.weak.trans (F2.out.mono (fun _ _ h=>h)),B2,?_⟩
  ·rw[HA.out];exact Q2
  ·show _=_;rw[HA.out];exact HR.out
set_option maxRecDepth 20000 in
theorem zhY(W:World)(tr rb:Nat)(ts:List Tok)(h:QH WZ en W tr rb ts)(b o:Nat)(cs:Array Value)(tt:TypeId)(hB:Blk W b cs tt)(hbr:tr<b)(ho:o+7≤cs.size)(h0:putB cs o (exL ex0 none 0)=cs)(hro:b=rb→1≤o) :
  Calls Tryz.prog 86 #[.pointer (some ⟨rb,0,none⟩),.pointer (some ⟨b,o,none⟩)] W fun e w'=>∃(R:Bool) (x:Ex) (xp:Option Addr) (xc:Nat),e=.returned (.bool R)∧Aside (QH WZ en w' tr rb (brU ts).2)∧Aside (Fr tr (·=b) W w')∧Aside (Blk w' b (putB cs o (exL x xp xc)) tt)∧Aside (ExIn w' (W.heap.size≤·) (exV x xp xc) x)∧Hid ((brU ts).1=if R=true then some x else none):=by
 obtain⟨R1,rs1,hj⟩:=zaJ [40] ts
 have cJ:=zdb [40] W tr rb ts h R1 rs1 hj
 have HB:Aside (Blk W b cs tt):=hB
 have hbl:=hB.lt
 have htr:=h.rd.lt
 have cN:=fun W1 (h1:QH WZ en W1 tr rb rs1) (B1:Blk W1 b cs tt)=>zcT W1 tr rb rs1 h1 b o cs tt B1 hbr ho hro
 have cJ2:=fun W2 rs2 (h2:QH WZ en W2 tr rb rs2) R2 rs3 hj2=>zdb [41] W2 tr rb rs2 h2 R2 rs3 hj2
 clear h hB
 cases R1
 ·have HA:Hid (brU ts=(none,rs1)):=by show _=_;rw[brU,zag hj]
  go_enter Tryz.func86,Tryz.ntmps86
  go_wp2_with fail
  refine cJ.mono ?_
  rintro e w1 ⟨rfl,Q1,F1⟩
  clear cN cJ cJ2
  go_wp2
  go_ret
  refine⟨false,ex0,none,0,rfl,?_,F1.out.weak,?_,zfk _ _,?_⟩
  ·rw[HA.out];exact Q1
  ·rw[h0];exact HB.out.fr F1.out (by omega) (fun h=>h)
  ·show _=_;rw[HA.out];rfl
 ·go_enter Tryz.func86,Tryz.ntmps86
  go_wp2_with fail
  refine cJ.mono ?_
  rintro e w1 ⟨rfl,Q1,F1⟩
  have c2:=cN w1 Q1.out (HB.out.fr F1.out (by omega) (fun h=>h))
  clear cN cJ
  go_wp2_with fail
  refine c2.mono ?_
  rintro e w2 ⟨R,x,xp,xc,rfl,Q2,F2,B2,E2,HR⟩
  clear c2
  have hs1:=F1.out.size
  have F02:Fr tr (·=b) W w2:=F1.out.weak.trans F2.out
  have E02:ExIn w2 (W.heap.size≤·) (exV x xp xc) x:=ExIn.low (fun k _ (hk:w1.heap.size≤k)=>(show W.heap.size≤k by omega)) _ _ E2.out
  cases R
  ·have HA:Hid (brU ts=(none,(readE rs1).2)):=by
    show _=_
    rw[brU,zae hj,zag (rs:=(readE rs1).2) (Prod.ext HR.out rfl)]
   clear cJ2
   go_wp2
   go_ret
   refine⟨false,x,xp,xc,rfl,?_,F02,B2,E02,?_⟩
   ·rw[HA.out];exact Q2
   ·show _=_;rw[HA.out];rfl
  ·obtain⟨R3,rs3,hj3⟩:=zaJ [41] (readE rs1).2
   have c3:=cJ2 w2 _ Q2.out R3 rs3 hj3
   have HA:Hid (brU ts=(if R3=true then some x else none,rs3)):=by
    show _=_
    rw[brU,zae hj,zae (x:=x) (rs:=(readE rs1).2) (Prod.ext HR.out rfl)]
    cases R3
    ·rw[zag hj3];rfl
    ·rw[zae hj3];rfl
   clear cJ2
   go_wp2_with fail
   refine c3.mono ?_
   rintro e w3 ⟨rfl,Q3,F3⟩
   clear c3
   have hs2:=F02.size
   have E3:ExIn w3 (W.heap.size≤·) (exV x xp xc) x:=zjB E02 F3.out (fun k (hk:W.heap.size≤k) _=>⟨by omega,fun h=>h⟩)
   go_wp2
   go_ret
   refine⟨R3,x,xp,xc,rfl,?_,F02.trans F3.out.weak,B2.out.fr F3.out (by omega) (fun h=>h),E3,?_⟩
   ·rw[HA.out];exact Q3
   ·show _=_;rw[HA.out]
end
section
open Go.BigFrame
variable {en : Nat} {WZ : World}

theorem zaQ{P:Program}{ops:Array Oper}{o:Oper}{a:Act}{w:World}{K:Act→World→Prop}{Q:Exit→Act→World→Prop}{E:Prop}
  (hg:o.guard=none)(s x:Operand)(t:TypeId)(hop:o.op=Op.call { callee:=Callee.builtin Builtin.append,args:=#[s,x],argTypes:=#[t,t] })
  (base:Nat)(e:TypeId)(i:TypeInfo)(z:Value)(size bytes:Nat)(h1:P.underlying t=some (.slice e))(h2:P.info? e=some i)(h3:i.zero=some z)(h4:i.size=size)(h5:i.bytes=bytes)(h6:z.cells.size=size)(h7:0<size)
  (v:Value)(n:Nat)(xs:List Value)(hs:a.eval s=v)(hown:w.ownsRow base e size v n xs)
  (ad:Addr)(m c:Nat)(news:List Value)(hx:a.eval x=.slice (some ad) m c)(hn:news.length=m*size)(hc:∀j u,news[j]?=some u→w.cell? (ad.add j)=some u)(h1c:∀u∈news,u.oneCell'=true)(hm:0<m)
  (b1:n+m≤maxLen)(b2:(n+m)*bytes≤140737488355328)(hb:base≤w.heap.size)
  (hK:∀q' c' w',w'.ownsRow base e size (.slice q' (n+m) c') (n+m) (xs++news)→w.grownBy w' v.ownBlock→((Value.slice q' (n+m) c').ownBlock=v.ownBlock∨(Value.slice q' (n+m) c').ownBlock=some w.heap.size)→K (a.put o.dst (.slice q' (n+m) c')) w') :
  if Region.wanted o (yielded ops a.tmps)=true then Oper.wp P o a w K Q else E:=by
 have hw:Region.wanted o (yielded ops a.tmps)=true:=by simp[Region.wanted,hg]
 rw[if_pos hw]
 obtain⟨v',w',hrun,r1,r2,_⟩:=run_append_own (P:=P) w base t o.type e i z size bytes h1 h2 h3 h4 h5 h6 h7 v n xs hown ad m c news hn hc h1c b1 b2 hb
 have h5':v'.ownBlock=v.ownBlock∨v'.ownBlock=some w.heap.size:=by
  subst h4
  subst h5
  exact zcN w base t o.type e i z h1 h2 h3 v n xs hown ad m c news hn hc h1c hm b1 b2 hrun
 obtain⟨q',c',rfl⟩:=zaa r1
 unfold Oper.wp
 simp[execOp,hop,resolve,invoke,builtin,hs,hx,hrun,Result.andThen]
 exact hK q' c' w' r1 r2 h5'
theorem zrw{w:World}{B rb:Nat}{e:TypeId}{sz n:Nat}{v:Value}{xs:List Value}(h:w.ownsRow B e sz v n xs)(hr:rb<B):some rb≠v.ownBlock:=fun e=>by have:=(h.lt rb e.symm).1;omega
theorem Fr.grown{tr:Nat}{S:Nat→Prop}{w w1 w2:World}{row:Option Nat}(h:Fr tr S w w1)(hg:w1.grownBy w2 row)(hr:∀k,row=some k→tr≤k∧(k<w.heap.size→S k))(ht:tr≤w1.heap.size):Fr tr S w w2 :=
 ⟨h.below.grown hg ht (fun j hj=>(hr j hj).1),fun k hk hkr hn=>by
  rw[hg.block k (by have:=h.size;omega) (fun e=>hn ((hr k e.symm).2 hk))]
  exact h.kept k hk hkr hn⟩
theorem zoV{V:World}{g:Nat}{x:ByteArray}(h:V.cell? ⟨g,0,none⟩=some (.string x)):∀j u,([.string x]:List Value)[j]?=some u→V.cell? ((⟨g,0,none⟩:Addr).add j)=some u:=fun j u hu=>by
 have hj:j=0:=by have:=(List.getElem?_eq_some_iff.1 hu).1;simp at this;omega
 subst hj
 have e:Value.string x=u:=by simpa using hu
 subst e
 rw[Go.WideShapes.add_plain];exact h
theorem znu(cs:Array Value)(o:Nat)(u v:Value):(cs.setIfInBounds o u).setIfInBounds o v=cs.setIfInBounds o v:=by
 apply Array.ext_getElem?
 intro i
 simp only[Array.getElem?_setIfInBounds,Array.size_setIfInBounds]
 by_cases h:o=i
 ·simp[h]
 ·simp[h]
structure GrSq(WZ:World)(en:Nat)(W0 W:World)(tr rb:Nat)(BC:Array Value)(ts:List Tok)(gs:List ByteArray):Prop where
 qh:QH WZ en W tr rb ts
 box:∃gq gc,Blk W rb (BC.setIfInBounds 11 (.slice gq gs.length gc)) 55∧W.ownsRow W0.heap.size 9 1 (.slice gq gs.length gc) gs.length (gs.map .string)
 fr:Fr tr (fun k=>k=rb) W0 W
 sz:11<BC.size
 lt:rb<W0.heap.size
theorem GrSq.go{W0 W w':World}{tr rb:Nat}{BC:Array Value}{ts ts':List Tok}{gs:List ByteArray}(h:GrSq WZ en W0 W tr rb BC ts gs)(hf:Fr tr (fun _=>False) W w')(hq:QH WZ en w' tr rb ts'):GrSq WZ en W0 w' tr rb BC ts' gs:=by
 obtain⟨gq,gc,h1,h2⟩:=h.box
 have hne:=h.qh.ne
 have hlt:=h.lt
 refine⟨hq,⟨gq,gc,h1.fr hf (by omega) (fun h=>h),?_⟩,h.fr.trans hf.weak,h.sz,h.lt⟩
 exact zaA h2 (B':=rb) ⟨hf.size,fun b h1 h2=>hf.kept b h2 (by omega) (fun h=>h)⟩ (by omega)
theorem ztf{W0 W w1 V w9:World}{tr rb z:Nat}{BC:Array Value}{ts ts':List Tok}{gs:List ByteArray}{gq q9:Option Addr}{gc c9 N:Nat}{x:ByteArray}(hN:gs.length=N)(hfr:Fr tr (fun k=>k=rb) W0 W)(hsz:11<BC.size)(hlt:rb<W0.heap.size)(hne:tr<rb)
  (hz:W.heap.size≤z)(q1:QH WZ en w1 tr rb ts')(f1:Fr tr (·=z) W w1)(bx:Blk W rb (BC.setIfInBounds 11 (.slice gq N gc)) 55)(ow:w1.ownsRow W0.heap.size 9 1 (.slice gq N gc) N (gs.map .string))
  (hb:Below w1.heap.size w1 V)(hown':w9.ownsRow W0.heap.size 9 1 (.slice q9 (N+1) c9) (N+1) (gs.map .string++[.string x]))(hgrow:V.grownBy w9 (Value.slice gq N gc).ownBlock) :
  (w9.cell? ⟨rb,11,none⟩=some (.slice gq N gc)∧w9.frozen? ⟨rb,11,none⟩=false∧rb<w9.heap.size)∧Aside (GrSq WZ en W0 (w9.setCell ⟨rb,11,none⟩ (.slice q9 (N+1) c9)) tr rb BC ts' (gs++[x])):=by
 subst hN
 have s0:=hfr.size
 have s1:=f1.size
 have b9:Blk w9 rb (BC.setIfInBounds 11 (.slice gq gs.length gc)) 55:=((bx.fr f1 (by omega) (by omega)).on hb).grown hgrow (zrw ow hlt)
 have F1:Fr tr (fun k=>k=rb) W0 w1:=hfr.trans (f1.mono (fun k hk e=>by omega))
 have F9:Fr tr (fun k=>k=rb) W0 w9:=(F1.on hb (by omega)).grown hgrow (fun k hk=>by
  have:=(ow.lt k hk).1
  exact⟨by omega,fun h=>by omega⟩) (by have:=hb.size;omega)
 have B10:=b9.set 11 (.slice q9 (gs.length+1) c9)
 have F10:=F9.set 11 (.slice q9 (gs.length+1) c9) (b:=rb) (by omega) (fun _=>rfl)
 have hr9:RdAt en w9 tr ts':=(q1.rd.on hb).onB ((Below.refl (tr+1) V).grown hgrow (by have:=hb.size;have:=q1.rd.lt;omega) (fun k hk=>by have:=(ow.lt k hk).1;omega)) hgrow.size
 have hr10:RdAt en (w9.setCell ⟨rb,11,none⟩ (.slice q9 (gs.length+1) c9)) tr ts':=hr9.onB ((Below.refl (tr+1) w9).setCell (p:=⟨rb,11,none⟩) hne _) (by simp[World.setCell])
 have hbc:(BC.setIfInBounds 11 (.slice gq gs.length gc)).setIfInBounds 11 (.slice q9 (gs.length+1) c9)=BC.setIfInBounds 11 (.slice q9 (gs.length+1) c9):=znu _ _ _ _
 refine⟨⟨by rw[b9.cell,Array.getElem?_setIfInBounds,if_pos rfl,if_pos hsz],b9.frozen 11,b9.lt⟩,?_⟩
 have Q10:QH WZ en (w9.setCell ⟨rb,11,none⟩ (.slice q9 (gs.length+1) c9)) tr rb ts':=by
  have Fq:Fr tr (fun k=>k=rb∨W0.heap.size≤k) w1 (w9.setCell ⟨rb,11,none⟩ (.slice q9 (gs.length+1) c9)):=((Fr.of_below hb (by omega)).grown hgrow (fun k hk=>by
   have:=(ow.lt k hk).1
   exact⟨by omega,fun h=>.inr this⟩) (by have:=hb.size;omega)).set 11 _ (by omega) (fun _=>.inl rfl)
  refine q1.go Fq hr10 List.suffix_rfl ?_
  rw[World.cell?_setCell_other _ _ _ _ (by simp),b9.cell,Array.getElem?_setIfInBounds,if_neg (by decide)]
  have h0:=(bx.fr f1 (by omega) (by omega)).cell 0
  rw[q1.p0,Array.getElem?_setIfInBounds,if_neg (by decide)] at h0
  exact h0.symm
 refine⟨Q10,⟨q9,c9,?_,?_⟩,F10,hsz,hlt⟩
 ·rw[List.length_append,List.length_singleton,←hbc];exact B10
 ·rw[List.length_append,List.length_singleton,List.map_append]
  exact zaA hown' (KeepB.set w9 11 _ (Nat.lt_succ_self rb)) (by omega)
set_option maxRecDepth 20000 in
theorem zjN(W0 W:World)(tr rb:Nat)(BC:Array Value)(ts:List Tok)(gs:List ByteArray)(h:GrSq WZ en W0 W tr rb BC ts gs)(hl:gs.length≤1000) :
  Calls Tryz.prog 55 #[.pointer (some ⟨rb,0,none⟩)] W fun e w'=>∃(R:Bool) (x:ByteArray),e=.returned (.bool R)∧Aside (GrSq WZ en W0 w' tr rb BC (nU ts).2 (gs++[x]))∧Hid ((nU ts).1=if R=true then some x else none):=by
 obtain⟨qh,⟨gq,gc,bx,ow⟩,hfr,hsz,hlt⟩:=h
 have hne:=qh.ne
 have htl:=qh.rd.lt
 have hW:=hfr.size
 have bA:=al W (.cells #[.string ⟨#[]⟩] 9)
 have Q0:QH WZ en (W.alloc (.cells #[.string ⟨#[]⟩] 9)) tr rb ts:=qh.fr (S:=fun _=>False) (Fr.of_below bA (by omega)) (qh.rd.on bA) List.suffix_rfl (fun h=>h)
 have cN:=zoU _ tr rb ts Q0 W.heap.size 0 #[.string ⟨#[]⟩] 9 (zab W _ _) (by omega) (by simp) (fun e=>by omega)
 obtain⟨N,hN⟩:∃N,gs.length=N:=⟨_,rfl⟩
 have HN:Hid (gs.length=N):=hN
 rw[hN] at bx ow hl
 obtain⟨i0,hi,hz0,hz1,hzz⟩:=info_parts zel
 have HBX:Aside (Blk W rb (BC.setIfInBounds 11 (.slice gq N gc)) 55):=bx
 have HOW:Aside (W.ownsRow W0.heap.size 9 1 (.slice gq N gc) N (gs.map .string)):=ow
 have HQH:Aside (QH WZ en W tr rb ts):=qh
 have HFR:Aside (Fr tr (fun k=>k=rb) W0 W):=hfr
 clear bx ow qh hfr Q0 hN
 go_enter Tryz.func55,Tryz.ntmps55
 go_wp2_with fail
 refine cN.mono ?_
 rintro e w1 ⟨R,x,rfl,Q1,F1,B1,HR⟩
 have FW:Fr tr (·=W.heap.size) W w1:=(Fr.of_below bA (by omega)).trans F1.out
 have s1:=FW.size
 have OW1:Aside (w1.ownsRow W0.heap.size 9 1 (.slice gq N gc) N (gs.map .string)):=zaA HOW.out (B':=rb) ⟨s1,fun b h1 h2=>FW.kept b h2 (by omega) (by omega)⟩ (by omega)
 have hc0:w1.cell? ⟨W.heap.size,0,none⟩=some (.string x):=by rw[B1.out.cell];rfl
 have hzl:W.heap.size<w1.heap.size:=B1.out.lt
 have bxw:=HBX.out.fr FW (by omega) (by omega)
 have hc11:w1.cell? ⟨rb,11,none⟩=some (.slice gq N gc):=by rw[bxw.cell,Array.getElem?_setIfInBounds,if_pos rfl,if_pos hsz]
 have hrl:rb<w1.heap.size:=bxw.lt
 have Own:∀V,Below w1.heap.size w1 V→V.ownsRow W0.heap.size 9 1 (.slice gq N gc) N (gs.map .string):=fun V hb=>zac OW1.out hb
 have End:=fun (V w9:World) (q9:Option Addr) (c9:Nat)=>ztf (en:=en) (W0:=W0) (W:=W) (w1:=w1) (V:=V) (w9:=w9) (tr:=tr) (rb:=rb) (z:=W.heap.size) (BC:=BC) (ts:=ts) (ts':=(nU ts).2) (gs:=gs) (gq:=gq) (q9:=q9) (gc:=gc) (c9:=c9) (N:=N) (x:=x) HN.out HFR.out hsz hlt hne (Nat.le_refl _) Q1.out FW HBX.out OW1.out
 have hW0:W0.heap.size≤w1.heap.size:=by omega
 clear cN HBX HOW HQH HFR Q1 F1 B1 FW OW1 bxw
 generalize gs.map Value.string=GS at *
 go_wp2
 go_region_law (refine zaQ rfl (.tmp 12) (.tmp 14) 23 rfl W0.heap.size 9 i0 _ 1 16 Tryz.underlying23 hi hz0 hz1 hzz rfl (by decide) (.slice gq N gc) N GS (by simp[Act.eval]) (Own _ (by repeat (first|exact Below.refl _ _|refine Below.drew ?_|refine zai ?_ (Nat.le_refl _) _))) ⟨w1.heap.size,0,none⟩ 1 1 [.string x] (by simp[Act.eval]) rfl (zoV (by simp)) (by intro u hu;simp at hu;subst hu;rfl) (by decide) (by simp[maxLen];omega) (by omega) (by simp;omega) ?_;intro q9 c9 w9 hown' hgrow hfr';obtain⟨⟨k1,k2,k3⟩,KS⟩:=End _ w9 q9 c9 (by repeat (first|exact Below.refl _ _|refine Below.drew ?_|refine zai ?_ (Nat.le_refl _) _)) hown' hgrow)
 all_goals
  go_wp2
  go_ret
  exact⟨R,x,rfl,KS,HR⟩
end
section
open Go.BigFrame
variable {en : Nat} {WZ : World}

theorem zoF:(Tryz.prog.info? 87).map (fun i=>(i.zero,i.size,i.bytes))=some (some (.agg #[.string ⟨#[]⟩,.string ⟨#[]⟩,.string ⟨#[]⟩,.int .i64 0,.int .i64 0,.string ⟨#[]⟩,.slice none 0 0,.int .i64 0,.string ⟨#[]⟩]),9,128):=by kernel_rfl
abbrev agL(a:Ag)(ap:Option Addr)(ac:Nat):List Value:=[.string a.what,.string a.arg.op,.string a.arg.nm,.int .i64 a.arg.vt,.int .i64 a.arg.vn,.string a.arg.vs,.slice ap a.arg.args.length ac,.int .i64 a.arg.pos,.string a.name]
theorem ziQ(a:Ag)(ap:Option Addr)(ac:Nat):∀u∈agL a ap ac,u.oneCell'=true:=by
 intro u hu
 simp at hu
 rcases hu with rfl|rfl|rfl|rfl|rfl|rfl|rfl|rfl|rfl<;>rfl
theorem zgE{V:World}{g:Nat}{cs:List Value}{t:TypeId}(h:V.heap[g]?=some (.cells cs.toArray t (0,0))):∀j u,cs[j]?=some u→V.cell? ((⟨g,0,none⟩:Addr).add j)=some u:=fun j u hu=>by
 rw[Go.WideShapes.add_plain]
 simp[World.cell?,h,hu]
structure AgS(WZ:World)(en:Nat)(W0 W:World)(tr rb:Nat)(BC:Array Value)(ts:List Tok)(ls:List Ag):Prop where
 qh:QH WZ en W tr rb ts
 box:∃aq ac,Blk W rb (BC.setIfInBounds 14 (.slice aq ls.length ac)) 55∧zbs W W0.heap.size (.slice aq ls.length ac) ls
 fr:Fr tr (fun k=>k=rb) W0 W
 sz:14<BC.size
 lt:rb<W0.heap.size
theorem AgS.go{W0 W w':World}{tr rb:Nat}{BC:Array Value}{ts ts':List Tok}{ls:List Ag}(h:AgS WZ en W0 W tr rb BC ts ls)(hf:Fr tr (fun _=>False) W w')(hq:QH WZ en w' tr rb ts'):AgS WZ en W0 w' tr rb BC ts' ls:=by
 obtain⟨gq,gc,h1,h2⟩:=h.box
 have hne:=h.qh.ne
 have hlt:=h.lt
 refine⟨hq,⟨gq,gc,h1.fr hf (by omega) (fun h=>h),?_⟩,h.fr.trans hf.weak,h.sz,h.lt⟩
 exact h2.keepB (B':=rb) ⟨hf.size,fun b h1 h2=>hf.kept b h2 (by omega) (fun h=>h)⟩ (by omega)
theorem zsJ{W0 W w1 V w9:World}{tr rb:Nat}{BC:Array Value}{ts':List Tok}{ls:List Ag}{aq q9:Option Addr}{ac0 c9 N:Nat}{a:Ag}{ap:Option Addr}{ac:Nat}{CS:List Value}(hN:ls.length=N)(hfr:Fr tr (fun k=>k=rb) W0 W)(hsz:14<BC.size)(hlt:rb<W0.heap.size)(hne:tr<rb)
  (q1:QH WZ en w1 tr rb ts')(f1:Fr tr (W.heap.size≤·) W w1)(bx:Blk W rb (BC.setIfInBounds 14 (.slice aq N ac0)) 55)
  (ow:W.ownsRow W0.heap.size 87 9 (.slice aq N ac0) ls.length CS)
  (op:∀j (h:j<ls.length),∃ap ac,CS[j*9]?=some (.string ls[j].what)∧CS[j*9+1]?=some (.string ls[j].arg.op)∧CS[j*9+2]?=some (.string ls[j].arg.nm)∧CS[j*9+3]?=some (.int .i64 ls[j].arg.vt)∧CS[j*9+4]?=some (.int .i64 ls[j].arg.vn)∧CS[j*9+5]?=some (.string ls[j].arg.vs)∧CS[j*9+6]?=some (.slice ap ls[j].arg.args.length ac)∧CS[j*9+7]?=some (.int .i64 ls[j].arg.pos)∧CS[j*9+8]?=some (.string ls[j].name)∧ExIn W (fun b=>W0.heap.size≤b∧some b≠(Value.slice aq N ac0).ownBlock) (exV ls[j].arg ap ac) ls[j].arg)
  (hx:ExIn w1 (W.heap.size≤·) (exV a.arg ap ac) a.arg)
  (hb:Below w1.heap.size w1 V)(hown':w9.ownsRow W0.heap.size 87 9 (.slice q9 (N+1) c9) (N+1) (CS++agL a ap ac))(hgrow:V.grownBy w9 (Value.slice aq N ac0).ownBlock)(hf:(Value.slice q9 (N+1) c9).ownBlock=(Value.slice aq N ac0).ownBlock∨(Value.slice q9 (N+1) c9).ownBlock=some V.heap.size) :
  (w9.cell? ⟨rb,14,none⟩=some (.slice aq N ac0)∧w9.frozen? ⟨rb,14,none⟩=false∧rb<w9.heap.size)∧Aside (AgS WZ en W0 (w9.setCell ⟨rb,14,none⟩ (.slice q9 (N+1) c9)) tr rb BC ts' (ls++[a])):=by
 subst hN
 have s0:=hfr.size
 have s1:=f1.size
 have k1:KeepB (rb+1) W w1:=⟨s1,fun b h1 h2=>f1.kept b h2 (by omega) (by omega)⟩
 have ow1:=zaA ow k1 (show rb+1≤W0.heap.size by omega)
 have ownlt:∀k,(Value.slice aq ls.length ac0).ownBlock=some k→W0.heap.size≤k∧k<W.heap.size:=fun k hk=>ow.lt k hk
 have b9:Blk w9 rb (BC.setIfInBounds 14 (.slice aq ls.length ac0)) 55:=((bx.fr f1 (by omega) (by omega)).on hb).grown hgrow (zrw ow hlt)
 have F1:Fr tr (fun k=>k=rb) W0 w1:=hfr.trans (f1.mono (fun k hk e=>by omega))
 have F9:Fr tr (fun k=>k=rb) W0 w9:=(F1.on hb (by omega)).grown hgrow (fun k hk=>by
  have:=(ownlt k hk).1
  exact⟨by omega,fun h=>by omega⟩) (by have:=hb.size;omega)
 have B10:=b9.set 14 (.slice q9 (ls.length+1) c9)
 have F10:=F9.set 14 (.slice q9 (ls.length+1) c9) (b:=rb) (by omega) (fun _=>rfl)
 have hr9:RdAt en w9 tr ts':=(q1.rd.on hb).onB ((Below.refl (tr+1) V).grown hgrow (by have:=hb.size;have:=q1.rd.lt;omega) (fun k hk=>by have:=(ownlt k hk).1;omega)) hgrow.size
 have hr10:RdAt en (w9.setCell ⟨rb,14,none⟩ (.slice q9 (ls.length+1) c9)) tr ts':=hr9.onB ((Below.refl (tr+1) w9).setCell (p:=⟨rb,14,none⟩) hne _) (by simp[World.setCell])
 refine⟨⟨by rw[b9.cell,Array.getElem?_setIfInBounds,if_pos rfl,if_pos hsz],b9.frozen 14,b9.lt⟩,?_⟩
 have Q10:QH WZ en (w9.setCell ⟨rb,14,none⟩ (.slice q9 (ls.length+1) c9)) tr rb ts':=by
  have Fq:Fr tr (fun k=>k=rb∨W0.heap.size≤k) w1 (w9.setCell ⟨rb,14,none⟩ (.slice q9 (ls.length+1) c9)):=((Fr.of_below hb (by omega)).grown hgrow (fun k hk=>by
   have:=(ownlt k hk).1
   exact⟨by omega,fun h=>.inr this⟩) (by have:=hb.size;omega)).set 14 _ (by omega) (fun _=>.inl rfl)
  refine q1.go Fq hr10 List.suffix_rfl ?_
  rw[World.cell?_setCell_other _ _ _ _ (by simp),b9.cell,Array.getElem?_setIfInBounds,if_neg (by decide)]
  have h0:=(bx.fr f1 (by omega) (by omega)).cell 0
  rw[q1.p0,Array.getElem?_setIfInBounds,if_neg (by decide)] at h0
  exact h0.symm
 have P9:zbs w9 W0.heap.size (.slice q9 (ls.length+1) c9) (ls++[a]):=by
  refine zbs.push (w:=V) (zac ow1 hb) (fun j hj=>?_) ?_ hown' hgrow hf
  ·obtain⟨ap',ac',e0,e1,e2,e3,e4,e5,e6,e7,e8,he⟩:=op j hj
   exact⟨ap',ac',e0,e1,e2,e3,e4,e5,e6,e7,e8,(zhn he k1 (fun b hb=>by omega)).on hb⟩
  ·exact (ExIn.low (fun b _ (hk:W.heap.size≤b)=>⟨by omega,fun e=>by have:=(ownlt b e.symm).2;omega⟩) _ _ hx).on hb
 refine⟨Q10,⟨q9,c9,?_,?_⟩,F10,hsz,hlt⟩
 ·rw[List.length_append,List.length_singleton,←znu BC 14 (.slice aq ls.length ac0)];exact B10
 ·rw[List.length_append,List.length_singleton]
  exact P9.keepB (KeepB.set w9 14 _ (Nat.lt_succ_self rb)) (by omega)
set_option maxRecDepth 20000 in
theorem agg_q(W0 W:World)(tr rb:Nat)(BC:Array Value)(ts:List Tok)(ls:List Ag)(h:AgS WZ en W0 W tr rb BC ts ls)(hl:ls.length≤1000) :
  Calls Tryz.prog 50 #[.pointer (some ⟨rb,0,none⟩)] W fun e w'=>∃(R:Bool) (ls':List Ag),e=.returned (.bool R)∧Aside (AgS WZ en W0 w' tr rb BC (aggU ts).2 ls')∧Hid ((R=true∧∃a,(aggU ts).1=some a∧ls'=ls++[a])∨(R=false∧(aggU ts).1=none)):=by
 have HS:Aside (AgS WZ en W0 W tr rb BC ts ls):=h
 obtain⟨qh,⟨aq,ac0,bx,CS,ow,op⟩,hfr,hsz,hlt⟩:=h
 have hne:=qh.ne
 have htl:=qh.rd.lt
 have hp0:=qh.p0
 have hrl:=qh.lt
 have hW:=hfr.size
 have cT:=zpy agB _ zjw W tr ts qh.rd (fun t ht V hb=>zjb t V (qh.aenv.on hb))
 obtain⟨N,hN⟩:∃N,ls.length=N:=⟨_,rfl⟩
 obtain⟨i0,hi,hz0,hz1,hzz⟩:=info_parts zoF
 have End:=fun (w1 V w9:World) (q9:Option Addr) (c9:Nat) (a:Ag) (ap:Option Addr) (ac:Nat) (ts':List Tok) (q1:QH WZ en w1 tr rb ts') (f1:Fr tr (W.heap.size≤·) W w1) (hx:ExIn w1 (W.heap.size≤·) (exV a.arg ap ac) a.arg)=>zsJ (en:=en) (W0:=W0) (W:=W) (w1:=w1) (V:=V) (w9:=w9) (tr:=tr) (rb:=rb) (BC:=BC) (ts':=ts') (ls:=ls) (aq:=aq) (q9:=q9) (ac0:=ac0) (c9:=c9) (N:=N) (a:=a) (ap:=ap) (ac:=ac) (CS:=CS) hN hfr hsz hlt hne q1 f1 (by rw[←hN];exact bx) (by rw[←hN];exact ow) (by rw[←hN];exact op) hx
 have Own:∀w1 V,Fr tr (W.heap.size≤·) W w1→Below w1.heap.size w1 V→V.ownsRow W0.heap.size 87 9 (.slice aq N ac0) N CS:=fun w1 V f1 hb=>by
  rw[←hN]
  exact zac (zaA ow (B':=rb+1) ⟨f1.size,fun b h1 h2=>f1.kept b h2 (by omega) (by omega)⟩ (by omega)) hb
 have C14:∀w1,Fr tr (W.heap.size≤·) W w1→w1.cell? ⟨rb,14,none⟩=some (.slice aq N ac0)∧rb<w1.heap.size:=fun w1 f1=>by
  have b1:=bx.fr f1 (by omega) (by omega)
  exact⟨by rw[b1.cell,Array.getElem?_setIfInBounds,if_pos rfl,if_pos hsz,hN],b1.lt⟩
 have HQ:Aside (QH WZ en W tr rb ts):=qh
 rw[hN] at hl
 clear bx ow op qh hfr hN
 go_enter Tryz.func50,Tryz.ntmps50
 go_wp2_with fail
 refine cT.mono ?_
 rintro e w1 ⟨R1,k,tx,ta,rs1,rfl,hr1,bt1,HR⟩
 have s1:=bt1.out.size
 have bT:=al w1 (.cells #[.int .i64 k,.string tx,.int .i64 ta] 78)
 have F1:Fr tr (fun _=>False) W (w1.alloc (.cells #[.int .i64 k,.string tx,.int .i64 ta] 78)):=(Fr.of_but bt1.out).on bT (by omega)
 clear cT
 cases R1
 ·rcases HR.out with ⟨-,h1,rfl,rfl⟩|⟨h2,-⟩
  ·have HA:Hid (aggU rs1=(none,rs1)):=by show _=_;rw[aggU,h1]
   have S1:=HS.out.go F1 (HQ.out.fr F1 (hr1.out.on bT) List.suffix_rfl (fun h=>h))
   clear End Own C14 HS HQ hr1 bt1 HR
   go_wp2
   go_ret
   refine⟨false,ls,rfl,?_,.inr ⟨rfl,?_⟩⟩
   ·rw[HA.out];exact S1
   ·rw[HA.out]
  ·exact absurd h2 (by decide)
 ·obtain⟨ta',h1⟩:∃ta',nxT agB ts=some ((k,tx,ta'),rs1):=by
   rcases HR.out with ⟨h2,-⟩|⟨-,h3⟩
   ·exact absurd h2 (by decide)
   ·exact h3
  have HA0:Hid (aggU ts=thU (argU tx.data.toList rs1) fun x rs=>thU (asU rs) fun n rs=>(some ⟨tx,x,n⟩,rs)):=by show _=_;rw[aggU,h1]
  have Q1:QH WZ en (w1.alloc (.cells #[.int .i64 k,.string tx,.int .i64 ta] 78)) tr rb rs1:=HQ.out.fr F1 (hr1.out.on bT) (zgF h1) (fun h=>h)
  clear HS HQ hr1 bt1 HR h1
  have bZ:=al (w1.alloc (.cells #[.int .i64 k,.string tx,.int .i64 ta] 78)) (.cells #[.string tx,.string ⟨#[]⟩,.string ⟨#[]⟩,.int .i64 0,.int .i64 0,.string ⟨#[]⟩,.slice none 0 0,.int .i64 0,.string ⟨#[]⟩] 87)
  have Z0:Blk ((w1.alloc (.cells #[.int .i64 k,.string tx,.int .i64 ta] 78)).alloc (.cells #[.string tx,.string ⟨#[]⟩,.string ⟨#[]⟩,.int .i64 0,.int .i64 0,.string ⟨#[]⟩,.slice none 0 0,.int .i64 0,.string ⟨#[]⟩] 87)) (w1.heap.size+1) #[.string tx,.string ⟨#[]⟩,.string ⟨#[]⟩,.int .i64 0,.int .i64 0,.string ⟨#[]⟩,.slice none 0 0,.int .i64 0,.string ⟨#[]⟩] 87:=by
   have:=zab (w1.alloc (.cells #[.int .i64 k,.string tx,.int .i64 ta] 78)) #[.string tx,.string ⟨#[]⟩,.string ⟨#[]⟩,.int .i64 0,.int .i64 0,.string ⟨#[]⟩,.slice none 0 0,.int .i64 0,.string ⟨#[]⟩] 87
   simpa using this
  have FZ:Fr tr (fun _=>False) W ((w1.alloc (.cells #[.int .i64 k,.string tx,.int .i64 ta] 78)).alloc (.cells #[.string tx,.string ⟨#[]⟩,.string ⟨#[]⟩,.int .i64 0,.int .i64 0,.string ⟨#[]⟩,.slice none 0 0,.int .i64 0,.string ⟨#[]⟩] 87)):=F1.on bZ (by simp;omega)
  have QZ:QH WZ en ((w1.alloc (.cells #[.int .i64 k,.string tx,.int .i64 ta] 78)).alloc (.cells #[.string tx,.string ⟨#[]⟩,.string ⟨#[]⟩,.int .i64 0,.int .i64 0,.string ⟨#[]⟩,.slice none 0 0,.int .i64 0,.string ⟨#[]⟩] 87)) tr rb rs1:=Q1.fr (S:=fun _=>False) (Fr.of_below bZ (by simp;omega)) (Q1.rd.on bZ) List.suffix_rfl (fun h=>h)
  have hzr:tr<(w1.heap.size+1):=by omega
  have hzW:W.heap.size≤(w1.heap.size+1):=by omega
  have cA:=as_q ((w1.alloc (.cells #[.int .i64 k,.string tx,.int .i64 ta] 78)).alloc (.cells #[.string tx,.string ⟨#[]⟩,.string ⟨#[]⟩,.int .i64 0,.int .i64 0,.string ⟨#[]⟩,.slice none 0 0,.int .i64 0,.string ⟨#[]⟩] 87)) tr rb rs1 QZ (w1.heap.size+1) 8 #[.string tx,.string ⟨#[]⟩,.string ⟨#[]⟩,.int .i64 0,.int .i64 0,.string ⟨#[]⟩,.slice none 0 0,.int .i64 0,.string ⟨#[]⟩] 87 Z0 hzr ⟨#[]⟩ rfl (fun e=>by omega)
  have cB:=zhY ((w1.alloc (.cells #[.int .i64 k,.string tx,.int .i64 ta] 78)).alloc (.cells #[.string tx,.string ⟨#[]⟩,.string ⟨#[]⟩,.int .i64 0,.int .i64 0,.string ⟨#[]⟩,.slice none 0 0,.int .i64 0,.string ⟨#[]⟩] 87)) tr rb rs1 QZ (w1.heap.size+1) 1 #[.string tx,.string ⟨#[]⟩,.string ⟨#[]⟩,.int .i64 0,.int .i64 0,.string ⟨#[]⟩,.slice none 0 0,.int .i64 0,.string ⟨#[]⟩] 87 Z0 hzr (by simp) rfl (fun e=>by omega)
  have cA2:=fun (V:World) (x:Ex) (xp:Option Addr) (xc:Nat) (rs2:List Tok) (q:QH WZ en V tr rb rs2) (B:Blk V (w1.heap.size+1) (agL ⟨tx,x,⟨#[]⟩⟩ xp xc).toArray 87)=>as_q V tr rb rs2 q (w1.heap.size+1) 8 (agL ⟨tx,x,⟨#[]⟩⟩ xp xc).toArray 87 B hzr ⟨#[]⟩ rfl (fun e=>by omega)
  have hFZ:=FZ.size
  simp at hFZ
  have FZW:Fr tr (W.heap.size≤·) W ((w1.alloc (.cells #[.int .i64 k,.string tx,.int .i64 ta] 78)).alloc (.cells #[.string tx,.string ⟨#[]⟩,.string ⟨#[]⟩,.int .i64 0,.int .i64 0,.string ⟨#[]⟩,.slice none 0 0,.int .i64 0,.string ⟨#[]⟩] 87)):=FZ.weak
  clear Z0 QZ Q1 F1 bZ bT FZ
  by_cases hC:tx.data.toList=zcb
  ·have hq:(tx.toList == [99,111,117,110,116])=true:=by rw[Lib.toList_data];simpa using hC
   have HA1:Hid (aggU ts=thU (asU rs1) fun n rs=>(some ⟨tx,ex0,n⟩,rs)):=by show _=_;rw[HA0.out,argU,if_pos hC];rfl
   clear cB cA2 hC HA0
   go_wp2_with fail
   refine cA.mono ?_
   rintro e w3 ⟨R,nm,rfl,Q3,F3,B3,HR3⟩
   have B3':Blk w3 (w1.heap.size+1) (agL ⟨tx,ex0,nm⟩ none 0).toArray 87:=B3.out
   have HA:Hid (aggU ts=(if R=true then some ⟨tx,ex0,nm⟩ else none,(asU rs1).2)):=by
    show _=_
    rw[HA1.out]
    cases R
    ·rw[zag (rs:=(asU rs1).2) (Prod.ext HR3.out rfl)];rfl
    ·rw[zae (x:=nm) (rs:=(asU rs1).2) (Prod.ext HR3.out rfl)];rfl
   have F3W:Fr tr (W.heap.size≤·) W w3:=FZW.trans ⟨F3.out.below,fun k hk hkr hn=>F3.out.kept k hk hkr (fun e=>hn (by omega))⟩
   have m0:w3.cell? ⟨(w1.heap.size+1),0,none⟩=some (.string tx):=by rw[B3'.cell];rfl
   have m1:w3.cell? ⟨(w1.heap.size+1),1,none⟩=some (.string ex0.op):=by rw[B3'.cell];rfl
   have m2:w3.cell? ⟨(w1.heap.size+1),2,none⟩=some (.string ex0.nm):=by rw[B3'.cell];rfl
   have m3:w3.cell? ⟨(w1.heap.size+1),3,none⟩=some (.int .i64 ex0.vt):=by rw[B3'.cell];rfl
   have m4:w3.cell? ⟨(w1.heap.size+1),4,none⟩=some (.int .i64 ex0.vn):=by rw[B3'.cell];rfl
   have m5:w3.cell? ⟨(w1.heap.size+1),5,none⟩=some (.string ex0.vs):=by rw[B3'.cell];rfl
   have m6:w3.cell? ⟨(w1.heap.size+1),6,none⟩=some (.slice none ex0.args.length 0):=by rw[B3'.cell];rfl
   have m7:w3.cell? ⟨(w1.heap.size+1),7,none⟩=some (.int .i64 ex0.pos):=by rw[B3'.cell];rfl
   have m8:w3.cell? ⟨(w1.heap.size+1),8,none⟩=some (.string nm):=by rw[B3'.cell];rfl
   have mzl:(w1.heap.size+1)<w3.heap.size:=B3'.lt
   have Q3':=Q3.out
   clear cA HA1 HR3 B3 B3' F3 FZW Q3
   obtain⟨m14,mrl⟩:=C14 w3 F3W
   have OwV:=fun V hb=>Own w3 V F3W hb
   have EndV:=fun V w9 q9 c9=>End w3 V w9 q9 c9 ⟨tx,ex0,nm⟩ none 0 (asU rs1).2 Q3' F3W (zfk _ _)
   have hW0:W0.heap.size≤w3.heap.size:=by have:=F3W.size;omega
   clear End Own C14
   go_wp2
   go_region_law (refine zaQ rfl (.tmp 37) (.tmp 39) 32 rfl W0.heap.size 87 i0 _ 9 128 Tryz.underlying32 hi hz0 hz1 hzz rfl (by decide) (.slice aq N ac0) N CS (by simp[Act.eval]) (OwV _ (by repeat (first|exact Below.refl _ _|refine Below.drew ?_|refine zai ?_ (Nat.le_refl _) _))) ⟨w3.heap.size,0,none⟩ 1 1 (agL ⟨tx,ex0,nm⟩ none 0) (by simp[Act.eval]) rfl (zgE (t:=87) (by first|exact zbb _ _ _|rfl)) (ziQ _ _ _) (by decide) (by simp[maxLen];omega) (by omega) (by simp;omega) ?_;intro q9 c9 w9 hown' hgrow hfr';obtain⟨⟨k1,k2,k3⟩,KS⟩:=EndV _ w9 q9 c9 (by repeat (first|exact Below.refl _ _|refine Below.drew ?_|refine zai ?_ (Nat.le_refl _) _)) hown' hgrow hfr')
   all_goals
    go_wp2
    go_ret
    refine⟨R,ls++[⟨tx,ex0,nm⟩],rfl,?_,?_⟩
    ·rw[HA.out];exact KS
    ·rw[HA.out]
     cases R
     ·exact .inr ⟨rfl,rfl⟩
     ·exact .inl ⟨rfl,_,rfl,rfl⟩
  ·have hq:(tx.toList == [99,111,117,110,116])=false:=by rw[Lib.toList_data];simpa using hC
   have HA1:Hid (aggU ts=thU (brU rs1) fun x rs=>thU (asU rs) fun n rs=>(some ⟨tx,x,n⟩,rs)):=by show _=_;rw[HA0.out,argU,if_neg hC]
   clear cA hC HA0
   go_wp2_with fail
   refine cB.mono ?_
   rintro e w3 ⟨R,x,xp,xc,rfl,Q3,F3,B3,E3,HR3⟩
   have B3':Blk w3 (w1.heap.size+1) (agL ⟨tx,x,⟨#[]⟩⟩ xp xc).toArray 87:=B3.out
   have F3W:Fr tr (W.heap.size≤·) W w3:=FZW.trans ⟨F3.out.below,fun k hk hkr hn=>F3.out.kept k hk hkr (fun e=>hn (by omega))⟩
   have E3':ExIn w3 (w1.heap.size+1+1≤·) (exV x xp xc) x:=by
    have:=E3.out
    simp only[World.size_alloc] at this
    exact this
   have mzl:(w1.heap.size+1)<w3.heap.size:=B3'.lt
   clear cB B3 F3 FZW E3
   cases R
   ·have HA:Hid (aggU ts=(if false=true then some ⟨tx,x,⟨#[]⟩⟩ else none,(brU rs1).2)):=by
     show _=_
     rw[HA1.out,zag (rs:=(brU rs1).2) (Prod.ext HR3.out rfl)];rfl
    have m0:w3.cell? ⟨(w1.heap.size+1),0,none⟩=some (.string tx):=by rw[B3'.cell];rfl
    have m1:w3.cell? ⟨(w1.heap.size+1),1,none⟩=some (.string x.op):=by rw[B3'.cell];rfl
    have m2:w3.cell? ⟨(w1.heap.size+1),2,none⟩=some (.string x.nm):=by rw[B3'.cell];rfl
    have m3:w3.cell? ⟨(w1.heap.size+1),3,none⟩=some (.int .i64 x.vt):=by rw[B3'.cell];rfl
    have m4:w3.cell? ⟨(w1.heap.size+1),4,none⟩=some (.int .i64 x.vn):=by rw[B3'.cell];rfl
    have m5:w3.cell? ⟨(w1.heap.size+1),5,none⟩=some (.string x.vs):=by rw[B3'.cell];rfl
    have m6:w3.cell? ⟨(w1.heap.size+1),6,none⟩=some (.slice xp x.args.length xc):=by rw[B3'.cell];rfl
    have m7:w3.cell? ⟨(w1.heap.size+1),7,none⟩=some (.int .i64 x.pos):=by rw[B3'.cell];rfl
    have m8:w3.cell? ⟨(w1.heap.size+1),8,none⟩=some (.string ⟨#[]⟩):=by rw[B3'.cell];rfl
    have Q3':=Q3.out
    clear cA2 HA1 HR3 B3' Q3
    obtain⟨m14,mrl⟩:=C14 w3 F3W
    have OwV:=fun V hb=>Own w3 V F3W hb
    have EndV:=fun V w9 q9 c9=>End w3 V w9 q9 c9 ⟨tx,x,⟨#[]⟩⟩ xp xc (brU rs1).2 Q3' F3W (ExIn.low (fun b _ hb=>by omega) _ _ E3')
    have hW0:W0.heap.size≤w3.heap.size:=by have:=F3W.size;omega
    clear End Own C14
    go_wp2
    go_region_law (refine zaQ rfl (.tmp 37) (.tmp 39) 32 rfl W0.heap.size 87 i0 _ 9 128 Tryz.underlying32 hi hz0 hz1 hzz rfl (by decide) (.slice aq N ac0) N CS (by simp[Act.eval]) (OwV _ (by repeat (first|exact Below.refl _ _|refine Below.drew ?_|refine zai ?_ (Nat.le_refl _) _))) ⟨w3.heap.size,0,none⟩ 1 1 (agL ⟨tx,x,⟨#[]⟩⟩ xp xc) (by simp[Act.eval]) rfl (zgE (t:=87) (by first|exact zbb _ _ _|rfl)) (ziQ _ _ _) (by decide) (by simp[maxLen];omega) (by omega) (by simp;omega) ?_;intro q9 c9 w9 hown' hgrow hfr';obtain⟨⟨k1,k2,k3⟩,KS⟩:=EndV _ w9 q9 c9 (by repeat (first|exact Below.refl _ _|refine Below.drew ?_|refine zai ?_ (Nat.le_refl _) _)) hown' hgrow hfr')
    all_goals
     go_wp2
     go_ret
     refine⟨false,ls++[⟨tx,x,⟨#[]⟩⟩],rfl,?_,?_⟩
     ·rw[HA.out];exact KS
     ·rw[HA.out]
      exact .inr ⟨rfl,rfl⟩
   ·have c4:=cA2 w3 x xp xc _ Q3.out B3'
    clear cA2
    go_wp2_with fail
    refine c4.mono ?_
    rintro e w4 ⟨R4,nm,rfl,Q4,F4,B4,HR4⟩
    have B4':Blk w4 (w1.heap.size+1) (agL ⟨tx,x,nm⟩ xp xc).toArray 87:=B4.out
    have HA:Hid (aggU ts=(if R4=true then some ⟨tx,x,nm⟩ else none,(asU (brU rs1).2).2)):=by
     show _=_
     rw[HA1.out,zae (x:=x) (rs:=(brU rs1).2) (Prod.ext HR3.out rfl)]
     cases R4
     ·rw[zag (rs:=(asU (brU rs1).2).2) (Prod.ext HR4.out rfl)];rfl
     ·rw[zae (x:=nm) (rs:=(asU (brU rs1).2).2) (Prod.ext HR4.out rfl)];rfl
    have F4W:Fr tr (W.heap.size≤·) W w4:=F3W.trans ⟨F4.out.below,fun k hk hkr hn=>F4.out.kept k hk hkr (fun e=>hn (by omega))⟩
    have E4:ExIn w4 (w1.heap.size+1+1≤·) (exV x xp xc) x:=zjB E3' F4.out (fun b hb _=>⟨by omega,by omega⟩)
    have m0:w4.cell? ⟨(w1.heap.size+1),0,none⟩=some (.string tx):=by rw[B4'.cell];rfl
    have m1:w4.cell? ⟨(w1.heap.size+1),1,none⟩=some (.string x.op):=by rw[B4'.cell];rfl
    have m2:w4.cell? ⟨(w1.heap.size+1),2,none⟩=some (.string x.nm):=by rw[B4'.cell];rfl
    have m3:w4.cell? ⟨(w1.heap.size+1),3,none⟩=some (.int .i64 x.vt):=by rw[B4'.cell];rfl
    have m4:w4.cell? ⟨(w1.heap.size+1),4,none⟩=some (.int .i64 x.vn):=by rw[B4'.cell];rfl
    have m5:w4.cell? ⟨(w1.heap.size+1),5,none⟩=some (.string x.vs):=by rw[B4'.cell];rfl
    have m6:w4.cell? ⟨(w1.heap.size+1),6,none⟩=some (.slice xp x.args.length xc):=by rw[B4'.cell];rfl
    have m7:w4.cell? ⟨(w1.heap.size+1),7,none⟩=some (.int .i64 x.pos):=by rw[B4'.cell];rfl
    have m8:w4.cell? ⟨(w1.heap.size+1),8,none⟩=some (.string nm):=by rw[B4'.cell];rfl
    have mzl4:(w1.heap.size+1)<w4.heap.size:=B4'.lt
    have Q4':=Q4.out
    clear c4 HA1 HR3 HR4 B3' B4 B4' Q4 Q3 F4 F3W E3'
    obtain⟨m14,mrl⟩:=C14 w4 F4W
    have OwV:=fun V hb=>Own w4 V F4W hb
    have EndV:=fun V w9 q9 c9=>End w4 V w9 q9 c9 ⟨tx,x,nm⟩ xp xc (asU (brU rs1).2).2 Q4' F4W (ExIn.low (fun b _ hb=>by omega) _ _ E4)
    have hW0:W0.heap.size≤w4.heap.size:=by have:=F4W.size;omega
    clear End Own C14
    go_wp2
    go_region_law (refine zaQ rfl (.tmp 37) (.tmp 39) 32 rfl W0.heap.size 87 i0 _ 9 128 Tryz.underlying32 hi hz0 hz1 hzz rfl (by decide) (.slice aq N ac0) N CS (by simp[Act.eval]) (OwV _ (by repeat (first|exact Below.refl _ _|refine Below.drew ?_|refine zai ?_ (Nat.le_refl _) _))) ⟨w4.heap.size,0,none⟩ 1 1 (agL ⟨tx,x,nm⟩ xp xc) (by simp[Act.eval]) rfl (zgE (t:=87) (by first|exact zbb _ _ _|rfl)) (ziQ _ _ _) (by decide) (by simp[maxLen];omega) (by omega) (by simp;omega) ?_;intro q9 c9 w9 hown' hgrow hfr';obtain⟨⟨k1,k2,k3⟩,KS⟩:=EndV _ w9 q9 c9 (by repeat (first|exact Below.refl _ _|refine Below.drew ?_|refine zai ?_ (Nat.le_refl _) _)) hown' hgrow hfr')
    all_goals
     go_wp2
     go_ret
     refine⟨R4,ls++[⟨tx,x,nm⟩],rfl,?_,?_⟩
     ·rw[HA.out];exact KS
     ·rw[HA.out]
      cases R4
      ·exact .inr ⟨rfl,rfl⟩
      ·exact .inl ⟨rfl,_,rfl,rfl⟩
end
section
open Go.BigFrame
variable {en : Nat} {WZ : World}

theorem zoG:(Tryz.prog.info? 31).map (fun i=>(i.zero,i.size,i.bytes))=some (some (.agg #[.string ⟨#[]⟩,.string ⟨#[]⟩,.int .i64 0,.int .i64 0,.string ⟨#[]⟩,.slice none 0 0,.int .i64 0]),7,96):=by kernel_rfl
theorem znb(x:Ex)(xp:Option Addr)(xc:Nat):∀u∈exL x xp xc,u.oneCell'=true:=by
 intro u hu
 simp at hu
 rcases hu with rfl|rfl|rfl|rfl|rfl|rfl|rfl<;>rfl
section
variable {W0 W : World} {tr rb : Nat} {BC : Array Value} {ts : List Tok} {cs : List Ex} {ns : List ByteArray} {cq : Option Addr} {k cc : Nat} {nq : Option Addr} {n nc : Nat}
end
end
end Go.Proofs.YtbdnccnfidjiaaaGreatDoor
