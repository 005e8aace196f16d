/-
  QrS, ConS, QuC5, QuC6, QuC7, SlQ.
-/
import Derived.Test.YtopghagjmdbglaaGreatDoorGyBc
import Derived.Test.YtopghagjmdbglaaGreatDoorGyAj
import Derived.Laws.AppendOwnNone
import Derived.Lib.AppendZerosOnto
import Derived.BigQuiet
import Derived.Deep.QuietTactic
import Derived.Test.YtopghagjmdbglaaGreatDoorGyBa
import Derived.Test.YtopghagjmdbglaaGreatDoorGyAw
import Derived.Test.YtopghagjmdbglaaGreatDoorGyAl
import Derived.Test.YtopghagjmdbglaaGreatDoorGyAx
namespace Go.Proofs.YtopghagjmdbglaaGreatDoor
open Go.RowKit
set_option linter.unusedVariables false
set_option linter.unusedSimpArgs false
set_option maxHeartbeats 8000000
set_option maxRecDepth 20000
section
open Go.BigFrame
variable {en : Nat} {WZ : World}

theorem zva{α β:Type}{a:Option α×List Tok}{f:α→List Tok→Option β×List Tok}(h:a.1=none):thU a f=(none,a.2):=by
 obtain⟨o,rs⟩:=a
 cases h
 rfl
theorem zux(W:World)(tr rb:Nat)(ts:List Tok)(h:QS WZ en W tr rb ts (qb0 tr) (fun _=>True))(hl:ts.length≤400) :
  Calls Tryz.prog 12 #[.pointer (some ⟨rb,0,none⟩)] W fun e w'=>∃R:Bool,e=.returned (.bool R)∧Aside (QH WZ en w' tr rb (qU ts).2)∧Hid ((R=false∧(qU ts).1=none)∨(R=true∧∃q,(qU ts).1=some q∧QFin w' tr rb q)):=by
 obtain⟨R1,rs1,hj⟩:=zaI zaR ts
 cases R1
 ·have hq:qU ts=(none,rs1):=by rw[qU,zva (by rw[hj];rfl),hj]
  rw[hq]
  exact (znf W tr rb ts rs1 h.qh hj).mono fun e w' hh=>⟨false,hh.1,hh.2,.inl ⟨rfl,rfl⟩⟩
 ·have hj':jU zaR ts=(some (),rs1):=hj
  cases hb:nextB agB rs1 with
  | false =>
   have hq:qU ts=qOneU rs1:=by rw[qU,zbf (x:=()) (by rw[hj']),hj'];simp only;rw[if_neg (by rw[hb];decide)]
   rw[hq]
   exact znW W tr rb ts rs1 h hl hj' hb
  | true =>
   have hq:qU ts=qTwoU rs1:=by rw[qU,zbf (x:=()) (by rw[hj']),hj'];simp only;rw[if_pos hb]
   rw[hq]
   exact znn W tr rb ts rs1 h hl hj' hb
theorem zuB{l:List UInt8}{R:List Tok}(hL:zaC l=(R,0,0))(h:(qU R).1=none):qpC l=(qyZ,2,zgI (qU R).2 l.length):=by
 rw[qpC,hL]
 simp only
 rw[if_neg (by decide)]
 have e:qU R=(none,(qU R).2):=Prod.ext h rfl
 rw[e]
theorem zpo{l:List UInt8}{R rs:List Tok}{t:Tok}{q:Qy}(hL:zaC l=(R,0,0))(h:qU R=(some q,t::rs)):qpC l=(qyZ,2,zgI (t::rs) l.length):=by
 rw[qpC,hL]
 simp only
 rw[if_neg (by decide),h]
theorem zpu{l:List UInt8}{R:List Tok}{q:Qy}(hL:zaC l=(R,0,0))(h:qU R=(some q,[]))(ha:(exsQ q).any ckB=true):qpC l=(qyZ,4,0):=by
 rw[qpC,hL]
 simp only
 rw[if_neg (by decide),h]
 simp only
 rw[if_pos ha]
theorem zos{l:List UInt8}{R:List Tok}{q:Qy}(hL:zaC l=(R,0,0))(h:qU R=(some q,[]))(ha:(exsQ q).any ckB=false):qpC l=(q,0,0):=by
 rw[qpC,hL]
 simp only
 rw[if_neg (by decide),h]
 simp only
 rw[if_neg (by rw[ha];decide)]
theorem one14(q:Qy)(wp:Option Addr)(wc:Nat)(cp:Option Addr)(cc:Nat)(np:Option Addr)(nc:Nat)(gp:Option Addr)(gc:Nat)(ap:Option Addr)(ac:Nat):(qyC q wp wc cp cc np nc gp gc ap ac).all (·.oneCell')=true:=by simp[Value.oneCell']
theorem hw14(q:Qy)(wp:Option Addr)(wc:Nat)(cp:Option Addr)(cc:Nat)(np:Option Addr)(nc:Nat)(gp:Option Addr)(gc:Nat)(ap:Option Addr)(ac:Nat):∀(j:Nat) (v:Value),(exL q.whr wp wc)[j]?=some v→(qyC q wp wc cp cc np nc gp gc ap ac)[1+j]?=some v:=fun j v hv=>by
 have hj:j<7:=by have:=(List.getElem?_eq_some_iff.1 hv).1;simpa using this
 have:j=0∨j=1∨j=2∨j=3∨j=4∨j=5∨j=6:=by omega
 rcases this with rfl|rfl|rfl|rfl|rfl|rfl|rfl
 all_goals (simp at hv;subst hv;rfl)
theorem one0:q0D.all (·.oneCell')=true:=by simp[Value.oneCell']
theorem blk14{V W9:World}{b:Nat}{v0 v1 v2 v3 v4 v5 v6 v7 v8 v9 v10 v11 v12 v13:Value}(X:Blk V b q0D 34)(h9:V.setCells b 0 [v0,v1,v2,v3,v4,v5,v6,v7,v8,v9,v10,v11,v12,v13]=W9):Blk W9 b #[v0,v1,v2,v3,v4,v5,v6,v7,v8,v9,v10,v11,v12,v13] 34:=by
 subst h9
 have:=zdT [v0,v1,v2,v3,v4,v5,v6,v7,v8,v9,v10,v11,v12,v13] 0 V _ X
 rwa [show putD q0D 0 [v0,v1,v2,v3,v4,v5,v6,v7,v8,v9,v10,v11,v12,v13]=_ from ztL _ _ _ _ _ _ _ _ _ _ _ _ _ _] at this
theorem zep{b:Nat}:∀(vs:List Value) (o:Nat) (w:World),(w.setCells b o vs).heap.size=w.heap.size
 | [],_,_=>rfl
 | v::r,o,w=>by
  show ((w.setCell ⟨b,o,none⟩ v).setCells b (o+1) r).heap.size=_
  rw[zep r (o+1) _]
  simp[World.setCell]
theorem zdp{w V W9:World}{v0 v1 v2 v3 v4 v5 v6 v7 v8 v9 v10 v11 v12 v13:Value}(X:Blk V w.heap.size q0D 34)(Y:Blk V (w.heap.size+1) #[.int .i64 0,.int .i64 0] 37)(B:Below w.heap.size w V)(h9:V.setCells w.heap.size 0 [v0,v1,v2,v3,v4,v5,v6,v7,v8,v9,v10,v11,v12,v13]=W9) :
  Blk W9 w.heap.size #[v0,v1,v2,v3,v4,v5,v6,v7,v8,v9,v10,v11,v12,v13] 34∧Blk W9 (w.heap.size+1) #[.int .i64 0,.int .i64 0] 37∧Below w.heap.size w W9∧V.heap.size=W9.heap.size∧∀c,c≠w.heap.size→W9.heap[c]?=V.heap[c]?:=by
 refine⟨blk14 X h9,?_,?_,?_,?_⟩
 ·rw[←h9];exact Y.keep (zbw _ _ _ _ (by omega))
 ·rw[←h9];exact zbh (Nat.le_refl _) _ _ _ B
 ·rw[←h9,zep]
 ·intro c hc;rw[←h9];exact zbw _ _ _ _ hc
theorem zie{w W9:World}{QC:Array Value}(E:Int)(P:Nat)(X:Blk W9 w.heap.size QC 34)(Y:Blk W9 (w.heap.size+1) #[.int .i64 0,.int .i64 0] 37)(B:Below w.heap.size w W9) :
  Blk ((W9.setCell ⟨w.heap.size+1,0,none⟩ (.int .i64 E)).setCell ⟨w.heap.size+1,1,none⟩ (.int .i64 (P:Nat))) w.heap.size QC 34∧Blk ((W9.setCell ⟨w.heap.size+1,0,none⟩ (.int .i64 E)).setCell ⟨w.heap.size+1,1,none⟩ (.int .i64 (P:Nat))) (w.heap.size+1) #[.int .i64 E,.int .i64 (P:Nat)] 37∧Below w.heap.size w ((W9.setCell ⟨w.heap.size+1,0,none⟩ (.int .i64 E)).setCell ⟨w.heap.size+1,1,none⟩ (.int .i64 (P:Nat))) :=
 ⟨(X.far (by omega) 0 _).far (by omega) 1 _,(Y.set 0 _).set 1 _,(B.setCell (p:=⟨w.heap.size+1,0,none⟩) (by simp) _).setCell (p:=⟨w.heap.size+1,1,none⟩) (by simp) _⟩
theorem zlu(s:ByteArray)(w:World)(henv:TEnv w)(haenv:AEnv w)(hw:SG w)(R:List Tok)(hL:zaC s.data.toList=(R,0,0))(hs:s.size≤maxLen)(q1:Qy)(E1:Int)(P1:Nat)(hZ:qpC s.data.toList=(q1,E1,P1)) :
  Calls Tryz.prog 4 #[.string s] w fun e w'=>(∃v,e=.returned (.tuple #[v,.agg #[.int .i64 E1,.int .i64 (P1:Nat)]])∧QyIn w' (fun _=>True) v q1)∧Below w.heap.size w w':=by
 have X0:Aside (Blk ((w.alloc (.cells q0D 34)).alloc (.cells #[.int .i64 0,.int .i64 0] 37)) w.heap.size q0D 34):=(zac w _ _).on (al _ _)
 have Y0:Aside (Blk ((w.alloc (.cells q0D 34)).alloc (.cells #[.int .i64 0,.int .i64 0] 37)) (w.heap.size+1) #[.int .i64 0,.int .i64 0] 37):=by
  have:=zac (w.alloc (.cells q0D 34)) #[.int .i64 0,.int .i64 0] 37
  rwa [show (w.alloc (.cells q0D 34)).heap.size=w.heap.size+1 by simp] at this
 have b0:Below w.heap.size w ((w.alloc (.cells q0D 34)).alloc (.cells #[.int .i64 0,.int .i64 0] 37)):=(al w _).alloc (by simp) _
 have cN:=zfm s _ (henv.on b0) (hw.on b0) R hL hs
 have HE:Aside (TEnv w∧AEnv w):=⟨henv,haenv⟩
 obtain⟨hlen,hfit⟩:=zjF hL
 have HF:Aside (Fit R∧NumT R∧R.length≤400):=⟨hfit,zkN hL,hlen⟩
 have HL:Aside (zaC s.data.toList=(R,0,0)):=hL
 have HZ:Aside (qpC s.data.toList=(q1,E1,P1)):=hZ
 have hss:s.data.toList.length=s.size:=by rw[Lib.size_eq]
 have HSS:Hid (s.data.toList.length=s.size):=hss
 have hG:=henv.big
 clear henv hw haenv hlen hfit hL hZ hss
 go_enter Tryz.func4,Tryz.ntmps4
 go_wp2_with fail
 refine cN.mono ?_
 rintro e w1 ⟨⟨r,rfl,hr,hrd⟩,b1⟩
 have X1:Aside (Blk w1 w.heap.size q0D 34):=X0.out.on b1
 have Y1:Aside (Blk w1 (w.heap.size+1) #[.int .i64 0,.int .i64 0] 37):=Y0.out.on b1
 have B1:Aside (Below w.heap.size w w1):=b0.trans (b1.mono b0.size)
 have hz:w.heap.size+2≤w1.heap.size:=by have:=Y1.out.lt;omega
 have hr2:w.heap.size+2≤r:=by simpa using hr
 have hrl:=hrd.lt
 clear cN b1 X0 Y0 b0 hr
 have bW:Below w1.heap.size w1 ((w1.alloc (.cells #[.int .i64 0,.int .i64 0] 37)).alloc (.cells (qb0 r) 60)):=(al w1 _).alloc (by simp) _
 have box:Blk ((w1.alloc (.cells #[.int .i64 0,.int .i64 0] 37)).alloc (.cells (qb0 r) 60)) (w1.heap.size+1) (qb0 r) 60:=by
  have:=zac (w1.alloc (.cells #[.int .i64 0,.int .i64 0] 37)) (qb0 r) 60
  rwa [show (w1.alloc (.cells #[.int .i64 0,.int .i64 0] 37)).heap.size=w1.heap.size+1 by simp] at this
 have bw2:=B1.out.trans (bW.mono B1.out.size)
 have hQH:QH w1 s.size ((w1.alloc (.cells #[.int .i64 0,.int .i64 0] 37)).alloc (.cells (qb0 r) 60)) r (w1.heap.size+1) R:=⟨hrd.on bW,box.cell 0,box.lt,by omega,HE.out.1.on bw2,HE.out.2.onB bw2 hG bw2.size,by omega,HF.out.1,HF.out.2.1,bW.mono (by omega)⟩
 have cQ:=zux (WZ:=w1) (en:=s.size) _ r (w1.heap.size+1) R ⟨hQH,box,trivial⟩ HF.out.2.2
 clear hQH bW box bw2 hrd
 go_wp2_with fail
 refine cQ.mono ?_
 rintro e w3 ⟨RB,rfl,Q3,HQ⟩
 clear cQ
 have O3:Below r w1 w3:=Q3.out.old
 have X3:Aside (Blk w3 w.heap.size q0D 34):=X1.out.keep (O3.block _ (by omega))
 have Y3:Aside (Blk w3 (w.heap.size+1) #[.int .i64 0,.int .i64 0] 37):=Y1.out.keep (O3.block _ (by omega))
 have B3:Aside (Below w.heap.size w w3):=B1.out.trans (O3.mono (by omega))
 have p3:=Q3.out.p0
 have l3:=Q3.out.lt
 clear O3 X1 Y1 B1
 rcases HQ.out with ⟨rfl,hn⟩|⟨rfl,q,hq,hfin⟩
 ·have hz2:=(zuB HL.out hn).symm.trans HZ.out
  have cP:=zoF w3 r _ Q3.out.rd
  rw[HSS.out] at hz2
  obtain⟨PL,hPL⟩:∃PL,zgI (qU R).2 s.size=PL:=⟨_,rfl⟩
  rw[hPL] at cP hz2
  clear hPL
  obtain⟨rfl,hz3⟩:=Prod.mk.inj hz2
  obtain⟨rfl,rfl⟩:=Prod.mk.inj hz3
  obtain⟨W9,h9⟩:∃W9,w3.setCells w.heap.size 0 q0D.toList=W9:=⟨_,rfl⟩
  obtain⟨X9,Y9,B9,_,_⟩:=zdp X3.out Y3.out B3.out h9
  have hst:=fun {ops:Array Oper} {rest:List Oper} {op:Oper} {a:Act} {Q:Exit→Act→World→Prop}=>st14 (ops:=ops) (rest:=rest) (op:=op) (a:=a) (Q:=Q) X3.out rfl rfl one0 W9 h9
  clear HQ hn hz2 hz3 HZ HL h9
  go_wp2_with fail
  refine cP.mono ?_
  rintro e w4 ⟨rfl,hw4⟩
  obtain rfl:w3=w4:=hw4.symm
  clear cP hw4
  have c0:W9.cell? ⟨w.heap.size+1,0,none⟩=some (.int .i64 0):=Y9.cell 0
  have c1:W9.cell? ⟨w.heap.size+1,1,none⟩=some (.int .i64 0):=Y9.cell 1
  have f0:=Y9.frozen 0
  have f1:=Y9.frozen 1
  have l9:=Y9.lt
  go_wp2_with (refine hst rfl _ _ rfl rfl rfl ?_)
  obtain⟨X8,Y8,B8⟩:=zie 2 PL X9 Y9 B9
  exact zck _ w _ q0D 2 PL qyZ rfl rfl rfl rfl (znd _ _) X8 Y8 B8
 ·cases hrs:(qU R).2 with
  | cons t rs =>
   have hqe:qU R=(some q,t::rs):=Prod.ext hq hrs
   have hz2:=(zpo HL.out hqe).symm.trans HZ.out
   have hrd3:=Q3.out.rd
   rw[hrs] at hrd3
   have cE:=zdV w3 r t rs hrd3
   have cP:=zoF w3 r _ hrd3
   rw[HSS.out] at hz2
   obtain⟨PL,hPL⟩:∃PL,zgI (t::rs) s.size=PL:=⟨_,rfl⟩
   rw[hPL] at cP hz2
   clear hPL
   obtain⟨rfl,hz3⟩:=Prod.mk.inj hz2
   obtain⟨rfl,rfl⟩:=Prod.mk.inj hz3
   obtain⟨W9,h9⟩:∃W9,w3.setCells w.heap.size 0 q0D.toList=W9:=⟨_,rfl⟩
   obtain⟨X9,Y9,B9,_,_⟩:=zdp X3.out Y3.out B3.out h9
   have hst:=fun {ops:Array Oper} {rest:List Oper} {op:Oper} {a:Act} {Q:Exit→Act→World→Prop}=>st14 (ops:=ops) (rest:=rest) (op:=op) (a:=a) (Q:=Q) X3.out rfl rfl one0 W9 h9
   clear HQ hz2 hz3 HZ HL h9 hfin hq hqe hrd3 hrs
   go_wp2_with fail
   refine cE.mono ?_
   rintro e w4 ⟨rfl,hw4⟩
   obtain rfl:w3=w4:=hw4.symm
   clear cE hw4
   go_wp2_with fail
   refine cP.mono ?_
   rintro e w4 ⟨rfl,hw4⟩
   obtain rfl:w3=w4:=hw4.symm
   clear cP hw4
   have c0:W9.cell? ⟨w.heap.size+1,0,none⟩=some (.int .i64 0):=Y9.cell 0
   have c1:W9.cell? ⟨w.heap.size+1,1,none⟩=some (.int .i64 0):=Y9.cell 1
   have f0:=Y9.frozen 0
   have f1:=Y9.frozen 1
   have l9:=Y9.lt
   go_wp2_with (refine hst rfl _ _ rfl rfl rfl ?_)
   obtain⟨X8,Y8,B8⟩:=zie 2 PL X9 Y9 B9
   exact zck _ w _ q0D 2 PL qyZ rfl rfl rfl rfl (znd _ _) X8 Y8 B8
  | nil =>
   have hqe:qU R=(some q,[]):=Prod.ext hq hrs
   have hrd3:=Q3.out.rd
   rw[hrs] at hrd3
   have cE:=zdt w3 r hrd3
   obtain⟨hok,_⟩:=qU_rd (znI HL.out).1 hq
   have HOK:Aside (OkQ q):=hok
   have hsm:=zqE HF.out.2.2 hq
   obtain⟨wp,wc,cp,cc,np,nc,gp,gc,ap,ac,hbx,hbe,hcn,hl1,hl2⟩:=hfin
   have cX:=zgy q _ wp wc cp cc np nc gp gc ap ac _ (qv_of q wp wc cp cc np nc gp gc ap ac) (hw14 q wp wc cp cc np nc gp gc ap ac) w3 hbe hcn hl1 hl2
   have cC:=fun (w4:World) (b4:Below w3.heap.size w3 w4) (p:Option Addr) (n c:Nat) (lo:Nat→Prop) (h1:zat w4 lo (.slice p n c) (exsQ q)) (h2:(exsQ q).length=n)=>zhu lo p n c (exsQ q) w4 (Q3.out.env.on b4) h2 h1 (fun x hx=>by rw[zlc];have:=hsm x hx;omega) (by rw[←h2,exsQ,List.length_cons,List.length_append,List.length_map];omega)
   have HB3:Aside (Blk w3 (w1.heap.size+1) (qbC r q wp wc cp cc np nc gp gc ap ac) 60):=hbx
   have HBE:Aside (QyBe w3 (w1.heap.size+1+1≤·) q wp wc cp cc np nc gp gc ap ac):=hbe
   have hld:=fun (W:World) (bW:Below w3.heap.size w3 W) {ops:Array Oper} {rest:List Oper} {op:Oper} {a:Act} {Q:Exit→Act→World→Prop} (hgd:op.guard=none) (x:Operand) (ho:op.op=.load 34 x) (hx:a.eval x=.pointer (some ⟨w1.heap.size+1,1,none⟩)) (h:wpList Tryz.prog ops Q rest (a.put op.dst (.agg (qyC q wp wc cp cc np nc gp gc ap ac))) W)=>wpList_load_mid (P:=Tryz.prog) hgd 34 x ho (w1.heap.size+1) 1 hx (qyC q wp wc cp cc np nc gp gc ap ac).toList _ (fun j v hv=>by rw[(HB3.out.on bW).cell,Nat.add_comm];simpa using hv) Tryz.underlying34 rfl zeG h
   clear HQ hrd3 hrs hbx hbe hcn hsm hok
   go_wp2_with fail
   refine cE.mono ?_
   rintro e w4 ⟨rfl,hw4⟩
   obtain rfl:w3=w4:=hw4.symm
   clear cE hw4
   go_wp2_with (refine hld w3 (Below.refl _ _) rfl _ rfl rfl ?_)
   refine cX.mono ?_
   rintro e w4 ⟨⟨ep,en,ec,rfl,AE,HE2⟩,b4⟩
   have cC2:=cC w4 b4 ep en ec _ AE.out HE2.out
   clear cX cC
   go_wp2_with fail
   refine cC2.mono ?_
   rintro e w5 ⟨rfl,b5⟩
   have b35:Below w3.heap.size w3 w5:=b4.trans (b5.mono b4.size)
   have X5:Blk w5 w.heap.size q0D 34:=X3.out.on b35
   have Y5:Blk w5 (w.heap.size+1) #[.int .i64 0,.int .i64 0] 37:=Y3.out.on b35
   have B5:Below w.heap.size w w5:=B3.out.trans (b35.mono B3.out.size)
   clear cC2 AE HE2 b4 b5 p3
   cases hany:(exsQ q).any ckB with
   | true =>
    have hz2:=(zpu HL.out hqe hany).symm.trans HZ.out
    obtain⟨rfl,hz3⟩:=Prod.mk.inj hz2
    obtain⟨rfl,rfl⟩:=Prod.mk.inj hz3
    obtain⟨W9,h9⟩:∃W9,w5.setCells w.heap.size 0 q0D.toList=W9:=⟨_,rfl⟩
    obtain⟨X9,Y9,B9,_,_⟩:=zdp X5 Y5 B5 h9
    have hst:=fun {ops:Array Oper} {rest:List Oper} {op:Oper} {a:Act} {Q:Exit→Act→World→Prop}=>st14 (ops:=ops) (rest:=rest) (op:=op) (a:=a) (Q:=Q) X5 rfl rfl one0 W9 h9
    clear hz2 hz3 HZ HL h9 hqe hld HBE HB3 hq
    have c0:W9.cell? ⟨w.heap.size+1,0,none⟩=some (.int .i64 0):=Y9.cell 0
    have c1:W9.cell? ⟨w.heap.size+1,1,none⟩=some (.int .i64 0):=Y9.cell 1
    have f0:=Y9.frozen 0
    have f1:=Y9.frozen 1
    have l9:=Y9.lt
    go_wp2_with (refine hst rfl _ _ rfl rfl rfl ?_)
    obtain⟨X8,Y8,B8⟩:=zie 4 0 X9 Y9 B9
    exact zck _ w _ q0D 4 0 qyZ rfl rfl rfl rfl (znd _ _) X8 Y8 B8
   | false =>
    have hz2:=(zos HL.out hqe hany).symm.trans HZ.out
    obtain⟨rfl,hz3⟩:=Prod.mk.inj hz2
    obtain⟨rfl,rfl⟩:=Prod.mk.inj hz3
    obtain⟨W9,h9⟩:∃W9,w5.setCells w.heap.size 0 (qyC q wp wc cp cc np nc gp gc ap ac).toList=W9:=⟨_,rfl⟩
    obtain⟨X9,Y9,B9,hs9,hk9⟩:=zdp X5 Y5 B5 h9
    have hst:=fun {ops:Array Oper} {rest:List Oper} {op:Oper} {a:Act} {Q:Exit→Act→World→Prop}=>st14 (ops:=ops) (rest:=rest) (op:=op) (a:=a) (Q:=Q) X5 rfl rfl (one14 q wp wc cp cc np nc gp gc ap ac) W9 h9
    have hbe5:=HBE.out.on b35
    have hfin:QyBe ((W9.setCell ⟨w.heap.size+1,0,none⟩ (.int .i64 0)).setCell ⟨w.heap.size+1,1,none⟩ (.int .i64 0)) (fun _=>True) q wp wc cp cc np nc gp gc ap ac:=hbe5.boxed (b:=w.heap.size) (by omega) HOK.out X5 Y5 (by simp[World.setCell];omega) (fun c h1 h2 h3=>by
     rw[heap_setCell_other _ _ _ _ h2,heap_setCell_other _ _ _ _ h2];exact hk9 c h1)
    have HFI:=(show Aside _ from hfin)
    have hld5:=fun {ops:Array Oper} {rest:List Oper} {op:Oper} {a:Act} {Q:Exit→Act→World→Prop}=>hld w5 b35 (ops:=ops) (rest:=rest) (op:=op) (a:=a) (Q:=Q)
    clear hz2 hz3 HZ HL h9 hqe HBE HB3 hq hbe5 hfin hs9 hk9 hld
    have c0:W9.cell? ⟨w.heap.size+1,0,none⟩=some (.int .i64 0):=Y9.cell 0
    have c1:W9.cell? ⟨w.heap.size+1,1,none⟩=some (.int .i64 0):=Y9.cell 1
    have f0:=Y9.frozen 0
    have f1:=Y9.frozen 1
    have l9:=Y9.lt
    go_wp2_with (first|(refine hld5 rfl _ rfl rfl ?_)|(refine hst rfl _ _ rfl rfl rfl ?_))
    obtain⟨X8,Y8,B8⟩:=zie 0 0 X9 Y9 B9
    exact zck _ w _ _ 0 0 q rfl rfl rfl rfl ⟨wp,wc,cp,cc,np,nc,gp,gc,ap,ac,rfl,HFI.out⟩ X8 Y8 B8
theorem zuv(s:ByteArray)(w:World)(henv:TEnv w)(haenv:AEnv w)(hw:SG w)(hs:s.size≤maxLen)(q1:Qy)(E1:Int)(P1:Nat)(hZ:qpC s.data.toList=(q1,E1,P1)) :
  Calls Tryz.prog 4 #[.string s] w fun e w'=>(∃v,e=.returned (.tuple #[v,.agg #[.int .i64 E1,.int .i64 (P1:Nat)]])∧QyIn w' (fun _=>True) v q1)∧Below w.heap.size w w':=by
 obtain⟨R,E,P,hL⟩:∃R E P,zaC s.data.toList=(R,E,P):=⟨_,_,_,rfl⟩
 by_cases h0:E=0
 ·subst h0
  obtain⟨_,rfl,_⟩:=zcX hL
  exact zlu s w henv haenv hw R hL hs q1 E1 P1 hZ
 ·have h:=hZ
  rw[qpC,hL] at h
  simp only at h
  rw[if_pos h0] at h
  obtain⟨rfl,h5⟩:=Prod.mk.inj h
  obtain⟨rfl,rfl⟩:=Prod.mk.inj h5
  exact znv s w henv hw R E P hL h0 hs
end
theorem zjJ(w:World) :
  Calls Tryz.prog 166 #[.slice none 0 0,.int .i64 0] w fun e w'=>e=.returned (.slice none 0 0)∧w'=w:=by
 go_enter Tryz.func166,Tryz.ntmps166
 go_wp2
 go_ret
 exact⟨rfl,rfl⟩
theorem zlp(n:Nat)(w:World)(h0:0<n)(hn:n≤1048576) :
  Calls Tryz.prog 166 #[.slice none 0 0,.int .i64 n] w fun e w'=>(∃v,e=.returned v∧Aside (w'.ownsRow w.heap.size 9 1 v 0 []))∧Below w.heap.size w w':=by
 obtain⟨i0,hi,hz0,hz1,hzz⟩:=info_parts zcZ
 have hold:(Builtin.firstCells i0.size 0 (.slice none 0 0)).run Tryz.prog w.drew=.ok #[] w.drew:=run_firstCells_none w.drew i0.size 0 0 0
 have hrz:=fun ty=>Lib.run_append_grow_zeros w 31 3 ty 9 i0 (.string ⟨#[]⟩) .i64 .i64 Tryz.underlying31 Tryz.underlying3 hi hz0 none 0 0 [] hold n (by omega) (by omega) (by omega) (by omega) (by rw[hzz];omega) (by rw[Nat.zero_add];exact growslice_fits h0 (by rw[hzz];omega))
 rw[Nat.zero_add] at hrz
 have hG0:=grownCap_ge w n 0 9
 have hGm:=grownCap_le_maxLen w n 0 9 (by unfold maxLen;omega)
 generalize grownCap w n 0 9=G at hrz hG0 hGm
 have hG2:=hGm
 unfold maxLen at hG2
 have hOw:=World.ownsRow_made (base:=w.heap.size) (e:=9) (size:=1) w.drew (#[]++Builtin.zeroCells (Value.string ⟨#[]⟩).cells n++Builtin.zeroCells (Value.string ⟨#[]⟩).cells (G-n)) G (Nat.le_refl _) hGm (by simp[size_zeroCells,Value.cells];omega)
 have hBe:Below w.heap.size w (w.drew.alloc (.cells (#[]++Builtin.zeroCells (Value.string ⟨#[]⟩).cells n++Builtin.zeroCells (Value.string ⟨#[]⟩).cells (G-n)) 9)):=((Below.refl _ w).drew).alloc (Nat.le_refl _) _
 generalize #[]++Builtin.zeroCells (Value.string ⟨#[]⟩).cells n++Builtin.zeroCells (Value.string ⟨#[]⟩).cells (G-n)=CC at hrz hOw hBe
 have z1:¬((n:Int)<0):=by omega
 have z2:(0:Int)<(n:Int):=by omega
 have HO:Aside ((w.drew.alloc (.cells CC 9)).ownsRow w.heap.size 9 1 (.slice (some ⟨w.heap.size,0,none⟩) 0 G) 0 []):=hOw
 clear hold hi hz0 hz1 hzz hOw
 go_enter Tryz.func166,Tryz.ntmps166
 go_wp2_with (at_builtin;refine Lib.wpList_append_run _ rfl _ _ _ _ rfl _ _ rfl rfl _ _ (hrz _) ?_)
 go_ret
 exact⟨⟨_,rfl,HO⟩,hBe⟩
theorem znq(n:Nat)(w:World)(hn:n≤1048576) :
  Calls Tryz.prog 166 #[.slice none 0 0,.int .i64 n] w fun e w'=>(∃v,e=.returned v∧Aside (w'.ownsRow w.heap.size 9 1 v 0 []))∧Below w.heap.size w w':=by
 rcases Nat.eq_zero_or_pos n with rfl|h0
 ·refine (zjJ w).mono ?_
  rintro e w' ⟨rfl,rfl⟩
  exact⟨⟨_,rfl,(show Aside _ from World.ownsRow_nil _ _ _ _)⟩,Below.refl _ _⟩
 ·exact zlp n w h0 hn
def ziO(w:World)(sb so:Nat)(ps:List (List ByteArray)):Prop:=sb<w.heap.size∧∀j (h:j<ps.length),∃v,w.cell? ⟨sb,so+j,none⟩=some v∧StsA w v ps[j]
theorem ziO.on{w w':World}{sb so:Nat}{ps:List (List ByteArray)}(h:ziO w sb so ps)(hb:Below w.heap.size w w'):ziO w' sb so ps :=
 ⟨by have:=hb.size;have:=h.1;omega,fun j hj=>by
  obtain⟨v,h1,h2⟩:=h.2 j hj
  exact⟨v,by rw[hb.cell (p:=⟨sb,so+j,none⟩) h.1];exact h1,h2.on hb⟩⟩
def lenS(ps:List (List ByteArray))(k:Nat):Nat:=(ps.take k).flatten.length
def stT(ps:List (List ByteArray))(k:Nat):List Value:=(ps.take k).flatten.map .string
theorem ziM{ps:List (List ByteArray)}{k:Nat}(h:k<ps.length):lenS ps (k+1)=lenS ps k+ps[k].length:=by
 unfold lenS
 rw[List.take_succ_eq_append_getElem h,List.flatten_append,List.length_append]
 simp
theorem zoj(ps:List (List ByteArray))(k:Nat):lenS ps k≤ps.flatten.length:=by
 unfold lenS
 conv=>rhs;rw[←List.take_append_drop k ps,List.flatten_append,List.length_append]
 omega
theorem zji(sb so sc n:Nat)(ps:List (List ByteArray))(w:World)(hn:ps.length=n)(h:ziO w sb so ps)(hl:ps.flatten.length≤1048576)(hn2:n≤1048576) :
  Calls Tryz.prog 130 #[.slice (some ⟨sb,so,none⟩) n sc] w fun e w'=>(∃v,e=.returned v∧Aside (w'.ownsRow w.heap.size 9 1 v ps.flatten.length (stT ps n)))∧Below w.heap.size w w':=by
 have HP:Aside (ziO w sb so ps):=h
 have HN:Hid (ps.length=n):=hn
 have HL:Hid (ps.flatten.length≤1048576):=hl
 have hsb:=h.1
 obtain⟨FL,hFL⟩:∃FL,ps.flatten.length=FL:=⟨_,rfl⟩
 have cG:=znq FL w (by omega)
 have HFL:Hid (ps.flatten.length=FL):=hFL
 rw[hFL]
 clear h hn hl hFL
 have hnz:(n:Int)≤1048576:=by omega
 go_enter Tryz.func130,Tryz.ntmps130
 go_wp2
 go_loopg [3,5,11] n (fun gg s3 _ s11 wr=>∃kk:Nat,kk≤n∧n-kk≤gg∧s11=.int .i64 (kk:Int)∧s3=.int .i64 (lenS ps kk:Int)∧wr=w)
 case atStart=>exact⟨0,Nat.zero_le _,by omega,rfl,rfl,rfl⟩
 case round =>
  obtain⟨kk,hkk,hgk,rfl,rfl,hwq⟩:=hrel
  obtain rfl:w=_:=hwq.symm
  by_cases hlt:kk<n
  ·have hltz:(kk:Int)<(n:Int):=by omega
   have h0z:(0:Int)≤(kk:Int):=by omega
   have hkp:kk<ps.length:=by rw[HN.out];exact hlt
   obtain⟨v,hcv,hsv⟩:=HP.out.2 kk hkp
   obtain⟨p,c,rfl⟩:=zhy hsv
   have hsu:=ziM hkp
   have hle:=zoj ps (kk+1)
   have hl2:=HL.out
   have HSU:Hid (lenS ps (kk+1)=lenS ps kk+ps[kk].length):=hsu
   have hz1:(lenS ps kk:Int)+(ps[kk].length:Int)≤1048576:=by omega
   have hz2:¬(lenS ps kk:Int)+(ps[kk].length:Int)<0:=by omega
   clear hsv
   generalize ps[kk].length=pl at hcv hz1 hz2 HSU
   clear hsu hle hl2
   go_wp2
   go_roundg (n-(kk+1))
   case measure=>omega
   case rel=>exact⟨kk+1,by omega,by omega,by go_num,by rw[HSU.out];go_num,rfl⟩
  ·have hltz:¬(kk:Int)<(n:Int):=by omega
   obtain rfl:kk=n:=by omega
   have hll:lenS ps kk=FL:=by
    unfold lenS
    rw[List.take_of_length_le (by rw[HN.out];exact Nat.le_refl _)]
    exact HFL.out
   rw[hll]
   clear hll
   go_wp2_with fail
   refine cG.mono ?_
   rintro e w1 ⟨⟨v,rfl,OW⟩,b1⟩
   have hs1:=b1.size
   clear cG
   go_wp2
   go_loopg [6,8,27] kk (fun gg s6 _ s27 wr=>∃(jj:Nat) (u:Value),jj≤kk∧kk-jj≤gg∧s27=.int .i64 (jj:Int)∧s6=u∧Aside (wr.ownsRow w.heap.size 9 1 u (lenS ps jj) (stT ps jj))∧Aside (Below w.heap.size w wr))
   case atStart=>exact⟨0,v,Nat.zero_le _,by omega,rfl,rfl,(show Aside _ from OW.out),(show Aside _ from b1)⟩
   case round =>
    obtain⟨jj,u,hjj,hgj,rfl,hu,OJ,BJ⟩:=hrel
    obtain rfl:u=_:=hu.symm
    have hbs:=BJ.out.size
    by_cases hlt:jj<kk
    ·have hltz2:(jj:Int)<(kk:Int):=by omega
     have h0z:(0:Int)≤(jj:Int):=by omega
     have hkp:jj<ps.length:=by rw[HN.out];exact hlt
     obtain⟨pv,hcv,hiv⟩:=(HP.out.on BJ.out).2 jj hkp
     have hsbr:sb<wr.heap.size:=by omega
     have hsm:lenS ps (jj+1)≤1048576:=by have:=zoj ps (jj+1);have:=HL.out;omega
     have HT:Hid ((ps.take jj).flatten++ps[jj]=(ps.take (jj+1)).flatten):=by
      show _=_
      rw[List.take_succ_eq_append_getElem hkp,List.flatten_append]
      simp
     have HS:Hid (lenS ps (jj+1)=lenS ps jj+ps[jj].length):=ziM hkp
     obtain⟨p,c,rfl⟩:=zhy hiv
     have HIV:Aside (StsA wr (.slice p ps[jj].length c) ps[jj]):=hiv
     generalize ps[jj]=pj at hcv HT HS HIV
     clear hiv
     go_wp2_with (at_builtin;refine zbl rfl _ _ rfl w.heap.size u _ (ps.take jj).flatten rfl OJ.out _ pj rfl HIV.out (lenS ps (jj+1)) (stT ps (jj+1)) HS.out.symm (by rw[HT.out];rfl) hsm hbs ?_)
     intro v' w2 ho hb
     have O2:Aside (w2.ownsRow w.heap.size 9 1 v' (lenS ps (jj+1)) (stT ps (jj+1))):=ho
     have B2:Aside (Below w.heap.size w w2):=BJ.out.trans hb
     clear ho hb OJ BJ HIV
     go_wp2
     go_roundg (kk-(jj+1))
     case measure=>omega
     case rel=>exact⟨jj+1,v',by omega,by omega,by go_num,rfl,O2,B2⟩
    ·have hltz2:¬(jj:Int)<(kk:Int):=by omega
     obtain rfl:jj=kk:=by omega
     have O2:Aside (wr.ownsRow w.heap.size 9 1 u FL (stT ps jj)):=by
      show World.ownsRow _ _ _ _ _ _ _
      have:=OJ.out
      unfold lenS at this
      rw[List.take_of_length_le (by rw[HN.out];exact Nat.le_refl _),HFL.out] at this
      exact this
     have B2:=BJ.out
     clear OJ BJ
     go_wp2
     go_ret
     exact⟨⟨u,rfl,O2⟩,B2⟩
theorem zti(ps:List (List ByteArray)):stT ps ps.length=ps.flatten.map .string:=by rw[stT,List.take_length]
section
open Go.BigFrame
theorem zmI(w:World)(g:Nat)(hg:g=w.heap.size)(u v:Value)(a b:List ByteArray)(ha:StsA w u a)(hb:StsA w v b)(t:TypeId):ziO (w.alloc (.cells #[u,v] t)) g 0 [a,b]:=by
 subst hg
 have hal:=(Below.refl w.heap.size w).alloc (Nat.le_refl _) (.cells #[u,v] t)
 refine⟨by simp,fun j hj=>?_⟩
 have:j=0∨j=1:=by simp at hj;omega
 rcases this with rfl|rfl
 ·exact⟨u,by rw[World.cell?_alloc_at _ _ _ _ rfl];rfl,ha.on hal⟩
 ·exact⟨v,by rw[World.cell?_alloc_at _ _ _ _ rfl];rfl,hb.on hal⟩
def nmK(NM:List ByteArray)(l:List Ag)(kk:Nat):List Value:=(NM++(l.take kk).map (·.name)).map .string
theorem zsm(q:Qy)(lo:Nat→Prop)(wp:Option Addr)(wc:Nat)(cp:Option Addr)(cc:Nat)(np:Option Addr)(nc:Nat)(gp:Option Addr)(gc:Nat)(ap:Option Addr)(ac:Nat)(QC:Array Value)(hQ:QV QC q cp cc np nc gp gc ap ac)(w:World)(hB:QyBe w lo q wp wc cp cc np nc gp gc ap ac)(h1:q.names.length≤6)(h2:q.group.length≤6)(h3:q.aggs.length≤6) :
  Calls Tryz.prog 103 #[.agg QC] w fun e w'=>(∃v,e=.returned v∧Aside (StsA w' v (zbo q)))∧Below w.heap.size w w':=by
 have b1:=(Below.refl w.heap.size w).alloc (Nat.le_refl _) (.cells QC 34)
 obtain⟨hs,h8,h9,h10,h11,h12,h13⟩:=hQ
 clear hs h8 h11 h12
 have HAG:Aside (AgsIs w lo ap q.aggs):=hB.aggs
 have cC:=zji (w.heap.size+1) 0 2 2 [q.names,q.group] ((w.alloc (.cells QC 34)).alloc (.cells #[.slice np q.names.length nc,.slice gp q.group.length gc] 31)) rfl (zmI _ _ (by simp) _ _ _ _ (hB.names.on b1) (hB.group.on b1) _) (by simp;omega) (by decide)
 have HL0:Hid ([q.names,q.group].flatten=q.names++q.group):=by show _=_;simp
 rw[show stT [q.names,q.group] 2=[q.names,q.group].flatten.map Value.string from zti [q.names,q.group],HL0.out] at cC
 rw[List.length_append] at cC
 obtain⟨NM,hNM⟩:∃NM,q.names++q.group=NM:=⟨_,rfl⟩
 obtain⟨NA,hNA⟩:∃NA,q.aggs.length=NA:=⟨_,rfl⟩
 have HNA:Hid (q.aggs.length=NA):=hNA
 have HNM:Hid (q.names++q.group=NM):=hNM
 obtain⟨L0,hL0⟩:∃L0,q.names.length+q.group.length=L0:=⟨_,rfl⟩
 have HL:Hid (NM.length=L0):=by show _=_;rw[←hNM,List.length_append];exact hL0
 rw[hNM,hL0] at cC
 rw[hNA] at h13
 generalize q.names.length=NN at h9 cC h1 hL0
 generalize q.group.length=NG at h10 cC h2 hL0
 have hLL:L0≤12:=by omega
 have h3':NA≤6:=by omega
 clear hB hNM hNA hL0 HL0
 go_enter Tryz.func103,Tryz.ntmps103
 go_wp2_with fail
 refine cC.mono ?_
 rintro e w1 ⟨⟨v,rfl,OW⟩,b2⟩
 obtain⟨B0,hB0⟩:∃B0,((w.alloc (.cells QC 34)).alloc (.cells #[.slice np NN nc,.slice gp NG gc] 31)).heap.size=B0:=⟨_,rfl⟩
 have hB1:w.heap.size+2=B0:=by rw[←hB0];simp
 have bW:Below w.heap.size w w1:=(b1.alloc (by simp) _).trans (b2.mono (by simp;omega))
 have hs1:B0≤w1.heap.size:=by rw[←hB0];exact b2.size
 have k13:=b2.cell (p:=⟨w.heap.size,13,none⟩) (by simp;omega)
 rw[World.cell?_alloc_past _ _ _ (by simp),World.cell?_alloc_at _ _ _ _ rfl,h13] at k13
 have hl1:w.heap.size<w1.heap.size:=by omega
 rw[hB0] at OW
 have HB1:Hid (w.heap.size+2=B0):=hB1
 clear cC b1 b2 h9 h10 h13 hB0 hB1
 go_wp2
 go_loopg [3,5,15] NA (fun gg s3 _ s15 wr=>∃(kk:Nat) (u:Value),kk≤NA∧NA-kk≤gg∧s15=.int .i64 (kk:Int)∧s3=u∧Aside (wr.ownsRow B0 9 1 u (L0+kk) (nmK NM q.aggs kk))∧Aside (Below w.heap.size w wr)∧B0≤wr.heap.size)
 case atStart=>exact⟨0,v,Nat.zero_le _,by omega,rfl,rfl,(show Aside _ from (show World.ownsRow _ _ _ _ _ _ _ from by rw[nmK];simpa using OW.out)),(show Aside _ from bW),hs1⟩
 case round =>
  obtain⟨kk,u,hkk,hgk,rfl,hu,OJ,BJ,hsz⟩:=hrel
  obtain rfl:u=_:=hu.symm
  clear OW bW hs1 k13 hl1
  by_cases hlt:kk<NA
  ·have hltz:(kk:Int)<(NA:Int):=by omega
   have h0z:(0:Int)≤(kk:Int):=by omega
   have hk2:kk<q.aggs.length:=by rw[HNA.out];exact hlt
   obtain⟨ba,oa,yp,yc,rfl,hbl,-,hrg,-⟩:=zps HAG.out hk2
   have hrg2:=zdu hrg hbl BJ.out
   have HT:Hid (NM++(q.aggs.take kk).map (·.name)++[q.aggs[kk].name]=NM++(q.aggs.take (kk+1)).map (·.name)):=by
    show _=_
    rw[List.take_succ_eq_append_getElem hk2,List.map_append,List.append_assoc]
    rfl
   clear hrg
   generalize q.aggs[kk]=x at hrg2 HT
   obtain⟨what,⟨op,nm,vt,vn,vs,pos,l⟩,name⟩:=x
   simp only[Ex.op,Ex.nm,Ex.vt,Ex.vn,Ex.vs,Ex.args,Ex.pos] at hrg2 HT
   generalize l.length=NL at hrg2
   have hld:∀{ops:Array Oper} {rest:List Oper} {op':Oper} {a:Act} {Q:Exit→Act→World→Prop} (hgd:op'.guard=none) (x:Operand) (ho:op'.op=.load 92 x) (hx:a.eval x=.pointer (some ⟨ba,oa+kk*9,none⟩)),wpList Tryz.prog ops Q rest (a.put op'.dst (.agg #[.string what,.string op,.string nm,.int .i64 vt,.int .i64 vn,.string vs,.slice yp NL yc,.int .i64 pos,.string name])) wr→wpList Tryz.prog ops Q (op'::rest) a wr:=fun hgd x ho hx=>wpList_load_mid hgd 92 x ho ba (oa+kk*9) hx _ _ hrg2 Tryz.underlying92 rfl zgX
   clear hrg2
   have bA:=(Below.refl wr.heap.size wr).alloc (Nat.le_refl _) (.cells #[.string what,.string op,.string nm,.int .i64 vt,.int .i64 vn,.string vs,.slice yp NL yc,.int .i64 pos,.string name] 92)
   have hone:=zrE (wr.alloc (.cells #[.string what,.string op,.string nm,.int .i64 vt,.int .i64 vn,.string vs,.slice yp NL yc,.int .i64 pos,.string name] 92)) name (wr.heap.size+1) (by simp)
   have O2:=(OJ.out.alloc (.cells #[.string what,.string op,.string nm,.int .i64 vt,.int .i64 vn,.string vs,.slice yp NL yc,.int .i64 pos,.string name] 92)).alloc (.cells #[.string name] 9)
   have bb:=bA.alloc (by simp) (.cells #[.string name] 9)
   have BW:=BJ.out.trans (bb.mono BJ.out.size)
   obtain⟨uq,uc,rfl⟩:=zaa O2
   go_wp2_with (first|(at_builtin;refine zbl rfl _ _ rfl B0 _ _ (NM++(q.aggs.take kk).map (·.name)) rfl O2 _ [name] rfl hone (L0+(kk+1)) (nmK NM q.aggs (kk+1)) (by simp;omega) (by rw[HT.out];rfl) (by omega) (by simp;omega) ?_)|(refine hld rfl _ rfl rfl ?_))
   intro v' w2 ho hb
   have O3:Aside (w2.ownsRow B0 9 1 v' (L0+(kk+1)) (nmK NM q.aggs (kk+1))):=ho
   have B3:Aside (Below w.heap.size w w2):=BW.trans (hb.mono (by have:=HB1.out;omega))
   have hs2:B0≤w2.heap.size:=by have:=hb.size;simp at this;omega
   clear ho hb OJ BJ hone O2 hld BW bb bA
   go_wp2
   go_roundg (NA-(kk+1))
   case measure=>omega
   case rel=>exact⟨kk+1,v',by omega,by omega,by go_num,rfl,O3,B3,hs2⟩
  ·have hltz:¬(kk:Int)<(NA:Int):=by omega
   obtain rfl:kk=NA:=by omega
   have O2:Aside (StsA wr u (zbo q)):=by
    show StsA _ _ _
    have:=OJ.out
    rw[nmK,List.take_of_length_le (by rw[HNA.out];exact Nat.le_refl _),←HNM.out,List.append_assoc] at this
    exact zlJ (by rw[zbo,←List.append_assoc,List.length_append,HNM.out,HL.out,List.length_map,HNA.out]) (by omega) this
   have B2:=BJ.out
   clear OJ BJ
   go_wp2
   go_ret
   exact⟨⟨u,rfl,O2⟩,B2⟩
structure QyA(q:Qy):Prop where
 wn:(q.whr.pre 1).length≤1048576
 cn:∀x∈q.cols,(x.pre 1).length≤1048576
 an:∀a∈q.aggs,(a.arg.pre 1).length≤1048576
 ns:∀s∈zbo q,s.size≤1048576
 z1:inM q.size
 z2:inM q.slide
def OkF(q:Qy):Prop:=(q.aggs.length=0∧q.group.length=0∧q.names.length=q.cols.length∧q.cols.length≤6)∨(q.cols.length=0∧q.names.length=0∧q.group.length+q.aggs.length≤6)
theorem ztY{q:Qy}(h:formQ q=0):OkF q:=by
 rw[formQ] at h
 split at h
 ·exact absurd h (by decide)
 ·rename_i h1
  have h1:togQ q=true:=by simpa using h1
  split at h
  ·exact absurd h (by decide)
  ·split at h
   ·exact absurd h (by decide)
   ·split at h
    ·exact absurd h (by decide)
    ·rename_i h6
     rw[togQ] at h1
     split at h1
     ·simp only[Bool.and_eq_true,decide_eq_true_eq] at h1
      exact .inr ⟨h1.1,h1.2,by omega⟩
     ·simp only[Bool.and_eq_true,decide_eq_true_eq] at h1
      exact .inl ⟨h1.2.1,h1.2.2.1,h1.2.2.2,by omega⟩
theorem zcp{q:Qy}:(zbo q).length=q.names.length+(q.group.length+q.aggs.length):=by rw[zbo,List.length_append,List.length_append,List.length_map]
theorem zqr(q:Qy)(lo:Nat→Prop)(wp:Option Addr)(wc:Nat)(cp:Option Addr)(cc:Nat)(np:Option Addr)(nc:Nat)(gp:Option Addr)(gc:Nat)(ap:Option Addr)(ac:Nat)(QC:Array Value)(hQ:QV QC q cp cc np nc gp gc ap ac)(vl:Value)(zs:List Cl)(w:World)(henv:KEnv w)(haenv:AEnv w)(hB:QyBe w lo q wp wc cp cc np nc gp gc ap ac)(hcv:ColsV w vl zs)(hz:schE zs=0)(hA:QyA q)(hO:OkF q)(i:Nat)(hi:i<(zbo q).length)(T E:Int)(hR:tyAt zs q i=(T,E)) :
  Calls Tryz.prog 104 #[.agg QC,.int .i64 (i:Int),vl] w fun e w'=>e=.returned (.tuple #[.int .i64 T,errV E])∧Below w.heap.size w w':=by
 rw[zcp] at hi
 obtain⟨hz1,hz2,-⟩:=zde hz
 rcases hO with ⟨h1,h2,h3,h4⟩|⟨h1,h2,h3⟩
 ·have hic:i<q.cols.length:=by omega
  exact zjN q lo wp wc cp cc np nc gp gc ap ac QC hQ vl zs w henv hB hcv i hic (hA.cn _ (List.getElem_mem hic)) T E hR
 ·by_cases hg:i<q.group.length
  ·exact zha q lo wp wc cp cc np nc gp gc ap ac QC hQ vl zs w hB hcv hz1 hz2 i hg h1 (by omega) T E hR
  ·obtain⟨k,rfl⟩:∃k,i=q.group.length+k:=⟨i-q.group.length,by omega⟩
   have hk:k<q.aggs.length:=by omega
   exact zjW q lo wp wc cp cc np nc gp gc ap ac QC hQ vl zs w henv haenv hB hcv k hk h1 (by omega) (hA.an _ (List.getElem_mem hk)) T E hR
theorem zqn{zs:List Cl}{q:Qy}{k:Nat}{out:List Cl}{ns:List ByteArray}(h:k<ns.length):clQ zs q k out (ns.drop k)=if (tyAt zs q k).2≠0 then ([],(tyAt zs q k).2) else clQ zs q (k+1) (out++[(ns[k],(tyAt zs q k).1)]) (ns.drop (k+1)):=by
 rw[List.drop_eq_getElem_cons h,clQ]
theorem znC(q:Qy)(lo:Nat→Prop)(wp:Option Addr)(wc:Nat)(cp:Option Addr)(cc:Nat)(np:Option Addr)(nc:Nat)(gp:Option Addr)(gc:Nat)(ap:Option Addr)(ac:Nat)(QC:Array Value)(hQ:QV QC q cp cc np nc gp gc ap ac)(vl:Value)(zs:List Cl)(w:World)(henv:KEnv w)(haenv:AEnv w)(hB:QyBe w lo q wp wc cp cc np nc gp gc ap ac)(hcv:ColsV w vl zs)(hz:schE zs=0)(hA:QyA q)(hO:OkF q)(RL:List Cl)(RE:Int)(hR:clQ zs q 0 [] (zbo q)=(RL,RE)) :
  Calls Tryz.prog 69 #[.agg QC,vl] w fun e w'=>(∃u,e=.returned (.tuple #[u,errV RE])∧Aside (ColsV w' u RL))∧Below w.heap.size w w':=by
 have b1:=(Below.refl w.heap.size w).alloc (Nat.le_refl _) (.cells QC 34)
 have hn6:(zbo q).length≤6:=by rw[zcp];rcases hO with h|h<;>omega
 obtain⟨z1,z2,rfl⟩:=zaO hcv
 have cN:=zsm q lo wp wc cp cc np nc gp gc ap ac QC hQ _ (hB.on b1) (by rw[zcp] at hn6;omega) (by rw[zcp] at hn6;omega) (by rw[zcp] at hn6;omega)
 have cT:=fun W (hb:Below w.heap.size w W)=>zqr q lo wp wc cp cc np nc gp gc ap ac QC hQ _ zs W (henv.on hb) (haenv.on hb) (hB.on hb) (hcv.on hb) hz hA hO
 have hs14:(Tryz.prog.info? 34).map (·.size)=some QC.size:=by rw[hQ.size];exact zht
 have hns:=hA.ns
 have hld:∀W,Below (w.heap.size+1) (w.alloc (.cells QC 34)) W→∀{ops:Array Oper} {rest:List Oper} {op:Oper} {a:Act} {Q:Exit→Act→World→Prop} (hgd:op.guard=none) (x:Operand) (ho:op.op=.load 34 x) (hx:a.eval x=.pointer (some ⟨w.heap.size,0,none⟩)),wpList Tryz.prog ops Q rest (a.put op.dst (.agg QC)) W→wpList Tryz.prog ops Q (op::rest) a W:=fun W hb=>fun hgd x ho hx=>wpList_load_row hgd 34 x ho w.heap.size hx _ QC _ _ (by rw[hb.block _ (Nat.lt_succ_self _)];exact zaW w QC _) Tryz.underlying34 rfl hs14
 clear hQ hB hcv henv haenv hA hO hs14 hz
 have HR:Hid (clQ zs q 0 [] (zbo q)=(RL,RE)):=hR
 generalize zs.length=NZ at cT ⊢
 obtain⟨ns,hns0⟩:∃ns,zbo q=ns:=⟨_,rfl⟩
 rw[hns0] at cN cT hns hn6 HR
 clear hR hns0
 obtain⟨N,hN⟩:∃N,ns.length=N:=⟨_,rfl⟩
 have HN:Hid (ns.length=N):=hN
 rw[hN] at hn6 cT
 have HT:=(show Aside _ from cT)
 clear hN cT
 go_enter Tryz.func69,Tryz.ntmps69
 go_wp2_with (refine hld _ (Below.refl _ _) rfl _ rfl rfl ?_)
 go_wp2_with fail
 refine cN.mono ?_
 rintro e w1 ⟨⟨nv,rfl,hST⟩,b2⟩
 obtain⟨np',nc',rfl⟩:=zhy hST.out
 rw[HN.out] at hST
 rw[HN.out]
 have hs1:w.heap.size+1≤w1.heap.size:=by have:=b2.size;simpa using this
 have BQ1:Below (w.heap.size+1) (w.alloc (.cells QC 34)) w1:=b2.mono (by simp)
 have HS1:Aside (StsA w1 (.slice np' N nc') ns):=hST.out
 clear cN hST b2
 have hnz:(N:Int)≤6:=by omega
 go_wp2
 go_loopg [6,7,8,9,10,14] N (fun gg s6 _ _ _ _ s14 wr=>∃(kk:Nat) (out:List Cl) (u:Value),kk≤N∧N-kk≤gg∧s14=.int .i64 (kk:Int)∧s6=u∧Aside (wr.ownsRow w1.heap.size 24 2 u kk (colC out))∧Aside (Below w1.heap.size w1 wr)∧Hid (out.length=kk)∧Hid (∀z∈out,z.1.size≤maxLen)∧Hid (clQ zs q kk out (ns.drop kk)=(RL,RE)))
 case atStart=>exact⟨0,[],.slice none 0 0,Nat.zero_le _,by omega,rfl,rfl,(show Aside _ from World.ownsRow_nil _ _ _ _),(show Aside _ from Below.refl _ _),(show Hid _ from rfl),(show Hid _ from fun z hz=>by cases hz),HR⟩
 case round =>
  obtain⟨kk,out,u,hkk,hgk,rfl,hu,OJ,BJ,HOL,HOS,HC⟩:=hrel
  obtain rfl:u=_:=hu.symm
  clear HR
  have hbs:=BJ.out.size
  by_cases hlt:kk<N
  ·have hltz:(kk:Int)<(N:Int):=by omega
   have h0z:(0:Int)≤(kk:Int):=by omega
   have hk2:kk<ns.length:=by rw[HN.out];exact hlt
   obtain⟨nb,no,rfl,hnl,hnc⟩:=zeI HS1.out hk2
   have hcell:=hnc kk hk2
   rw[←BJ.out.cell (p:=⟨nb,no+kk,none⟩) hnl] at hcell
   have hnl2:nb<wr.heap.size:=by omega
   have BQ:Below (w.heap.size+1) (w.alloc (.cells QC 34)) wr:=BQ1.trans (BJ.out.mono hs1)
   have Bw:Below w.heap.size w wr:=b1.trans (BQ.mono (by omega))
   obtain⟨T1,E1,hty⟩:∃T1 E1,tyAt zs q kk=(T1,E1):=⟨_,_,rfl⟩
   have cT:=HT.out wr Bw kk hlt T1 E1 hty
   have HC2:Hid ((if E1≠0 then ([],E1) else clQ zs q (kk+1) (out++[(ns[kk],T1)]) (ns.drop (kk+1)))=(RL,RE)):=by
    show _=_
    rw[←HC.out,zqn hk2,hty]
   have hsk:ns[kk].size≤1048576:=hns _ (List.getElem_mem hk2)
   clear hnc HC hty HS1
   generalize ns[kk]=nm at hcell HC2 hsk
   by_cases hE:E1=0
   ·subst hE
    rw[errV,if_pos rfl] at cT
    have HC3:Hid (clQ zs q (kk+1) (out++[(nm,T1)]) (ns.drop (kk+1))=(RL,RE)):=by
     show _=_
     rw[←HC2.out,if_neg (by simp)]
    clear HC2
    obtain⟨uq,uc,rfl⟩:=zaa OJ.out
    go_wp2_with (refine hld _ BQ rfl _ rfl rfl ?_)
    go_wp2_with fail
    refine cT.mono ?_
    rintro e w2 ⟨rfl,b3⟩
    have cC:=zbz nm w2 (by omega)
    clear hld cT
    go_wp2_with fail
    refine cC.mono ?_
    rintro e w3 ⟨rfl,b4⟩
    have hs2:=b3.size
    have hs3:=b4.size
    have b5:Below wr.heap.size wr w3:=b3.trans (b4.mono hs2)
    have O2:=(zab OJ.out b5).alloc (.cells #[.string nm,.int .i64 T1] 24)
    have B5:Below w1.heap.size w1 (w3.alloc (.cells #[.string nm,.int .i64 T1] 24)):=(BJ.out.trans (b5.mono hbs)).alloc (by omega) _
    go_wp2_with (at_builtin;refine zcU rfl _ _ rfl w1.heap.size _ kk out rfl O2 w3.heap.size 1 nm T1 rfl (by rw[World.cell?_alloc_at _ _ _ _ rfl];rfl) (by rw[World.cell?_alloc_at _ _ _ _ rfl];rfl) (colC (out++[(nm,T1)])) rfl (by omega) (by simp;omega) ?_)
    intro v' w4 ho hb
    have O3:Aside (w4.ownsRow w1.heap.size 24 2 v' (kk+1) (colC (out++[(nm,T1)]))):=ho
    have B6:Aside (Below w1.heap.size w1 w4):=B5.trans hb
    have HO2:Hid ((out++[(nm,T1)]).length=kk+1):=by show _=_;rw[List.length_append,HOL.out];rfl
    have HO3:Hid (∀z∈out++[(nm,T1)],z.1.size≤maxLen):=by
     intro z hz
     rcases List.mem_append.1 hz with h|h
     ·exact HOS.out z h
     ·rw[List.mem_singleton.1 h];exact Nat.le_trans hsk (by decide)
    clear ho hb OJ BJ O2 B5 b5 cC HOL HOS
    go_wp2
    go_roundg (N-(kk+1))
    case measure=>omega
    case rel=>exact⟨kk+1,out++[(nm,T1)],v',by omega,by omega,by go_num,rfl,O3,B6,HO2,HO3,HC3⟩
   ·rw[errV,if_neg hE] at cT
    have he:=HC2.out
    rw[if_pos hE] at he
    obtain⟨rfl,rfl⟩:=Prod.mk.inj he
    go_wp2_with (refine hld _ BQ rfl _ rfl rfl ?_)
    go_wp2_with fail
    refine cT.mono ?_
    rintro e w2 ⟨rfl,b3⟩
    clear hld HT cT
    go_wp2
    go_ret2
    refine⟨⟨_,?_,(show Aside _ from ⟨none,0,rfl,.inl rfl⟩)⟩,Bw.trans (b3.mono (by omega))⟩
    rw[errV,if_neg hE]
    rfl
  ·have hltz:¬(kk:Int)<(N:Int):=by omega
   obtain rfl:kk=N:=by omega
   have he:=HC.out
   rw[List.drop_eq_nil_of_le (by rw[HN.out];exact Nat.le_refl _),clQ] at he
   obtain⟨rfl,rfl⟩:=Prod.mk.inj he
   have O2:Aside (ColsV wr u out):=zke HOL.out HOS.out OJ.out
   have B2:Below w.heap.size w wr:=b1.trans ((BQ1.trans (BJ.out.mono hs1)).mono (by omega))
   clear OJ BJ HT hld HC he
   go_wp2
   go_ret2
   refine⟨⟨u,?_,O2⟩,B2⟩
   rw[errV,if_pos rfl]
   rfl
theorem zrJ(q:Qy)(lo:Nat→Prop)(v vl:Value)(zs:List Cl)(w:World)(henv:KEnv w)(haenv:AEnv w)(hq:QyIn w lo v q)(hcv:ColsV w vl zs)(hA:QyA q)(RL:List Cl)(RE:Int)(hR:chQ zs q=(RL,RE)) :
  Calls Tryz.prog 38 #[v,vl] w fun e w'=>(∃u,e=.returned (.tuple #[u,errV RE])∧Aside (ColsV w' u RL))∧Below w.heap.size w w':=by
 obtain⟨wp,wc,cp,cc,np,nc,gp,gc,ap,ac,rfl,hB⟩:=hq
 obtain⟨z1,z2,rfl⟩:=zaO hcv
 have hQ:=qv_of q wp wc cp cc np nc gp gc ap ac
 have hW:∀(j:Nat) (v:Value),([.string q.whr.op,.string q.whr.nm,.int .i64 q.whr.vt,.int .i64 q.whr.vn,.string q.whr.vs,.slice wp q.whr.args.length wc,.int .i64 q.whr.pos]:List Value)[j]?=some v→(qyC q wp wc cp cc np nc gp gc ap ac)[1+j]?=some v:=fun j v hv=>by
  have hj:j<7:=by have:=(List.getElem?_eq_some_iff.1 hv).1;simpa using this
  have:j=0∨j=1∨j=2∨j=3∨j=4∨j=5∨j=6:=by omega
  rcases this with rfl|rfl|rfl|rfl|rfl|rfl|rfl
  all_goals (simp at hv;subst hv;rfl)
 generalize qyC q wp wc cp cc np nc gp gc ap ac=QC at hQ hW ⊢
 have b1:=(Below.refl w.heap.size w).alloc (Nat.le_refl _) (.cells QC 34)
 have hs14:(Tryz.prog.info? 34).map (·.size)=some QC.size:=by rw[hQ.size];exact zht
 have hblk:∀W,Below (w.heap.size+1) (w.alloc (.cells QC 34)) W→W.heap[w.heap.size]?=some (.cells QC 34 (0,0)):=fun W hb=>by rw[hb.block _ (Nat.lt_succ_self _)];exact zaW w QC _
 have hld:∀W,Below (w.heap.size+1) (w.alloc (.cells QC 34)) W→∀{ops:Array Oper} {rest:List Oper} {op:Oper} {a:Act} {Q:Exit→Act→World→Prop} (hgd:op.guard=none) (x:Operand) (ho:op.op=.load 34 x) (hx:a.eval x=.pointer (some ⟨w.heap.size,0,none⟩)),wpList Tryz.prog ops Q rest (a.put op.dst (.agg QC)) W→wpList Tryz.prog ops Q (op::rest) a W:=fun W hb=>fun hgd x ho hx=>wpList_load_row hgd 34 x ho w.heap.size hx _ QC _ _ (hblk W hb) Tryz.underlying34 rfl hs14
 have hlw:∀W,Below (w.heap.size+1) (w.alloc (.cells QC 34)) W→∀{ops:Array Oper} {rest:List Oper} {op:Oper} {a:Act} {Q:Exit→Act→World→Prop} (hgd:op.guard=none) (x:Operand) (ho:op.op=.load 30 x) (hx:a.eval x=.pointer (some ⟨w.heap.size,1,none⟩)),wpList Tryz.prog ops Q rest (a.put op.dst (exV q.whr wp wc)) W→wpList Tryz.prog ops Q (op::rest) a W:=fun W hb=>fun hgd x ho hx=>wpList_load_mid hgd 30 x ho w.heap.size 1 hx _ _ (fun j v hv=>by
  have:=hW j v hv
  simp only[World.cell?,hblk W hb]
  exact this) Tryz.underlying30 rfl zaM
 have cS:=fun W (hb:Below w.heap.size w W)=>ziJ _ zs W (henv.tw.on hb) (hcv.on hb)
 have cF:=fun W=>zjf QC q cp cc np nc gp gc ap ac W hQ hA.z1 hA.z2 hB.clen (by obtain⟨_,_,_,⟨_,h⟩,_⟩:=hB.group;exact h) hB.aggs.1 _ rfl
 have cW:=fun W (hb:Below w.heap.size w W)=>zhv q.whr lo _ _ zs W (henv.on hb) (hB.whr.on hb) hA.wn (hcv.on hb) _ rfl
 have cC:=fun W (hb:Below w.heap.size w W) h1 h2=>znC q lo wp wc cp cc np nc gp gc ap ac QC hQ _ zs W (henv.on hb) (haenv.on hb) (hB.on hb) (hcv.on hb) h1 hA h2
 have cS2:=fun W (hb:Below w.heap.size w W) v zs (h:ColsV W v zs)=>ziJ v zs W (henv.tw.on hb) h
 rw[chQ] at hR
 have hform:formQ q=0→OkF q:=ztY
 clear hQ hB hcv henv haenv hA hs14 hblk hW
 generalize exV q.whr wp wc=XV at cW hlw
 generalize zs.length=NZ at cS cW cC ⊢
 generalize schE zs=SE at cS cC hR
 generalize whQ zs q.whr=WE at cW hR
 obtain⟨CL,CE,hcl⟩:∃CL CE,clQ zs q 0 [] (zbo q)=(CL,CE):=⟨_,_,rfl⟩
 rw[hcl] at hR
 have cC2:=fun W hb h1 h2=>cC W hb h1 h2 CL CE hcl
 clear cC hcl
 generalize formQ q=FE at cF hR hform
 simp only at hR
 by_cases h1:SE=0
 ·subst h1
  rw[if_neg (by simp)] at hR
  simp only[errV,if_true] at cS
  by_cases h2:FE=0
  ·subst h2
   rw[if_neg (by simp)] at hR
   simp only[errV,if_true] at cF
   by_cases h3:WE=0
   ·subst h3
    rw[if_neg (by simp)] at hR
    simp only[errV,if_true] at cW
    by_cases h4:CE=0
    ·subst h4
     rw[if_neg (by simp)] at hR
     have cC3:=cC2
     clear cC2
     have cC2:=cC3
     clear cC3
     simp only[errV,if_true] at cC2
     by_cases h5:schE CL=0
     ·rw[if_neg (by rw[h5];simp)] at hR
      obtain⟨rfl,rfl⟩:=Prod.mk.inj hR
      go_enter Tryz.func38,Tryz.ntmps38
      go_wp2_with fail
      refine (cS _ b1).mono ?_
      rintro e w1 ⟨rfl,b2⟩
      have hs1:w.heap.size+1≤w1.heap.size:=by have:=b2.size;simpa using this
      have BQ1:Below (w.heap.size+1) (w.alloc (.cells QC 34)) w1:=b2.mono (by simp)
      go_wp2_with (refine hld _ BQ1 rfl _ rfl rfl ?_)
      go_wp2_with fail
      refine (cF _).mono ?_
      rintro e w2 ⟨rfl,b3⟩
      have hs2:w.heap.size+1≤w2.heap.size:=by have:=b3.size;omega
      have BQ2:Below (w.heap.size+1) (w.alloc (.cells QC 34)) w2:=BQ1.trans (b3.mono hs1)
      go_wp2_with (refine hlw _ BQ2 rfl _ rfl rfl ?_)
      go_wp2_with fail
      refine (cW _ (b1.trans (BQ2.mono (by omega)))).mono ?_
      rintro e w3 ⟨rfl,b4⟩
      have hs3:w.heap.size+1≤w3.heap.size:=by have:=b4.size;omega
      have BQ3:Below (w.heap.size+1) (w.alloc (.cells QC 34)) w3:=BQ2.trans (b4.mono hs2)
      go_wp2_with (refine hld _ BQ3 rfl _ rfl rfl ?_)
      go_wp2_with fail
      refine (cC2 _ (b1.trans (BQ3.mono (by omega))) (by first|rfl|trivial) (hform (by first|rfl|trivial))).mono ?_
      rintro e w4 ⟨⟨u,rfl,HU⟩,b5⟩
      have hs4:w.heap.size+1≤w4.heap.size:=by have:=b5.size;omega
      have BQ4:Below (w.heap.size+1) (w.alloc (.cells QC 34)) w4:=BQ3.trans (b5.mono hs3)
      have H5:Hid (schE CL=0):=h5
      have c5:=cS2 w4 (b1.trans (BQ4.mono (by omega))) u CL HU.out
      rw[H5.out,errV,if_pos rfl] at c5
      go_wp2_with fail
      refine c5.mono ?_
      rintro e w5 ⟨rfl,b6⟩
      have BQ5:Below (w.heap.size+1) (w.alloc (.cells QC 34)) w5:=BQ4.trans (b6.mono hs4)
      clear hld hlw cS cF cW cC2 cS2
      go_wp2
      go_ret2
      refine⟨⟨u,?_,(show Aside _ from HU.out.on b6)⟩,b1.trans (BQ5.mono (by omega))⟩
      rw[errV,if_pos rfl]
      rfl
     ·rw[if_pos h5] at hR
      obtain⟨rfl,rfl⟩:=Prod.mk.inj hR
      go_enter Tryz.func38,Tryz.ntmps38
      go_wp2_with fail
      refine (cS _ b1).mono ?_
      rintro e w1 ⟨rfl,b2⟩
      have hs1:w.heap.size+1≤w1.heap.size:=by have:=b2.size;simpa using this
      have BQ1:Below (w.heap.size+1) (w.alloc (.cells QC 34)) w1:=b2.mono (by simp)
      go_wp2_with (refine hld _ BQ1 rfl _ rfl rfl ?_)
      go_wp2_with fail
      refine (cF _).mono ?_
      rintro e w2 ⟨rfl,b3⟩
      have hs2:w.heap.size+1≤w2.heap.size:=by have:=b3.size;omega
      have BQ2:Below (w.heap.size+1) (w.alloc (.cells QC 34)) w2:=BQ1.trans (b3.mono hs1)
      go_wp2_with (refine hlw _ BQ2 rfl _ rfl rfl ?_)
      go_wp2_with fail
      refine (cW _ (b1.trans (BQ2.mono (by omega)))).mono ?_
      rintro e w3 ⟨rfl,b4⟩
      have hs3:w.heap.size+1≤w3.heap.size:=by have:=b4.size;omega
      have BQ3:Below (w.heap.size+1) (w.alloc (.cells QC 34)) w3:=BQ2.trans (b4.mono hs2)
      go_wp2_with (refine hld _ BQ3 rfl _ rfl rfl ?_)
      go_wp2_with fail
      refine (cC2 _ (b1.trans (BQ3.mono (by omega))) (by first|rfl|trivial) (hform (by first|rfl|trivial))).mono ?_
      rintro e w4 ⟨⟨u,rfl,HU⟩,b5⟩
      have hs4:w.heap.size+1≤w4.heap.size:=by have:=b5.size;omega
      have BQ4:Below (w.heap.size+1) (w.alloc (.cells QC 34)) w4:=BQ3.trans (b5.mono hs3)
      have c5:=cS2 w4 (b1.trans (BQ4.mono (by omega))) u CL HU.out
      rw[errV,if_neg h5] at c5
      go_wp2_with fail
      refine c5.mono ?_
      rintro e w5 ⟨rfl,b6⟩
      have BQ5:Below (w.heap.size+1) (w.alloc (.cells QC 34)) w5:=BQ4.trans (b6.mono hs4)
      clear hld hlw cS cF cW cC2 cS2
      go_wp2
      go_ret2
      refine⟨⟨_,?_,(show Aside _ from ⟨none,0,rfl,.inl rfl⟩)⟩,b1.trans (BQ5.mono (by omega))⟩
      rw[errV,if_neg h5]
      rfl
    ·rw[if_pos h4] at hR
     simp only[errV,if_neg h4] at cC2
     obtain⟨rfl,rfl⟩:=Prod.mk.inj hR
     go_enter Tryz.func38,Tryz.ntmps38
     go_wp2_with fail
     refine (cS _ b1).mono ?_
     rintro e w1 ⟨rfl,b2⟩
     have hs1:w.heap.size+1≤w1.heap.size:=by have:=b2.size;simpa using this
     have BQ1:Below (w.heap.size+1) (w.alloc (.cells QC 34)) w1:=b2.mono (by simp)
     go_wp2_with (refine hld _ BQ1 rfl _ rfl rfl ?_)
     go_wp2_with fail
     refine (cF _).mono ?_
     rintro e w2 ⟨rfl,b3⟩
     have hs2:w.heap.size+1≤w2.heap.size:=by have:=b3.size;omega
     have BQ2:Below (w.heap.size+1) (w.alloc (.cells QC 34)) w2:=BQ1.trans (b3.mono hs1)
     go_wp2_with (refine hlw _ BQ2 rfl _ rfl rfl ?_)
     go_wp2_with fail
     refine (cW _ (b1.trans (BQ2.mono (by omega)))).mono ?_
     rintro e w3 ⟨rfl,b4⟩
     have hs3:w.heap.size+1≤w3.heap.size:=by have:=b4.size;omega
     have BQ3:Below (w.heap.size+1) (w.alloc (.cells QC 34)) w3:=BQ2.trans (b4.mono hs2)
     go_wp2_with (refine hld _ BQ3 rfl _ rfl rfl ?_)
     go_wp2_with fail
     refine (cC2 _ (b1.trans (BQ3.mono (by omega))) (by first|rfl|trivial) (hform (by first|rfl|trivial))).mono ?_
     rintro e w4 ⟨⟨u,rfl,HU⟩,b5⟩
     have hs4:w.heap.size+1≤w4.heap.size:=by have:=b5.size;omega
     have BQ4:Below (w.heap.size+1) (w.alloc (.cells QC 34)) w4:=BQ3.trans (b5.mono hs3)
     clear hld hlw cS cF cW cC2 cS2
     go_wp2
     go_ret2
     refine⟨⟨_,?_,(show Aside _ from ⟨none,0,rfl,.inl rfl⟩)⟩,b1.trans (BQ4.mono (by omega))⟩
     rw[errV,if_neg h4]
     rfl
   ·rw[if_pos h3] at hR
    simp only[errV,if_neg h3] at cW
    obtain⟨rfl,rfl⟩:=Prod.mk.inj hR
    go_enter Tryz.func38,Tryz.ntmps38
    go_wp2_with fail
    refine (cS _ b1).mono ?_
    rintro e w1 ⟨rfl,b2⟩
    have hs1:w.heap.size+1≤w1.heap.size:=by have:=b2.size;simpa using this
    have BQ1:Below (w.heap.size+1) (w.alloc (.cells QC 34)) w1:=b2.mono (by simp)
    go_wp2_with (refine hld _ BQ1 rfl _ rfl rfl ?_)
    go_wp2_with fail
    refine (cF _).mono ?_
    rintro e w2 ⟨rfl,b3⟩
    have hs2:w.heap.size+1≤w2.heap.size:=by have:=b3.size;omega
    have BQ2:Below (w.heap.size+1) (w.alloc (.cells QC 34)) w2:=BQ1.trans (b3.mono hs1)
    go_wp2_with (refine hlw _ BQ2 rfl _ rfl rfl ?_)
    go_wp2_with fail
    refine (cW _ (b1.trans (BQ2.mono (by omega)))).mono ?_
    rintro e w3 ⟨rfl,b4⟩
    have hs3:w.heap.size+1≤w3.heap.size:=by have:=b4.size;omega
    have BQ3:Below (w.heap.size+1) (w.alloc (.cells QC 34)) w3:=BQ2.trans (b4.mono hs2)
    clear hld hlw cS cF cW cC2 cS2
    go_wp2
    go_ret2
    refine⟨⟨_,?_,(show Aside _ from ⟨none,0,rfl,.inl rfl⟩)⟩,b1.trans (BQ3.mono (by omega))⟩
    rw[errV,if_neg h3]
    rfl
  ·rw[if_pos h2] at hR
   simp only[errV,if_neg h2] at cF
   obtain⟨rfl,rfl⟩:=Prod.mk.inj hR
   go_enter Tryz.func38,Tryz.ntmps38
   go_wp2_with fail
   refine (cS _ b1).mono ?_
   rintro e w1 ⟨rfl,b2⟩
   have hs1:w.heap.size+1≤w1.heap.size:=by have:=b2.size;simpa using this
   have BQ1:Below (w.heap.size+1) (w.alloc (.cells QC 34)) w1:=b2.mono (by simp)
   go_wp2_with (refine hld _ BQ1 rfl _ rfl rfl ?_)
   go_wp2_with fail
   refine (cF _).mono ?_
   rintro e w2 ⟨rfl,b3⟩
   have hs2:w.heap.size+1≤w2.heap.size:=by have:=b3.size;omega
   have BQ2:Below (w.heap.size+1) (w.alloc (.cells QC 34)) w2:=BQ1.trans (b3.mono hs1)
   clear hld hlw cS cF cW cC2 cS2
   go_wp2
   go_ret2
   refine⟨⟨_,?_,(show Aside _ from ⟨none,0,rfl,.inl rfl⟩)⟩,b1.trans (BQ2.mono (by omega))⟩
   rw[errV,if_neg h2]
   rfl
 ·rw[if_pos h1] at hR
  simp only[errV,if_neg h1] at cS
  obtain⟨rfl,rfl⟩:=Prod.mk.inj hR
  go_enter Tryz.func38,Tryz.ntmps38
  go_wp2_with fail
  refine (cS _ b1).mono ?_
  rintro e w1 ⟨rfl,b2⟩
  have hs1:w.heap.size+1≤w1.heap.size:=by have:=b2.size;simpa using this
  have BQ1:Below (w.heap.size+1) (w.alloc (.cells QC 34)) w1:=b2.mono (by simp)
  clear hld hlw cS cF cW cC2 cS2
  go_wp2
  go_ret2
  refine⟨⟨_,?_,(show Aside _ from ⟨none,0,rfl,.inl rfl⟩)⟩,b1.trans (BQ1.mono (by omega))⟩
  rw[errV,if_neg h1]
  rfl
end
def slS:ByteArray:=⟨#[115,101,108,101,99,116,32,99,111,117,110,116,32,97,115,32,110,32,102,114,111,109,32,116,32,103,114,111,117,112,32,98,121,32,97,116,32,119,105,110,100,111,119,32,53]⟩
def slQ:Qy:=⟨⟨#[116]⟩,ex0,[],[],[⟨#[97,116]⟩],5,5,[⟨⟨#[99,111,117,110,116]⟩,ex0,⟨#[110]⟩⟩]⟩
theorem zvl:(zaC slS.data.toList).2=(0,0):=by kernel_rfl
theorem zuf:qU (zaC slS.data.toList).1=(some slQ,[]):=by kernel_rfl
theorem zuW:(exsQ slQ).any ckB=false:=by
 have h1:=zvb
 simp[exsQ,slQ,h1]
theorem zqq:qpC slS.data.toList=(slQ,0,0):=zos (R:=(zaC slS.data.toList).1) (by rw[←zvl]) zuf zuW
theorem zpw:chQ slL slQ=([(⟨#[97,116]⟩,1),(⟨#[110]⟩,1)],0):=by kernel_rfl
end Go.Proofs.YtopghagjmdbglaaGreatDoor
