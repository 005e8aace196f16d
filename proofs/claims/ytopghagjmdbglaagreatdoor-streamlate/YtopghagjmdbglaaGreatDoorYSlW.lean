/-
  SlW.
-/
import Derived.Test.YtopghagjmdbglaaGreatDoorGyBo
import Derived.Test.YtopghagjmdbglaaGreatDoorGyAm
namespace Go.Proofs.YtopghagjmdbglaaGreatDoor
open Go.RowKit
set_option linter.unusedVariables false
set_option linter.unusedSimpArgs false
set_option maxHeartbeats 8000000
section
open Go.BigFrame
theorem in_sl(n:Int)(w:World):Calls Tryz.prog 7 #[.int .i64 n] w fun e w'=>e=.returned (.agg #[.int .i64 1,.int .i64 n,.string ⟨#[]⟩])∧Below w.heap.size w w':=by
 go_enter Tryz.func7,Tryz.ntmps7
 go_wp2
 refine bodyPost_ret (v:=.agg #[.int .i64 1,.int .i64 n,.string ⟨#[]⟩]) (by simp[results,Tryz.results7,go_sem]) rfl ⟨rfl,?_⟩
 repeat (first|exact Below.refl _ _|(refine Below.setCell ?_ (by simp) _)|(refine Below.alloc ?_ (by simp;omega) _)|(refine Below.alloc ?_ (by simp) _))
theorem ld14S{W:World}{b:Nat}{QC:Array Value}(hq:QC.size=14)(X:Blk W b QC 34){ops:Array Oper}{rest:List Oper}{op:Oper}{a:Act}{Q:Exit→Act→World→Prop}(hgd:op.guard=none)(x:Operand)(ho:op.op=.load 34 x)(hx:a.eval x=.pointer (some ⟨b,0,none⟩))(h:wpList Tryz.prog ops Q rest (a.put op.dst (.agg QC)) W):wpList Tryz.prog ops Q (op::rest) a W:=by
 refine wpList_load_mid (P:=Tryz.prog) hgd 34 x ho b 0 hx QC.toList _ (fun j v hv=>by rw[X.cell,Nat.zero_add];simpa using hv) Tryz.underlying34 rfl (by rw[zey,Array.length_toList,hq]) ?_
 rw[Array.toArray_toList]
 exact h
def SlLp(w WL:World)(x y:Sp)(kk:Nat)(A:Int)(W:World):Prop:=(∃r1 r2 st n1 n2,SlIv WL (slS0 x y) x y r1 r2 st st n1 n2 W∧OkSt [1] (20*kk) 5 st∧st.1≤A∧(0≤r1∧r1≤2*kk)∧(0≤r2∧r2≤2*kk))∧(0≤A∧A≤1000*kk)∧Below w.heap.size w W
set_option maxHeartbeats 40000000 in
set_option maxRecDepth 20000 in
theorem zof(tq:Option Addr)(tn tc:Nat)(ts:List Int)(late:Int)(w:World)(henv:KEnv w)(haenv:AEnv w)(hsg:SG w)(hn:ts.length=tn)(hnm:tn≤maxLen)(hts:zpm w tq ts) :
  Calls Tryz.prog 3 #[.slice tq tn tc,.int .i64 late] w fun e w'=>e=.returned (.bool true)∧Below w.heap.size w w':=by
 have b1:=alB w (.cells #[.string ⟨#[97,116]⟩,.int .i64 1] 24)
 have k1:=zab w #[.string ⟨#[97,116]⟩,.int .i64 1] 24
 have cP:=zku henv haenv hsg _ b1
 rw[slS] at cP
 have HENV:Aside (KEnv w):=henv
 have HAENV:Aside (AEnv w):=haenv
 have HTS:Aside _:=hts
 have HTN:Hid (ts.length=tn):=hn
 have htz:(tn:Int)≤9223372036854775807:=by unfold maxLen at hnm;omega
 clear henv haenv hsg hts hn
 go_enter Tryz.func3,Tryz.ntmps3
 go_wp2_with fail
 refine cP.mono ?_
 rintro e w3 ⟨⟨PC,rfl,hP14,hP1,HPB,HP⟩,b3⟩
 have B3:Below w.heap.size w w3:=b1.trans (b3.mono b1.size)
 have hz3:w.heap.size+1≤w3.heap.size:=by have:=b3.size;simpa using this
 have K3:=k1.on b3
 have bV:Below w3.heap.size w3 ((w3.alloc (.cells q0D 34)).alloc (.cells #[.int .i64 0,.int .i64 0] 37)):=(alB w3 _).alloc (by simp) _
 have XV:Blk ((w3.alloc (.cells q0D 34)).alloc (.cells #[.int .i64 0,.int .i64 0] 37)) w3.heap.size q0D 34:=(zab w3 _ _).on (alB _ _)
 have YV:Blk ((w3.alloc (.cells q0D 34)).alloc (.cells #[.int .i64 0,.int .i64 0] 37)) (w3.heap.size+1) #[.int .i64 0,.int .i64 0] 37:=by
  have:=zab (w3.alloc (.cells q0D 34)) #[.int .i64 0,.int .i64 0] 37
  rwa [show (w3.alloc (.cells q0D 34)).heap.size=w3.heap.size+1 by simp] at this
 obtain⟨W9,h9⟩:∃W9,((w3.alloc (.cells q0D 34)).alloc (.cells #[.int .i64 0,.int .i64 0] 37)).setCells w3.heap.size 0 PC.toList=W9:=⟨_,rfl⟩
 have hst:=fun {ops:Array Oper} {rest:List Oper} {op:Oper} {a:Act} {Q:Exit→Act→World→Prop}=>st14 (ops:=ops) (rest:=rest) (op:=op) (a:=a) (Q:=Q) XV rfl hP14 hP1 W9 h9
 have X9:Blk W9 w3.heap.size PC 34:=HPB.out _ _ _ XV h9
 have Y9:Blk W9 (w3.heap.size+1) #[.int .i64 0,.int .i64 0] 37:=by rw[←h9];exact YV.keep (zbE _ _ _ _ (by omega))
 have b9:Below w3.heap.size w3 W9:=by rw[←h9];exact zbt (Nat.le_refl _) _ _ _ bV
 have c0:W9.cell? ⟨w3.heap.size+1,0,none⟩=some (.int .i64 0):=Y9.cell 0
 have c1:W9.cell? ⟨w3.heap.size+1,1,none⟩=some (.int .i64 0):=Y9.cell 1
 have f0:=Y9.frozen 0
 have f1:=Y9.frozen 1
 have l9:=Y9.lt
 have b10:Below w3.heap.size w3 ((W9.setCell ⟨w3.heap.size+1,0,none⟩ (.int .i64 0)).setCell ⟨w3.heap.size+1,1,none⟩ (.int .i64 0)):=(b9.setCell (p:=⟨w3.heap.size+1,0,none⟩) (by simp) _).setCell (p:=⟨w3.heap.size+1,1,none⟩) (by simp) _
 have X10:Blk ((W9.setCell ⟨w3.heap.size+1,0,none⟩ (.int .i64 0)).setCell ⟨w3.heap.size+1,1,none⟩ (.int .i64 0)) w3.heap.size PC 34:=(X9.far (by omega) 0 _).far (by omega) 1 _
 have Y10:Aside (Blk ((W9.setCell ⟨w3.heap.size+1,0,none⟩ (.int .i64 0)).setCell ⟨w3.heap.size+1,1,none⟩ (.int .i64 0)) (w3.heap.size+1) #[.int .i64 0,.int .i64 0] 37):=(Y9.set 0 _).set 1 _
 have hld:=fun {ops:Array Oper} {rest:List Oper} {op:Oper} {a:Act} {Q:Exit→Act→World→Prop}=>ld14S (ops:=ops) (rest:=rest) (op:=op) (a:=a) (Q:=Q) hP14 X10
 have B10:Aside (Below w.heap.size w ((W9.setCell ⟨w3.heap.size+1,0,none⟩ (.int .i64 0)).setCell ⟨w3.heap.size+1,1,none⟩ (.int .i64 0))):=B3.trans (b10.mono B3.size)
 have K10:Aside (Blk ((W9.setCell ⟨w3.heap.size+1,0,none⟩ (.int .i64 0)).setCell ⟨w3.heap.size+1,1,none⟩ (.int .i64 0)) w.heap.size #[.string ⟨#[97,116]⟩,.int .i64 1] 24):=K3.on b10
 have HQ10:Aside (QyIn ((W9.setCell ⟨w3.heap.size+1,0,none⟩ (.int .i64 0)).setCell ⟨w3.heap.size+1,1,none⟩ (.int .i64 0)) (fun _=>True) (.agg PC) slQ):=HP.out.on b10
 have XQ:Aside (Blk ((W9.setCell ⟨w3.heap.size+1,0,none⟩ (.int .i64 0)).setCell ⟨w3.heap.size+1,1,none⟩ (.int .i64 0)) w3.heap.size PC 34):=X10
 have cN:=zrm HENV.out HAENV.out PC w.heap.size 0 _ B10.out HQ10.out K10.out
 clear cP b1 k1 HPB HP b3 B3 K3 bV XV YV h9 X9 Y9 b9 b10 X10
 go_wp2_with (first|(refine hst rfl _ _ rfl rfl rfl ?_)|(refine hld rfl _ rfl rfl ?_))
 refine cN.mono ?_
 rintro e W11 ⟨⟨sbx,rfl,HX⟩,b11⟩
 have X11:Blk W11 w3.heap.size PC 34:=XQ.out.on b11
 have Y11:Aside (Blk W11 (w3.heap.size+1) #[.int .i64 0,.int .i64 0] 37):=Y10.out.on b11
 have B11:Aside (Below w.heap.size w W11):=B10.out.trans (b11.mono B10.out.size)
 have hld1:=fun {ops:Array Oper} {rest:List Oper} {op:Oper} {a:Act} {Q:Exit→Act→World→Prop}=>ld14S (ops:=ops) (rest:=rest) (op:=op) (a:=a) (Q:=Q) hP14 X11
 have cM:=zrm HENV.out HAENV.out PC w.heap.size 0 W11 B11.out (HQ10.out.on b11) (K10.out.on b11)
 clear hst hld c1 c0 f0 f1 l9 Y10 XQ b11 X11 cN K10 HQ10
 generalize ((W9.setCell ⟨w3.heap.size+1,0,none⟩ (.int .i64 0)).setCell ⟨w3.heap.size+1,1,none⟩ (.int .i64 0))=W10 at *
 go_wp2_with (refine hld1 rfl _ rfl rfl ?_)
 refine cM.mono ?_
 rintro e W12 ⟨⟨sby,rfl,HY⟩,b12⟩
 have Y12:=Y11.out.on b12
 have e0:W12.cell? ⟨w3.heap.size+1,0,none⟩=some (.int .i64 0):=Y12.cell 0
 have B12:Aside (Below w.heap.size w W12):=B11.out.trans (b12.mono B11.out.size)
 obtain⟨x,rfl,hX⟩:=HX.out
 obtain⟨y,rfl,hY⟩:=HY.out
 obtain⟨SB,SI⟩:=zrj HENV.out HAENV.out B10.out hX hY b12
 have HSB:Aside _:=SB
 have S0:Aside (SlLp w W12 x y 0 0 W12):=⟨⟨0,0,(0,[]),_,_,SI,OkSt.nil _ _ _,Int.le_refl _,by omega,by omega⟩,by omega,B12.out⟩
 clear hld1 cM hX hY HX HY SB SI b12 Y12 Y11 B11 B10 hP14 hP1
 go_wp2
 go_loopg [4,12,13,14,15,16,17,18,19,20] tn (fun gg _ s12 s13 _ _ _ _ _ _ _ wr=>∃(kk:Nat) (A:Int),kk≤tn∧tn-kk≤gg∧kk≤40∧s13=.int .i64 (kk:Int)∧s12=.int .i64 A∧Aside (SlLp w W12 x y kk A wr))
 case atStart=>exact⟨0,0,Nat.zero_le _,by omega,by omega,rfl,rfl,S0⟩
 case round =>
  obtain⟨kk,A,hkk,hg,hk40,rfl,rfl,LP⟩:=hrel
  clear S0
  obtain⟨⟨r1,r2,st,n1,n2,I,hst,hle,hr1,hr2⟩,hA,BW⟩:=LP.out
  have HBW:Aside (Below w.heap.size w wr):=BW
  have HI:Aside (SlIv W12 (slS0 x y) x y r1 r2 st st n1 n2 wr):=I
  have HST:Aside (OkSt [1] (20*kk) 5 st):=hst
  have h40z:(kk:Int)≤40:=by omega
  have h0z:(0:Int)≤(kk:Int):=by omega
  clear LP I hst BW
  by_cases hlt:kk<tn∧kk<40
  ·obtain⟨hlt1,hlt2⟩:=hlt
   have hltz1:(kk:Int)<(tn:Int):=by omega
   have hltz2:(kk:Int)<40:=by omega
   have hkt:kk<ts.length:=by rw[HTN.out];exact hlt1
   obtain⟨tb,to_,rfl,htl,htc⟩:=HTS.out.resolve_left (by omega)
   have ht:wr.cell? ⟨tb,to_+kk,none⟩=some (.int .i64 ts[kk]):=by rw[HBW.out.cell (p:=⟨tb,_,none⟩) htl];exact htc kk hkt
   clear htc
   generalize ts[kk]=t at *
   by_cases hbad:t<0∨1000<t
   ·have hLP:Aside (SlLp w W12 x y (kk+1) A wr):=⟨⟨r1,r2,st,n1,n2,HI.out,⟨HST.out.ok.up (by omega),HST.out.time,HST.out.win⟩,hle,by omega,by omega⟩,by omega,HBW.out⟩
    clear HI HST HBW
    rcases hbad with h1|h1
    ·go_wp2
     go_roundg (tn-(kk+1))
     case measure=>omega
     case rel=>exact⟨kk+1,A,by omega,by omega,by omega,by go_num,rfl,hLP⟩
    ·have h2:¬t<0:=by omega
     go_wp2
     go_roundg (tn-(kk+1))
     case measure=>omega
     case rel=>exact⟨kk+1,A,by omega,by omega,by omega,by go_num,rfl,hLP⟩
   ·have h1:¬t<0:=by omega
    have h2:¬1000<t:=by omega
    obtain⟨A2,hA2⟩:∃A2,A+t=A2:=⟨_,rfl⟩
    have hw:IntKind.i64.wrap (A+t)=A2:=by rw[IntKind.wrap_i64];omega
    have hb2:0≤A2∧A2≤1000*(kk+1):=by omega
    have hle2:st.1≤A2:=by omega
    have cI:=in_sl A2 wr
    clear hA2
    go_wp2_with fail
    refine cI.mono ?_
    rintro e wa ⟨rfl,ba⟩
    have bb:=alB wa (.cells #[.int .i64 1,.int .i64 A2,.string ⟨#[]⟩] 27)
    have kb:=zab wa #[.int .i64 1,.int .i64 A2,.string ⟨#[]⟩] 27
    have bab:Below wr.heap.size wr (wa.alloc (.cells #[.int .i64 1,.int .i64 A2,.string ⟨#[]⟩] 27)):=ba.trans (bb.mono ba.size)
    have cX:=zjD HSB.out (HI.out.on bab) ⟨by omega,by omega⟩ HST.out (by omega) wa.heap.size 1 A2 (by unfold inM;omega) kb
    have hn2:n2≤(wa.alloc (.cells #[.int .i64 1,.int .i64 A2,.string ⟨#[]⟩] 27)).heap.size:=by have:=HI.out.n2l.2;have:=bab.size;omega
    obtain⟨PP,hPP⟩:∃PP,pushP slPs 5 5 st A2 ([noV],true,0) (keyP (slRow A2) [0])=PP:=⟨_,rfl⟩
    have HST2:Aside (OkSt [1] (20*kk+10) 5 PP.1):=by
     rw[←hPP]
     exact HST.out.push (by unfold wdB;decide) A2 _ (zmH A2 ⟨#[]⟩ rfl)
    have hAt:PP.1.1=A2:=by rw[←hPP];exact zgF (c:=20*kk) A2 _ _ ⟨by omega,by omega⟩ hle2
    have HFEW:Aside (PP.2.length≤1000000∧∀o∈PP.2,o.1.length≤1000000):=by rw[←hPP];exact zik HST.out A2 _ _
    rw[hPP] at cX
    obtain⟨wb,hwb⟩:∃wb,wa.alloc (.cells #[.int .i64 1,.int .i64 A2,.string ⟨#[]⟩] 27)=wb:=⟨_,rfl⟩
    rw[hwb] at cX hn2
    have hwbs:wb.heap.size=wa.heap.size+1:=by rw[←hwb];simp
    have HPPE:Hid (pushP slPs 5 5 st A2 ([noV],true,0) (keyP (slRow A2) [0])=PP):=hPP
    clear cI ba bb kb bab HI HBW hPP
    go_wp2_with fail
    clear hwb
    refine cX.mono ?_
    rintro e wc ⟨u1,rfl,HX⟩
    have cI2:=in_sl A2 wc
    clear cX
    go_wp2_with fail
    refine cI2.mono ?_
    rintro e wd ⟨rfl,bd⟩
    have be:=alB wd (.cells #[.int .i64 1,.int .i64 A2,.string ⟨#[]⟩] 27)
    have ke:=zab wd #[.int .i64 1,.int .i64 A2,.string ⟨#[]⟩] 27
    have bde:Below wc.heap.size wc (wd.alloc (.cells #[.int .i64 1,.int .i64 A2,.string ⟨#[]⟩] 27)):=bd.trans (be.mono bd.size)
    have cY:=zjD HSB.out.swap (HX.out.2.1.on bde).swap ⟨by omega,by omega⟩ HST.out (by omega) wd.heap.size 1 A2 (by unfold inM;omega) ke
    rw[HPPE.out] at cY
    have HO1:Aside (OutsF wb.heap.size (wd.alloc (.cells #[.int .i64 1,.int .i64 A2,.string ⟨#[]⟩] 27)) u1 PP.2):=HX.out.1.on bde
    obtain⟨we,hwe⟩:∃we,wd.alloc (.cells #[.int .i64 1,.int .i64 A2,.string ⟨#[]⟩] 27)=we:=⟨_,rfl⟩
    rw[hwe] at cY HO1
    clear cI2 bd be ke bde HX
    go_wp2_with fail
    clear hwe
    refine cY.mono ?_
    rintro e wf ⟨u2,rfl,HY⟩
    have cE:=zjS u1 u2 PP.2 wf HFEW.out.1 HFEW.out.2 (HO1.out.kp HY.out.2.2 (fun k hk=>by omega)).v HY.out.1.v
    have HYI:Aside (SlIv W12 (slS0 x y) y x (r2+1) (r1+1) PP.1 PP.1 wf.heap.size wc.heap.size wf):=HY.out.2.1
    clear cY HO1 HFEW HY
    go_wp2_with fail
    refine cE.mono ?_
    rintro e wg ⟨rfl,HBg⟩
    have HI3:Aside (SlIv W12 (slS0 x y) x y (r1+1) (r2+1) PP.1 PP.1 wc.heap.size wf.heap.size wg):=(HYI.out.on HBg.out).swap
    clear cE HYI HBg
    have HLP:Aside (SlLp w W12 x y (kk+1) A2 wg):=⟨⟨r1+1,r2+1,PP.1,_,_,HI3.out,⟨HST2.out.ok.up (by omega),HST2.out.time,HST2.out.win⟩,by omega,by omega,by omega⟩,by omega,HSB.out.old HI3.out.kp⟩
    by_cases hlb:late<1∨A2<late
    ·clear HI3 HST2 HPPE HST HTS
     rcases hlb with h3|h3
     ·go_wp2
      go_roundg (tn-(kk+1))
      case measure=>omega
      case rel=>exact⟨kk+1,A2,by omega,by omega,by omega,by go_num,rfl,HLP⟩
     ·have h4:¬late<1:=by omega
      go_wp2
      go_roundg (tn-(kk+1))
      case measure=>omega
      case rel=>exact⟨kk+1,A2,by omega,by omega,by omega,by go_num,rfl,HLP⟩
    ·have h3:¬late<1:=by omega
     have h4:¬A2<late:=by omega
     obtain⟨A3,hA3⟩:∃A3,A2-late=A3:=⟨_,rfl⟩
     have hw3:IntKind.i64.wrap (A2-late)=A3:=by rw[IntKind.wrap_i64];omega
     have hb3:0≤A3∧A3<A2:=by omega
     have cI3:=in_sl A3 wg
     clear hA3 HLP
     go_wp2_with fail
     refine cI3.mono ?_
     rintro e wh ⟨rfl,bh⟩
     have bi:=alB wh (.cells #[.int .i64 1,.int .i64 A3,.string ⟨#[]⟩] 27)
     have ki:=zab wh #[.int .i64 1,.int .i64 A3,.string ⟨#[]⟩] 27
     have bhi:Below wg.heap.size wg (wh.alloc (.cells #[.int .i64 1,.int .i64 A3,.string ⟨#[]⟩] 27)):=bh.trans (bi.mono bh.size)
     have cZ:=zjD HSB.out (HI3.out.on bhi) ⟨by omega,by omega⟩ HST2.out (by omega) wh.heap.size 1 A3 (by unfold inM;omega) ki
     rw[zlN ⟨by omega,by omega⟩ (by omega)] at cZ
     clear cI3 bh bi ki bhi HI3
     go_wp2_with fail
     refine cZ.mono ?_
     rintro e wj ⟨u3,rfl,HZ⟩
     obtain⟨q3,c3,hu3,hq3⟩:=HZ.out.1.v
     have hu3:u3=.slice q3 1 c3:=hu3
     subst hu3
     obtain⟨ob,rfl,ol,hcell⟩:=hq3.resolve_left (by simp)
     obtain⟨rq,rc,z0,z1,-,-⟩:=hcell 0 (by simp)
     simp at z0 z1
     have HI4:Aside (SlIv W12 (slS0 x y) x y (r1+1+1) (r2+1) PP.1 PP.1 wj.heap.size wf.heap.size wj):=HZ.out.2.1
     have cO1:=zmE HSB.out HI4.out
     have cO2:=zmE HSB.out.swap HI4.out.swap
     generalize PP.1.2.length=PL at cO1 cO2
     clear cZ hcell hq3 HZ
     go_wp2_with fail
     refine cO1.mono ?_
     rintro e wk ⟨rfl,rfl⟩
     clear cO1
     go_wp2_with fail
     refine cO2.mono ?_
     rintro e wl ⟨rfl,rfl⟩
     have HLP:Aside (SlLp w W12 x y (kk+1) A2 wl):=⟨⟨r1+1+1,r2+1,PP.1,_,_,HI4.out,⟨HST2.out.ok.up (by omega),HST2.out.time,HST2.out.win⟩,by omega,by omega,by omega⟩,by omega,HSB.out.old HI4.out.kp⟩
     clear cO2 HI4 z0 z1
     go_wp2
     go_roundg (tn-(kk+1))
     case measure=>omega
     case rel=>exact⟨kk+1,A2,by omega,by omega,by omega,by go_num,rfl,HLP⟩
  ·have hend:¬((kk:Int)<(tn:Int))∨((kk:Int)<(tn:Int)∧¬(kk:Int)<40):=by omega
   have cX:=zjC HSB.out HI.out HST.out
   have hn2:n2≤wr.heap.size:=HI.out.n2l.2
   have HFEW:Aside ((endP slPs st).length≤1000000∧∀o∈endP slPs st,o.1.length≤1000000):=by
    obtain⟨t1,t2⟩:=zmU HST.out st.2 (List.Sublist.refl _)
    exact⟨by show (List.flatMap _ _).length≤_;omega,t2⟩
   rcases hend with h1|⟨h1,h2⟩
   all_goals
    go_wp2_with fail
    refine cX.mono ?_
    rintro e wc ⟨u1,rfl,HX⟩
    have cY:=zjC HSB.out.swap HX.out.2.1.swap HST.out
    clear cX
    go_wp2_with fail
    refine cY.mono ?_
    rintro e wf ⟨u2,rfl,HY⟩
    have cE:=zjS u1 u2 (endP slPs st) wf HFEW.out.1 HFEW.out.2 (HX.out.1.kp HY.out.2.2 (fun k hk=>by omega)).v HY.out.1.v
    have HBF:Aside (Below w.heap.size w wf):=HSB.out.old HY.out.2.1.kp
    clear cY HX HY HFEW HI HST
    go_wp2_with fail
    refine cE.mono ?_
    rintro e wg ⟨rfl,HBg⟩
    have HBG:Aside (Below w.heap.size w wg):=HBF.out.trans (HBg.out.mono HBF.out.size)
    clear cE HBF HBg
    go_wp2
    go_ret
    exact⟨rfl,HBG.out⟩
end
end Go.Proofs.YtopghagjmdbglaaGreatDoor
