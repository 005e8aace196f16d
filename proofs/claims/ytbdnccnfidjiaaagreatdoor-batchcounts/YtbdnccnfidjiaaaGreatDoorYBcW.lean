/-
  BcW.
-/
import Derived.Test.YtbdnccnfidjiaaaGreatDoorGyBl
import Derived.Test.YtbdnccnfidjiaaaGreatDoorGyBi
import Derived.Test.YtbdnccnfidjiaaaGreatDoorGyAu
import Derived.Test.YtbdnccnfidjiaaaGreatDoorGyAr
import Derived.Test.YtbdnccnfidjiaaaGreatDoorGyAk
import Derived.BigQuiet
import Derived.Deep.CutBlock
import Derived.Deep.DeepCutAuto
namespace Go.Proofs.YtbdnccnfidjiaaaGreatDoor
open Go.RowKit
set_option linter.unusedVariables false
set_option linter.unusedSimpArgs false
set_option maxHeartbeats 8000000
section
open Go.BigFrame
theorem ld14B{W:World}{b:Nat}{QC:Array Value}(hq:QC.size=14)(X:Blk W b QC 34){ops:Array Oper}{rest:List Oper}{op:Oper}{a:Act}{Q:Exit→Act→World→Prop}(hgd:op.guard=none)(x:Operand)(ho:op.op=.load 34 x)(hx:a.eval x=.pointer (some ⟨b,0,none⟩))(h:wpList Tryz.prog ops Q rest (a.put op.dst (.agg QC)) W):wpList Tryz.prog ops Q (op::rest) a W:=by
 refine wpList_load_mid (P:=Tryz.prog) hgd 34 x ho b 0 hx QC.toList _ (fun j v hv=>by rw[X.cell,Nat.zero_add];simpa using hv) Tryz.underlying34 rfl (by rw[zeL,Array.length_toList,hq]) ?_
 rw[Array.toArray_toList]
 exact h
abbrev bcCol:Array Value:=#[.string ⟨#[97,116]⟩,.int .i64 1,.string ⟨#[107]⟩,.int .i64 3]
structure BcLp(w WL:World)(kk:Nat)(A:Int)(u:Value)(rs:List (Int×ByteArray))(W:World):Prop where
 low:Below WL.heap.size WL W
 rw:BcRw W WL.heap.size u rs
 ok:BcRs 0 rs
 last:∀r∈rs,r.1≤A
 few:rs.length≤kk
 a:0≤A∧A≤1000000
theorem BcLp.on{w WL:World}{kk:Nat}{A:Int}{u:Value}{rs:List (Int×ByteArray)}{W W':World}(h:BcLp w WL kk A u rs W)(hb:Below W.heap.size W W'):BcLp w WL (kk+1) A u rs W' :=
 ⟨h.low.trans (hb.mono h.low.size),h.rw.on hb,h.ok,h.last,by have:=h.few;omega,h.a⟩
theorem BcRs.snoc:∀{rs:List (Int×ByteArray)} {a:Int} {r:Int×ByteArray},BcRs a rs→(∀x∈rs,x.1≤r.1)→a≤r.1→r.1≤1000000→chk 3 0 r.2.data.toList=0→BcRs a (rs++[r])
 | [],a,r,_,_,h1,h2,h3=>⟨h1,h2,h3,trivial⟩
 | x::rs,a,r,⟨a1,a2,a3,a4⟩,h,h1,h2,h3=>⟨a1,a2,a3,BcRs.snoc a4 (fun y hy=>h y (List.mem_cons_of_mem _ hy)) (h x (List.mem_cons_self ..)) h2 h3⟩
theorem BcRs.mem:∀{rs:List (Int×ByteArray)} {a:Int},0≤a→BcRs a rs→∀r∈rs,inB r.1∧chk 3 0 r.2.data.toList=0
 | x::rs,a,h0,⟨a1,a2,a3,a4⟩,r,hr=>by
  rcases List.mem_cons.1 hr with rfl|hr
  ·exact⟨by unfold inB;omega,a3⟩
  ·exact BcRs.mem (by omega:0≤x.1) a4 r hr
theorem znm{l:List Ot}{k:Nat}(h:k<l.length):oS (l.take (k+1))=oS (l.take k)+oN l[k]:=by
 rw[List.take_succ_eq_append_getElem h,zmj]
 simp[oS]
theorem zet:∀l:List Ot,(∀o∈l,0≤oN o)→0≤oS l
 | [],_=>Int.le_refl _
 | o::l,h=>by
  have h1:=zet l fun x hx=>h x (List.mem_cons_of_mem _ hx)
  have h2:=h o (List.mem_cons_self ..)
  show 0≤((o::l).map oN).sum
  rw[List.map_cons,List.sum_cons]
  unfold oS at h1
  omega
theorem zhD{l:List Ot}(h:∀o∈l,0≤oN o)(k:Nat):0≤oS (l.take k)∧oS (l.take k)≤oS l:=by
 have h1:=zet (l.take k) fun o ho=>h o ((List.take_sublist k l).subset ho)
 have h2:=zet (l.drop k) fun o ho=>h o ((List.drop_sublist k l).subset ho)
 have h3:oS l=oS (l.take k)+oS (l.drop k):=by rw[←zmj,List.take_append_drop]
 omega
theorem zty{W:World}{q:Option Addr}{n c:Nat}{rs:List (Int×ByteArray)}(h:RowsV W (.slice q n c) (rs.map bcRow)){k:Nat}(hk:k<rs.length):∃b off rb ro rc,q=some ⟨b,off,none⟩∧W.cell? ⟨b,off+k,none⟩=some (.slice (some ⟨rb,ro,none⟩) 2 rc)∧W.cell? ⟨rb,ro+1,none⟩=some (.int .i64 rs[k].1):=by
 obtain⟨q',c',e,-,h,-⟩:=h
 injection e with e
 subst e
 have hk2:k<(rs.map bcRow).length:=by rw[List.length_map];exact hk
 obtain⟨b,off,rfl,hb,hc⟩:=h.resolve_left (by omega)
 obtain⟨rq,rc,c0,hv,-⟩:=hc k hk2
 rw[List.getElem_map] at c0 hv
 obtain⟨rb,ro,rfl,-,hvc⟩:=hv.resolve_left (by show ¬2=0;decide)
 obtain⟨-,e2,-⟩:=hvc 0 (by show 0<2;decide)
 exact⟨b,off,rb,ro,rc,rfl,c0,e2⟩
theorem zju{Y:Int}{rs:List (Int×ByteArray)}{k:Nat}(h:k<rs.length):early Y (rs.take (k+1))=early Y (rs.take k)+(if rs[k].1<Y then 1 else 0):=by
 rw[early,early,List.take_succ_eq_append_getElem h,List.countP_append,List.countP_singleton]
 simp
theorem zjt(Y:Int)(rs:List (Int×ByteArray)):early Y rs≤rs.length:=List.countP_le_length
theorem zpX{Z Y:Int}(hw:wdB Z Y){rs:List (Int×ByteArray)}(hr:BcRs 0 rs)(hl:rs.length≤40):(zbp Z Y (0,[]) rs).length≤700000:=by
 rw[←ziW Z Y rs rs.length (Nat.le_refl _),List.drop_length,zbp,List.length_append]
 have h1:=ziX hw hr hl rs.length (Nat.le_refl _)
 have h2:(endP bcPs (bcSt Z Y rs rs.length)).length≤16000:=znR hw hr hl (Nat.le_refl _) _ (List.Sublist.refl _)
 omega
theorem zpe{W:World}{q:Option Addr}{n c:Nat}{L:List Ot}(h:OutsV W (.slice q n c) L){Y:Int}(hg:∀o∈L,GoodO Y o){k:Nat}(hk:k<L.length):∃b rb ro rc,q=some ⟨b,0,none⟩∧W.cell? ⟨b,k*3,none⟩=some (.slice (some ⟨rb,ro,none⟩) 2 rc)∧W.cell? ⟨b,k*3+1,none⟩=some (.int .i64 0)∧W.cell? ⟨b,k*3+2,none⟩=some (.int .i64 L[k].2.2)∧W.cell? ⟨rb,ro+3+1,none⟩=some (.int .i64 (oN L[k])):=by
 obtain⟨q',c',e,h⟩:=h
 injection e with e
 subst e
 obtain⟨b,rfl,hb,hc⟩:=h.resolve_left (by omega)
 obtain⟨rq,rc,c0,c1,c2,hv⟩:=hc k hk
 obtain⟨g1,g2,-⟩:=hg _ (List.getElem_mem hk)
 rw[g2] at c0
 rw[g1] at c1
 obtain⟨rb,ro,rfl,hrl,hvc⟩:=hv.resolve_left (by omega)
 obtain⟨-,e2,-⟩:=hvc 1 (by omega)
 refine⟨b,rb,ro,rc,rfl,c0,c1,c2,?_⟩
 rw[oN,List.getD_eq_getElem?_getD,List.getElem?_eq_getElem (by omega:1<L[k].1.length)]
 exact e2
theorem zgb{W:World}{lo:Nat→Prop}{QC:Array Value}{q:Qy}(h:QyIn W lo (.agg QC) q):QC.size=14∧QC.all (·.oneCell')=true∧∀(V W9:World) (b:Nat),Blk V b q0D 34→V.setCells b 0 QC.toList=W9→Blk W9 b QC 34:=by
 obtain⟨wp,wc,cp,cc,np,nc,gp,gc,ap,ac,e,-⟩:=h
 injection e with e
 subst e
 exact⟨rfl,one14 q wp wc cp cc np nc gp gc ap ac,fun V W9 b X h=>blk14 X h⟩
theorem zlD{W:World}{QC:Array Value}{Z0 Y0:Int}(h:QyIn W (fun _=>True) (.agg QC) (bcQ Z0 Y0))(Z:Int):QyIn W (fun _=>True) (.agg (QC.setIfInBounds 11 (.int .i64 Z))) (bcQ Z Y0):=by
 obtain⟨wp,wc,cp,cc,np,nc,gp,gc,ap,ac,e,h1,h2,h3,h4,h5,h6⟩:=h
 injection e with e
 exact⟨wp,wc,cp,cc,np,nc,gp,gc,ap,ac,by rw[e];rfl,h1,h2,h3,h4,h5,h6⟩
set_option maxHeartbeats 40000000 in
set_option maxRecDepth 20000 in
theorem zjq(aq:Option Addr)(an ac:Nat)(ts:List Int)(kq:Option Addr)(kn kc:Nat)(ks:List ByteArray)(size:Int)(w:World)(henv:KEnv w)(haenv:AEnv w)(hsg:SG w)(hn:ts.length=an)(hnm:an≤maxLen)(has:zpN w aq ts)(hkn:ks.length=kn)(hkm:kn≤maxLen)(hks:zpO w kq ks)(hkz:∀s∈ks,s.size≤maxLen) :
  Calls Tryz.prog 3 #[.slice aq an ac,.slice kq kn kc,.int .i64 size] w fun e w'=>e=.returned (.bool true)∧Below w.heap.size w w':=by
 have b1:=alB w (.cells bcCol 25)
 have k1:=zab w bcCol 25
 have cP:=ziY henv haenv hsg _ b1
 rw[bcS] at cP
 have HENV:Aside (KEnv w):=henv
 have HAENV:Aside (AEnv w):=haenv
 have HAS:Aside _:=has
 have HAN:Hid (ts.length=an):=hn
 have HKS:Aside _:=hks
 have HKN:Hid (ks.length=kn):=hkn
 have HKZ:Aside _:=hkz
 have haz:(an:Int)≤9223372036854775807:=by unfold maxLen at hnm;omega
 have hkz2:(kn:Int)≤9223372036854775807:=by unfold maxLen at hkm;omega
 clear henv haenv hsg has hn hks hkn hkz
 go_enter Tryz.func3,Tryz.ntmps3
 go_wp2_with fail
 refine cP.mono ?_
 rintro e w3 ⟨⟨PC,rfl,hP14,hP1,HPB,HP⟩,b3⟩
 have B3:Below w.heap.size w w3:=b1.trans (b3.mono b1.size)
 have hz3:w.heap.size+1≤w3.heap.size:=by have:=b3.size;simpa using this
 have K3:=k1.on b3
 have bV:Below w3.heap.size w3 ((w3.alloc (.cells q0D 34)).alloc (.cells #[.int .i64 0,.int .i64 0] 37)):=(alB w3 _).alloc (by simp) _
 have XV:Blk ((w3.alloc (.cells q0D 34)).alloc (.cells #[.int .i64 0,.int .i64 0] 37)) w3.heap.size q0D 34:=(zab w3 _ _).on (alB _ _)
 have YV:Blk ((w3.alloc (.cells q0D 34)).alloc (.cells #[.int .i64 0,.int .i64 0] 37)) (w3.heap.size+1) #[.int .i64 0,.int .i64 0] 37:=by
  have:=zab (w3.alloc (.cells q0D 34)) #[.int .i64 0,.int .i64 0] 37
  rwa [show (w3.alloc (.cells q0D 34)).heap.size=w3.heap.size+1 by simp] at this
 obtain⟨W9,h9⟩:∃W9,((w3.alloc (.cells q0D 34)).alloc (.cells #[.int .i64 0,.int .i64 0] 37)).setCells w3.heap.size 0 PC.toList=W9:=⟨_,rfl⟩
 have hst:=fun {ops:Array Oper} {rest:List Oper} {op:Oper} {a:Act} {Q:Exit→Act→World→Prop}=>st14 (ops:=ops) (rest:=rest) (op:=op) (a:=a) (Q:=Q) XV rfl hP14 hP1 W9 h9
 have X9:Blk W9 w3.heap.size PC 34:=HPB.out _ _ _ XV h9
 have Y9:Blk W9 (w3.heap.size+1) #[.int .i64 0,.int .i64 0] 37:=by rw[←h9];exact YV.keep (zbG _ _ _ _ (by omega))
 have b9:Below w3.heap.size w3 W9:=by rw[←h9];exact zaL (Nat.le_refl _) _ _ _ bV
 have c0:W9.cell? ⟨w3.heap.size+1,0,none⟩=some (.int .i64 0):=Y9.cell 0
 have c1:W9.cell? ⟨w3.heap.size+1,1,none⟩=some (.int .i64 0):=Y9.cell 1
 have f0:=Y9.frozen 0
 have f1:=Y9.frozen 1
 have l9:=Y9.lt
 obtain⟨W10,h10⟩:∃W10,(W9.setCell ⟨w3.heap.size+1,0,none⟩ (.int .i64 0)).setCell ⟨w3.heap.size+1,1,none⟩ (.int .i64 0)=W10:=⟨_,rfl⟩
 have b10:Below w3.heap.size w3 W10:=by rw[←h10];exact (b9.setCell (p:=⟨w3.heap.size+1,0,none⟩) (by simp) _).setCell (p:=⟨w3.heap.size+1,1,none⟩) (by simp) _
 have X10:Blk W10 w3.heap.size PC 34:=by rw[←h10];exact (X9.far (by omega) 0 _).far (by omega) 1 _
 have Y10:Blk W10 (w3.heap.size+1) #[.int .i64 0,.int .i64 0] 37:=by rw[←h10];exact (Y9.set 0 _).set 1 _
 have q11:PC[11]?=some (.int .i64 10)∧PC[12]?=some (.int .i64 10):=by
  obtain⟨wp,wc,cp,cc,np,nc,gp,gc,ap,ac,e,-⟩:=HP.out
  injection e with e
  rw[e]
  exact⟨rfl,rfl⟩
 have B10:Aside (Below w.heap.size w W10):=B3.trans (b10.mono B3.size)
 have K10:Aside (Blk W10 w.heap.size bcCol 25):=K3.on b10
 have HQ10:Aside (QyIn W10 (fun _=>True) (.agg PC) (bcQ 10 10)):=HP.out.on b10
 have HX10:Aside (Blk W10 w3.heap.size PC 34):=X10
 have d0:W10.cell? ⟨w3.heap.size+1,0,none⟩=some (.int .i64 0):=Y10.cell 0
 have d1:W10.cell? ⟨w3.heap.size,11,none⟩=some (.int .i64 10):=by rw[X10.cell];exact q11.1
 have d2:W10.cell? ⟨w3.heap.size,12,none⟩=some (.int .i64 10):=by rw[X10.cell];exact q11.2
 clear cP b1 k1 HPB HP b3 B3 K3 bV XV YV h9 X9 Y9 b9 b10 q11 X10 Y10
 go_upto_region 3 with (first|(refine hst rfl _ _ rfl rfl rfl ?_)|fail)
 clear h10 hst c0 c1 f0 f1 l9
 by_cases hs1:size<1
 ·go_wp2
  go_ret
  exact⟨rfl,B10.out⟩
 by_cases hs2:500<size
 ·go_wp2
  go_ret
  exact⟨rfl,B10.out⟩
 by_cases hs3:(40:Int)<(an:Int)
 ·go_wp2
  go_ret
  exact⟨rfl,B10.out⟩
 have S0:Aside (BcLp w W10 0 0 (.slice none 0 0) [] W10):=⟨Below.refl _ _,BcRw.nil _ _,trivial,by simp,by simp,by decide⟩
 go_upto_block 0 with fail
 go_cut [10,11,12,13] (fun s10 _ _ _ wx=>∃(u:Value) (rs:List (Int×ByteArray)),s10=u∧Aside (∃A,BcLp w W10 40 A u rs wx))
 case first =>
  go_wp2_with fail
  go_loopg [10,11,12,13] an (fun gg s10 s11 s12 _ wr=>∃(kk:Nat) (A:Int) (u:Value) (rs:List (Int×ByteArray)),kk≤an∧an-kk≤gg∧kk≤40∧s10=u∧s11=.int .i64 A∧s12=.int .i64 (kk:Int)∧Aside (BcLp w W10 kk A u rs wr))
  case atStart=>exact⟨0,0,_,[],Nat.zero_le _,by omega,by omega,rfl,rfl,rfl,S0⟩
  case round =>
   obtain⟨kk,A,u,rs,hkk,hg,hk40,hu,rfl,rfl,LP⟩:=hrel
   obtain rfl:u=_:=hu.symm
   clear S0
   have h0z:(0:Int)≤(kk:Int):=by omega
   obtain⟨uq,uc,rfl⟩:=LP.out.rw.form
   by_cases hlt:kk<an∧kk<kn
   ·obtain⟨hlt1,hlt2⟩:=hlt
    have hltz1:(kk:Int)<(an:Int):=by omega
    have hltz2:(kk:Int)<(kn:Int):=by omega
    have hkt:kk<ts.length:=by rw[HAN.out];exact hlt1
    have hks:kk<ks.length:=by rw[HKN.out];exact hlt2
    have HBW:Aside (Below w.heap.size w wr):=B10.out.trans (LP.out.low.mono B10.out.size)
    obtain⟨tb,to_,rfl,htl,htc⟩:=HAS.out.resolve_left (by omega)
    obtain⟨sb,so,rfl,hsl,hsc⟩:=HKS.out.resolve_left (by omega)
    have ht:wr.cell? ⟨tb,to_+kk,none⟩=some (.int .i64 ts[kk]):=by rw[HBW.out.cell (p:=⟨tb,_,none⟩) htl];exact htc kk hkt
    have hs:wr.cell? ⟨sb,so+kk,none⟩=some (.string ks[kk]):=by rw[HBW.out.cell (p:=⟨sb,_,none⟩) hsl];exact hsc kk hks
    have hwl:=HBW.out.size
    have htl2:tb<wr.heap.size:=by omega
    have hzm:=HKZ.out _ (List.getElem_mem hks)
    clear htc hsc
    generalize ts[kk]=t at *
    generalize ks[kk]=sk at *
    generalize hrl:rs.length=rl at *
    go_upto_region 13 with fail
    have bb:=alB wr (.cells #[.int .i64 3,.int .i64 0,.string sk] 28)
    have kb:=zab wr #[.int .i64 3,.int .i64 0,.string sk] 28
    have hbs:(wr.alloc (.cells #[.int .i64 3,.int .i64 0,.string sk] 28)).heap.size=wr.heap.size+1:=by simp
    generalize wr.alloc (.cells #[.int .i64 3,.int .i64 0,.string sk] 28)=wb at *
    have ht1:wb.cell? ⟨tb,to_+kk,none⟩=some (.int .i64 t):=by rw[bb.cell (p:=⟨tb,_,none⟩) htl2];exact ht
    have v0:wb.cell? ⟨wr.heap.size,0,none⟩=some (.int .i64 3):=kb.cell 0
    have v1:wb.cell? ⟨wr.heap.size,1,none⟩=some (.int .i64 0):=kb.cell 1
    have v2:wb.cell? ⟨wr.heap.size,2,none⟩=some (.string sk):=kb.cell 2
    have LPx:Aside (rs.length≤kk):=LP.out.few
    have LPb:Aside (BcLp w W10 (kk+1) A (.slice uq rl uc) rs wb):=LP.out.on bb
    have HBb:Aside (Below w.heap.size w wb):=HBW.out.trans (bb.mono hwl)
    have HKB:Aside (Blk wb wr.heap.size #[.int .i64 3,.int .i64 0,.string sk] 28):=kb
    have htb2:tb<wb.heap.size:=by omega
    clear bb kb ht hs LP HBW
    by_cases h1:t<0
    ·go_wp2
     go_roundg (an-(kk+1))
     case measure=>omega
     case rel=>exact⟨kk+1,A,_,rs,by omega,by omega,by omega,rfl,rfl,by go_num,LPb⟩
    by_cases h2:10000<t
    ·go_wp2
     go_roundg (an-(kk+1))
     case measure=>omega
     case rel=>exact⟨kk+1,A,_,rs,by omega,by omega,by omega,rfl,rfl,by go_num,LPb⟩
    have cV:=zkB 3 0 sk wb hzm
    obtain⟨CE,hCE⟩:∃CE,chk 3 0 sk.data.toList=CE:=⟨_,rfl⟩
    rw[hCE] at cV
    have HCE:Hid (chk 3 0 sk.data.toList=CE):=hCE
    clear hCE
    go_wp2_with fail
    refine cV.mono ?_
    rintro e wc ⟨rfl,bc⟩
    have LPc:Aside (BcLp w W10 kk A (.slice uq rl uc) rs wc):=⟨LPb.out.low.trans (bc.mono LPb.out.low.size),LPb.out.rw.on bc,LPb.out.ok,LPb.out.last,LPx.out,LPb.out.a⟩
    have LPd:Aside (BcLp w W10 (kk+1) A (.slice uq rl uc) rs wc):=⟨LPc.out.low,LPc.out.rw,LPc.out.ok,LPc.out.last,by have:=LPc.out.few;omega,LPc.out.a⟩
    have HBc:Aside (Below w.heap.size w wc):=HBb.out.trans (bc.mono HBb.out.size)
    have hbc:=bc.size
    have ht2:wc.cell? ⟨tb,to_+kk,none⟩=some (.int .i64 t):=by rw[bc.cell (p:=⟨tb,_,none⟩) htb2];exact ht1
    have hkc:Blk wc wr.heap.size #[.int .i64 3,.int .i64 0,.string sk] 28:=HKB.out.on bc
    have u0:wc.cell? ⟨wr.heap.size,0,none⟩=some (.int .i64 3):=hkc.cell 0
    have u1:wc.cell? ⟨wr.heap.size,1,none⟩=some (.int .i64 0):=hkc.cell 1
    have u2:wc.cell? ⟨wr.heap.size,2,none⟩=some (.string sk):=hkc.cell 2
    have hlc:=hkc.lt
    have htc2:tb<wc.heap.size:=by omega
    have hca:=LPc.out.a
    clear cV bc v0 v1 v2 ht1 LPb HBb HKB hkc
    by_cases hce:CE=0
    ·subst hce
     obtain⟨A2,hA2⟩:∃A2,A+t=A2:=⟨_,rfl⟩
     have hw:IntKind.i64.wrap (A+t)=A2:=by rw[IntKind.wrap_i64];omega
     have hA3:A≤A2:=by omega
     have hA4:A2≤2000000:=by omega
     have hA0:0≤A2:=by omega
     by_cases h3:1000000<A2
     ·clear hA2
      go_wp2
      go_ret
      exact⟨rfl,HBc.out⟩
     ·clear hA2
      have b1:=alB wc (.cells (bcC (A2,sk)) 28)
      have k1:=zab wc (bcC (A2,sk)) 28
      have b2:=alB (wc.alloc (.cells (bcC (A2,sk)) 28)) (.cells #[.slice (some ⟨wc.heap.size,0,none⟩) 2 2] 42)
      have k2:=zab (wc.alloc (.cells (bcC (A2,sk)) 28)) #[.slice (some ⟨wc.heap.size,0,none⟩) 2 2] 42
      have hz1:(wc.alloc (.cells (bcC (A2,sk)) 28)).heap.size=wc.heap.size+1:=by simp
      rw[hz1] at k2
      obtain⟨cs,o1,o2⟩:=((LPc.out.rw.on b1).on b2).own
      rw[hrl] at o1
      have k3:=k1.on b2
      rw[bcC] at k2 k3 o1 o2 b1 b2 hz1
      have K3:Aside _:=k3
      have O2:Aside _:=o2
      have HB12:Aside _:=And.intro b1 b2
      have hlo:W10.heap.size≤wc.heap.size:=LPc.out.low.size
      clear k1 k3 o2 b1 b2
      have hcc:∀j u,([.slice (some ⟨wc.heap.size,0,none⟩) 2 2]:List Value)[j]?=some u→((wc.alloc (.cells #[.int .i64 1,.int .i64 A2,.string ⟨#[]⟩,.int .i64 3,.int .i64 0,.string sk] 28)).alloc (.cells #[.slice (some ⟨wc.heap.size,0,none⟩) 2 2] 42)).cell? ((⟨wc.heap.size+1,0,none⟩:Addr).add j)=some u:=fun j u hu=>by
       have:j=0:=by have:=(List.getElem?_eq_some_iff.1 hu).1;simp at this;exact this
       subst this
       rw[Go.WideShapes.add_plain]
       exact (k2.cell 0).trans hu
      have hrl9:rl≤1000000:=by have:=LPc.out.few;omega
      clear k2
      go_wp2_with (at_builtin;go_loud (refine zcB rfl _ _ rfl W10.heap.size (.slice uq rl uc) rl cs rfl o1 (wc.heap.size+1) 1 (some ⟨wc.heap.size,0,none⟩) 2 2 rfl hcc (by omega) (by simp;omega) ?_))
      intro q' c' W2 p1 p2
      have LPn:Aside (BcLp w W10 (kk+1) A2 (.slice q' (rl+1) c') (rs++[(A2,sk)]) W2):=by
       obtain⟨b1,b2⟩:=HB12.out
       have hbb:=b1.trans (b2.mono b1.size)
       have hlow:=LPc.out.low.trans (hbb.mono hlo)
       have hown:∀k,(Value.slice uq rl uc).ownBlock=some k→W10.heap.size≤k:=fun k hk=>(o1.lt k hk).1
       subst hrl
       refine⟨hlow.grown p2 hlow.size hown,BcRw.push o1 O2.out p2 K3.out p1,BcRs.snoc LPc.out.ok (fun x hx=>by have:=LPc.out.last x hx;show x.1≤A2;omega) hA0 (by show A2≤1000000;omega) HCE.out,fun r hr=>?_,by rw[List.length_append];have:=LPc.out.few;simp;omega,⟨hA0,by omega⟩⟩
       rcases List.mem_append.1 hr with hr|hr
       ·have:=LPc.out.last r hr;omega
       ·rw[List.mem_singleton] at hr;subst hr;exact Int.le_refl _
      clear hcc o1 p1 p2 K3 O2 HB12 LPc LPd
      go_wp2
      go_roundg (an-(kk+1))
      case measure=>omega
      case rel=>exact⟨kk+1,A2,_,_,by omega,by omega,by omega,rfl,rfl,by go_num,LPn⟩
    ·go_wp2
     go_roundg (an-(kk+1))
     case measure=>omega
     case rel=>exact⟨kk+1,A,_,rs,by omega,by omega,by omega,rfl,rfl,by go_num,LPd⟩
   ·have LPf:Aside (∃A,BcLp w W10 40 A (.slice uq rs.length uc) rs wr):=⟨A,LP.out.low,LP.out.rw,LP.out.ok,LP.out.last,by have:=LP.out.few;omega,LP.out.a⟩
    have hend:¬((kk:Int)<(an:Int))∨((kk:Int)<(an:Int)∧¬(kk:Int)<(kn:Int)):=by omega
    clear LP
    rcases hend with h1|⟨h1,h2⟩
    ·go_wp2
     go_meet
     case rel=>exact⟨_,rs,rfl,LPf⟩
    ·go_wp2
     go_meet
     case rel=>exact⟨_,rs,rfl,LPf⟩
 case rest =>
  rename World=>wx
  obtain⟨u,rs,hu,LP⟩:=hcut
  obtain rfl:u=_:=hu.symm
  clear S0
  obtain⟨A,LPA⟩:=LP.out
  have hm:=LPA.ok
  have hfew:=LPA.few
  have hms:=BcRs.mem (Int.le_refl 0) LPA.ok
  have hbx:=LPA.low
  have hxs:=hbx.size
  have LPL:Aside (Below W10.heap.size W10 wx):=hbx
  have hRV:RowsV wx u (rs.map bcRow):=LPA.rw.v hms (by unfold maxLen;omega)
  have HRW:Aside (BcRw wx W10.heap.size u rs∧BcRs 0 rs∧rs.length≤40∧RowsV wx u (rs.map bcRow)):=⟨LPA.rw,hm,hfew,hRV⟩
  obtain⟨uq,uc,rfl⟩:=LPA.rw.form
  have X0:Blk wx w3.heap.size PC 34:=HX10.out.on hbx
  have hx3:w3.heap.size<wx.heap.size:=X0.lt
  have bV:=alB wx (.cells q0D 34)
  have XV:=zab wx q0D 34
  have HQx:QyIn wx (fun _=>True) (.agg PC) (bcQ 10 10):=HQ10.out.on hbx
  obtain⟨e14,e1,eB⟩:=zgb HQx
  obtain⟨W20,h20⟩:∃W20,(wx.alloc (.cells q0D 34)).setCells wx.heap.size 0 PC.toList=W20:=⟨_,rfl⟩
  have X20:Blk W20 wx.heap.size PC 34:=eB _ _ _ XV h20
  have b20:Below wx.heap.size wx W20:=by rw[←h20];exact zaL (Nat.le_refl _) _ _ _ bV
  have hst:=fun {ops:Array Oper} {rest:List Oper} {op:Oper} {a:Act} {Q:Exit→Act→World→Prop}=>st14 (ops:=ops) (rest:=rest) (op:=op) (a:=a) (Q:=Q) XV rfl hP14 hP1 W20 h20
  have hld:=fun {ops:Array Oper} {rest:List Oper} {op:Oper} {a:Act} {Q:Exit→Act→World→Prop}=>ld14B (ops:=ops) (rest:=rest) (op:=op) (a:=a) (Q:=Q) hP14 X0
  have g11:W20.cell? ⟨wx.heap.size,11,none⟩=PC[11]?:=X20.cell 11
  have g12:W20.cell? ⟨wx.heap.size,12,none⟩=PC[12]?:=X20.cell 12
  have hp11:PC[11]?=some (.int .i64 10)∧PC[12]?=some (.int .i64 10):=by
   obtain⟨wp,wc,cp,cc,np,nc,gp,gc,ap,ac,e,-⟩:=HQx
   injection e with e
   rw[e]
   exact⟨rfl,rfl⟩
  rw[hp11.1] at g11
  rw[hp11.2] at g12
  have fr11:=X20.frozen 11
  have fr12:=X20.frozen 12
  have hl20:=X20.lt
  have HX20:Aside (Blk W20 wx.heap.size PC 34∧Below wx.heap.size wx W20):=⟨X20,b20⟩
  clear LPA LP hm hfew hms hbx hRV X0 bV XV HQx eB X20 b20 hp11
  go_upto_region 19 with (first|(refine hst rfl _ _ rfl rfl rfl ?_)|(refine hld rfl _ rfl rfl ?_))
  clear h20 hst hld
  obtain⟨PA,hPA⟩:∃PA,(PC.setIfInBounds 11 (.int .i64 size)).setIfInBounds 12 (.int .i64 size)=PA:=⟨_,rfl⟩
  obtain⟨W21,h21⟩:∃W21,(W20.setCell ⟨wx.heap.size,11,none⟩ (.int .i64 size)).setCell ⟨wx.heap.size,12,none⟩ (.int .i64 size)=W21:=⟨_,rfl⟩
  have X21:Blk W21 wx.heap.size PA 34:=by rw[←h21,←hPA];exact (HX20.out.1.set 11 _).set 12 _
  have b21:Below wx.heap.size wx W21:=by rw[←h21];exact (HX20.out.2.setCell (p:=⟨wx.heap.size,11,none⟩) (by simp) _).setCell (p:=⟨wx.heap.size,12,none⟩) (by simp) _
  have HQ21:QyIn W21 (fun _=>True) (.agg PA) (bcQ size size):=by rw[←hPA];exact znT ((HQ10.out.on LPL.out).on b21) size size
  obtain⟨e14,e1,eB⟩:=zgb HQ21
  have HX21:Aside (Blk W21 wx.heap.size PA 34∧Below wx.heap.size wx W21∧QyIn W21 (fun _=>True) (.agg PA) (bcQ size size)):=⟨X21,b21,HQ21⟩
  have bV:=alB W21 (.cells q0D 34)
  have XV:=zab W21 q0D 34
  obtain⟨W22,h22⟩:∃W22,(W21.alloc (.cells q0D 34)).setCells W21.heap.size 0 PA.toList=W22:=⟨_,rfl⟩
  have X22:Blk W22 W21.heap.size PA 34:=eB _ _ _ XV h22
  have b22:Below W21.heap.size W21 W22:=by rw[←h22];exact zaL (Nat.le_refl _) _ _ _ bV
  have hst:=fun {ops:Array Oper} {rest:List Oper} {op:Oper} {a:Act} {Q:Exit→Act→World→Prop}=>st14 (ops:=ops) (rest:=rest) (op:=op) (a:=a) (Q:=Q) XV rfl e14 e1 W22 h22
  have hld:=fun {ops:Array Oper} {rest:List Oper} {op:Oper} {a:Act} {Q:Exit→Act→World→Prop}=>ld14B (ops:=ops) (rest:=rest) (op:=op) (a:=a) (Q:=Q) e14 X21
  obtain⟨PB,hPB⟩:∃PB,PA.setIfInBounds 11 (.int .i64 (2*size))=PB:=⟨_,rfl⟩
  obtain⟨W23,h23⟩:∃W23,W22.setCell ⟨W21.heap.size,11,none⟩ (.int .i64 (2*size))=W23:=⟨_,rfl⟩
  have k11:W22.cell? ⟨W21.heap.size,11,none⟩=some (.int .i64 size):=by
   rw[X22.cell]
   obtain⟨wp,wc,cp,cc,np,nc,gp,gc,ap,ac,e,-⟩:=HQ21
   injection e with e
   rw[e]
   rfl
  have kf:=X22.frozen 11
  have kl:=X22.lt
  have b23:Below W21.heap.size W21 W23:=by rw[←h23];exact b22.setCell (p:=⟨W21.heap.size,11,none⟩) (by simp) _
  have X23:Blk W23 W21.heap.size PB 34:=by rw[←h23,←hPB];exact X22.set 11 _
  have HQ23:QyIn W23 (fun _=>True) (.agg PB) (bcQ (2*size) size):=by rw[←hPB];exact zlD (HQ21.on b23) _
  have hs21:=b21.size
  have hs23:=b23.size
  have b23x:Below wx.heap.size wx W23:=b21.trans (b23.mono hs21)
  have XA:=X21.on b23
  have hB23:Below w.heap.size w W23:=B10.out.trans ((LPL.out.trans (b23x.mono hxs)).mono B10.out.size)
  have hK23:Blk W23 w.heap.size bcCol 25:=(K10.out.on LPL.out).on b23x
  have hw1:wdB size size:=by unfold wdB;omega
  have hw2:wdB (2*size) size:=by unfold wdB;omega
  have cA:=zqb HENV.out HAENV.out hw1 HRW.out.2.1 HRW.out.2.2.1 PA w.heap.size (.slice uq rs.length uc) W23 hB23 (HQ21.on b23) hK23 (HRW.out.2.2.2.on b23x)
  have hld2:=fun {ops:Array Oper} {rest:List Oper} {op:Oper} {a:Act} {Q:Exit→Act→World→Prop}=>ld14B (ops:=ops) (rest:=rest) (op:=op) (a:=a) (Q:=Q) e14 XA
  have hwr:IntKind.i64.wrap (2*size)=2*size:=by rw[IntKind.wrap_i64];omega
  have H23:Aside (Blk W23 W21.heap.size PB 34∧QyIn W23 (fun _=>True) (.agg PB) (bcQ (2*size) size)∧Below wx.heap.size wx W23):=⟨X23,HQ23,b23x⟩
  have H23b:Aside (Below w.heap.size w W23∧Blk W23 w.heap.size bcCol 25∧wdB size size∧wdB (2*size) size):=⟨hB23,hK23,hw1,hw2⟩
  clear HX20 X21 b21 HQ21 eB bV XV X22 b22 hPA hPB b23 X23 HQ23 b23x XA hB23 hK23 hw1 hw2
  go_upto_region 22 with (first|(refine hst rfl _ _ rfl rfl rfl ?_)|(refine hld rfl _ rfl rfl ?_))
  clear hst hld h21 h22 g11 g12 fr11 fr12
  go_wp2_with (refine hld2 rfl _ rfl rfl ?_)
  refine cA.mono ?_
  rintro e w24 ⟨⟨ux,rfl,OX⟩,b24⟩
  obtain⟨X23,HQ23,b23x⟩:=H23.out
  obtain⟨hB23,hK23,hw1,hw2⟩:=H23b.out
  have X24:=X23.on b24
  have hB24:Below w.heap.size w w24:=hB23.trans (b24.mono hB23.size)
  have b24x:Below wx.heap.size wx w24:=b23x.trans (b24.mono b23x.size)
  have hRV24:=HRW.out.2.2.2.on b24x
  have q14:=(zgb HQ23).1
  have cB:=zqb HENV.out HAENV.out hw2 HRW.out.2.1 HRW.out.2.2.1 PB w.heap.size (.slice uq rs.length uc) w24 hB24 (HQ23.on b24) (hK23.on b24) hRV24
  have hld3:=fun {ops:Array Oper} {rest:List Oper} {op:Oper} {a:Act} {Q:Exit→Act→World→Prop}=>ld14B (ops:=ops) (rest:=rest) (op:=op) (a:=a) (Q:=Q) q14 X24
  have H24:Aside (Below w.heap.size w w24∧Below wx.heap.size wx w24):=⟨hB24,b24x⟩
  obtain⟨LX,hLX⟩:∃LX,zbp size size (0,[]) rs=LX:=⟨_,rfl⟩
  obtain⟨LY,hLY⟩:∃LY,zbp (2*size) size (0,[]) rs=LY:=⟨_,rfl⟩
  have hlX:LX.length≤700000:=by rw[←hLX];exact zpX hw1 HRW.out.2.1 HRW.out.2.2.1
  have hlY:LY.length≤700000:=by rw[←hLY];exact zpX hw2 HRW.out.2.1 HRW.out.2.2.1
  have FX:Aside ((∀o∈LX,GoodO size o)∧oS LX=(rs.length:Int)∧LX.Pairwise (fun a b=>a.2.2≤b.2.2)):=by
   obtain⟨a1,a2,a3,-⟩:=znP hw1 rs 0 (0,[]) (BcI.nil _ _) (by have:=HRW.out.2.2.1;omega) HRW.out.2.1
   rw[zmP (by omega) rs 0 (Int.le_refl _) HRW.out.2.1] at a2
   rw[←hLX]
   exact⟨a1,by rw[a2];show (0:Int)+_=_;omega,a3⟩
  have FY:Aside ((∀o∈LY,GoodO size o)∧oS LY=2*(rs.length:Int)-(early size rs:Int)):=by
   obtain⟨a1,a2,a3,-⟩:=znP hw2 rs 0 (0,[]) (BcI.nil _ _) (by have:=HRW.out.2.2.1;omega) HRW.out.2.1
   rw[zmQ (by omega) rs 0 (Int.le_refl _) HRW.out.2.1] at a2
   rw[←hLY]
   exact⟨a1,by rw[a2];show (0:Int)+_=_;omega⟩
  rw[hLX] at OX
  rw[hLY] at cB
  clear cA hld2 H23 H23b X23 HQ23 b23x hB23 hK23 hw1 hw2 X24 hB24 b24x hRV24 hLX hLY k11 kf kl h23
  go_wp2_with (refine hld3 rfl _ rfl rfl ?_)
  refine cB.mono ?_
  rintro e w25 ⟨⟨uy,rfl,OY⟩,b25⟩
  have H25:Aside (Below w.heap.size w w25∧RowsV w25 (.slice uq rs.length uc) (rs.map bcRow)):=⟨H24.out.1.trans (b25.mono H24.out.1.size),(HRW.out.2.2.2.on H24.out.2).on b25⟩
  have OX5:Aside (OutsV w25 ux LX):=OX.out.on b25
  obtain⟨xq,xc,rfl,-⟩:=id OX5.out
  obtain⟨yq,yc,rfl,-⟩:=id OY.out
  obtain⟨NX,hNX⟩:∃NX,LX.length=NX:=⟨_,rfl⟩
  obtain⟨NY,hNY⟩:∃NY,LY.length=NY:=⟨_,rfl⟩
  have HNX:Hid (LX.length=NX):=hNX
  have HNY:Hid (LY.length=NY):=hNY
  rw[hNX] at OX5 hlX ⊢
  rw[hNY] at OY hlY ⊢
  obtain⟨NR,hNR⟩:∃NR,rs.length=NR:=⟨_,rfl⟩
  have HNR:Hid (rs.length=NR):=hNR
  have hr40:NR≤40:=by rw[←hNR];exact HRW.out.2.2.1
  rw[hNR] at FX FY H25 ⊢
  clear cB hld3 H24 OX b25 hNX hNY hNR HRW
  go_upto_block 2 with fail
  go_cut [20,21] (fun s20 _ wx=>s20=.int .i64 (NR:Int)∧Aside (Below w25.heap.size w25 wx))
  case first =>
   have S0:Aside (Below w25.heap.size w25 w25):=Below.refl _ _
   go_wp2_with fail
   go_loopg [20,21] NX (fun gg s20 s21 wr=>∃kk:Nat,kk≤NX∧NX-kk≤gg∧s20=.int .i64 (oS (LX.take kk))∧s21=.int .i64 (kk:Int)∧Aside (Below w25.heap.size w25 wr))
   case atStart=>exact⟨0,Nat.zero_le _,by omega,rfl,rfl,S0⟩
   case round =>
    obtain⟨kk,hkk,hg,rfl,rfl,BW⟩:=hrel
    clear S0
    have hnn:=zhD (fun o ho=>(FX.out.1 o ho).2.2.2.1) kk
    rw[FX.out.2.1] at hnn
    by_cases hlt:kk<NX
    ·have hltz:(kk:Int)<(NX:Int):=by omega
     have h0z:(0:Int)≤(kk:Int):=by omega
     have hk2:kk<LX.length:=by rw[HNX.out];exact hlt
     have HXW:OutsV wr (.slice xq NX xc) LX:=OX5.out.on BW.out
     obtain⟨xb,rb,ro,rc,rfl,c0,c1,c2,c3⟩:=zpe HXW FX.out.1 hk2
     have hgo:=FX.out.1 _ (List.getElem_mem hk2)
     obtain⟨-,-,gd,gn,gf0,gf1⟩:=hgo
     have hsu:=znm hk2
     have hn2:=zhD (fun o ho=>(FX.out.1 o ho).2.2.2.1) (kk+1)
     rw[FX.out.2.1] at hn2
     have HSU:Hid (oS (LX.take (kk+1))=oS (LX.take kk)+oN LX[kk]):=hsu
     rw[hsu] at hn2
     have hrm:LX[kk].2.2.tmod size=0:=Int.tmod_eq_zero_of_dvd gd
     have hprev:∀kp,kk=kp+1→∃F0,wr.cell? ⟨xb,kp*3+2,none⟩=some (.int .i64 F0)∧F0≤LX[kk].2.2:=fun kp e=>by
      obtain⟨xb',-,-,-,e1,-,-,e4,-⟩:=zpe HXW FX.out.1 (show kp<LX.length by omega)
      injection e1 with e1
      injection e1 with e1
      subst e1
      exact⟨_,e4,List.pairwise_iff_getElem.1 FX.out.2.2 kp kk (by omega) hk2 (by omega)⟩
     clear HXW hsu gd
     generalize LX[kk].2.2=F at *
     generalize oN LX[kk]=ON at *
     generalize oS (LX.take kk)=SU at *
     have hw:IntKind.i64.wrap (SU+ON)=SU+ON:=by rw[IntKind.wrap_i64];omega
     have hsz0:size≠0:=by omega
     go_upto_region 31 with fail
     by_cases hk0:kk=0
     ·subst hk0
      clear hprev
      go_big_quiet (fail)
      go_wp2
      go_roundg (NX-(0+1))
      case measure=>omega
      case rel=>exact⟨0+1,by omega,by omega,congrArg (Value.int .i64) HSU.out.symm,by go_num,BW.out.trans (below_drewN (Below.refl _ _) _)⟩
     ·obtain⟨kp,hkp⟩:∃kp,kk=kp+1:=⟨kk-1,by omega⟩
      obtain⟨F0,c5,hF⟩:=hprev kp hkp
      have hwp:IntKind.i64.wrap ((kk:Int)-1)=(kp:Int):=by rw[IntKind.wrap_i64];omega
      have hkpz:(0:Int)<(kk:Int):=by omega
      have hkp0:(0:Int)≤(kp:Int):=by omega
      have hkpn:(kp:Int)<(NX:Int):=by omega
      have r0:wr.cell? ⟨xb,0+kk*3,none⟩=some (.slice (some ⟨rb,ro,none⟩) 2 rc):=by rw[Nat.zero_add];exact c0
      have r1:wr.cell? ⟨xb,0+kk*3+1,none⟩=some (.int .i64 0):=by rw[Nat.zero_add];exact c1
      have r2:wr.cell? ⟨xb,0+kk*3+2,none⟩=some (.int .i64 F):=by rw[Nat.zero_add];exact c2
      have r5:wr.cell? ⟨xb,0+kp*3+2,none⟩=some (.int .i64 F0):=by rw[Nat.zero_add];exact c5
      have hkb:decide ((0:Int)<(kk:Int))=true:=decide_eq_true hkpz
      have hkn:0<kk:=by omega
      have hkb2:decide (0<kk)=true:=decide_eq_true hkn
      have hFb:decide (F<F0)=false:=decide_eq_false (by omega)
      clear hprev
      clear hkp hk0
      go_big_quiet (fail)
      go_wp2
      go_roundg (NX-(kk+1))
      case measure=>omega
      case rel=>exact⟨kk+1,by omega,by omega,congrArg (Value.int .i64) HSU.out.symm,by go_num,BW.out.trans (below_drewN (Below.refl _ _) _)⟩
    ·have hltz:¬(kk:Int)<(NX:Int):=by omega
     have hkN:kk=NX:=by omega
     have hfin:oS (LX.take NX)=(NR:Int):=by rw[List.take_of_length_le (by rw[HNX.out];exact Nat.le_refl _)];exact FX.out.2.1
     subst hkN
     go_wp2
     go_meet
     case rel=>exact⟨rfl,BW⟩
  case rest =>
   rename World=>wy
   obtain⟨rfl,BY⟩:=hcut
   go_upto_block 4 with fail
   go_cut [22,24] (fun s22 _ wx=>s22=.int .i64 (2*(NR:Int)-(early size rs:Int))∧Aside (Below w25.heap.size w25 wx))
   case first =>
    go_wp2_with fail
    go_loopg [22,24] NY (fun gg s22 s24 wr=>∃kk:Nat,kk≤NY∧NY-kk≤gg∧s22=.int .i64 (oS (LY.take kk))∧s24=.int .i64 (kk:Int)∧Aside (Below w25.heap.size w25 wr))
    case atStart=>exact⟨0,Nat.zero_le _,by omega,rfl,rfl,BY⟩
    case round =>
     obtain⟨kk,hkk,hg,rfl,rfl,BW⟩:=hrel
     clear BY
     have hnn:=zhD (fun o ho=>(FY.out.1 o ho).2.2.2.1) kk
     rw[FY.out.2] at hnn
     by_cases hlt:kk<NY
     ·have hltz:(kk:Int)<(NY:Int):=by omega
      have h0z:(0:Int)≤(kk:Int):=by omega
      have hk2:kk<LY.length:=by rw[HNY.out];exact hlt
      have HYW:OutsV wr (.slice yq NY yc) LY:=OY.out.on BW.out
      obtain⟨xb,rb,ro,rc,rfl,c0,c1,c2,c3⟩:=zpe HYW FY.out.1 hk2
      have hsu:=znm hk2
      have hn2:=zhD (fun o ho=>(FY.out.1 o ho).2.2.2.1) (kk+1)
      rw[FY.out.2] at hn2
      have HSU:Hid (oS (LY.take (kk+1))=oS (LY.take kk)+oN LY[kk]):=hsu
      rw[hsu] at hn2
      clear HYW hsu c2
      generalize oN LY[kk]=ON at *
      generalize oS (LY.take kk)=SU at *
      have hw:IntKind.i64.wrap (SU+ON)=SU+ON:=by rw[IntKind.wrap_i64];omega
      go_wp2
      go_roundg (NY-(kk+1))
      case measure=>omega
      case rel=>exact⟨kk+1,by omega,by omega,congrArg (Value.int .i64) HSU.out.symm,by go_num,BW⟩
     ·have hltz:¬(kk:Int)<(NY:Int):=by omega
      have hkN:kk=NY:=by omega
      have hfin:oS (LY.take NY)=2*(NR:Int)-(early size rs:Int):=by rw[List.take_of_length_le (by rw[HNY.out];exact Nat.le_refl _)];exact FY.out.2
      subst hkN
      go_wp2
      go_meet
      case rel=>exact⟨rfl,BW⟩
   case rest =>
    rename World=>wz
    obtain⟨rfl,BZ⟩:=hcut
    clear BY
    have hel:=zjt size rs
    rw[HNR.out] at hel
    go_upto_block 6 with fail
    go_cut [23,25] (fun s23 _ wx=>s23=.int .i64 (early size rs:Int)∧Aside (Below w25.heap.size w25 wx))
    case first =>
     go_wp2_with fail
     go_loopg [23,25] NR (fun gg s23 s25 wr=>∃kk:Nat,kk≤NR∧NR-kk≤gg∧s23=.int .i64 (early size (rs.take kk):Int)∧s25=.int .i64 (kk:Int)∧Aside (Below w25.heap.size w25 wr))
     case atStart=>exact⟨0,Nat.zero_le _,by omega,rfl,rfl,BZ⟩
     case round =>
      obtain⟨kk,hkk,hg,rfl,rfl,BW⟩:=hrel
      clear BZ
      by_cases hlt:kk<NR
      ·have hltz:(kk:Int)<(NR:Int):=by omega
       have h0z:(0:Int)≤(kk:Int):=by omega
       have hk2:kk<rs.length:=by rw[HNR.out];exact hlt
       obtain⟨xb,xo,rb,ro,rc,rfl,c0,c1⟩:=zty (H25.out.2.on BW.out) hk2
       have hsu:=zju (Y:=size) hk2
       have hle:=zjt size (rs.take kk)
       rw[List.length_take] at hle
       by_cases hea:rs[kk].1<size
       ·rw[if_pos hea] at hsu
        have HSU:Hid ((early size (rs.take (kk+1)):Int)=(early size (rs.take kk):Int)+1):=by show _=_;rw[hsu];push_cast;rfl
        clear hsu
        generalize rs[kk].1=F at *
        generalize early size (rs.take kk)=SU at *
        have hw:IntKind.i64.wrap ((SU:Int)+1)=(SU:Int)+1:=by rw[IntKind.wrap_i64];omega
        go_wp2
        go_roundg (NR-(kk+1))
        case measure=>omega
        case rel=>exact⟨kk+1,by omega,by omega,congrArg (Value.int .i64) HSU.out.symm,by go_num,BW⟩
       ·rw[if_neg hea] at hsu
        have HSU:Hid ((early size (rs.take (kk+1)):Int)=(early size (rs.take kk):Int)):=by show _=_;rw[hsu];rfl
        clear hsu
        generalize rs[kk].1=F at *
        generalize early size (rs.take kk)=SU at *
        go_wp2
        go_roundg (NR-(kk+1))
        case measure=>omega
        case rel=>exact⟨kk+1,by omega,by omega,congrArg (Value.int .i64) HSU.out.symm,by go_num,BW⟩
      ·have hltz:¬(kk:Int)<(NR:Int):=by omega
       have hkN:kk=NR:=by omega
       have hfin:early size (rs.take NR)=early size rs:=by rw[List.take_of_length_le (by rw[HNR.out];exact Nat.le_refl _)]
       subst hkN
       go_wp2
       go_meet
       case rel=>exact⟨by first|rfl|rw[hfin],BW⟩
    case rest =>
     rename World=>wu
     obtain⟨rfl,BU⟩:=hcut
     clear BZ
     have HFB:Aside (Below w.heap.size w wu):=H25.out.1.trans (BU.out.mono H25.out.1.size)
     generalize early size rs=ER at *
     have hwA:IntKind.i64.wrap (2*(NR:Int))=2*(NR:Int):=by rw[IntKind.wrap_i64];omega
     have hwB:IntKind.i64.wrap (2*(NR:Int)-(ER:Int))=2*(NR:Int)-(ER:Int):=by rw[IntKind.wrap_i64];omega
     go_wp2
     go_ret
     exact⟨rfl,HFB.out⟩
end
end Go.Proofs.YtbdnccnfidjiaaaGreatDoor
