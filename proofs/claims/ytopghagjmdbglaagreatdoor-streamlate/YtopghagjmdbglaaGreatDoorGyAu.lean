/-
  TeW, StF, ClS, GpR.
-/
import Derived.Test.YtopghagjmdbglaaGreatDoorGyAt
import Derived.Lib.SliceRun
import Derived.Test.YtopghagjmdbglaaGreatDoorGyAs
import Derived.Test.YtopghagjmdbglaaGreatDoorGyAh
import Derived.Deep.QuietTactic
import Derived.Test.YtopghagjmdbglaaGreatDoorGyAr
namespace Go.Proofs.YtopghagjmdbglaaGreatDoor
open Go.RowKit
set_option linter.unusedVariables false
set_option linter.unusedSimpArgs false
set_option maxHeartbeats 8000000
set_option maxRecDepth 20000
section
open Go.BigFrame
theorem zdM(q:Option Addr)(n m c d:Nat):(Value.slice q n c).ownBlock=(Value.slice q m d).ownBlock:=by cases q<;>rfl
theorem zte{ps0:List Pt}(l:List Wm)(h:∀x∈l,x.gs.length≤40):(l.flatMap fun x=>wOt ps0 x.pl).length≤40*l.length:=by
 rw[List.length_flatMap]
 induction l with
 | nil=>simp
 | cons x t ih =>
  have h1:=h x (List.mem_cons_self ..)
  have h2:=ih (fun y hy=>h y (List.mem_cons_of_mem _ hy))
  rw[List.map_cons,List.sum_cons,List.length_cons]
  have h3:(wOt ps0 x.pl).length=x.gs.length:=by rw[wOt,List.length_map,Wm.pl,List.length_map]
  omega
theorem zfJ{w:World}{base:Nat}{ps0:List Pt}(q:Option Addr)(n c:Nat)(ys:List Wm)(hl:ys.length=n)(hrow:n=0∨∃g,q=some ⟨g,0,none⟩∧g<w.heap.size∧∀j,j<n→w.cell? ⟨g,j,none⟩=some (ys.getD j dwm).p)(hwm:∀x∈ys,WmAt w base ps0 x)(het:EtAt w)(hp:ps0.length≤1000)(hn:n≤1001)(hgs:∀x∈ys,x.gs.length≤40∧∀g∈x.gs,g.key.length≤1000∧∀v∈g.key,v.2.2.size≤40) :
  Calls Tryz.prog 115 #[.slice q n c] w fun e w'=>(∃u,e=.returned u∧Aside (OutsF w.heap.size w' u (ys.flatMap fun x=>wOt ps0 x.pl)))∧Below w.heap.size w w':=by
 have hlen:∀k,k≤n→((ys.take k).flatMap fun x=>wOt ps0 x.pl).length≤40*k:=fun k hk=>by
  have h4:=zte (ps0:=ps0) (ys.take k) (fun x hx=>(hgs x (List.mem_of_mem_take hx)).1)
  have h5:(ys.take k).length≤k:=by rw[List.length_take];omega
  omega
 have HYN:Hid (ys.length=n):=hl
 have HROW:Aside _:=hrow
 have HWM:Aside _:=hwm
 have HE:Aside (EtAt w):=het
 have HGS:Aside _:=hgs
 have HLEN:Aside _:=hlen
 have HP:Hid (ps0.length≤1000):=hp
 clear hl hrow hwm het hgs hlen hp
 have hnz:(n:Int)≤1001:=by omega
 go_enter Tryz.func115,Tryz.ntmps115
 go_wp2
 go_loopg [3,5,8] n (fun gg s3 _ s8 wr=>∃(kk:Nat) (u:Value),kk≤n∧n-kk≤gg∧s8=.int .i64 (kk:Int)∧s3=u∧Aside (OutsF w.heap.size wr u ((ys.take kk).flatMap fun x=>wOt ps0 x.pl))∧Aside (Below w.heap.size w wr))
 case atStart=>exact⟨0,.slice none 0 0,Nat.zero_le _,by omega,rfl,rfl,(show Aside _ from OutsF.nil _ _),(show Aside _ from Below.refl _ _)⟩
 case round =>
  obtain⟨kk,u,hkk,hg,rfl,hu,OJ,BJ⟩:=hrel
  obtain rfl:u=_:=hu.symm
  have hbs:=BJ.out.size
  have k0:(0:Int)≤(kk:Int):=by omega
  by_cases hlt:kk<n
  ·have hltz:(kk:Int)<(n:Int):=by omega
   have hltX:kk<ys.length:=by rw[HYN.out];exact hlt
   obtain⟨g,rfl,hgl1,hcell⟩:=HROW.out.resolve_left (by omega)
   have hpt:wr.cell? ⟨g,kk,none⟩=some (ys.getD kk dwm).p:=by rw[BJ.out.cell (p:=⟨g,kk,none⟩) hgl1];exact hcell kk hlt
   have hxm:=zbt (d:=dwm) hltX
   have HT:Hid (((ys.take (kk+1)).flatMap fun x=>wOt ps0 x.pl)=((ys.take kk).flatMap fun x=>wOt ps0 x.pl)++wOt ps0 (ys.getD kk dwm).pl):=by
    show _=_
    rw[List.take_succ_eq_append_getElem hltX,List.flatMap_append,zbq hltX]
    simp
   have cO:=zsK ((HWM.out _ hxm).on BJ.out) (HE.out.on BJ.out) HP.out (by have:=(HGS.out _ hxm).1;omega) (HGS.out _ hxm).2
   clear hxm hcell
   generalize ys.getD kk dwm=x at *
   rw[Wm.p] at hpt
   go_wp2_with fail
   refine cO.mono ?_
   rintro e w3 ⟨⟨v,rfl,HV⟩,b3⟩
   have B3:=BJ.out.trans (b3.mono hbs)
   have O3:=OJ.out.on b3
   have HO3:Aside _:=O3
   have HB3:Aside _:=B3
   have hlow:∀k,u.ownBlock=some k→k<wr.heap.size:=fun k hk=>by have:=(OJ.out.lt k hk).2;omega
   have hle1:=HLEN.out kk (by omega)
   have hle2:=HLEN.out (kk+1) (by omega)
   rw[HT.out,List.length_append] at hle2
   clear cO OJ BJ O3 B3 hpt
   go_wp2_with (at_builtin;go_loud (refine zbb rfl _ _ rfl w.heap.size u _ rfl HO3.out wr.heap.size v _ rfl HV.out hlow hbs (by omega) (by have:=HB3.out.size;omega) ?_))
   intro v' w4 hO hgr hown
   have B4:Aside (Below w.heap.size w w4):=HB3.out.grown hgr (by have:=HB3.out.size;omega) (fun k hk=>(HO3.out.lt k hk).1)
   have O4:Aside (OutsF w.heap.size w4 v' ((ys.take (kk+1)).flatMap fun x=>wOt ps0 x.pl)):=by rw[HT.out];exact hO
   clear hO hgr hown HO3 HB3 HV
   go_wp2
   go_roundg (n-(kk+1))
   case measure=>omega
   case rel=>exact⟨kk+1,v',by omega,by omega,by go_num,rfl,O4,B4⟩
  ·have hltz:¬(kk:Int)<(n:Int):=by omega
   obtain rfl:kk=n:=by omega
   have HO:Aside (OutsF w.heap.size wr u (ys.flatMap fun x=>wOt ps0 x.pl)):=by
    have:=OJ.out
    rw[List.take_of_length_le (by rw[HYN.out];exact Nat.le_refl _)] at this
    exact this
   clear OJ
   go_wp2
   go_ret
   exact⟨⟨u,rfl,HO⟩,BJ.out⟩
theorem zem(p:Option Addr)(n c l:Nat)(hl:l≤n)(hn:n≤c)(hp:p=none→c=0)(h0:∀a,p=some a→∃g,a=⟨g,0,none⟩)(W:World):Sem.run Tryz.prog (Instr.slice 108 (.slice p n c) none (some (.int .i64 (l:Int))) none) W=.ok (.slice p l c) W:=by
 have g0:(0:Int)≤(l:Int):=by omega
 have g1:(l:Int)≤(c:Int):=by omega
 have g2:Sem.run Tryz.prog (Go.sizeOf (Tryz.prog.elem 108)) W=.ok 1 W:=by kernel_rfl
 rw[run_slice_h W 108 p n c (by kernel_rfl) .i64 l g0 g1,g2]
 show Result.ok (sliced p 0 l c 1) W=_
 rw[sliced]
 cases p with
 | none=>simp
 | some a =>
  obtain⟨g,rfl⟩:=h0 a rfl
  simp[Addr.add]
theorem ziq{W:World}{base:Nat}{ps0:List Pt}{gb:Nat}{s:Gs}{last:Int}{oq:Option Addr}{N oc:Nat}{xs:List Wm}(G:GrAt W base ps0 gb s last (.slice oq N oc) xs)(hN:xs.length=N)(J:Nat)(hJ:J≤N):J=0∨∃g,oq=some ⟨g,0,none⟩∧g<W.heap.size∧∀j,j<J→W.cell? ⟨g,j,none⟩=some ((xs.take J).getD j dwm).p:=by
 subst hN
 rcases Nat.eq_zero_or_pos J with h0|h0
 ·exact .inl h0
 ·obtain⟨g,c,hg1,hgl1,-⟩:=G.row_some (by omega)
  have hp:=fun j (hj:j<xs.length)=>G.ptr hg1 hj
  injection hg1 with e1 _ e2
  refine .inr ⟨g,e1,hgl1,fun j hj=>?_⟩
  rw[hp j (by omega),zbq (by omega),zbq (by rw[List.length_take];omega),List.getElem_take]
theorem zkb{w:World}{base:Nat}{ps0:List Pt}{gb:Nat}{s:Gs}{last:Int}{ov:Value}{xs:List Wm}(h:GrAt w base ps0 gb s last ov xs)(het:EtAt w)(hbase:base≤w.heap.size)(hp:ps0.length≤1000)(hn:xs.length≤1001)(hgs:∀x∈xs,x.gs.length≤40∧∀g∈x.gs,g.key.length≤1000∧∀v∈g.key,v.2.2.size≤40)
  (fn:FuncId)(hent:∀(args:Array Value) (W:World),Sem.run Tryz.prog (callFunc fn args) W=.ok (.enter fn args) W)(caps:Array Value)(D:Nat→Bool)
  (hD:∀j,j<xs.length→∀W,Below w.heap.size w W→Calls Tryz.prog fn (#[(xs.getD j dwm).p]++caps) W fun e w'=>e=.returned (.bool (D j))∧Below W.heap.size W w')
  (J:Nat)(hJ:J≤xs.length)(hJ1:∀j,j<J→D j=true)(hJ2:J<xs.length→D J=false) :
  Calls Tryz.prog 79 #[.pointer (some ⟨gb,0,none⟩),.func (.func fn) #[] caps] w fun e w'=>(∃u,e=.returned u∧Aside (OutsF w.heap.size w' u ((xs.take J).flatMap fun x=>wOt ps0 x.pl)))∧Aside (∃ov',GrAt w' base ps0 gb s last ov' (xs.drop J)∧Kp (GrS gb ov xs) w w'∧(∀k,GrS gb ov' (xs.drop J) k→GrS gb ov xs k)):=by
 obtain⟨oq,oc,hov⟩:=zaa h.row
 obtain⟨N,hN⟩:∃N,xs.length=N:=⟨_,rfl⟩
 have HXN:Hid (xs.length=N):=hN
 rw[hN] at hov
 subst hov
 have hc16:=h.c16
 have hgl:gb<w.heap.size:=by have:=h.lt;omega
 have hoq:N≤oc∧(oq=none→oc=0)∧(∀a,oq=some a→∃g,a=⟨g,0,none⟩):=by
  have hr:=h.row
  rw[hN] at hr
  rcases hr.2 with ⟨e,e0⟩|⟨g,cap,cur,e,hB,hg,hcap,hx,hcs,-⟩
  ·injection e with e1 e2 e3
   subst e1 e3
   exact⟨by omega,(fun _=>rfl),(fun a ha=>by cases ha)⟩
  ·injection e with e1 e2 e3
   subst e1 e3
   exact⟨hcap,(fun h=>by cases h),(fun a ha=>by injection ha with ha;exact⟨g,ha.symm⟩)⟩
 have HOQ:Aside _:=hoq
 have hog:(Value.slice oq N oc).ownBlock≠some gb:=fun e=>by
  have h1:=(zdW h.row _ e).1
  have h2:=h.lt
  omega
 have HOG:Aside _:=hog
 have H:Aside _:=h
 have HE:Aside (EtAt w):=het
 have HGS:Aside _:=hgs
 have HD:Aside _:=hD
 have HJ:Aside ((∀j,j<J→D j=true)∧(J<N→D J=false)):=⟨hJ1,by rw[←hN];exact hJ2⟩
 have HP:Hid (ps0.length≤1000):=hp
 have HCE:∀W,Below w.heap.size w W→W.cell? ⟨gb,16,none⟩=some (.slice oq N oc):=fun W hb=>by rw[hb.cell (p:=⟨gb,16,none⟩) hgl];exact hc16
 have HC:Aside _:=HCE
 rw[hN] at hn hJ
 have cDel:=fun W (hb:Below w.heap.size w W) (j:Nat) (hj:j≤N)=>zjB base oq N oc j (xs.map Wm.p) W (by have:=zab h.row hb;rw[hN] at this;exact this) (fun u hu=>by obtain⟨y,_,rfl⟩:=List.mem_map.1 hu;rfl) hj (by omega)
 have HDEL:Aside _:=cDel
 have hJz:(J:Int)≤(N:Int):=by omega
 clear hog h het hgs hD hJ1 hJ2 hp HCE hN cDel hc16 hoq
 go_enter Tryz.func79,Tryz.ntmps79
 go_wp2
 go_loopg [5] N (fun gg s5 wr=>∃kk:Nat,kk≤J∧N-kk≤gg∧s5=.int .i64 (kk:Int)∧Aside (Below w.heap.size w wr))
 case atStart=>exact⟨0,Nat.zero_le _,by omega,rfl,(show Aside _ from Below.refl _ _)⟩
 case round =>
  obtain⟨kk,hkk,hg,rfl,BJ⟩:=hrel
  have hc:=HC.out wr BJ.out
  have hbs:=BJ.out.size
  have k0:(0:Int)≤(kk:Int):=by omega
  by_cases hlt:kk<N
  ·have hltz:(kk:Int)<(N:Int):=by omega
   have hltX:kk<xs.length:=by rw[HXN.out];exact hlt
   have G:=H.out.on BJ.out
   obtain⟨g,c,hg1,hgl1,-⟩:=G.row_some (by omega)
   rw[HXN.out] at hg1
   injection hg1 with e1 _ e2
   subst e1
   subst e2
   have hpt:=G.ptr (by rw[HXN.out]) hltX
   have cD:=HD.out kk hltX wr BJ.out
   obtain⟨d,hd⟩:∃d,D kk=d:=⟨_,rfl⟩
   rw[hd] at cD
   have HDK:Hid (D kk=d):=hd
   clear G hd
   generalize xs.getD kk dwm=x at *
   rw[Wm.p] at cD hpt
   cases d
   ·have hJk:J=kk:=by
     rcases Nat.lt_or_ge kk J with h|h
     ·have:=HJ.out.1 kk h;rw[HDK.out] at this;cases this
     ·omega
    subst hJk
    go_wp2_with fail
    refine cD.mono ?_
    rintro e w2 ⟨rfl,b2⟩
    clear cD
    have BX2:=BJ.out.trans (b2.mono hbs)
    clear BJ hc hbs
    have HBX:Aside (Below w.heap.size w w2):=BX2
    have GX:=H.out.on HBX.out
    have hcX:=HC.out w2 HBX.out
    have hszX:=HBX.out.size
    have cOO:=zfJ (w:=w2) (base:=base) (ps0:=ps0) _ J oc (xs.take J) (by have:=HXN.out;rw[List.length_take];omega) (ziq GX HXN.out J (by omega)) (fun x hx=>GX.wm x (List.mem_of_mem_take hx)) (HE.out.on HBX.out) HP.out (by omega) (fun x hx=>HGS.out x (List.mem_of_mem_take hx))
    have hsl:=fun W=>zem _ N oc J (by omega) HOQ.out.1 HOQ.out.2.1 HOQ.out.2.2 W
    clear GX
    go_wp2_with fail
    refine cOO.mono ?_
    rintro e w4 ⟨⟨v,rfl,HV⟩,b4⟩
    have HOX:Aside (OutsF w.heap.size w4 v ((xs.take J).flatMap fun x=>wOt ps0 x.pl)):=HV.out.low HBX.out.size
    have HBY:Aside (Below w.heap.size w w4):=HBX.out.trans (b4.mono HBX.out.size)
    have hcY:=HC.out w4 HBY.out
    have cY:=HDEL.out w4 HBY.out J (by omega)
    have hszY:=HBY.out.size
    obtain⟨C,hC1,hC2⟩:=(H.out.on HBY.out).blk
    have h16:=hC2.c16
    have HC1:Aside (Blk w4 gb C 110):=hC1
    clear cOO hsl hcX HV b4 hC1 hC2
    go_wp2_with fail
    refine cY.mono ?_
    rintro r w5 ⟨rfl,HR,HK⟩
    have c5b:=HC1.out.kp HK.out HOG.out
    have c5:=c5b.cell 16
    have f5:=c5b.frozen 16
    rw[h16] at c5
    clear cY c5b hcY
    go_wp2
    go_ret
    have hw5:w4.heap.size≤w5.heap.size:=HK.out.size
    obtain⟨d1,d2,d3⟩:=(H.out.on HBY.out).del J (by rw[HXN.out];omega) HK.out (by rw[HXN.out];exact HR.out) (zdM _ _ _ _ _)
    refine⟨⟨_,rfl,(show Aside _ from HOX.out.kp d2 (fun k hk=>?_))⟩,(show Aside _ from ⟨_,d1,(Kp.of_below HBY.out).trans d2,d3⟩)⟩
    rcases H.out.in_ k hk with h|h
    ·omega
    ·exact h.2
   ·have hJk:kk<J:=by
     rcases Nat.lt_or_ge kk J with h|h
     ·exact h
     ·have:=HJ.out.2 (by omega)
      have e:J=kk:=by omega
      rw[e,HDK.out] at this;cases this
    go_wp2_with fail
    refine cD.mono ?_
    rintro e w2 ⟨rfl,b2⟩
    have B2:Aside (Below w.heap.size w w2):=BJ.out.trans (b2.mono hbs)
    clear cD BJ hc hpt
    go_wp2
    go_roundg (N-(kk+1))
    case measure=>omega
    case rel=>exact⟨kk+1,by omega,by omega,by go_num,B2⟩
  ·have hltz:¬(kk:Int)<(N:Int):=by omega
   have hJk:J=kk:=by omega
   subst hJk
   have BX2:=BJ.out
   clear BJ hc hbs
   have HBX:Aside (Below w.heap.size w wr):=BX2
   have GX:=H.out.on HBX.out
   have hcX:=HC.out wr HBX.out
   have hszX:=HBX.out.size
   have cOO:=zfJ (w:=wr) (base:=base) (ps0:=ps0) _ J oc (xs.take J) (by have:=HXN.out;rw[List.length_take];omega) (ziq GX HXN.out J (by omega)) (fun x hx=>GX.wm x (List.mem_of_mem_take hx)) (HE.out.on HBX.out) HP.out (by omega) (fun x hx=>HGS.out x (List.mem_of_mem_take hx))
   have hsl:=fun W=>zem _ N oc J (by omega) HOQ.out.1 HOQ.out.2.1 HOQ.out.2.2 W
   clear GX
   go_wp2_with fail
   refine cOO.mono ?_
   rintro e w4 ⟨⟨v,rfl,HV⟩,b4⟩
   have HOX:Aside (OutsF w.heap.size w4 v ((xs.take J).flatMap fun x=>wOt ps0 x.pl)):=HV.out.low HBX.out.size
   have HBY:Aside (Below w.heap.size w w4):=HBX.out.trans (b4.mono HBX.out.size)
   have hcY:=HC.out w4 HBY.out
   have cY:=HDEL.out w4 HBY.out J (by omega)
   have hszY:=HBY.out.size
   obtain⟨C,hC1,hC2⟩:=(H.out.on HBY.out).blk
   have h16:=hC2.c16
   have HC1:Aside (Blk w4 gb C 110):=hC1
   clear cOO hsl hcX HV b4 hC1 hC2
   go_wp2_with fail
   refine cY.mono ?_
   rintro r w5 ⟨rfl,HR,HK⟩
   have c5b:=HC1.out.kp HK.out HOG.out
   have c5:=c5b.cell 16
   have f5:=c5b.frozen 16
   rw[h16] at c5
   clear cY c5b hcY
   go_wp2
   go_ret
   have hw5:w4.heap.size≤w5.heap.size:=HK.out.size
   obtain⟨d1,d2,d3⟩:=(H.out.on HBY.out).del J (by rw[HXN.out];omega) HK.out (by rw[HXN.out];exact HR.out) (zdM _ _ _ _ _)
   refine⟨⟨_,rfl,(show Aside _ from HOX.out.kp d2 (fun k hk=>?_))⟩,(show Aside _ from ⟨_,d1,(Kp.of_below HBY.out).trans d2,d3⟩)⟩
   rcases H.out.in_ k hk with h|h
   ·omega
   ·exact h.2
theorem zqk(s l d:Int)(n:Nat)(w:World)(h1:1≤d)(h2:d≤1000)(h3:0≤s)(h4:s≤1001000)(h5:l≤1001000)(h6:-2000≤l)(hn:cnP s l d=(n:Int))(hn2:n≤300) :
  Calls Tryz.prog 141 #[.int .i64 s,.int .i64 l,.int .i64 d] w fun e w'=>(∃u,e=.returned u∧IntA w' u (prg s d n)∧(∀k,u.ownBlock=some k→w.heap.size≤k))∧Below w.heap.size w w':=by
 have c:=zfE s l d w h1 h2 h3 h4 h5 h6
 rw[hn] at c
 have hmk:=run_make_row' (P:=Tryz.prog) 22 3 (.int .i64 0) 8 Tryz.underlying22 zhP rfl .i64 .i64 n (by omega) (by omega)
 clear hn
 go_enter Tryz.func141,Tryz.ntmps141
 go_wp2_with fail
 refine c.mono ?_
 rintro e w1 ⟨rfl,rfl⟩
 clear c
 go_wp2
 go_loopg [16] n (fun gg s16 wr=>∃kk:Nat,kk≤n∧n-kk≤gg∧s16=.int .i64 kk∧Aside (wr.ownsRow w1.heap.size 3 1 (.slice (some ⟨w1.heap.size,0,none⟩) n n) n (fillC s d n kk))∧Aside (Below w1.heap.size w1 wr))
 case atStart =>
  refine⟨0,Nat.zero_le _,by omega,rfl,?_,?_⟩
  ·show World.ownsRow _ _ _ _ _ _ _
   rw[ziC]
   have o1:=World.ownsRow_lit (base:=w1.heap.size) (e:=3) (size:=1) w1 (madeCells #[.int .i64 0] n) n (Nat.le_refl _) (by unfold maxLen;omega) (by rw[size_madeCells,Nat.mul_one])
   exact o1
  ·exact (Below.refl _ w1).alloc (Nat.le_refl _) _
 case round =>
  obtain⟨kk,hkk,hg,rfl,OW,BW⟩:=hrel
  by_cases hlt:kk<n
  ·have hltz:(kk:Int)<(n:Int):=by omega
   have h0z:(0:Int)≤(kk:Int):=by omega
   have hmb:(kk:Int)*d≤300000:=by
    have:=Int.mul_le_mul_of_nonneg_left h2 h0z
    omega
   have hm0:0≤(kk:Int)*d:=Int.mul_nonneg h0z (by omega)
   have hw1:IntKind.i64.wrap ((kk:Int)*d)=(kk:Int)*d:=by rw[IntKind.wrap_i64];omega
   have hw2:IntKind.i64.wrap (s+(kk:Int)*d)=s+(kk:Int)*d:=by rw[IntKind.wrap_i64];omega
   have hfz:wr.frozen? ⟨w1.heap.size,kk,none⟩=false:=OW.out.frozenAt kk
   have hce:wr.cell? ⟨w1.heap.size,kk,none⟩=some (.int .i64 0):=by
    rw[OW.out.cellAt kk (by omega)]
    simp[fillC,hlt]
   have hst:=(OW.out.stored kk (.int .i64 (s+(kk:Int)*d)))
   rw[zjH s d n kk hlt] at hst
   have OW2:Aside ((wr.setCell ⟨w1.heap.size,kk,none⟩ (.int .i64 (s+(kk:Int)*d))).ownsRow w1.heap.size 3 1 (.slice (some ⟨w1.heap.size,0,none⟩) n n) n (fillC s d n (kk+1))):=hst.1
   have BW2:Aside (Below w1.heap.size w1 (wr.setCell ⟨w1.heap.size,kk,none⟩ (.int .i64 (s+(kk:Int)*d)))):=BW.out.setCell (Nat.le_refl _) _
   clear hst OW BW
   go_wp2
   go_roundg (n-(kk+1))
   case measure=>omega
   case rel=>exact⟨kk+1,by omega,by omega,by go_num,OW2,BW2⟩
  ·have hltz:¬(kk:Int)<(n:Int):=by omega
   obtain rfl:kk=n:=by omega
   have I2:Aside (IntA wr (.slice (some ⟨w1.heap.size,0,none⟩) kk kk) (prg s d kk)):=by
    refine zms (B:=w1.heap.size) (zkO _ _ _) (by omega) ?_
    rw[←zlY]
    exact OW.out
   clear OW
   go_wp2
   go_ret
   exact⟨⟨_,rfl,I2.out,fun k hk=>Nat.le_of_eq (by simpa [Value.ownBlock] using hk)⟩,BW.out⟩
theorem stF(at_ size slide:Int)(w:World)(m1:inM at_)(m2:inM size)(m3:inM slide)(h1:wdB size slide)(h2:0≤at_∧at_≤1000000) :
  Calls Tryz.prog 110 #[.int .i64 at_,.int .i64 size,.int .i64 slide] w fun e w'=>(∃u,e=.returned (.tuple #[u,.nilIface])∧IntA w' u (stP at_ size slide)∧(∀k,u.ownBlock=some k→w.heap.size≤k))∧Below w.heap.size w w':=by
 have c1:=chkX size slide w m2 m3
 rw[zih h1,show errV 0=.nilIface from rfl] at c1
 rw[zsv h1 h2.1]
 have f1:=ztX (a:=at_) h1
 have f2:=zua (a:=at_) h1 h2.2
 have f3:=zqR h1 h2.1
 have f4:=cn_st h1 h2.1
 have c2:=zbp at_ 0 1000000
 rw[decide_eq_true h2] at c2
 obtain⟨s1,s2,s3,s4,s5⟩:=h1
 obtain⟨a1,a2⟩:=h2
 have f5:=Int.mul_nonneg f1 (show 0≤slide by omega)
 have c3:=fun W=>zis (at_-size) slide W s3 (by omega) (by omega)
 rw[fs_dn] at c3
 have c4:=fun W=>zqk (dnK at_ size slide*slide) at_ slide (stN at_ size slide) W s3 (by omega) f5 f2 (by omega) (by omega) f4 (by omega)
 generalize dnK at_ size slide*slide=K at *
 generalize stN at_ size slide=Z at *
 clear f1 f2 f3 f4 f5
 go_enter Tryz.func110,Tryz.ntmps110
 go_wp2_with fail
 refine c1.mono ?_
 rintro e w1 ⟨rfl,B1⟩
 clear c1
 have BB:Aside (Below w.heap.size w w1):=B1
 clear B1
 go_wp2_with fail
 refine (c2 _).mono ?_
 rintro e w2 ⟨rfl,rfl⟩
 clear c2
 go_wp2_with fail
 refine (c3 _).mono ?_
 rintro e w3 ⟨rfl,rfl⟩
 clear c3
 go_wp2_with fail
 refine (c4 _).mono ?_
 rintro e w4 ⟨⟨u,rfl,I4,N4⟩,B4⟩
 clear c4
 have I5:Aside (IntA w4 u (prg K slide Z)):=I4
 have N5:Aside (∀k,u.ownBlock=some k→w.heap.size≤k):=fun k hk=>by have:=N4 k hk;have:=BB.out.size;omega
 have B5:Aside (Below w.heap.size w w4):=BB.out.trans (B4.mono BB.out.size)
 clear I4 B4 BB N4
 go_wp2
 go_ret2
 exact⟨⟨_,rfl,I5.out,N5.out⟩,B5.out⟩
end
theorem zsz(z gb gB aB:Nat)(f sz at_:Int)(w:World)(hz:w.cell? ⟨z,0,none⟩=some (.int .i64 f))(hG:w.cell? ⟨gB,0,none⟩=some (.pointer (some ⟨gb,0,none⟩)))(hA:w.cell? ⟨aB,0,none⟩=some (.int .i64 at_))(hg:w.cell? ⟨gb,13,none⟩=some (.int .i64 sz))(h1:-9223372036854775808≤f+sz)(h2:f+sz≤9223372036854775807) :
  Calls Tryz.prog 111 #[.pointer (some ⟨z,0,none⟩),.pointer (some ⟨gB,0,none⟩),.pointer (some ⟨aB,0,none⟩)] w fun e w'=>e=.returned (.bool (decide (f+sz≤at_)))∧Below w.heap.size w w':=by
 have hw:IntKind.i64.wrap (f+sz)=f+sz:=by rw[IntKind.wrap_i64];omega
 go_enter Tryz.func111,Tryz.ntmps111
 go_wp2
 go_quiet (fail)
 go_wp2
 go_ret
 exact⟨rfl,(Below.refl w.heap.size w).trans ⟨rfl,rfl,rfl,Nat.le_refl _,fun _ _=>rfl⟩⟩
theorem zvm(v:Value)(w:World) :
  Calls Tryz.prog 80 #[v] w fun e w'=>e=.returned (.bool true)∧w'=w:=by
 go_enter Tryz.func80,Tryz.ntmps80
 go_wp2
 go_ret
 exact⟨rfl,rfl⟩
def toldB(size A:Int)(l:List PW):List PW:=l.takeWhile fun x=>decide (x.1+size≤A)
def leftB(size A:Int)(l:List PW):List PW:=l.dropWhile fun x=>decide (x.1+size≤A)
noncomputable def pushP(ps0:List Pt)(size slide:Int)(st:Int×List PW)(A:Int)(tk:List V3×Bool×Int)(key:List V3):(Int×List PW)×List Ot :=
 if ¬(0≤A∧A≤1000000) then (st,[([],1,0)])
 else if A<st.1 then (st,[([],6,0)])
 else ((A,(adW (stP A size slide) tk key (leftB size A st.2)).1),(toldB size A st.2).flatMap (wOt ps0)++if (adW (stP A size slide) tk key (leftB size A st.2)).2=0 then [] else [([],(adW (stP A size slide) tk key (leftB size A st.2)).2,0)])
structure OkSt(kt:List Int)(c:Nat)(size:Int)(st:Int×List PW):Prop where
 ok:WOk kt c st.2
 time:0≤st.1∧st.1≤1000000
 win:∀x∈st.2,0≤x.1∧st.1-size<x.1∧x.1≤st.1
theorem OkSt.nil(kt:List Int)(c:Nat)(size:Int):OkSt kt c size (0,[]):=⟨⟨by simp,by simp⟩,by simp,by simp⟩
theorem OkSt.few{kt:List Int}{c:Nat}{size:Int}{st:Int×List PW}(h:OkSt kt c size st)(hs:1≤size∧size≤1000):st.2.length≤1000:=by
 have:=zfr st.2 (st.1-size+1) st.1 h.ok.rise (fun x hx=>by have:=h.win x hx;omega)
 omega
theorem WOk.sub{kt:List Int}{c:Nat}{l l':List PW}(h:WOk kt c l)(hs:l'.Sublist l):WOk kt c l':=⟨fun x hx=>h.ok x (hs.subset hx),h.rise.sublist hs⟩
theorem zeD{size A:Int}:∀{l:List PW},(l.Pairwise fun x y=>x.1<y.1)→∀x∈leftB size A l,A<x.1+size
 | [],_=>fun x hx=>by simp[leftB] at hx
 | y::t,h=>fun x hx=>by
  obtain⟨h1,h2⟩:=List.pairwise_cons.1 h
  rw[leftB,List.dropWhile_cons] at hx
  split at hx
  ·exact zeD h2 x hx
  ·rename_i hy
   have hy:¬y.1+size≤A:=by simpa using hy
   rcases List.mem_cons.1 hx with rfl|hx
   ·omega
   ·have:=h1 x hx;omega
theorem zhU{A size slide:Int}(hw:wdB size slide)(h0:0≤A):(stP A size slide).length≤10∧(stP A size slide).Nodup∧∀f∈stP A size slide,0≤f∧A-size<f∧f≤A:=by
 refine⟨by rw[stP,zkO];exact zqR hw h0,?_,fun f hf=>?_⟩
 ·rw[stP,prg,List.Nodup,List.pairwise_map]
  refine List.Pairwise.imp (R:=fun a b=>a<b) (fun {a b} hab e=>?_) List.pairwise_lt_range
  have hs:=hw.2.2.1
  have e2:(a:Int)*slide=(b:Int)*slide:=by omega
  have:=Int.eq_of_mul_eq_mul_right (by omega) e2
  omega
 ·rw[stP,prg] at hf
  obtain⟨i,hi,rfl⟩:=List.mem_map.1 hf
  have:=ztI hw h0 (List.mem_range.1 hi)
  omega
theorem zjL(size A:Int)(l:List PW):(leftB size A l).Sublist l:=List.dropWhile_sublist _
theorem OkSt.push{ps0:List Pt}{kt:List Int}{c:Nat}{size slide:Int}{st:Int×List PW}(h:OkSt kt c size st)(hw:wdB size slide)(A:Int)(tk:List V3×Bool×Int){key:List V3}(hk:OkK kt key):OkSt kt (c+10) size (pushP ps0 size slide st A tk key).1:=by
 have up:OkSt kt (c+10) size st:=⟨h.ok.up (by omega),h.time,h.win⟩
 rw[pushP]
 split
 ·exact up
 ·rename_i hA
  split
  ·exact up
  ·rename_i hlt
   have hA:0≤A∧A≤1000000:=Decidable.not_not.1 hA
   have hL:WOk kt c (leftB size A st.2):=h.ok.sub (zjL size A st.2)
   have hwin:∀x∈leftB size A st.2,0≤x.1∧A-size<x.1∧x.1≤A:=fun x hx=>by
    have h1:=zeD h.ok.rise x hx
    have h2:=h.win x ((zjL size A st.2).subset hx)
    omega
   have base:OkSt kt (c+10) size (A,leftB size A st.2):=⟨hL.up (by omega),hA,hwin⟩
   rw[adW]
   split
   ·exact base
   ·split
    ·exact base
    ·split
     ·exact base
     ·rename_i hn
      obtain⟨s1,s2,s3⟩:=zhU hw hA.1
      have hn:(stP A size slide).any (wFull key (leftB size A st.2))=false:=by simpa using hn
      obtain⟨r1,r2⟩:=zqi hk tk.1 (a:=max 0 (A-size+1)) (b:=A) (stP A size slide) c (leftB size A st.2) hL (fun x hx=>by have:=hwin x hx;omega) (fun f hf=>by have:=s3 f hf;omega) s2 hn
      exact⟨r1.up (by omega),hA,fun x hx=>by
       have h1:=r2 x hx
       show 0≤x.1∧A-size<x.1∧x.1≤A
       omega⟩
noncomputable def endP(ps0:List Pt)(st:Int×List PW):List Ot:=st.2.flatMap (wOt ps0)
end Go.Proofs.YtopghagjmdbglaaGreatDoor
