/-
  SmW, SlA, SlB, SlD.
-/
import Derived.Test.YtopghagjmdbglaaGreatDoorYPhW
import Derived.Test.YtopghagjmdbglaaGreatDoorGyAv
import Derived.Test.YtopghagjmdbglaaGreatDoorGyBg
import Derived.Test.YtopghagjmdbglaaGreatDoorGyAx
namespace Go.Proofs.YtopghagjmdbglaaGreatDoor
open Go.RowKit
set_option linter.unusedVariables false
set_option linter.unusedSimpArgs false
set_option maxHeartbeats 8000000
def zhF(W w':World)(base:Nat)(ps0:List Pt)(sb tb gb:Nat)(s:Gs)(ov:Value)(xs:List Wm)(rows:Int)(st:Int×List PW):Prop:=∃ov' xs',GrAt w' base ps0 gb s st.1 ov' xs'∧xs'.map Wm.pl=st.2∧Blk w' sb (smC tb rows) 71∧Kp (fun k=>GrS gb ov xs k∨k=sb) W w'∧(∀k,GrS gb ov' xs' k→GrS gb ov xs k∨W.heap.size≤k)
theorem zaX.up{V W w':World}{base:Nat}{ps0:List Pt}{gb:Nat}{s:Gs}{ov:Value}{xs:List Wm}{st:Int×List PW}(h:zaX V w' base ps0 gb s ov xs st)(hb:Below W.heap.size W V):zaX W w' base ps0 gb s ov xs st:=by
 obtain⟨ov',xs',h1,h2,h3,h4⟩:=h
 exact⟨ov',xs',h1,h2,(Kp.of_below hb).trans h3,fun k hk=>(h4 k hk).imp id (fun h=>by have:=hb.size;omega)⟩
theorem zrs{W w1:World}{base:Nat}{ps0:List Pt}{sb tb gb:Nat}{s:Gs}{ov:Value}{xs:List Wm}{rows r':Int}{st:Int×List PW}(h:zaX W w1 base ps0 gb s ov xs st)(hS:Blk W sb (smC tb rows) 71)(hns:¬GrS gb ov xs sb):zhF W (w1.setCell ⟨sb,1,none⟩ (.int .i64 r')) base ps0 sb tb gb s ov xs r' st:=by
 obtain⟨ov',xs',h1,h2,h3,h4⟩:=h
 have hb1:Blk w1 sb (smC tb rows) 71:=hS.kp h3 hns
 have hl:=hS.lt
 have hkp:Kp (·=sb) w1 (w1.setCell ⟨sb,1,none⟩ (.int .i64 r')):=(Kp.refl _ _).set _ _ (fun _=>rfl)
 refine⟨ov',xs',h1.kp hkp (MutS.one hb1 (by decide)) (fun k hk e=>?_),h2,hb1.set 1 (.int .i64 r'),(h3.mono fun k _ hk=>.inl hk).trans (hkp.mono fun k _ e=>.inr e),h4⟩
 subst e
 rcases h4 _ hk with h|h
 ·exact hns h
 ·omega
theorem zrt{W W1:World}{S0:Nat→Prop}{base:Nat}{ps0:List Pt}{sb tb gb:Nat}{cv:Value}{s:Gs}{last rows:Int}{ov:Value}{xs:List Wm}(hG:GrAt W base ps0 gb s last ov xs)(hb1:Bts S0 gb W1 W)(hbase:base=W1.heap.size)(hS:Blk W sb (smC tb rows) 71)(hTl:Blk W tb (tlG cv gb) 107)(hns:¬GrS gb ov xs sb)(hrows:0≤rows∧rows≤1000000)
  {kt:List Int}{c:Nat}(hst:OkSt kt c s.size (last,xs.map Wm.pl))(hwd:wdB s.size s.slide)(hc:c+11≤10000)(hm:kt.length≤1000)(hp0:ps0.length≤1000)(hEt:∀W,Bts S0 gb W1 W→EtAt W)
  (rq:Option Addr)(rc:Nat)(rs:List V3)(hr:zaf W rq rs)(hrd:rs.length=0∨∀b o,rq=some ⟨b,o,none⟩→¬GrS gb ov xs b)(hrl:rs.length≤1000)(ia:Nat)(hia:s.at_=(ia:Int))(hia2:ia<rs.length)(A:Int)(hA:(rs.getD ia noV).2.1=A)(hAm:inM A)(p:Option Addr)(pc:Nat)(ns:List Nat)(hp:s.pv=.slice p ns.length pc)(hnl:ns.length≤1000)(hPl:∀W,Bts S0 gb W1 W→zaR W p ns)(hi:∀i∈ns,i<rs.length)(hkey:OkK kt (keyP rs ns))
  (T:List V3)(P:Bool)(E:Int)(hT:∀W,Bts S0 gb W1 W→zaf W rq rs→Calls Tryz.prog 71 #[.agg s.SC,.slice rq rs.length rc] W fun e w'=>(∃u,e=.returned (.tuple #[u,.bool P,errV E])∧Aside (FrV W.heap.size w' u T))∧Below W.heap.size W w')
  (hTo:E=0→P=true→zbs T∧T.length≤maxLen∧adE ps0 T=0)
  (hN:∀W,Bts S0 gb W1 W→Calls Tryz.prog 200 #[s.av,s.tv] W fun e w'=>∃a v,e=.returned (.tuple #[.pointer (some ⟨a,0,none⟩),.nilIface])∧Aside (AcAt w' a v ps0 []∧(∀k,accS a v k→W.heap.size≤k))∧Below W.heap.size W w')
  (hCk:Calls Tryz.prog 44 #[cv,.slice rq rs.length rc] W fun e w'=>e=.returned .nilIface∧Below W.heap.size W w') :
  Calls Tryz.prog 6 #[.pointer (some ⟨sb,0,none⟩),.slice rq rs.length rc] W fun e w'=>∃u,e=.returned (.tuple #[u,.nilIface])∧Aside (OutsF W.heap.size w' u (pushP ps0 s.size s.slide (last,xs.map Wm.pl) A (T,P,E) (keyP rs ns)).2∧zhF W w' base ps0 sb tb gb s ov xs (rows+1) (pushP ps0 s.size s.slide (last,xs.map Wm.pl) A (T,P,E) (keyP rs ns)).1):=by
 have hP:∀V,Below W.heap.size W V→Calls Tryz.prog 77 #[.pointer (some ⟨gb,0,none⟩),.slice rq rs.length rc] V fun e w'=>∃u,e=.returned u∧Aside ((OutsF W.heap.size w' u (pushP ps0 s.size s.slide (last,xs.map Wm.pl) A (T,P,E) (keyP rs ns)).2∧zaX W w' base ps0 gb s ov xs (pushP ps0 s.size s.slide (last,xs.map Wm.pl) A (T,P,E) (keyP rs ns)).1)∧Blk w' sb (smC tb rows) 71):=fun V hV=>by
  refine (zlq (hG.on hV) (hb1.on hV) hbase hst hwd hc hm hp0 hEt rq rc rs (hr.on hV) hrd hrl ia hia hia2 A hA hAm p pc ns hp hnl hPl hi hkey T P E hT hTo hN).mono ?_
  rintro e w' ⟨⟨u,e1,e2⟩,e3⟩
  have h3:=e3.out.up hV
  refine⟨u,e1,(show Aside _ from ⟨⟨e2.out.low hV.size,h3⟩,?_⟩)⟩
  obtain⟨ov',xs',-,-,k3,-⟩:=h3
  exact hS.kp k3 hns
 have hTP:=zpa tb gb cv (.slice rq rs.length rc) W (fun u w'=>(OutsF W.heap.size w' u (pushP ps0 s.size s.slide (last,xs.map Wm.pl) A (T,P,E) (keyP rs ns)).2∧zaX W w' base ps0 gb s ov xs (pushP ps0 s.size s.slide (last,xs.map Wm.pl) A (T,P,E) (keyP rs ns)).1)∧Blk w' sb (smC tb rows) 71) hTl hCk hP
 refine (zoR sb tb rows (.slice rq rs.length rc) W (fun u w'=>OutsF W.heap.size w' u (pushP ps0 s.size s.slide (last,xs.map Wm.pl) A (T,P,E) (keyP rs ns)).2∧zaX W w' base ps0 gb s ov xs (pushP ps0 s.size s.slide (last,xs.map Wm.pl) A (T,P,E) (keyP rs ns)).1) hS hrows hTP).mono ?_
 rintro e w' ⟨u,e1,e2⟩
 obtain⟨w1,⟨h1,h2⟩,h3,rfl⟩:=e2.out
 refine⟨u,e1,(show Aside _ from ⟨h1.kp (S:=(·=sb)) ((Kp.refl _ _).set _ _ (fun _=>rfl)) (fun k hk=>by subst hk;exact hS.lt),zrs h2 hS hns⟩)⟩
theorem zoO{W:World}{base:Nat}{ps0:List Pt}{sb tb gb:Nat}{cv:Value}{s:Gs}{last rows:Int}{ov:Value}{xs:List Wm}(hG:GrAt W base ps0 gb s last ov xs)(hS:Blk W sb (smC tb rows) 71)(hTl:Blk W tb (tlG cv gb) 107)(hns:¬GrS gb ov xs sb)(htb:tb≠sb)(hEt:∀V,Kp (fun k=>GrS gb ov xs k∨k=sb) W V→EtAt V)(hbase:base≤W.heap.size)(hp:ps0.length≤1000)(hn:xs.length≤1000){kt:List Int}{c:Nat}(hW:WOk kt c (xs.map Wm.pl))(hm:kt.length≤1000) :
  Calls Tryz.prog 10 #[.pointer (some ⟨sb,0,none⟩)] W fun e w'=>∃u,e=.returned u∧Aside (OutsF W.heap.size w' u ((xs.map Wm.pl).flatMap (wOt ps0))∧zhF W w' base ps0 sb tb gb s ov xs 0 (0,[])):=by
 have hk:Kp (·=sb) W (W.setCell ⟨sb,1,none⟩ (.int .i64 0)):=(Kp.refl _ _).set _ _ (fun _=>rfl)
 have hG':GrAt (W.setCell ⟨sb,1,none⟩ (.int .i64 0)) base ps0 gb s last ov xs:=hG.kp hk (MutS.one hS (by decide)) (fun k hk e=>hns (e▸hk))
 have hsz:(W.setCell ⟨sb,1,none⟩ (.int .i64 0)).heap.size=W.heap.size:=by simp[World.setCell]
 have hk':∀V,Kp (GrS gb ov xs) (W.setCell ⟨sb,1,none⟩ (.int .i64 0)) V→Kp (fun k=>GrS gb ov xs k∨k=sb) W V:=fun V h=>(hk.mono fun k _ e=>.inr e).trans (h.mono fun k _ e=>.inl e)
 have hE:=zpM hG' (hEt _ (hk' _ (Kp.refl _ _))) (fun V hV=>hEt _ (hk' V hV)) (by omega) hp hn hW hm
 have hTe:=zrJ tb gb cv (W.setCell ⟨sb,1,none⟩ (.int .i64 0)) (fun u w'=>OutsF W.heap.size w' u ((xs.map Wm.pl).flatMap (wOt ps0))∧zhF W w' base ps0 sb tb gb s ov xs 0 (0,[])) (hTl.far htb _ _) (hE.mono ?_)
 ·exact zlU sb tb rows W _ hS hTe
 ·rintro e w' ⟨⟨u,e1,e2⟩,e3⟩
  refine⟨u,e1,(show Aside _ from ⟨by have:=e2.out;rw[hsz] at this;exact this,?_⟩)⟩
  obtain⟨ov',xs',h1,h2,h3,h4⟩:=e3.out
  exact⟨ov',xs',h1,h2,(hS.set 1 (.int .i64 0)).kp h3 hns,hk' _ h3,fun k hk=>by have:=h4 k hk;rw[hsz] at this;exact this⟩
theorem zrr{W:World}{base:Nat}{ps0:List Pt}{sb tb gb:Nat}{cv:Value}{s:Gs}{last rows:Int}{ov:Value}{xs:List Wm}(hG:GrAt W base ps0 gb s last ov xs)(hS:Blk W sb (smC tb rows) 71)(hTl:Blk W tb (tlG cv gb) 107) :
  Calls Tryz.prog 9 #[.pointer (some ⟨sb,0,none⟩)] W fun e w'=>e=.returned (.int .i64 (xs.length:Int))∧w'=W:=by
 obtain⟨q,c,hq⟩:=zaa hG.row
 have h16:=hG.c16
 rw[hq] at h16
 exact zoP sb tb gb xs.length rows cv q c W hS hTl h16
def slL:List (ByteArray×Int):=[(⟨#[97,116]⟩,1)]
noncomputable def slPs:List Pt:=nwP [zeV] [1]
def slRow(A:Int):List V3:=[(1,A,⟨#[]⟩)]
structure SlSt(w W3:World)(S0:Nat→Prop)(gb:Nat)(cv:Value)(s:Gs):Prop where
 env:KEnv w
 aenv:AEnv w
 ng:NgIs W3 gb 0 5 5 slL ex0 [ex0] [zeV] [0] [1] s
 col:s.SC[0]?=some cv
 old:Below w.heap.size w W3
 own:S0 gb
 low:∀k,S0 k→w.heap.size≤k
 lo2:∀k,S0 k→k≤gb∨W3.heap.size≤k
theorem SlSt.bts{w W3 W:World}{S0:Nat→Prop}{gb:Nat}{cv:Value}{s:Gs}(h:SlSt w W3 S0 gb cv s)(hk:Kp S0 W3 W):Bts S0 gb W3 W:=⟨hk,h.own,h.lo2⟩
theorem SlSt.below{w W3 W:World}{S0:Nat→Prop}{gb:Nat}{cv:Value}{s:Gs}(h:SlSt w W3 S0 gb cv s)(hb:Bts S0 gb W3 W):Below w.heap.size w W :=
 h.old.trans (hb.kp.below h.old.size (fun k hk hs=>by have:=h.low k hs;omega))
theorem zij(A:Int)(hA:inM A):zbs (slRow A):=fun v hv=>by
 rw[slRow,List.mem_singleton] at hv
 subst hv
 exact⟨Nat.zero_le _,hA⟩
theorem zlX(A:Int):zgx slL (slRow A)=0:=by
 have h0:schE slL=0:=by decide
 rw[zgx,if_neg (fun h=>h h0),if_neg (by simp[slL,slRow])]
 show rcGo [(⟨#[97,116]⟩,1)] [(1,A,⟨#[]⟩)]=0
 rw[rcGo,if_neg (by simp[chk]),if_neg (by simp),rcGo]
 intro z zs r rs h
 cases h
theorem zkt:zbs [noV]:=fun v hv=>by
 rw[List.mem_singleton] at hv
 subst hv
 exact⟨Nat.zero_le _,by unfold noV inB;decide⟩
theorem zro{w W3 W:World}{S0:Nat→Prop}{sb tb gb:Nat}{cv:Value}{s:Gs}(h:SlSt w W3 S0 gb cv s){last rows:Int}{ov:Value}{xs:List Wm}(hG:GrAt W W3.heap.size slPs gb s last ov xs)(hk:Kp S0 W3 W)(hS:Blk W sb (smC tb rows) 71)(hTl:Blk W tb (tlG cv gb) 107)(hns:¬GrS gb ov xs sb)(hrows:0≤rows∧rows≤1000000){c:Nat}(hst:OkSt [1] c 5 (last,xs.map Wm.pl))(hc:c+11≤10000)
  (rq:Option Addr)(rc:Nat)(A:Int)(hA:inM A)(hr:zaf W rq (slRow A))(hrd:∀b o,rq=some ⟨b,o,none⟩→¬GrS gb ov xs b) :
  Calls Tryz.prog 6 #[.pointer (some ⟨sb,0,none⟩),.slice rq 1 rc] W fun e w'=>∃u,e=.returned (.tuple #[u,.nilIface])∧Aside (OutsF W.heap.size w' u (pushP slPs 5 5 (last,xs.map Wm.pl) A ([noV],true,0) (keyP (slRow A) [0])).2∧zhF W w' W3.heap.size slPs sb tb gb s ov xs (rows+1) (pushP slPs 5 5 (last,xs.map Wm.pl) A ([noV],true,0) (keyP (slRow A) [0])).1):=by
 have hB:=h.bts hk
 have hbl:=h.below hB
 have hsz:=zij A hA
 obtain⟨pp,pc,hpv,hpl⟩:=h.ng.pl
 obtain⟨ap,ac,hav,hag⟩:=h.ng.ag
 obtain⟨tp,tc,htv,hty⟩:=h.ng.ty
 obtain⟨r,hgr,hV⟩:=h.ng.sv
 obtain⟨C,hC1,hC2⟩:=h.ng.blk
 have hgl:gb<W3.heap.size:=hC1.lt
 rw[hpv] at hpl
 rw[hav] at hag
 rw[htv] at hty
 have hz:∀z∈slL,z.1.size≤maxLen:=fun z hz=>by
  rw[slL,List.mem_singleton] at hz
  subst hz
  decide
 have hcv:ColsV W cv slL:=by
  obtain⟨cv',yp,yc,uv,e,⟨cq,cc,e1,o1⟩,-⟩:=hV
  have:cv=cv':=by
   have:=h.col
   rw[e] at this
   simpa using this.symm
  subst this
  exact ziS rfl hz (zay o1 hB.keepB (by omega))
 have e5:s.size=5:=h.ng.size
 have e6:s.slide=5:=h.ng.slide
 have hwd:wdB s.size s.slide:=by rw[e5,e6];unfold wdB;decide
 have hTk:=zma (S0:=S0) (gb:=gb) hV hgr hz (by decide) (by decide) (fun x hx=>by rw[List.mem_singleton] at hx;subst hx;decide) [noV] true 0 rq rc (slRow A) (zoV slL (slRow A))
 have hNw:=zqx (S0:=S0) (gb:=gb) (W1:=W3) (fun V hv=>h.aenv.on (h.below hv)) ap ac [zeV] tp tc [1] hag hty (by decide) (by decide) zlF
 have hCk:=zki cv (.slice rq (slRow A).length rc) slL (slRow A) W (h.env.on hbl).tw hcv ⟨rq,rc,rfl,by show 1≤maxLen;decide,hr⟩ hsz
 rw[zlX] at hCk
 have:=zrt (base:=W3.heap.size) hG hB rfl hS hTl hns hrows (kt:=[1]) (c:=c) (by rw[e5];exact hst) hwd hc (by decide) (by decide) (fun V hv=>(h.env.on (h.below hv)).et) rq rc (slRow A) hr (.inr hrd) (by show 1≤1000;decide) 0 h.ng.at_ (by show 0<1;decide) A rfl hA pp pc [0] hpv (by decide) (fun V hv=>zjY (zay hpl hv.keepB (Nat.le_refl _))) (fun i hi=>by rw[List.mem_singleton] at hi;subst hi;show 0<1;decide) (zmH A ⟨#[]⟩ rfl) [noV] true 0 hTk (fun _ _=>⟨zkt,by decide,zkX⟩) (by rw[hav,htv];exact hNw) hCk
 rw[e5,e6] at this
 exact this
structure Sp where
 sb:Nat
 tb:Nat
 gb:Nat
 cv:Value
 s:Gs
 W3:World
structure zdj(w WL:World)(S0:Nat→Prop)(x y:Sp):Prop where
 hx:SlSt w x.W3 S0 x.gb x.cv x.s
 hy:SlSt w y.W3 S0 y.gb y.cv y.s
 bx:Below x.W3.heap.size x.W3 WL
 by_:Below y.W3.heap.size y.W3 WL
 s0:∀k,S0 k↔(k=x.gb∨k=x.sb)∨(k=y.gb∨k=y.sb)
 tx:Blk WL x.tb (tlG x.cv x.gb) 107
 ty:Blk WL y.tb (tlG y.cv y.gb) 107
 nx:¬S0 x.tb
 ny:¬S0 y.tb
 lx:x.sb<WL.heap.size∧x.gb<WL.heap.size
 ly:y.sb<WL.heap.size∧y.gb<WL.heap.size
 dx:x.sb≠x.gb∧x.sb≠y.sb∧x.sb≠y.gb
 dy:y.sb≠y.gb∧y.sb≠x.sb∧y.sb≠x.gb
 dg:x.gb≠y.gb
theorem zdj.swap{w WL:World}{S0:Nat→Prop}{x y:Sp}(h:zdj w WL S0 x y):zdj w WL S0 y x :=
 ⟨h.hy,h.hx,h.by_,h.bx,fun k=>(h.s0 k).trans or_comm,h.ty,h.tx,h.ny,h.nx,h.ly,h.lx,h.dy,h.dx,fun e=>h.dg e.symm⟩
structure SlIv(WL:World)(S0:Nat→Prop)(x y:Sp)(r1 r2:Int)(s1 s2:Int×List PW)(n1 n2:Nat)(W:World):Prop where
 kp:Kp S0 WL W
 sx:Blk W x.sb (smC x.tb r1) 71
 sy:Blk W y.sb (smC y.tb r2) 71
 g:∃ox xs oy ys,GrAt W x.W3.heap.size slPs x.gb x.s s1.1 ox xs∧xs.map Wm.pl=s1.2∧GrAt W y.W3.heap.size slPs y.gb y.s s2.1 oy ys∧ys.map Wm.pl=s2.2∧(∀k,GrS x.gb ox xs k→(k=x.gb∨WL.heap.size≤k)∧k<n1)∧(∀k,GrS y.gb oy ys k→(k=y.gb∨WL.heap.size≤k)∧k<n2)∧(∀k,GrS x.gb ox xs k→¬GrS y.gb oy ys k)
 n1l:x.sb<n1∧n1≤W.heap.size
 n2l:y.sb<n2∧n2≤W.heap.size
theorem SlIv.swap{WL W:World}{S0:Nat→Prop}{x y:Sp}{r1 r2:Int}{s1 s2:Int×List PW}{n1 n2:Nat}(h:SlIv WL S0 x y r1 r2 s1 s2 n1 n2 W):SlIv WL S0 y x r2 r1 s2 s1 n2 n1 W:=by
 obtain⟨ox,xs,oy,ys,a1,a2,a3,a4,a5,a6,a7⟩:=h.g
 exact⟨h.kp,h.sy,h.sx,⟨oy,ys,ox,xs,a3,a4,a1,a2,a6,a5,fun k h1 h2=>a7 k h2 h1⟩,h.n2l,h.n1l⟩
theorem SlIv.on{WL W W':World}{S0:Nat→Prop}{x y:Sp}{r1 r2:Int}{s1 s2:Int×List PW}{n1 n2:Nat}(h:SlIv WL S0 x y r1 r2 s1 s2 n1 n2 W)(hb:Below W.heap.size W W'):SlIv WL S0 x y r1 r2 s1 s2 n1 n2 W':=by
 obtain⟨ox,xs,oy,ys,a1,a2,a3,a4,a5,a6,a7⟩:=h.g
 have:=hb.size
 exact⟨h.kp.on hb,h.sx.on hb,h.sy.on hb,⟨ox,xs,oy,ys,a1.on hb,a2,a3.on hb,a4,a5,a6,a7⟩,⟨h.n1l.1,by have:=h.n1l.2;omega⟩,⟨h.n2l.1,by have:=h.n2l.2;omega⟩⟩
theorem zdj.old{w WL W:World}{S0:Nat→Prop}{x y:Sp}(h:zdj w WL S0 x y)(hk:Kp S0 WL W):Below w.heap.size w W :=
 (h.hx.old.trans (h.bx.mono h.hx.old.size)).trans (hk.below (by have:=h.hx.old.size;have:=h.bx.size;omega) (fun k hk hs=>by have:=h.hx.low k hs;omega))
theorem SlIv.turn{w WL W w':World}{S0:Nat→Prop}{x y:Sp}{r1 r2 r':Int}{s1 s2 st:Int×List PW}{n1 n2:Nat}(B:zdj w WL S0 x y){ox:Value}{xs:List Wm}{oy:Value}{ys:List Wm}(kp:Kp S0 WL W)(sx:Blk W x.sb (smC x.tb r1) 71)(sy:Blk W y.sb (smC y.tb r2) 71)(a1:GrAt W x.W3.heap.size slPs x.gb x.s s1.1 ox xs)(a3:GrAt W y.W3.heap.size slPs y.gb y.s s2.1 oy ys)(a4:ys.map Wm.pl=s2.2)(a5:∀k,GrS x.gb ox xs k→(k=x.gb∨WL.heap.size≤k)∧k<n1)(a6:∀k,GrS y.gb oy ys k→(k=y.gb∨WL.heap.size≤k)∧k<n2)(a7:∀k,GrS x.gb ox xs k→¬GrS y.gb oy ys k)(n1l:x.sb<n1∧n1≤W.heap.size)(n2l:y.sb<n2∧n2≤W.heap.size)
  (h:zhF W w' x.W3.heap.size slPs x.sb x.tb x.gb x.s ox xs r' st):SlIv WL S0 x y r' r2 st s2 w'.heap.size n2 w'∧Kp (fun k=>k<n1) W w':=by
 obtain⟨ov',xs',g1,g2,g3,g4,g5⟩:=h
 have hxg:S0 x.gb:=(B.s0 _).2 (.inl (.inl rfl))
 have hxs:S0 x.sb:=(B.s0 _).2 (.inl (.inr rfl))
 have hWL:=kp.size
 have hW:=g4.size
 obtain⟨d1,d2,d3⟩:=B.dx
 obtain⟨e1,e2,e3⟩:=B.dy
 obtain⟨l1,l2⟩:=B.lx
 obtain⟨m1,m2⟩:=B.ly
 have hno:∀k,k<WL.heap.size→¬S0 k→¬(GrS x.gb ox xs k∨k=x.sb):=fun k hk hs hh=>by
  rcases hh with hh|rfl
  ·rcases (a5 k hh).1 with rfl|h
   ·exact hs hxg
   ·omega
  ·exact hs hxs
 have hys:¬(GrS x.gb ox xs y.sb∨y.sb=x.sb):=fun hh=>by
  rcases hh with hh|hh
  ·rcases (a5 _ hh).1 with h|h
   ·exact e3 h
   ·omega
  ·exact e2 hh
 refine⟨⟨⟨kp.low.trans g4.low,fun k hk hs=>by rw[g4.kept k (by omega) (hno k hk hs),kp.kept k hk hs]⟩,g3,sy.kp g4 hys,⟨ov',xs',oy,ys,g1,g2,a3.kp g4 (a1.mut.or (MutS.one sx (by decide))) (fun k hk hh=>?_),a4,fun k hk=>?_,a6,fun k hk hy=>?_⟩,⟨by omega,Nat.le_refl _⟩,⟨n2l.1,by omega⟩⟩,g4.mono fun k _ hk=>?_⟩
 ·rcases hh with hh|rfl
  ·exact a7 k hh hk
  ·rcases (a6 _ hk).1 with h|h
   ·exact d3 h
   ·omega
 ·refine⟨?_,?_⟩
  ·rcases g5 k hk with h|h
   ·exact (a5 k h).1
   ·exact .inr (by omega)
  ·rcases g1.in_ k hk with rfl|h
   ·omega
   ·exact h.2
 ·rcases g5 k hk with h|h
  ·exact a7 k h hy
  ·have:=(a6 k hy).2
   omega
 ·rcases hk with hk|rfl
  ·exact (a5 k hk).2
  ·exact n1l.1
theorem zjD{w WL W:World}{S0:Nat→Prop}{x y:Sp}{r1 r2:Int}{s1 s2:Int×List PW}{n1 n2:Nat}(B:zdj w WL S0 x y)(I:SlIv WL S0 x y r1 r2 s1 s2 n1 n2 W)(hrows:0≤r1∧r1≤1000000){c:Nat}(hst:OkSt [1] c 5 s1)(hc:c+11≤10000)(b rc:Nat)(A:Int)(hA:inM A)(hb:Blk W b #[.int .i64 1,.int .i64 A,.string ⟨#[]⟩] 27) :
  Calls Tryz.prog 6 #[.pointer (some ⟨x.sb,0,none⟩),.slice (some ⟨b,0,none⟩) 1 rc] W fun e w'=>∃u,e=.returned (.tuple #[u,.nilIface])∧Aside (OutsF W.heap.size w' u (pushP slPs 5 5 s1 A ([noV],true,0) (keyP (slRow A) [0])).2∧SlIv WL S0 x y (r1+1) r2 (pushP slPs 5 5 s1 A ([noV],true,0) (keyP (slRow A) [0])).1 s2 w'.heap.size n2 w'∧Kp (fun k=>k<n1) W w'):=by
 obtain⟨kp,sx,sy,⟨ox,xs,oy,ys,a1,a2,a3,a4,a5,a6,a7⟩,n1l,n2l⟩:=I
 have hWL:=kp.size
 have hbx:=B.bx.size
 have e1:(s1.1,xs.map Wm.pl)=s1:=by rw[a2]
 have hk3:Kp S0 x.W3 W:=(Kp.of_below B.bx).trans ⟨kp.low,fun k hk hs=>kp.kept k (by omega) hs⟩
 have hT:Blk W x.tb (tlG x.cv x.gb) 107:=B.tx.kp kp B.nx
 have hns:¬GrS x.gb ox xs x.sb:=fun h=>by
  rcases (a5 _ h).1 with h|h
  ·exact B.dx.1 h
  ·have:=B.lx.1;omega
 have hr:zaf W (some ⟨b,0,none⟩) (slRow A):=.inr ⟨b,0,rfl,hb.lt,fun i hi=>by
  have:i=0:=by rw[slRow,List.length_singleton] at hi;omega
  subst this
  exact⟨by rw[hb.cell];rfl,by rw[hb.cell];rfl,by rw[hb.cell];rfl⟩⟩
 have:=zro B.hx a1 hk3 sx hT hns hrows (c:=c) (by rw[e1];exact hst) hc (some ⟨b,0,none⟩) rc A hA hr (fun b' o hb' hg=>by
  injection hb' with hb'
  injection hb' with hb' _ _
  subst hb'
  exact a1.mut.blk hb (by decide) hg)
 rw[e1] at this
 refine this.mono ?_
 rintro e w' ⟨u,h1,h2⟩
 obtain⟨t1,t2⟩:=SlIv.turn B kp sx sy a1 a3 a4 a5 a6 a7 n1l n2l h2.out.2
 exact⟨u,h1,(show Aside _ from ⟨h2.out.1,t1,t2⟩)⟩
theorem zjC{w WL W:World}{S0:Nat→Prop}{x y:Sp}{r1 r2:Int}{s1 s2:Int×List PW}{n1 n2:Nat}(B:zdj w WL S0 x y)(I:SlIv WL S0 x y r1 r2 s1 s2 n1 n2 W){c:Nat}(hst:OkSt [1] c 5 s1) :
  Calls Tryz.prog 10 #[.pointer (some ⟨x.sb,0,none⟩)] W fun e w'=>∃u,e=.returned u∧Aside (OutsF W.heap.size w' u (endP slPs s1)∧SlIv WL S0 x y 0 r2 (0,[]) s2 w'.heap.size n2 w'∧Kp (fun k=>k<n1) W w'):=by
 obtain⟨kp,sx,sy,⟨ox,xs,oy,ys,a1,a2,a3,a4,a5,a6,a7⟩,n1l,n2l⟩:=I
 have hWL:=kp.size
 have hbx:=B.bx.size
 have hT:Blk W x.tb (tlG x.cv x.gb) 107:=B.tx.kp kp B.nx
 have hxs:S0 x.sb:=(B.s0 _).2 (.inl (.inr rfl))
 have hns:¬GrS x.gb ox xs x.sb:=fun h=>by
  rcases (a5 _ h).1 with h|h
  ·exact B.dx.1 h
  ·have:=B.lx.1;omega
 have hold:=B.old kp
 have hEt:∀V,Kp (fun k=>GrS x.gb ox xs k∨k=x.sb) W V→EtAt V:=fun V hV =>
  (B.hx.env.on (hold.trans (hV.below hold.size (fun k hk hh=>by
   rcases hh with hh|rfl
   ·rcases (a5 k hh).1 with rfl|h
    ·have:=B.hx.low _ B.hx.own;omega
    ·have:=(B.old (Kp.refl _ _)).size;omega
   ·have:=B.hx.low _ hxs;omega)))).et
 have hfew:xs.length≤1000:=by
  have:=hst.few (by decide)
  rw[←a2,List.length_map] at this
  exact this
 refine (zoO a1 sx hT hns (fun e=>B.nx (e▸hxs)) hEt (by omega) (by decide) hfew (kt:=[1]) (c:=c) (by rw[a2];exact hst.ok) (by decide)).mono ?_
 rintro e w' ⟨u,h1,h2⟩
 obtain⟨t1,t2⟩:=SlIv.turn B kp sx sy a1 a3 a4 a5 a6 a7 n1l n2l h2.out.2
 refine⟨u,h1,(show Aside _ from ⟨?_,t1,t2⟩)⟩
 have:=h2.out.1
 rw[a2] at this
 exact this
theorem zmE{w WL W:World}{S0:Nat→Prop}{x y:Sp}{r1 r2:Int}{s1 s2:Int×List PW}{n1 n2:Nat}(B:zdj w WL S0 x y)(I:SlIv WL S0 x y r1 r2 s1 s2 n1 n2 W) :
  Calls Tryz.prog 9 #[.pointer (some ⟨x.sb,0,none⟩)] W fun e w'=>e=.returned (.int .i64 (s1.2.length:Int))∧w'=W:=by
 obtain⟨kp,sx,sy,⟨ox,xs,oy,ys,a1,a2,a3,a4,a5,a6,a7⟩,n1l,n2l⟩:=I
 have:=zrr a1 sx (B.tx.kp kp B.nx)
 rw[←a2,List.length_map]
 exact this
section
open Go.BigFrame
theorem zrM(ps0:List Pt)(rs:List (List V3)):(tlR ps0 rs).length≤ps0.length:=by
 unfold tlR
 split
 ·rename_i h
  have:=h.choose_spec.al.1
  rw[reV,List.length_map]
  omega
 ·exact Nat.zero_le _
theorem zqD{key:List V3}(h:OkK [1] key):key.length≤1:=by
 match key,h with
 | [],_=>simp
 | [_],_=>simp
 | _::_::_,h=>exact absurd h.2 (by simp[OkK])
theorem zmU{c:Nat}{st:Int×List PW}(h:OkSt [1] c 5 st)(l:List PW)(hl:l.Sublist st.2):(l.flatMap (wOt slPs)).length≤40000∧∀o∈l.flatMap (wOt slPs),o.1.length≤1000000:=by
 have hfew:=h.few (by decide)
 have hn:=hl.length_le
 have hps:slPs.length=1:=rfl
 refine⟨?_,fun o ho=>?_⟩
 ·have key:∀l:List PW,(∀x∈l,x.2.length≤40)→(l.flatMap (wOt slPs)).length≤40*l.length:=fun l=>by
   induction l with
   | nil=>intro _;simp
   | cons x t ih =>
    intro hx
    have h1:=hx x (List.mem_cons_self ..)
    have h2:=ih (fun y hy=>hx y (List.mem_cons_of_mem _ hy))
    rw[List.flatMap_cons,List.length_append,List.length_cons,wOt,List.length_map]
    omega
  have:=key l (fun x hx=>(h.ok.ok x (hl.subset hx)).few)
  omega
 ·obtain⟨x,hx,ho⟩:=List.mem_flatMap.1 ho
  rw[wOt] at ho
  obtain⟨g,hg,rfl⟩:=List.mem_map.1 ho
  have hk:=zqD ((h.ok.ok x (hl.subset hx)).ok g hg).1
  have ht:=zrM slPs g.2
  unfold gOt
  split
  ·show (g.1++tlR slPs g.2).length≤1000000
   rw[List.length_append]
   omega
  ·show ([]:List V3).length≤1000000
   simp
theorem zik{c:Nat}{st:Int×List PW}(h:OkSt [1] c 5 st)(A:Int)(tk:List V3×Bool×Int)(key:List V3):(pushP slPs 5 5 st A tk key).2.length≤1000000∧∀o∈(pushP slPs 5 5 st A tk key).2,o.1.length≤1000000:=by
 rw[pushP]
 split
 ·exact⟨by simp,fun o ho=>by simp at ho;subst ho;simp⟩
 ·split
  ·exact⟨by simp,fun o ho=>by simp at ho;subst ho;simp⟩
  ·obtain⟨t1,t2⟩:=zmU h (toldB 5 A st.2) (List.takeWhile_sublist _)
   refine⟨?_,fun o ho=>?_⟩
   ·show (List.flatMap _ _++_).length≤1000000
    rw[List.length_append]
    refine Nat.le_trans (Nat.add_le_add t1 (?_:_≤1)) (by decide)
    split<;>simp
   ·rcases List.mem_append.1 ho with ho|ho
    ·exact t2 o ho
    ·split at ho
     ·simp at ho
     ·simp at ho;subst ho;simp
theorem zgF{c:Nat}{st:Int×List PW}(A:Int)(tk:List V3×Bool×Int)(key:List V3)(h0:0≤A∧A≤1000000)(h:st.1≤A):(pushP slPs 5 5 st A tk key).1.1=A:=by
 rw[pushP,if_neg (fun k=>k h0),if_neg (by omega)]
end
end Go.Proofs.YtopghagjmdbglaaGreatDoor
