/-
  SlP, SlA, SlB, ArO, QyB0, LexPure2, Lex5, QrA.
-/
import Derived.Test.YtopghagjmdbglaaGreatDoorGyAw
import Derived.Test.YtopghagjmdbglaaGreatDoorGyAu
import Derived.Test.YtopghagjmdbglaaGreatDoorGyAf
import Derived.Test.YtopghagjmdbglaaGreatDoorGyAc
import Derived.Test.YtopghagjmdbglaaGreatDoorGyAk
import Derived.OneCell
import Derived.Test.YtopghagjmdbglaaGreatDoorGyAb
import Derived.Test.YtopghagjmdbglaaGreatDoorGyAl
import Derived.Test.YtopghagjmdbglaaGreatDoorGyAd
import Derived.Deep.RegionWith
import Derived.Deep.RegionHeld3
import Derived.Deep.MidRow
namespace Go.Proofs.YtopghagjmdbglaaGreatDoor
open Go.RowKit
set_option linter.unusedVariables false
set_option linter.unusedSimpArgs false
set_option maxHeartbeats 8000000
set_option maxRecDepth 20000
theorem zpf(zs:List (ByteArray×Int))(rs:List V3):takP zs ex0 [ex0] rs=([noV],true,0):=by
 have h0:noOp ex0=true:=by decide
 have hp:pasP zs rs ex0=(true,0):=by rw[pasP,if_pos h0]
 have hc:comP zs rs ex0=(noV,0):=by rw[comP,if_pos h0]
 have hg:gatP zs rs [] [ex0]=([noV],0):=by rw[gatP,hc,if_neg (by simp),gatP];rfl
 rw[takP,hp,hg]
 simp
def zfZ:ByteArray:=⟨#[99,111,117,110,116]⟩
theorem znO:nwE [zfZ] [1]=0:=by decide
theorem zmM:adE (nwP [zfZ] [1]) [noV]=0:=by decide
theorem zoP(A:Int)(s:ByteArray)(hs:s.data.toList=[]):OkK [1] (keyP [(1,A,s)] [0]):=by
 refine⟨⟨rfl,?_⟩,trivial⟩
 show chk 1 A s.data.toList=0
 rw[hs]
 simp[chk]
theorem zno{ps0:List Pt}{size slide:Int}{st:Int×List PW}{A:Int}{tk:List V3×Bool×Int}{key:List V3}(h0:0≤A∧A≤1000000)(h:A<st.1):pushP ps0 size slide st A tk key=(st,[([],6,0)]):=by
 rw[pushP,if_neg (fun h=>h h0),if_pos h]
def slL:List (ByteArray×Int):=[(⟨#[97,116]⟩,1)]
noncomputable def slPs:List Pt:=nwP [zfZ] [1]
def slRow(A:Int):List V3:=[(1,A,⟨#[]⟩)]
structure SlSt(w W3:World)(S0:Nat→Prop)(gb:Nat)(cv:Value)(s:Gs):Prop where
 env:KEnv w
 aenv:AEnv w
 ng:NgIs W3 gb 0 5 5 slL ex0 [ex0] [zfZ] [0] [1] s
 col:s.SC[0]?=some cv
 old:Below w.heap.size w W3
 own:S0 gb
 low:∀k,S0 k→w.heap.size≤k
 lo2:∀k,S0 k→k≤gb∨W3.heap.size≤k
theorem SlSt.bts{w W3 W:World}{S0:Nat→Prop}{gb:Nat}{cv:Value}{s:Gs}(h:SlSt w W3 S0 gb cv s)(hk:Kp S0 W3 W):Bts S0 gb W3 W:=⟨hk,h.own,h.lo2⟩
theorem SlSt.below{w W3 W:World}{S0:Nat→Prop}{gb:Nat}{cv:Value}{s:Gs}(h:SlSt w W3 S0 gb cv s)(hb:Bts S0 gb W3 W):Below w.heap.size w W :=
 h.old.trans (hb.kp.below h.old.size (fun k hk hs=>by have:=h.low k hs;omega))
theorem ziX(A:Int)(hA:inM A):zbK (slRow A):=fun v hv=>by
 rw[slRow,List.mem_singleton] at hv
 subst hv
 exact⟨Nat.zero_le _,hA⟩
theorem zmU(A:Int):zhm slL (slRow A)=0:=by
 have h0:schE slL=0:=by decide
 rw[zhm,if_neg (fun h=>h h0),if_neg (by simp[slL,slRow])]
 show rcGo [(⟨#[97,116]⟩,1)] [(1,A,⟨#[]⟩)]=0
 rw[rcGo,if_neg (by simp[chk]),if_neg (by simp),rcGo]
 intro z zs r rs h
 cases h
theorem zkK:zbK [noV]:=fun v hv=>by
 rw[List.mem_singleton] at hv
 subst hv
 exact⟨Nat.zero_le _,by unfold noV inB;decide⟩
theorem zrM{w W3 W:World}{S0:Nat→Prop}{sb tb gb:Nat}{cv:Value}{s:Gs}(h:SlSt w W3 S0 gb cv s){last rows:Int}{ov:Value}{xs:List Wm}(hG:GrAt W W3.heap.size slPs gb s last ov xs)(hk:Kp S0 W3 W)(hS:Blk W sb (smC tb rows) 71)(hTl:Blk W tb (tlG cv gb) 107)(hns:¬GrS gb ov xs sb)(hrows:0≤rows∧rows≤1000000){c:Nat}(hst:OkSt [1] c 5 (last,xs.map Wm.pl))(hc:c+11≤10000)
  (rq:Option Addr)(rc:Nat)(A:Int)(hA:inM A)(hr:zah W rq (slRow A))(hrd:∀b o,rq=some ⟨b,o,none⟩→¬GrS gb ov xs b) :
  Calls Tryz.prog 6 #[.pointer (some ⟨sb,0,none⟩),.slice rq 1 rc] W fun e w'=>∃u,e=.returned (.tuple #[u,.nilIface])∧Aside (OutsF W.heap.size w' u (pushP slPs 5 5 (last,xs.map Wm.pl) A ([noV],true,0) (keyP (slRow A) [0])).2∧ziQ W w' W3.heap.size slPs sb tb gb s ov xs (rows+1) (pushP slPs 5 5 (last,xs.map Wm.pl) A ([noV],true,0) (keyP (slRow A) [0])).1):=by
 have hB:=h.bts hk
 have hbl:=h.below hB
 have hsz:=ziX A hA
 obtain⟨pp,pc,hpv,hpl⟩:=h.ng.pl
 obtain⟨ap,ac,hav,hag⟩:=h.ng.ag
 obtain⟨tp,tc,htv,hty⟩:=h.ng.ty
 obtain⟨r,hgr,hV⟩:=h.ng.sv
 obtain⟨C,hC1,hC2⟩:=h.ng.blk
 have hgl:gb<W3.heap.size:=hC1.lt
 rw[hpv] at hpl
 rw[hav] at hag
 rw[htv] at hty
 have hz:∀z∈slL,z.1.size≤maxLen:=fun z hz=>by
  rw[slL,List.mem_singleton] at hz
  subst hz
  decide
 have hcv:ColsV W cv slL:=by
  obtain⟨cv',yp,yc,uv,e,⟨cq,cc,e1,o1⟩,-⟩:=hV
  have:cv=cv':=by
   have:=h.col
   rw[e] at this
   simpa using this.symm
  subst this
  exact zke rfl hz (zar o1 hB.keepB (by omega))
 have e5:s.size=5:=h.ng.size
 have e6:s.slide=5:=h.ng.slide
 have hwd:wdB s.size s.slide:=by rw[e5,e6];unfold wdB;decide
 have hTk:=znM (S0:=S0) (gb:=gb) hV hgr hz (by decide) (by decide) (fun x hx=>by rw[List.mem_singleton] at hx;subst hx;decide) [noV] true 0 rq rc (slRow A) (zpf slL (slRow A))
 have hNw:=zsC (S0:=S0) (gb:=gb) (W1:=W3) (fun V hv=>h.aenv.on (h.below hv)) ap ac [zfZ] tp tc [1] hag hty (by decide) (by decide) znO
 have hCk:=zkn cv (.slice rq (slRow A).length rc) slL (slRow A) W (h.env.on hbl).tw hcv ⟨rq,rc,rfl,by show 1≤maxLen;decide,hr⟩ hsz
 rw[zmU] at hCk
 have:=zuj (base:=W3.heap.size) hG hB rfl hS hTl hns hrows (kt:=[1]) (c:=c) (by rw[e5];exact hst) hwd hc (by decide) (by decide) (fun V hv=>(h.env.on (h.below hv)).et) rq rc (slRow A) hr (.inr hrd) (by show 1≤1000;decide) 0 h.ng.at_ (by show 0<1;decide) A rfl hA pp pc [0] hpv (by decide) (fun V hv=>zjR (zar hpl hv.keepB (Nat.le_refl _))) (fun i hi=>by rw[List.mem_singleton] at hi;subst hi;show 0<1;decide) (zoP A ⟨#[]⟩ rfl) [noV] true 0 hTk (fun _ _=>⟨zkK,by decide,zmM⟩) (by rw[hav,htv];exact hNw) hCk
 rw[e5,e6] at this
 exact this
structure Sp where
 sb:Nat
 tb:Nat
 gb:Nat
 cv:Value
 s:Gs
 W3:World
structure zdY(w WL:World)(S0:Nat→Prop)(x y:Sp):Prop where
 hx:SlSt w x.W3 S0 x.gb x.cv x.s
 hy:SlSt w y.W3 S0 y.gb y.cv y.s
 bx:Below x.W3.heap.size x.W3 WL
 by_:Below y.W3.heap.size y.W3 WL
 s0:∀k,S0 k↔(k=x.gb∨k=x.sb)∨(k=y.gb∨k=y.sb)
 tx:Blk WL x.tb (tlG x.cv x.gb) 107
 ty:Blk WL y.tb (tlG y.cv y.gb) 107
 nx:¬S0 x.tb
 ny:¬S0 y.tb
 lx:x.sb<WL.heap.size∧x.gb<WL.heap.size
 ly:y.sb<WL.heap.size∧y.gb<WL.heap.size
 dx:x.sb≠x.gb∧x.sb≠y.sb∧x.sb≠y.gb
 dy:y.sb≠y.gb∧y.sb≠x.sb∧y.sb≠x.gb
 dg:x.gb≠y.gb
theorem zdY.swap{w WL:World}{S0:Nat→Prop}{x y:Sp}(h:zdY w WL S0 x y):zdY w WL S0 y x :=
 ⟨h.hy,h.hx,h.by_,h.bx,fun k=>(h.s0 k).trans or_comm,h.ty,h.tx,h.ny,h.nx,h.ly,h.lx,h.dy,h.dx,fun e=>h.dg e.symm⟩
structure SlIv(WL:World)(S0:Nat→Prop)(x y:Sp)(r1 r2:Int)(s1 s2:Int×List PW)(n1 n2:Nat)(W:World):Prop where
 kp:Kp S0 WL W
 sx:Blk W x.sb (smC x.tb r1) 71
 sy:Blk W y.sb (smC y.tb r2) 71
 g:∃ox xs oy ys,GrAt W x.W3.heap.size slPs x.gb x.s s1.1 ox xs∧xs.map Wm.pl=s1.2∧GrAt W y.W3.heap.size slPs y.gb y.s s2.1 oy ys∧ys.map Wm.pl=s2.2∧(∀k,GrS x.gb ox xs k→(k=x.gb∨WL.heap.size≤k)∧k<n1)∧(∀k,GrS y.gb oy ys k→(k=y.gb∨WL.heap.size≤k)∧k<n2)∧(∀k,GrS x.gb ox xs k→¬GrS y.gb oy ys k)
 n1l:x.sb<n1∧n1≤W.heap.size
 n2l:y.sb<n2∧n2≤W.heap.size
theorem SlIv.swap{WL W:World}{S0:Nat→Prop}{x y:Sp}{r1 r2:Int}{s1 s2:Int×List PW}{n1 n2:Nat}(h:SlIv WL S0 x y r1 r2 s1 s2 n1 n2 W):SlIv WL S0 y x r2 r1 s2 s1 n2 n1 W:=by
 obtain⟨ox,xs,oy,ys,a1,a2,a3,a4,a5,a6,a7⟩:=h.g
 exact⟨h.kp,h.sy,h.sx,⟨oy,ys,ox,xs,a3,a4,a1,a2,a6,a5,fun k h1 h2=>a7 k h2 h1⟩,h.n2l,h.n1l⟩
theorem SlIv.on{WL W W':World}{S0:Nat→Prop}{x y:Sp}{r1 r2:Int}{s1 s2:Int×List PW}{n1 n2:Nat}(h:SlIv WL S0 x y r1 r2 s1 s2 n1 n2 W)(hb:Below W.heap.size W W'):SlIv WL S0 x y r1 r2 s1 s2 n1 n2 W':=by
 obtain⟨ox,xs,oy,ys,a1,a2,a3,a4,a5,a6,a7⟩:=h.g
 have:=hb.size
 exact⟨h.kp.on hb,h.sx.on hb,h.sy.on hb,⟨ox,xs,oy,ys,a1.on hb,a2,a3.on hb,a4,a5,a6,a7⟩,⟨h.n1l.1,by have:=h.n1l.2;omega⟩,⟨h.n2l.1,by have:=h.n2l.2;omega⟩⟩
theorem zdY.old{w WL W:World}{S0:Nat→Prop}{x y:Sp}(h:zdY w WL S0 x y)(hk:Kp S0 WL W):Below w.heap.size w W :=
 (h.hx.old.trans (h.bx.mono h.hx.old.size)).trans (hk.below (by have:=h.hx.old.size;have:=h.bx.size;omega) (fun k hk hs=>by have:=h.hx.low k hs;omega))
theorem SlIv.turn{w WL W w':World}{S0:Nat→Prop}{x y:Sp}{r1 r2 r':Int}{s1 s2 st:Int×List PW}{n1 n2:Nat}(B:zdY w WL S0 x y){ox:Value}{xs:List Wm}{oy:Value}{ys:List Wm}(kp:Kp S0 WL W)(sx:Blk W x.sb (smC x.tb r1) 71)(sy:Blk W y.sb (smC y.tb r2) 71)(a1:GrAt W x.W3.heap.size slPs x.gb x.s s1.1 ox xs)(a3:GrAt W y.W3.heap.size slPs y.gb y.s s2.1 oy ys)(a4:ys.map Wm.pl=s2.2)(a5:∀k,GrS x.gb ox xs k→(k=x.gb∨WL.heap.size≤k)∧k<n1)(a6:∀k,GrS y.gb oy ys k→(k=y.gb∨WL.heap.size≤k)∧k<n2)(a7:∀k,GrS x.gb ox xs k→¬GrS y.gb oy ys k)(n1l:x.sb<n1∧n1≤W.heap.size)(n2l:y.sb<n2∧n2≤W.heap.size)
  (h:ziQ W w' x.W3.heap.size slPs x.sb x.tb x.gb x.s ox xs r' st):SlIv WL S0 x y r' r2 st s2 w'.heap.size n2 w'∧Kp (fun k=>k<n1) W w':=by
 obtain⟨ov',xs',g1,g2,g3,g4,g5⟩:=h
 have hxg:S0 x.gb:=(B.s0 _).2 (.inl (.inl rfl))
 have hxs:S0 x.sb:=(B.s0 _).2 (.inl (.inr rfl))
 have hWL:=kp.size
 have hW:=g4.size
 obtain⟨d1,d2,d3⟩:=B.dx
 obtain⟨e1,e2,e3⟩:=B.dy
 obtain⟨l1,l2⟩:=B.lx
 obtain⟨m1,m2⟩:=B.ly
 have hno:∀k,k<WL.heap.size→¬S0 k→¬(GrS x.gb ox xs k∨k=x.sb):=fun k hk hs hh=>by
  rcases hh with hh|rfl
  ·rcases (a5 k hh).1 with rfl|h
   ·exact hs hxg
   ·omega
  ·exact hs hxs
 have hys:¬(GrS x.gb ox xs y.sb∨y.sb=x.sb):=fun hh=>by
  rcases hh with hh|hh
  ·rcases (a5 _ hh).1 with h|h
   ·exact e3 h
   ·omega
  ·exact e2 hh
 refine⟨⟨⟨kp.low.trans g4.low,fun k hk hs=>by rw[g4.kept k (by omega) (hno k hk hs),kp.kept k hk hs]⟩,g3,sy.kp g4 hys,⟨ov',xs',oy,ys,g1,g2,a3.kp g4 (a1.mut.or (MutS.one sx (by decide))) (fun k hk hh=>?_),a4,fun k hk=>?_,a6,fun k hk hy=>?_⟩,⟨by omega,Nat.le_refl _⟩,⟨n2l.1,by omega⟩⟩,g4.mono fun k _ hk=>?_⟩
 ·rcases hh with hh|rfl
  ·exact a7 k hh hk
  ·rcases (a6 _ hk).1 with h|h
   ·exact d3 h
   ·omega
 ·refine⟨?_,?_⟩
  ·rcases g5 k hk with h|h
   ·exact (a5 k h).1
   ·exact .inr (by omega)
  ·rcases g1.in_ k hk with rfl|h
   ·omega
   ·exact h.2
 ·rcases g5 k hk with h|h
  ·exact a7 k h hy
  ·have:=(a6 k hy).2
   omega
 ·rcases hk with hk|rfl
  ·exact (a5 k hk).2
  ·exact n1l.1
theorem zmp{w WL W:World}{S0:Nat→Prop}{x y:Sp}{r1 r2:Int}{s1 s2:Int×List PW}{n1 n2:Nat}(B:zdY w WL S0 x y)(I:SlIv WL S0 x y r1 r2 s1 s2 n1 n2 W)(hrows:0≤r1∧r1≤1000000){c:Nat}(hst:OkSt [1] c 5 s1)(hc:c+11≤10000)(b rc:Nat)(A:Int)(hA:inM A)(hb:Blk W b #[.int .i64 1,.int .i64 A,.string ⟨#[]⟩] 27) :
  Calls Tryz.prog 6 #[.pointer (some ⟨x.sb,0,none⟩),.slice (some ⟨b,0,none⟩) 1 rc] W fun e w'=>∃u,e=.returned (.tuple #[u,.nilIface])∧Aside (OutsF W.heap.size w' u (pushP slPs 5 5 s1 A ([noV],true,0) (keyP (slRow A) [0])).2∧SlIv WL S0 x y (r1+1) r2 (pushP slPs 5 5 s1 A ([noV],true,0) (keyP (slRow A) [0])).1 s2 w'.heap.size n2 w'∧Kp (fun k=>k<n1) W w'):=by
 obtain⟨kp,sx,sy,⟨ox,xs,oy,ys,a1,a2,a3,a4,a5,a6,a7⟩,n1l,n2l⟩:=I
 have hWL:=kp.size
 have hbx:=B.bx.size
 have e1:(s1.1,xs.map Wm.pl)=s1:=by rw[a2]
 have hk3:Kp S0 x.W3 W:=(Kp.of_below B.bx).trans ⟨kp.low,fun k hk hs=>kp.kept k (by omega) hs⟩
 have hT:Blk W x.tb (tlG x.cv x.gb) 107:=B.tx.kp kp B.nx
 have hns:¬GrS x.gb ox xs x.sb:=fun h=>by
  rcases (a5 _ h).1 with h|h
  ·exact B.dx.1 h
  ·have:=B.lx.1;omega
 have hr:zah W (some ⟨b,0,none⟩) (slRow A):=.inr ⟨b,0,rfl,hb.lt,fun i hi=>by
  have:i=0:=by rw[slRow,List.length_singleton] at hi;omega
  subst this
  exact⟨by rw[hb.cell];rfl,by rw[hb.cell];rfl,by rw[hb.cell];rfl⟩⟩
 have:=zrM B.hx a1 hk3 sx hT hns hrows (c:=c) (by rw[e1];exact hst) hc (some ⟨b,0,none⟩) rc A hA hr (fun b' o hb' hg=>by
  injection hb' with hb'
  injection hb' with hb' _ _
  subst hb'
  exact a1.mut.blk hb (by decide) hg)
 rw[e1] at this
 refine this.mono ?_
 rintro e w' ⟨u,h1,h2⟩
 obtain⟨t1,t2⟩:=SlIv.turn B kp sx sy a1 a3 a4 a5 a6 a7 n1l n2l h2.out.2
 exact⟨u,h1,(show Aside _ from ⟨h2.out.1,t1,t2⟩)⟩
theorem zjQ{w WL W:World}{S0:Nat→Prop}{x y:Sp}{r1 r2:Int}{s1 s2:Int×List PW}{n1 n2:Nat}(B:zdY w WL S0 x y)(I:SlIv WL S0 x y r1 r2 s1 s2 n1 n2 W){c:Nat}(hst:OkSt [1] c 5 s1) :
  Calls Tryz.prog 10 #[.pointer (some ⟨x.sb,0,none⟩)] W fun e w'=>∃u,e=.returned u∧Aside (OutsF W.heap.size w' u (endP slPs s1)∧SlIv WL S0 x y 0 r2 (0,[]) s2 w'.heap.size n2 w'∧Kp (fun k=>k<n1) W w'):=by
 obtain⟨kp,sx,sy,⟨ox,xs,oy,ys,a1,a2,a3,a4,a5,a6,a7⟩,n1l,n2l⟩:=I
 have hWL:=kp.size
 have hbx:=B.bx.size
 have hT:Blk W x.tb (tlG x.cv x.gb) 107:=B.tx.kp kp B.nx
 have hxs:S0 x.sb:=(B.s0 _).2 (.inl (.inr rfl))
 have hns:¬GrS x.gb ox xs x.sb:=fun h=>by
  rcases (a5 _ h).1 with h|h
  ·exact B.dx.1 h
  ·have:=B.lx.1;omega
 have hold:=B.old kp
 have hEt:∀V,Kp (fun k=>GrS x.gb ox xs k∨k=x.sb) W V→EtAt V:=fun V hV =>
  (B.hx.env.on (hold.trans (hV.below hold.size (fun k hk hh=>by
   rcases hh with hh|rfl
   ·rcases (a5 k hh).1 with rfl|h
    ·have:=B.hx.low _ B.hx.own;omega
    ·have:=(B.old (Kp.refl _ _)).size;omega
   ·have:=B.hx.low _ hxs;omega)))).et
 have hfew:xs.length≤1000:=by
  have:=hst.few (by decide)
  rw[←a2,List.length_map] at this
  exact this
 refine (zqt a1 sx hT hns (fun e=>B.nx (e▸hxs)) hEt (by omega) (by decide) hfew (kt:=[1]) (c:=c) (by rw[a2];exact hst.ok) (by decide)).mono ?_
 rintro e w' ⟨u,h1,h2⟩
 obtain⟨t1,t2⟩:=SlIv.turn B kp sx sy a1 a3 a4 a5 a6 a7 n1l n2l h2.out.2
 refine⟨u,h1,(show Aside _ from ⟨?_,t1,t2⟩)⟩
 have:=h2.out.1
 rw[a2] at this
 exact this
theorem zoz{w WL W:World}{S0:Nat→Prop}{x y:Sp}{r1 r2:Int}{s1 s2:Int×List PW}{n1 n2:Nat}(B:zdY w WL S0 x y)(I:SlIv WL S0 x y r1 r2 s1 s2 n1 n2 W) :
  Calls Tryz.prog 9 #[.pointer (some ⟨x.sb,0,none⟩)] W fun e w'=>e=.returned (.int .i64 (s1.2.length:Int))∧w'=W:=by
 obtain⟨kp,sx,sy,⟨ox,xs,oy,ys,a1,a2,a3,a4,a5,a6,a7⟩,n1l,n2l⟩:=I
 have:=ztK a1 sx (B.tx.kp kp B.nx)
 rw[←a2,List.length_map]
 exact this
theorem zco{w w':World}{B B':Nat}{e e':TypeId}{size size' n m:Nat}{u v:Value}{xs ys:List Value}(h:w.ownsRow B e size u n xs)(h':w.ownsRow B' e' size' v m ys)(hne:e≠e')(hg:w.grownBy w' v.ownBlock):w'.ownsRow B e size u n xs:=by
 refine⟨h.1,?_⟩
 rcases h.2 with hn|⟨g,cap,cur,rfl,h1,hgg,rest⟩
 ·exact .inl hn
 ·refine .inr ⟨g,cap,cur,rfl,h1,?_,rest⟩
  rw[hg.block g (Array.getElem?_eq_some_iff.1 hgg).1 (fun hb=>?_)]
  ·exact hgg
  ·rcases h'.2 with ⟨rfl,_⟩|⟨g',cap',cur',rfl,_,hgg',_⟩
   ·simp[Value.ownBlock] at hb
   ·have:g=g':=by simpa [Value.ownBlock] using hb
    subst this
    rw[hgg] at hgg'
    injection hgg' with hgg'
    injection hgg' with _ h2 _
    exact hne h2
def ArgsO(w:World)(B:Nat)(v:Value)(u:Option Nat)(xs:List Ex):Prop:=∃cs:List Value,w.ownsRow B 30 7 v xs.length cs ∧
 ∀j (h:j<xs.length),∃a0 a1 a2 a3 a4 a5 a6,cs[j*7]?=some a0∧cs[j*7+1]?=some a1∧cs[j*7+2]?=some a2∧cs[j*7+3]?=some a3∧cs[j*7+4]?=some a4∧cs[j*7+5]?=some a5∧cs[j*7+6]?=some a6∧ExIn w (fun b=>B≤b∧some b≠v.ownBlock∧some b≠u)(.agg #[a0,a1,a2,a3,a4,a5,a6]) xs[j]
theorem znl(w:World)(B:Nat)(u:Option Nat):ArgsO w B (.slice none 0 0) u []:=⟨[],World.ownsRow_nil _ _ _ _,fun j h=>absurd h (Nat.not_lt_zero _)⟩
theorem ArgsO.own{w:World}{B:Nat}{v:Value}{u:Option Nat}{xs:List Ex}(h:ArgsO w B v u xs):zau w B v xs:=by
 obtain⟨cs,h1,h2⟩:=h
 refine⟨cs,h1,fun j hj=>?_⟩
 obtain⟨a0,a1,a2,a3,a4,a5,a6,e0,e1,e2,e3,e4,e5,e6,hx⟩:=h2 j hj
 exact⟨a0,a1,a2,a3,a4,a5,a6,e0,e1,e2,e3,e4,e5,e6,ExIn.low (fun b _ hb=>⟨hb.1,hb.2.1⟩) _ _ hx⟩
theorem ArgsO.on{w w':World}{B:Nat}{v:Value}{u:Option Nat}{xs:List Ex}(h:ArgsO w B v u xs)(hb:Below w.heap.size w w'):ArgsO w' B v u xs:=by
 obtain⟨cs,h1,h2⟩:=h
 refine⟨cs,zab h1 hb,fun j hj=>?_⟩
 obtain⟨a0,a1,a2,a3,a4,a5,a6,e0,e1,e2,e3,e4,e5,e6,hx⟩:=h2 j hj
 exact⟨a0,a1,a2,a3,a4,a5,a6,e0,e1,e2,e3,e4,e5,e6,hx.on hb⟩
theorem ArgsO.other{w w':World}{B B' m size:Nat}{e':TypeId}{v u u':Value}{ys:List Value}{xs:List Ex}(h:ArgsO w B v u.ownBlock xs)(hu:w.ownsRow B' e' size u m ys)(hne:30≠e')(hg:w.grownBy w' u.ownBlock)(hf:u'.ownBlock=u.ownBlock∨u'.ownBlock=some w.heap.size):ArgsO w' B v u'.ownBlock xs:=by
 obtain⟨cs,h1,h2⟩:=h
 refine⟨cs,zco h1 hu hne hg,fun j hj=>?_⟩
 obtain⟨a0,a1,a2,a3,a4,a5,a6,e0,e1,e2,e3,e4,e5,e6,hx⟩:=h2 j hj
 have h3:=ExIn.low (lo':=fun b=>(B≤b∧some b≠v.ownBlock∧some b≠u.ownBlock)∧b<w.heap.size) (fun b hb hb2=>⟨hb2,hb⟩) _ _ hx
 have h4:=ExIn.keep (w':=w') hg.size (fun b o hb _=>by simp only[World.cell?,hg.block b hb.2 hb.1.2.2]) _ _ h3
 refine⟨a0,a1,a2,a3,a4,a5,a6,e0,e1,e2,e3,e4,e5,e6,ExIn.low (fun b _ hb=>⟨hb.1.1,hb.1.2.1,?_⟩) _ _ h4⟩
 rcases hf with hf|hf
 ·rw[hf];exact hb.1.2.2
 ·rw[hf];intro e;injection e with e;have:=hb.2;omega
theorem zdf{w w':World}{B:Nat}{lo:Nat→Prop}{v:Value}{x:Ex}(h:ExIn w lo v x)(hk:KeepB B w w')(hB:∀b,lo b→B≤b):ExIn w' lo v x:=by
 have h3:=ExIn.low (lo':=fun b=>lo b∧b<w.heap.size) (fun b hb hb2=>⟨hb2,hb⟩) _ _ h
 have h4:=ExIn.keep (w':=w') hk.1 (fun b o hb _=>by simp only[World.cell?,hk.2 b (hB b hb.1) hb.2]) _ _ h3
 exact ExIn.low (fun b _ hb=>hb.1) _ _ h4
theorem ArgsO.keepB{w w':World}{B B':Nat}{v:Value}{u:Option Nat}{xs:List Ex}(h:ArgsO w B v u xs)(hk:KeepB B' w w')(hB:B'≤B):ArgsO w' B v u xs:=by
 obtain⟨cs,h1,h2⟩:=h
 refine⟨cs,zar h1 hk hB,fun j hj=>?_⟩
 obtain⟨a0,a1,a2,a3,a4,a5,a6,e0,e1,e2,e3,e4,e5,e6,hx⟩:=h2 j hj
 exact⟨a0,a1,a2,a3,a4,a5,a6,e0,e1,e2,e3,e4,e5,e6,zdf hx hk (fun b hb=>by omega)⟩
def zbP(w:World)(B:Nat)(v:Value)(l:List Ag):Prop:=∃cs:List Value,w.ownsRow B 92 9 v l.length cs ∧
 ∀j (h:j<l.length),∃ap ac,cs[j*9]?=some (.string l[j].what)∧cs[j*9+1]?=some (.string l[j].arg.op)∧cs[j*9+2]?=some (.string l[j].arg.nm)∧cs[j*9+3]?=some (.int .i64 l[j].arg.vt)∧cs[j*9+4]?=some (.int .i64 l[j].arg.vn)∧cs[j*9+5]?=some (.string l[j].arg.vs)∧cs[j*9+6]?=some (.slice ap l[j].arg.args.length ac)∧cs[j*9+7]?=some (.int .i64 l[j].arg.pos)∧cs[j*9+8]?=some (.string l[j].name)∧ExIn w (fun b=>B≤b∧some b≠v.ownBlock)(exV l[j].arg ap ac) l[j].arg
theorem zmw(w:World)(B:Nat):zbP w B (.slice none 0 0) []:=⟨[],World.ownsRow_nil _ _ _ _,fun j h=>absurd h (Nat.not_lt_zero _)⟩
theorem zbP.keepB{w w':World}{B B':Nat}{v:Value}{xs:List Ag}(h:zbP w B v xs)(hk:KeepB B' w w')(hB:B'≤B):zbP w' B v xs:=by
 obtain⟨cs,h1,h2⟩:=h
 refine⟨cs,zar h1 hk hB,fun j hj=>?_⟩
 obtain⟨ap,ac,e0,e1,e2,e3,e4,e5,e6,e7,e8,hx⟩:=h2 j hj
 exact⟨ap,ac,e0,e1,e2,e3,e4,e5,e6,e7,e8,zdf hx hk (fun b hb=>by omega)⟩
theorem zbP.push{w w':World}{B:Nat}{v v':Value}{xs:List Ag}{cs:List Value}{a:Ag}{ap:Option Addr}{ac:Nat}(h1:w.ownsRow B 92 9 v xs.length cs)
  (h2:∀j (h:j<xs.length),∃ap ac,cs[j*9]?=some (.string xs[j].what)∧cs[j*9+1]?=some (.string xs[j].arg.op)∧cs[j*9+2]?=some (.string xs[j].arg.nm)∧cs[j*9+3]?=some (.int .i64 xs[j].arg.vt)∧cs[j*9+4]?=some (.int .i64 xs[j].arg.vn)∧cs[j*9+5]?=some (.string xs[j].arg.vs)∧cs[j*9+6]?=some (.slice ap xs[j].arg.args.length ac)∧cs[j*9+7]?=some (.int .i64 xs[j].arg.pos)∧cs[j*9+8]?=some (.string xs[j].name)∧ExIn w (fun b=>B≤b∧some b≠v.ownBlock) (exV xs[j].arg ap ac) xs[j].arg)
  (hx:ExIn w (fun b=>B≤b∧some b≠v.ownBlock) (exV a.arg ap ac) a.arg)(hown':w'.ownsRow B 92 9 v' (xs.length+1) (cs++[.string a.what,.string a.arg.op,.string a.arg.nm,.int .i64 a.arg.vt,.int .i64 a.arg.vn,.string a.arg.vs,.slice ap a.arg.args.length ac,.int .i64 a.arg.pos,.string a.name]))(hg:w.grownBy w' v.ownBlock)(hf:v'.ownBlock=v.ownBlock∨v'.ownBlock=some w.heap.size):zbP w' B v' (xs++[a]):=by
 have key:∀(y:Ex) (z:Value),ExIn w (fun b=>B≤b∧some b≠v.ownBlock) z y→ExIn w' (fun b=>B≤b∧some b≠v'.ownBlock) z y:=fun y z hy=>by
  have h3:=ExIn.low (lo':=fun b=>(B≤b∧some b≠v.ownBlock)∧b<w.heap.size) (fun b hb hb2=>⟨hb2,hb⟩) _ _ hy
  have h4:=ExIn.keep (w':=w') hg.size (fun b o hb _=>by simp only[World.cell?,hg.block b hb.2 hb.1.2]) _ _ h3
  refine ExIn.low (fun b _ hb=>⟨hb.1.1,?_⟩) _ _ h4
  rcases hf with hf|hf
  ·rw[hf];exact hb.1.2
  ·rw[hf];intro e;injection e with e;have:=hb.2;omega
 have hlen:=h1.1
 refine⟨_,by rw[List.length_append,List.length_singleton];exact hown',fun j hj=>?_⟩
 rw[List.length_append,List.length_singleton] at hj
 by_cases hj2:j<xs.length
 ·obtain⟨ap,ac,e0,e1,e2,e3,e4,e5,e6,e7,e8,hy⟩:=h2 j hj2
  rw[List.getElem_append_left hj2]
  refine⟨ap,ac,?_,?_,?_,?_,?_,?_,?_,?_,?_,key _ _ hy⟩
  ·rw[List.getElem?_append_left (by omega)];exact e0
  ·rw[List.getElem?_append_left (by omega)];exact e1
  ·rw[List.getElem?_append_left (by omega)];exact e2
  ·rw[List.getElem?_append_left (by omega)];exact e3
  ·rw[List.getElem?_append_left (by omega)];exact e4
  ·rw[List.getElem?_append_left (by omega)];exact e5
  ·rw[List.getElem?_append_left (by omega)];exact e6
  ·rw[List.getElem?_append_left (by omega)];exact e7
  ·rw[List.getElem?_append_left (by omega)];exact e8
 ·obtain rfl:j=xs.length:=by omega
  rw[List.getElem_append_right (Nat.le_refl _)]
  simp only[Nat.sub_self,List.getElem_cons_zero]
  refine⟨ap,ac,?_,?_,?_,?_,?_,?_,?_,?_,?_,key _ _ hx⟩
  ·rw[List.getElem?_append_right (by omega),show xs.length*9-cs.length=0 by omega];rfl
  ·rw[List.getElem?_append_right (by omega),show xs.length*9+1-cs.length=1 by omega];rfl
  ·rw[List.getElem?_append_right (by omega),show xs.length*9+2-cs.length=2 by omega];rfl
  ·rw[List.getElem?_append_right (by omega),show xs.length*9+3-cs.length=3 by omega];rfl
  ·rw[List.getElem?_append_right (by omega),show xs.length*9+4-cs.length=4 by omega];rfl
  ·rw[List.getElem?_append_right (by omega),show xs.length*9+5-cs.length=5 by omega];rfl
  ·rw[List.getElem?_append_right (by omega),show xs.length*9+6-cs.length=6 by omega];rfl
  ·rw[List.getElem?_append_right (by omega),show xs.length*9+7-cs.length=7 by omega];rfl
  ·rw[List.getElem?_append_right (by omega),show xs.length*9+8-cs.length=8 by omega];rfl
theorem zbP.is{w:World}{B:Nat}{p:Option Addr}{n c:Nat}{xs:List Ag}(h:zbP w B (.slice p n c) xs)(hl:xs.length≤1048576):AgsIs w (B≤·) p xs:=by
 obtain⟨cs,h1,h2⟩:=h
 refine⟨hl,?_⟩
 rcases id h1.2 with ⟨hn,e⟩|⟨g,cap,cur,hv,hb,hg,hm,hx,hs,ht⟩
 ·exact .inl e
 ·injection hv with hv1 hv2 hv3
  subst hv1 hv2 hv3
  refine .inr ⟨g,0,rfl,(Array.getElem?_eq_some_iff.1 hg).1,hb,fun j hj=>?_⟩
  obtain⟨ap,ac,e0,e1,e2,e3,e4,e5,e6,e7,e8,hy⟩:=h2 j hj
  have k:∀o v,cs[o]?=some v→w.cell? ⟨g,0+o,none⟩=some v:=fun o v hv=>by
   have:=h1.cells (g:=g) rfl o v hv
   rw[Go.WideShapes.add_plain] at this
   exact this
  refine⟨ap,ac,k _ _ e0,?_,?_,?_,?_,?_,?_,?_,?_,ExIn.low (fun b _ hb=>hb.1) _ _ hy⟩
  ·exact k _ _ e1
  ·exact k _ _ e2
  ·exact k _ _ e3
  ·exact k _ _ e4
  ·exact k _ _ e5
  ·exact k _ _ e6
  ·exact k _ _ e7
  ·exact k _ _ e8
--BEGIN
def sepB:List UInt8→Bool
 | []=>true
 | c::_=>blB c
theorem zeX{c:UInt8}(h:blB c=true):c=32∨c=10:=by
 simp only[blB,Bool.or_eq_true,decide_eq_true_eq] at h
 rcases h with h|h
 ·exact Or.inl (UInt8.toNat_inj.1 (by rw[show (32:UInt8).toNat=32 from rfl];omega))
 ·exact Or.inr (UInt8.toNat_inj.1 (by rw[show (10:UInt8).toNat=10 from rfl];omega))
theorem zqd(p:UInt8→Bool)(h32:p 32=false)(h10:p 10=false):∀r:List UInt8,sepB r=true→hdB p r=false
 | [],_=>rfl
 | c::r,h=>by
  rcases zeX h with rfl|rfl
  ·exact h32
  ·exact h10
theorem zjY:∀g∈zaG,∀r:List UInt8,sepB r=true→sgN zaG (g++r)=g.length:=by
 intro g hg r hr
 have key:r=[]∨(∃q,r=32::q)∨∃q,r=10::q:=by
  cases r with
  | nil=>exact Or.inl rfl
  | cons c q =>
   rcases zeX hr with rfl|rfl
   ·exact Or.inr (Or.inl ⟨q,rfl⟩)
   ·exact Or.inr (Or.inr ⟨q,rfl⟩)
 simp only[zaG,List.mem_cons,List.not_mem_nil,or_false] at hg
 rcases key with rfl|⟨q,rfl⟩|⟨q,rfl⟩<;>rcases hg with rfl|rfl|rfl|rfl|rfl|rfl|rfl|rfl|rfl|rfl|rfl|rfl|rfl|rfl<;>simp[zaG,sgN,Lib.hasPrefix,List.isPrefixOf]
theorem zcx:∀(n:Nat) (l:List UInt8) (k:Nat) (r:List UInt8),l.length≤n→qscan l=some k→sepB r=true→qscan (l.take k++r)=some k
 | _,[],k,_,_,h,_=>by simp[qscan] at h
 | 0,_::_,_,_,hn,_,_=>by simp at hn
 | n+1,c::l,k,r,hn,h,hr=>by
  by_cases hc:c=39
  ·subst hc
   have stop:qscan (39::r)=some 1:=zch r (by
    cases r with
    | nil=>simp
    | cons d q=>rcases zeX hr with rfl|rfl<;>simp)
   cases l with
   | nil=>simp[qscan] at h;subst h;exact stop
   | cons d q =>
    by_cases hd:d=39
    ·subst hd
     rw[zcu,Option.map_eq_some_iff] at h
     obtain⟨j,hj,rfl⟩:=h
     have:=zcx n q j r (by simp at hn;omega) hj hr
     rw[show (39::39::q).take (j+2)++r=39::39::(q.take j++r) from by simp,zcu,this];rfl
    ·rw[zch _ (by simpa using hd)] at h
     cases h;exact stop
  ·rw[zdU c l hc,Option.map_eq_some_iff] at h
   obtain⟨j,hj,rfl⟩:=h
   have:=zcx n l j r (by simp at hn;omega) hj hr
   rw[show (c::l).take (j+1)++r=c::(l.take j++r) from by simp,zdU _ _ hc,this];rfl
theorem zfg{l:List UInt8}{n:Nat}(h:n≤l.length):(l.take n).length=n:=by rw[List.length_take];omega
theorem zna{l:List UInt8}{k:Int}{n:Nat}(h:tokAt l=(k,n,0))(r:List UInt8)(hr:sepB r=true):tokAt (l.take n++r)=(k,n,0):=by
 obtain⟨hn1,hn2⟩:=zcm h
 have hlen:=zfg hn2
 cases l with
 | nil=>simp at hn2;omega
 | cons c l =>
  obtain⟨m,rfl⟩:∃m,n=m+1:=⟨n-1,by omega⟩
  have hcons:(c::l).take (m+1)++r=c::(l.take m++r):=by simp
  rw[hcons,tokAt]
  rw[tokAt] at h
  by_cases hc:letB c=true
  ·rw[if_pos hc] at h ⊢
   injection h with h1 h
   injection h with h2 h3
   have ha:=zcP ldB (c::l)
   rw[h2] at ha
   rw[←hcons,zmv ldB _ r ha (zqd _ (by decide) (by decide) r hr),hlen,h1]
  ·rw[if_neg hc] at h ⊢
   by_cases hd:digB c=true
   ·rw[if_pos hd] at h ⊢
    injection h with h1 h
    rw[zaU] at h
    split at h
    ·cases h
    ·rename_i hz
     split at h
     ·cases h
     ·rename_i hv
      injection h with h2 h3
      rw[h2] at hz hv
      have ha:=zcP digB (c::l)
      rw[h2] at ha
      have hg:goN digB (c::(l.take m++r))=m+1:=by rw[←hcons,zmv digB _ r ha (zqd _ (by decide) (by decide) r hr),hlen]
      have hdr:(c::(l.take m++r)).drop (m+1)=r:=by
       rw[←hcons,List.drop_append_of_le_length (by omega),List.drop_of_length_le (by omega),List.nil_append]
      have htk:(c::(l.take m++r)).take (m+1)=(c::l).take (m+1):=by
       rw[←hcons,List.take_append_of_le_length (by omega),List.take_take,Nat.min_self]
      rw[zaU,hg,hdr,htk,if_neg,if_neg hv,h1]
      rintro (e|e)
      ·rw[zqd letB (by decide) (by decide) r hr] at e;cases e
      ·exact hz (Or.inr e)
   ·rw[if_neg hd] at h ⊢
    by_cases hq:c=39
    ·rw[if_pos hq] at h ⊢
     injection h with h1 h
     rw[zct] at h
     split at h
     ·cases h
     ·rename_i j hj
      split at h
      ·rename_i he
       injection h with h2 h3
       obtain rfl:j=m:=by omega
       have hj2:=(zeH _ l j (Nat.le_refl _) hj).2
       have htk:(l.take j++r).take j=l.take j:=by
        rw[List.take_append_of_le_length (by rw[zfg hj2];omega),List.take_take,Nat.min_self]
       rw[zct,zcx _ l j r (Nat.le_refl _) hj hr]
       simp only
       rw[htk,if_pos he,h1]
      ·rename_i h0
       exact absurd (Prod.mk.inj h).2 h0
    ·rw[if_neg hq] at h ⊢
     injection h with h1 h
     injection h with h2 h3
     have hne:sgN zaG (c::l)≠0:=by omega
     obtain⟨g,hm,hp,hl⟩:=zly _ _ hne
     have hg:=(zgx hp).2
     rw[←hl,h2] at hg
     have:=zjY g hm r hr
     rw[←hcons,hg,this,←hl,h2,h1,if_neg (by omega)]
theorem znp{c:UInt8}{l:List UInt8}(h:blB c=true):(tokAt (c::l)).2.2≠0:=by
 rcases zeX h with rfl|rfl
 ·simp[tokAt,letB,digB,zaG,sgN,Lib.hasPrefix,List.isPrefixOf]
 ·simp[tokAt,letB,digB,zaG,sgN,Lib.hasPrefix,List.isPrefixOf]
structure Good(k:Int)(t:List UInt8):Prop where
 ne:t≠[]
 hd:hdB blB t=false
 again:∀r:List UInt8,sepB r=true→tokAt (t++r)=(k,t.length,0)
theorem zpL{l:List UInt8}{k:Int}{n:Nat}(h:tokAt l=(k,n,0)):Good k (l.take n):=by
 obtain⟨hn1,hn2⟩:=zcm h
 have hlen:=zfg hn2
 refine⟨fun e=>by rw[e] at hlen;simp at hlen;omega,?_,fun r hr=>by rw[hlen];exact zna h r hr⟩
 cases l with
 | nil=>simp at hn2;omega
 | cons c l =>
  obtain⟨m,rfl⟩:∃m,n=m+1:=⟨n-1,by omega⟩
  rw[List.take_succ_cons]
  cases hb:blB c with
  | false=>exact hb
  | true=>exact absurd (by rw[h]) (znp (l:=l) hb)
def Stand(s:List UInt8):Nat→List Tok→Prop
 | p,[]=>∀c∈s.drop p,blB c=true
 | p,t::ts=>p≤t.2.2∧t.2.2+t.2.1.size≤s.length∧0<t.2.1.size∧(∀c∈(s.drop p).take (t.2.2-p),blB c=true)∧(s.drop t.2.2).take t.2.1.size=t.2.1.data.toList∧Stand s (t.2.2+t.2.1.size) ts
theorem zqb(l:List UInt8):(⟨l.toArray⟩:ByteArray).size=l.length:=by rw[Lib.size_eq]
theorem zoW{f a:Nat}{l:List UInt8}{ts:List Tok}{p:Nat}(h:lexN (f+1) a l=(ts,0,p)) :
  (l=[]∧ts=[])∨∃(k:Int)(n:Nat)(us:List Tok)(q:Nat),l≠[]∧tokAt l=(k,n,0)∧lexN f (a+n+goN blB (l.drop n))((l.drop n).drop (goN blB (l.drop n)))=(us,0,q)∧ts=(k,⟨(l.take n).toArray⟩,a)::us:=by
 rw[lexN] at h
 split at h
 ·rename_i hl
  cases h
  exact Or.inl ⟨hl,rfl⟩
 ·rename_i hl
  obtain⟨k,n,e,ht⟩:∃k n e,tokAt l=(k,n,e):=⟨_,_,_,rfl⟩
  rw[ht] at h
  simp only at h
  split at h
  ·rename_i he
   injection h with _ h
   injection h with h _
   exact absurd h he
  ·rename_i he
   obtain rfl:e=0:=Classical.byContradiction he
   obtain⟨us,e2,q,hr⟩:∃us e2 q,lexN f (a+n+goN blB (l.drop n)) ((l.drop n).drop (goN blB (l.drop n)))=(us,e2,q):=⟨_,_,_,rfl⟩
   rw[hr] at h
   simp only at h
   split at h
   ·rename_i h0
    subst h0
    cases h
    exact Or.inr ⟨k,n,us,q,hl,ht,hr,rfl⟩
   ·rename_i h0
    injection h with _ h
    injection h with h _
    exact absurd h h0
theorem zfM(s:List UInt8):∀(f a p:Nat) (ts:List Tok) (q:Nat),p≤a→a≤s.length→(s.drop a).length<f→(∀c∈(s.drop p).take (a-p),blB c=true)→lexN f a (s.drop a)=(ts,0,q)→Stand s p ts
 | 0,_,_,_,_,_,_,hf,_,_=>by omega
 | f+1,a,p,ts,q,hpa,has,hf,hb,h=>by
  rcases zoW h with ⟨hl,rfl⟩|⟨k,n,us,q',hl,ht,hr,rfl⟩
  ·show ∀c∈s.drop p,blB c=true
   have hlen:(s.drop p).length≤a-p:=by
    have:(s.drop a).length=0:=by rw[hl];rfl
    rw[List.length_drop] at this ⊢;omega
   rwa [List.take_of_length_le hlen] at hb
  ·obtain⟨hn1,hn2⟩:=zcm ht
   have hz:(⟨((s.drop a).take n).toArray⟩:ByteArray).size=n:=by rw[zqb,zfg hn2]
   rw[List.length_drop] at hn2 hf
   refine⟨hpa,by rw[hz];simp only;omega,by rw[hz];omega,hb,by rw[hz],?_⟩
   simp only
   rw[hz]
   have hg:=zdC blB ((s.drop a).drop n)
   rw[List.drop_drop] at hr hg
   rw[List.drop_drop] at hr
   rw[List.length_drop] at hg
   refine zfM s f (a+n+goN blB (s.drop (a+n))) (a+n) us q' (by omega) (by omega) (by rw[List.length_drop];omega) ?_ hr
   rw[show a+n+goN blB (s.drop (a+n))-(a+n)=goN blB (s.drop (a+n)) from by omega]
   have:=zcP blB (s.drop (a+n))
   rwa [List.all_eq_true] at this
theorem zix:∀(f a:Nat) (l:List UInt8) (ts:List Tok) (q:Nat),lexN f a l=(ts,0,q)→∀t∈ts,Good t.1 t.2.1.data.toList
 | 0,_,_,ts,_,h=>by
  simp[lexN] at h
  obtain⟨rfl,_⟩:=h
  simp
 | f+1,a,l,ts,q,h=>by
  rcases zoW h with ⟨hl,rfl⟩|⟨k,n,us,q',hl,ht,hr,rfl⟩
  ·simp
  ·intro t hm
   rcases List.mem_cons.1 hm with rfl|hm
   ·exact zpL ht
   ·exact zix f _ _ us q' hr t hm
theorem zky:∀(f a:Nat) (l:List UInt8) (ts:List Tok) (e:Int) (q:Nat),lexN f a l=(ts,e,q)→e≠0→ts=[]∧q≤a+l.length∧(e=1∨e=2∨e=4)
 | 0,_,_,ts,e,_,h,he=>by simp[lexN] at h;exact absurd h.2.1.symm he
 | f+1,a,l,ts,e,q,h,he=>by
  rw[lexN] at h
  split at h
  ·cases h;exact absurd rfl he
  ·obtain⟨k,n,e1,ht⟩:∃k n e,tokAt l=(k,n,e):=⟨_,_,_,rfl⟩
   have hfa:=zjw (l:=l)
   rw[ht] at h hfa
   simp only at h hfa
   split at h
   ·cases h
    exact⟨rfl,by omega,by omega⟩
   ·rename_i he1
    obtain rfl:e1=0:=Classical.byContradiction he1
    obtain⟨hn1,hn2⟩:=zcm ht
    obtain⟨us,e2,q2,hr⟩:∃us e2 q,lexN f (a+n+goN blB (l.drop n)) ((l.drop n).drop (goN blB (l.drop n)))=(us,e2,q):=⟨_,_,_,rfl⟩
    rw[hr] at h
    simp only at h
    split at h
    ·cases h;exact absurd rfl he
    ·rename_i h0
     obtain⟨ht0,h⟩:=Prod.mk.inj h
     obtain⟨rfl,rfl⟩:=Prod.mk.inj h
     obtain⟨_,h1,h2⟩:=zky f _ _ us _ _ hr h0
     have hg:=zdC blB (l.drop n)
     rw[List.length_drop] at h1 hg
     rw[List.length_drop] at h1
     exact⟨ht0.symm,by omega,h2⟩
theorem zeh(s:List UInt8):∀(ts:List Tok) (p:Nat),p≤s.length→Stand s p ts→ts.length≤s.length-p∧∀t∈ts,t.2.1.size≤s.length∧t.2.2≤s.length
 | [],p,_,_=>⟨Nat.zero_le _,by simp⟩
 | t::ts,p,hp,h=>by
  obtain⟨h1,h2,h3,_,_,h6⟩:=h
  obtain⟨i1,i2⟩:=zeh s ts _ h2 h6
  refine⟨by rw[List.length_cons];omega,fun u hu=>?_⟩
  rcases List.mem_cons.1 hu with rfl|hu
  ·exact⟨by omega,by omega⟩
  ·exact i2 u hu
theorem zcX{s:List UInt8}{ts:List Tok}{q:Nat}(h:zaC s=(ts,0,q)):s.length≤400∧q=0∧Stand s 0 ts∧(∀t∈ts,Good t.1 t.2.1.data.toList):=by
 rw[zaC] at h
 split at h
 ·cases h
 ·rename_i hl
  rw[lexS,lexA] at h
  obtain⟨us,e2,q2,hr⟩:∃us e2 q,lexN (s.length+1) (0+goN blB s) (s.drop (goN blB s))=(us,e2,q):=⟨_,_,_,rfl⟩
  rw[hr] at h
  simp only at h
  split at h
  ·rename_i h0
   subst h0
   simp only[List.nil_append] at h
   cases h
   refine⟨by omega,rfl,?_,zix _ _ _ _ _ hr⟩
   have hg:=zdC blB s
   rw[Nat.zero_add] at hr
   refine zfM s _ _ 0 ts q2 (Nat.zero_le _) hg (by rw[List.length_drop];omega) ?_ hr
   rw[List.drop_zero,Nat.sub_zero]
   have:=zcP blB s
   rwa [List.all_eq_true] at this
  ·rename_i h0
   exact absurd (Prod.mk.inj (Prod.mk.inj h).2).1 h0
theorem zlE{s:List UInt8}{ts:List Tok}{e:Int}{q:Nat}(h:zaC s=(ts,e,q))(he:e≠0):ts=[]∧q≤s.length∧(e=1∨e=2∨e=4):=by
 rw[zaC] at h
 split at h
 ·cases h
  exact⟨rfl,by omega,by omega⟩
 ·rename_i hl
  rw[lexS,lexA] at h
  obtain⟨us,e2,q2,hr⟩:∃us e2 q,lexN (s.length+1) (0+goN blB s) (s.drop (goN blB s))=(us,e2,q):=⟨_,_,_,rfl⟩
  rw[hr] at h
  simp only at h
  split at h
  ·cases h;exact absurd rfl he
  ·rename_i h0
   obtain⟨ht0,h⟩:=Prod.mk.inj h
   obtain⟨rfl,rfl⟩:=Prod.mk.inj h
   obtain⟨_,h1,h2⟩:=zky _ _ _ us _ _ hr h0
   have hg:=zdC blB s
   rw[List.length_drop] at h1
   exact⟨ht0.symm,by omega,h2⟩
def capOk(v:Value):Prop:=match v with
 | .slice _ n c=>n≤c
 | _=>True
theorem zss{W:World}{base:Nat}{e:TypeId}{size:Nat}{v:Value}{n:Nat}{xs:List Value}(h:W.ownsRow base e size v n xs):capOk v:=by
 rcases h.2 with ⟨rfl,h0⟩|⟨g,cap,cur,rfl,_,_,hcap,_⟩
 ·exact Nat.le_refl _
 ·exact hcap
theorem zgd{w wr:World}(h:Below (w.heap.size+1) (w.alloc (.cells #[.int .i64 0,.int .i64 0] 37)) wr) :
  wr.cell? ⟨w.heap.size,0,none⟩=some (.int .i64 0)∧wr.cell? ⟨w.heap.size,1,none⟩=some (.int .i64 0)∧wr.frozen? ⟨w.heap.size,0,none⟩=false∧wr.frozen? ⟨w.heap.size,1,none⟩=false∧w.heap.size<wr.heap.size:=by
 have hz:=h.size
 simp at hz
 refine⟨?_,?_,?_,?_,by omega⟩
 ·rw[h.cell (p:=⟨w.heap.size,0,none⟩) (Nat.lt_succ_self _),World.cell?_alloc_at _ _ _ _ rfl];rfl
 ·rw[h.cell (p:=⟨w.heap.size,1,none⟩) (Nat.lt_succ_self _),World.cell?_alloc_at _ _ _ _ rfl];rfl
 ·rw[h.frozen (p:=⟨w.heap.size,0,none⟩) (Nat.lt_succ_self _)];simp
 ·rw[h.frozen (p:=⟨w.heap.size,1,none⟩) (Nat.lt_succ_self _)];simp
theorem zcD{w wr:World}(h:Below (w.heap.size+1) (w.alloc (.cells #[.int .i64 0,.int .i64 0] 37)) wr):Below w.heap.size w wr :=
 ((Below.refl _ _).alloc (Nat.le_refl _) _).trans (h.mono (Nat.le_succ _))
theorem ziV(s:ByteArray)(w:World)(h:400<s.size) :
  Calls Tryz.prog 25 #[.string s] w fun e w'=>e=.returned (.tuple #[.slice none 0 0,.agg #[.int .i64 4,.int .i64 0]])∧Below w.heap.size w w':=by
 have hz:(400:Int)<(s.size:Int):=by omega
 go_enter Tryz.func25,Tryz.ntmps25
 go_wp2
 refine bodyPost_ret (v:=.tuple #[.slice none 0 0,.agg #[.int .i64 4,.int .i64 0]]) (by simp[results,Tryz.results25,go_sem]) rfl ⟨rfl,?_⟩
 exact (Below.refl _ _).alloc (Nat.le_refl _) _
theorem zjx(s:ByteArray)(w:World)(henv:Env w)(hw:SG w)(h400:s.size≤400) :
  Calls Tryz.prog 25 #[.string s] w fun e w'=>(∃v,e=.returned (.tuple #[v,.agg #[.int .i64 (lexS (s.size+1) 0 s.data.toList []).2.1,.int .i64 ((lexS (s.size+1) 0 s.data.toList []).2.2:Nat)]])∧zlr w' v (lexS (s.size+1) 0 s.data.toList []).1∧capOk v)∧Below w.heap.size w w':=by
 obtain⟨R,E,P,hR⟩:∃R E P,lexS (s.size+1) 0 s.data.toList []=(R,E,P):=⟨_,_,_,rfl⟩
 rw[hR]
 simp only
 obtain⟨i0,hi,hz0,hz1,hz2⟩:=info_parts zre
 have hz:¬(400:Int)<(s.size:Int):=by omega
 have hgo:goN blB s.data.toList≤s.size:=by have:=zdC blB s.data.toList;simpa using this
 obtain⟨A0,hA0⟩:∃A,goN blB s.data.toList=A:=⟨_,rfl⟩
 have cB:=fun W=>zdB s W (by unfold maxLen;omega)
 have HR0:Hid ((R,E,P)=lexA (s.size+1) A0 (s.data.toList.drop A0) []):=by
  show _=_
  rw[←hR,lexS,hA0,Nat.zero_add]
 rw[hA0] at hgo cB
 clear hR hA0
 go_enter Tryz.func25,Tryz.ntmps25
 go_wp2_with (go_at_call 46;refine (cB _).mono ?_;rintro e w' ⟨rfl,rfl⟩)
 go_loopg [4,5,6,7,8] (s.size+1) (fun gg s4 s5 _ _ _ wr=>∃(a:Nat) (acc:List Tok),s5=.int .i64 a∧a≤s.size∧s.size-a<gg∧wr.ownsRow (w.heap.size+1) 83 3 s4 acc.length (zaN acc)∧Aside (Below (w.heap.size+1) (w.alloc (.cells #[.int .i64 0,.int .i64 0] 37)) wr)∧Hid ((R,E,P)=lexA gg a (s.data.toList.drop a) acc)∧acc.length≤a)
 case atStart=>exact⟨A0,[],rfl,hgo,by omega,World.ownsRow_nil _ _ _ _,(show Aside _ from Below.refl _ _),HR0,Nat.zero_le _⟩
 case round =>
  obtain⟨a,acc,rfl,ha,hg,hown,BW,HR,hacc⟩:=hrel
  obtain⟨vp,vc,rfl⟩:=zaa hown
  obtain⟨g',rfl⟩:∃g',gk=g'+1:=⟨gk-1,by omega⟩
  clear HR0 cB
  by_cases hlt:a<s.size
  ·have hltz:(a:Int)<(s.size:Int):=by omega
   obtain⟨X,hX,hX1,hX2⟩:=ziy s a ha
   have hne:s.data.toList.drop a≠[]:=by rw[zaE s a hlt];simp
   have HX1:Hid (X.data.toList=s.data.toList.drop a):=hX1
   have BW0:=zcD BW.out
   have cT:=zeB X wr (henv.on BW0) (hw.on BW0) (by omega) (by omega)
   clear hX1 BW0
   have HNE:Hid (s.data.toList.drop a≠[]):=hne
   clear hne
   go_wp2_with fail
   refine cT.mono ?_
   rintro e w1 ⟨⟨k,n,h,rfl,HT⟩,b1⟩
   have B1:=BW.out.trans (b1.mono (by have:=BW.out.size;simpa using this))
   have o1:=zab hown b1
   clear b1 hown cT BW
   have ht:tokAt (s.data.toList.drop a)=(k,n,h):=by rw[←HX1.out];exact HT.out
   by_cases h0:h=0
   ·subst h0
    obtain⟨hn1,hn2⟩:=zcm ht
    have hn3:a+n≤s.size:=by rw[List.length_drop] at hn2;simp at hn2;omega
    obtain⟨Y,hY,hY1,hY2⟩:=zoa s a (a+n) (by omega) hn3
    obtain⟨Z,hZ,hZ1,hZ2⟩:=ziy s (a+n) hn3
    have hYz:∀W:World,Sem.run Tryz.prog (Instr.slice 9 (.string s) (some (.int .i64 (a:Int))) (some (.int .i64 ((a:Int)+(n:Int)))) none) W=.ok (.string Y) W:=by
     have e:((a+n:Nat):Int)=(a:Int)+(n:Int):=by omega
     rw[e] at hY;exact hY
    have hZz:∀W:World,Sem.run Tryz.prog (Instr.slice 9 (.string s) (some (.int .i64 ((a:Int)+(n:Int)))) none none) W=.ok (.string Z) W:=by
     have e:((a+n:Nat):Int)=(a:Int)+(n:Int):=by omega
     rw[e] at hZ;exact hZ
    have hYe:Y=⟨((s.data.toList.drop a).take n).toArray⟩:=zcr (by rw[hY1,show a+n-a=n from by omega])
    have HR2:Hid ((R,E,P)=lexS g' (a+n) (s.data.toList.drop (a+n)) (acc++[(k,Y,a)])):=by
     show _=_
     rw[HR.out,zpJ g' a _ acc HNE.out ht,←hYe,List.drop_drop]
    have hgz:goN blB Z.data.toList≤s.size-(a+n):=by have:=zdC blB Z.data.toList;simp at this;omega
    obtain⟨G,hG⟩:∃G,goN blB Z.data.toList=G:=⟨_,rfl⟩
    have cB2:=fun W=>zdB Z W (by unfold maxLen;omega)
    rw[hG] at cB2 hgz
    have HR3:Hid ((R,E,P)=lexA g' (a+n+G) (s.data.toList.drop (a+n+G)) (acc++[(k,Y,a)])):=by
     show _=_
     rw[HR2.out,lexS,←hZ1,hG,hZ1,List.drop_drop]
    clear HR HR2 hY hZ hY1 hZ1 hYe hG ht HT hn2
    go_wp2_with fail
    refine (zbz Y _ (by omega)).mono ?_
    rintro e w2 ⟨rfl,b2⟩
    have B2:=B1.trans (b2.mono (by have:=B1.size;simpa using this))
    have o2:=zab o1 b2
    clear b2 o1 B1
    go_wp2_with (at_builtin;refine wpList_append_own _ rfl _ _ 73 rfl (w.heap.size+1) 83 i0 (.agg #[.int .i64 0,.string ⟨#[]⟩,.int .i64 0]) 3 32 Tryz.underlying73 hi hz0 hz1 hz2 rfl (by decide) _ _ _ rfl (o2.alloc _) ⟨w2.heap.size,0,none⟩ 1 1 [.int .i64 k,.string Y,.int .i64 (a:Int)] rfl rfl ?c1 ?c2 ?c3 ?c4 ?c5 ?_)
    case c1 =>
     intro i u hu
     rw[Go.WideShapes.add_plain]
     match i,hu with
     | 0,hu=>simp at hu;subst hu;rw[World.cell?_alloc_at _ _ _ _ (by simp)];rfl
     | 1,hu=>simp at hu;subst hu;rw[World.cell?_alloc_at _ _ _ _ (by simp)];rfl
     | 2,hu=>simp at hu;subst hu;rw[World.cell?_alloc_at _ _ _ _ (by simp)];rfl
    case c2 =>
     intro u hu
     simp at hu
     rcases hu with rfl|rfl|rfl<;>rfl
    case c3=>unfold maxLen;omega
    case c4=>omega
    case c5=>have:=B2.size;simp at this ⊢;omega
    ·intro v' w3 hown' hgrow _
     have RR:=zsr o2 B2 (by have:=B2.size;simp at this;omega) hown' hgrow
     clear hown' hgrow o2
     go_wp2_with fail
     refine (cB2 _).mono ?_
     rintro e w4 ⟨rfl,hq4⟩
     obtain rfl:w3=w4:=hq4.symm
     go_wp2
     go_roundg g'
     case measure=>omega
     case rel=>exact⟨a+n+G,acc++[(k,Y,a)],by go_num,by omega,by omega,RR.1,RR.2,HR3,by rw[List.length_append,List.length_singleton];omega⟩
   ·have hF:(R,E,P)=([],h,a):=by rw[HR.out,zpj g' a _ acc HNE.out ht h0]
    have he:=Prod.mk.inj hF
    obtain⟨rfl,he⟩:=he
    obtain⟨rfl,rfl⟩:=Prod.mk.inj he
    have hz0:(E != 0)=true:=by simpa using h0
    obtain⟨q0,q1,q2,q3,ql⟩:=zgd B1
    clear HR ht HT h0 hF he o1
    go_wp2
    refine bodyPost_ret (v:=.tuple #[.slice none 0 0,.agg #[.int .i64 E,.int .i64 (P:Nat)]]) (by simp[results,Tryz.results25,go_sem,q0,q1]) rfl ⟨⟨_,rfl,zfQ _,Nat.le_refl _⟩,?_⟩
    exact ((zcD B1).setCell (Nat.le_refl _) _).setCell (Nat.le_refl _) _
  ·have hltz:¬(a:Int)<(s.size:Int):=by omega
   have hF:(R,E,P)=(acc,0,0):=by
    have h:=HR.out
    rw[List.drop_eq_nil_of_le (by simp;omega),zpp] at h
    exact h
   obtain⟨rfl,he⟩:=Prod.mk.inj hF
   obtain⟨rfl,rfl⟩:=Prod.mk.inj he
   obtain⟨q0,q1,q2,q3,ql⟩:=zgd BW.out
   clear HR hF he
   go_wp2
   refine bodyPost_ret (v:=.tuple #[.slice vp R.length vc,.agg #[.int .i64 0,.int .i64 0]]) (by simp[results,Tryz.results25,go_sem,q0,q1]) rfl ⟨⟨_,rfl,?_,zss hown⟩,?_⟩
   ·exact zpC (zlL (zlL hown 0 (.int .i64 0)) 1 (.int .i64 0))
   ·exact ((zcD BW.out).setCell (Nat.le_refl _) _).setCell (Nat.le_refl _) _
theorem zlQ(s:ByteArray)(w:World)(henv:Env w)(hw:SG w) :
  Calls Tryz.prog 25 #[.string s] w fun e w'=>(∃v,e=.returned (.tuple #[v,.agg #[.int .i64 (zaC s.data.toList).2.1,.int .i64 ((zaC s.data.toList).2.2:Nat)]])∧zlr w' v (zaC s.data.toList).1∧capOk v)∧Below w.heap.size w w':=by
 have hl:s.data.toList.length=s.size:=by simp
 by_cases h:400<s.size
 ·rw[zaC,if_pos (by omega)]
  exact (ziV s w h).mono fun e w' hh=>⟨⟨_,hh.1,zfQ _,Nat.le_refl _⟩,hh.2⟩
 ·rw[zaC,if_neg (by omega),hl]
  exact zjx s w henv hw (by omega)
theorem zfD(s:ByteArray)(R:List Tok)(E:Int)(P:Nat)(w:World)(henv:Env w)(hw:SG w)(h:zaC s.data.toList=(R,E,P)) :
  Calls Tryz.prog 25 #[.string s] w fun e w'=>(∃v,e=.returned (.tuple #[v,.agg #[.int .i64 E,.int .i64 (P:Nat)]])∧zlr w' v R∧capOk v)∧Below w.heap.size w w':=by
 have:=zlQ s w henv hw
 rw[h] at this
 exact this
section
open Go.BigFrame
structure Fr(tr:Nat)(S:Nat→Prop)(w w':World):Prop where
 below:Below tr w w'
 kept:∀k,k<w.heap.size→k≠tr→¬S k→w'.heap[k]?=w.heap[k]?
theorem Fr.size{tr:Nat}{S:Nat→Prop}{w w':World}(h:Fr tr S w w'):w.heap.size≤w'.heap.size:=h.below.size
theorem Fr.refl(tr:Nat)(S:Nat→Prop)(w:World):Fr tr S w w:=⟨Below.refl _ _,fun _ _ _ _=>rfl⟩
theorem Fr.trans{tr:Nat}{S:Nat→Prop}{w w1 w2:World}(h:Fr tr S w w1)(k:Fr tr S w1 w2):Fr tr S w w2 :=
 ⟨h.below.trans k.below,fun b hb hr hs=>by rw[k.kept b (by have:=h.size;omega) hr hs,h.kept b hb hr hs]⟩
theorem Fr.mono{tr:Nat}{S S':Nat→Prop}{w w1:World}(h:Fr tr S w w1)(hs:∀k,k<w.heap.size→S k→S' k):Fr tr S' w w1:=⟨h.below,fun b hb hr hn=>h.kept b hb hr (fun e=>hn (hs b hb e))⟩
theorem Fr.of_but{tr:Nat}{S:Nat→Prop}{w w1:World}(h:But tr w w1):Fr tr S w w1:=⟨h.below,fun b hb hr _=>h.kept b hb hr⟩
theorem Fr.of_below{tr:Nat}{S:Nat→Prop}{w w1:World}(h:Below w.heap.size w w1)(hr:tr≤w.heap.size):Fr tr S w w1:=Fr.of_but (But.of_below' h hr)
theorem Fr.set{tr:Nat}{S:Nat→Prop}{w w1:World}(h:Fr tr S w w1){b:Nat}(o:Nat)(v:Value)(hb:tr≤b)(hs:b<w.heap.size→S b):Fr tr S w (w1.setCell ⟨b,o,none⟩ v) :=
 ⟨h.below.setCell (p:=⟨b,o,none⟩) hb v,fun k hk hkr hn=>by rw[Below.heap_setCell _ _ _ _ (fun e=>by simp at e;subst e;exact hn (hs hk))];exact h.kept k hk hkr hn⟩
theorem Fr.cells{tr:Nat}{S:Nat→Prop}{w:World}{b:Nat}(hb:tr≤b)(hs:b<w.heap.size→S b):∀(vs:List Value) (o:Nat) (w1:World),Fr tr S w w1→Fr tr S w (w1.setCells b o vs)
 | [],_,_,h=>h
 | v::r,o,w1,h=>Fr.cells hb hs r (o+1) _ (h.set o v hb hs)
theorem Fr.on{tr:Nat}{S:Nat→Prop}{w w1 w2:World}(h:Fr tr S w w1)(k:Below w1.heap.size w1 w2)(hr:tr≤w1.heap.size):Fr tr S w w2:=h.trans (Fr.of_below k hr)
theorem Fr.cell{tr:Nat}{S:Nat→Prop}{w w1:World}(h:Fr tr S w w1){b:Nat}(o:Nat)(hb:b<w.heap.size)(hr:b≠tr)(hs:¬S b):w1.cell? ⟨b,o,none⟩=w.cell? ⟨b,o,none⟩:=by
 simp only[World.cell?,h.kept b hb hr hs]
theorem Blk.fr{tr:Nat}{S:Nat→Prop}{w w1:World}{b:Nat}{cs:Array Value}{t:TypeId}(h:Blk w b cs t)(hf:Fr tr S w w1)(hr:b≠tr)(hs:¬S b):Blk w1 b cs t:=h.keep (hf.kept b h.lt hr hs)
def NumT(ts:List Tok):Prop:=∀t∈ts,isNum t=true→Lib.atoiAll t.2.1.data.toList=.ok (nuI t.2.1.data.toList)
theorem NumT.suf{ts rs:List Tok}(h:NumT ts)(hs:rs <:+ ts):NumT rs:=fun t ht=>h t (hs.mem ht)
structure QH(WZ:World)(en:Nat)(W:World)(tr rb:Nat)(ts:List Tok):Prop where
 rd:RdAt en W tr ts
 p0:W.cell? ⟨rb,0,none⟩=some (.pointer (some ⟨tr,0,none⟩))
 lt:rb<W.heap.size
 ne:tr<rb
 env:TEnv W
 aenv:AEnv W
 gt:12≤tr
 fit:Fit ts
 num:NumT ts
 old:Below tr WZ W
variable {en : Nat} {WZ : World}
theorem QH.go{W w':World}{tr rb:Nat}{S:Nat→Prop}{ts ts':List Tok}(h:QH WZ en W tr rb ts)(hf:Fr tr S W w')(hr:RdAt en w' tr ts')(hs:ts' <:+ ts)(hp:w'.cell? ⟨rb,0,none⟩=some (.pointer (some ⟨tr,0,none⟩))):QH WZ en w' tr rb ts' :=
 ⟨hr,hp,by have:=hf.size;have:=h.lt;omega,h.ne,h.env.onB hf.below h.gt hf.size,h.aenv.onB hf.below h.gt hf.size,h.gt,h.fit.suf hs,h.num.suf hs,h.old.trans hf.below⟩
theorem QH.fr{W w':World}{tr rb:Nat}{S:Nat→Prop}{ts ts':List Tok}(h:QH WZ en W tr rb ts)(hf:Fr tr S W w')(hr:RdAt en w' tr ts')(hs:ts' <:+ ts)(hS:¬S rb):QH WZ en w' tr rb ts' :=
 h.go hf hr hs (by rw[hf.cell 0 h.lt (by have:=h.ne;omega) hS];exact h.p0)
theorem zcF{P:Tok→Bool}{ts r:List Tok}{t:Tok}(h:nxT P ts=some (t,r)):r <:+ ts:=by rw[(zag h).1];exact List.suffix_cons t r
theorem zaV(g:List UInt8)(ts:List Tok):(jU g ts).2 <:+ ts:=by
 rw[jU]
 cases h:nxT (sgT [g]) ts with
 | none=>exact List.suffix_rfl
 | some p=>exact zcF h
theorem zdO(ts:List Tok):(nU ts).2 <:+ ts:=by
 rw[nU]
 cases h:nxT nmT ts with
 | none=>exact List.suffix_rfl
 | some p=>exact zcF h
theorem ztz(ts:List Tok):(iU ts).2 <:+ ts:=by
 rw[iU]
 cases h:nxT isNum ts with
 | none=>exact List.suffix_rfl
 | some p=>exact zcF h
theorem zaY(ts:List Tok):(readE ts).2 <:+ ts:=zfi _ _ _
theorem zoL{V:World}{b:Nat}{g:List UInt8}(h:V.cell? ⟨b,0,none⟩=some (.string ⟨g.toArray⟩))(hb:b<V.heap.size):zcM V b [g]:=⟨hb,fun j hj=>match j,hj with
 | 0,_=>h⟩
theorem zaf{B:Nat}{w V:World}(h:Below B w V)(hB:B≤w.heap.size)(o:Obj):Below B w (V.alloc o):=h.alloc (Nat.le_trans hB h.size) o
structure Box3(w:World)(b:Nat)(a0 a1 a2:Value):Prop where
 c0:w.cell? ⟨b,0,none⟩=some a0
 c1:w.cell? ⟨b,1,none⟩=some a1
 c2:w.cell? ⟨b,2,none⟩=some a2
 fz:∀o,w.frozen? ⟨b,o,none⟩=false
 lt:b<w.heap.size
theorem Box3.on{w w':World}{b:Nat}{a0 a1 a2:Value}(h:Box3 w b a0 a1 a2)(hb:Below w.heap.size w w'):Box3 w' b a0 a1 a2:=by
 obtain⟨c0,c1,c2,fz,lt⟩:=h
 exact⟨by rw[hb.cell (p:=⟨b,0,none⟩) lt];exact c0,by rw[hb.cell (p:=⟨b,1,none⟩) lt];exact c1,by rw[hb.cell (p:=⟨b,2,none⟩) lt];exact c2,fun o=>by rw[hb.frozen (p:=⟨b,o,none⟩) lt];exact fz o,by have:=hb.size;omega⟩
theorem Box3.but{w w':World}{r b:Nat}{a0 a1 a2:Value}(h:Box3 w b a0 a1 a2)(hb:But r w w')(hr:b≠r):Box3 w' b a0 a1 a2:=by
 obtain⟨c0,c1,c2,fz,lt⟩:=h
 exact⟨by rw[hb.cell _ lt hr];exact c0,by rw[hb.cell _ lt hr];exact c1,by rw[hb.cell _ lt hr];exact c2,fun o=>by rw[zfA hb o lt hr];exact fz o,by have:=hb.size;omega⟩
theorem Fr.set3{tr:Nat}{S:Nat→Prop}{w w1:World}(h:Fr tr S w w1){b:Nat}(u0 u1 u2:Value)(hb:tr≤b)(hs:b<w.heap.size→S b):Fr tr S w (((w1.setCell ⟨b,0,none⟩ u0).setCell ⟨b,1,none⟩ u1).setCell ⟨b,2,none⟩ u2):=((h.set 0 u0 hb hs).set 1 u1 hb hs).set 2 u2 hb hs
theorem RdAt.set3{w:World}{r:Nat}{ts:List Tok}(h:RdAt en w r ts){z:Nat}(hz:r<z)(v0 v1 v2:Value):RdAt en (((w.setCell ⟨z,0,none⟩ v0).setCell ⟨z,1,none⟩ v1).setCell ⟨z,2,none⟩ v2) r ts :=
 h.onB ((((Below.refl (r+1) w).setCell (p:=⟨z,0,none⟩) hz v0).setCell (p:=⟨z,1,none⟩) hz v1).setCell (p:=⟨z,2,none⟩) hz v2) (by simp[World.setCell])
theorem zcn(g:List UInt8)(W:World)(tr rb:Nat)(ts:List Tok)(h:QH WZ en W tr rb ts)(R:Bool)(rs:List Tok)(hR:jU g ts=(if R=true then some () else none,rs)) :
  Calls Tryz.prog 26 #[.pointer (some ⟨rb,0,none⟩),.string ⟨g.toArray⟩] W fun e w'=>e=.returned (.bool R)∧Aside (QH WZ en w' tr rb rs)∧Aside (Fr tr (fun _=>False) W w'):=by
 have HH:Aside (QH WZ en W tr rb ts):=h
 have hp0:=h.p0
 have hlt:=h.lt
 have hne:=h.ne
 have hrl:=h.rd.lt
 have cO1:∀(V:World) (b:Nat),Below W.heap.size W V→W.heap.size≤b→V.cell? ⟨b,0,none⟩=some (.string ⟨g.toArray⟩)→b<V.heap.size→Calls Tryz.prog 51 #[.slice (some ⟨b,0,none⟩) 1 1] V fun e w'=>(∃p,e=.returned (signV p)∧zbm w' tr p [g])∧Below W.heap.size W w'∧w'.cell? ⟨rb,0,none⟩=some (.pointer (some ⟨tr,0,none⟩))∧rb≠w'.heap.size∧w'.heap.size≠rb:=fun V b hb hn hc hl=>(zaA b 1 tr [g] V (by simp) (zoL hc hl) (by omega) (by have:=hb.size;omega)).mono (fun e w' hh=>by
  have B2:=hb.trans (hh.2.mono hb.size)
  exact⟨hh.1,B2,by rw[B2.cell (p:=⟨rb,0,none⟩) hlt];exact hp0,by have:=B2.size;omega,by have:=B2.size;omega⟩)
 have cO2:∀(V:World) (b z:Nat),Below W.heap.size W V→W.heap.size≤b→V.cell? ⟨b,0,none⟩=some (.string ⟨g.toArray⟩)→b<V.heap.size→Box3 V z (.int .i64 0) (.string ⟨#[]⟩) (.int .i64 0)→Calls Tryz.prog 51 #[.slice (some ⟨b,0,none⟩) 1 1] V fun e w'=>(∃p,e=.returned (signV p)∧zbm w' tr p [g])∧Below W.heap.size W w'∧w'.cell? ⟨rb,0,none⟩=some (.pointer (some ⟨tr,0,none⟩))∧Box3 w' z (.int .i64 0) (.string ⟨#[]⟩) (.int .i64 0):=fun V b z hb hn hc hl hz=>(zaA b 1 tr [g] V (by simp) (zoL hc hl) (by omega) (by have:=hb.size;omega)).mono (fun e w' hh=>by
  have B2:=hb.trans (hh.2.mono hb.size)
  exact⟨hh.1,B2,by rw[B2.cell (p:=⟨rb,0,none⟩) hlt];exact hp0,hz.on hh.2⟩)
 have cT:∀(V:World) (p:Nat),RdAt en V tr ts→zec V p [g]→Calls Tryz.prog 50 #[.pointer (some ⟨tr,0,none⟩),signV p] V fun e w'=>(∃(k:Int) (x:ByteArray) (a:Int),e=.returned (.tuple #[.agg #[.int .i64 k,.string x,.int .i64 a],.bool R]))∧RdAt en w' tr rs∧But tr V w':=fun V p hr hs=>by
  rw[jU] at hR
  cases hn:nxT (sgT [g]) ts with
  | none =>
   rw[hn] at hR
   have h1:=(Prod.mk.inj hR).1
   have h2:=(Prod.mk.inj hR).2
   have:R=false:=by cases R;rfl;simp at h1
   subst this h2
   exact (zap [g] p V tr ts hr hs hn).mono fun e w' hh=>⟨⟨_,_,_,hh.1⟩,hh.2.1,hh.2.2⟩
  | some q =>
   obtain⟨t,qs⟩:=q
   rw[hn] at hR
   have h1:=(Prod.mk.inj hR).1
   have h2:=(Prod.mk.inj hR).2
   have:R=true:=by cases R;simp at h1;rfl
   subst this h2
   exact (zao [g] p V tr t ts qs hr hs hn).mono fun e w' hh=>⟨⟨_,_,_,hh.1⟩,hh.2.1,hh.2.2⟩
 have cT1:∀(V:World) (p:Nat),Below W.heap.size W V→zec V p [g]→Calls Tryz.prog 50 #[.pointer (some ⟨tr,0,none⟩),signV p] V fun e w'=>(∃(k:Int) (x:ByteArray) (a:Int),e=.returned (.tuple #[.agg #[.int .i64 k,.string x,.int .i64 a],.bool R]))∧RdAt en w' tr rs∧Fr tr (fun _=>False) W w'∧w'.cell? ⟨rb,0,none⟩=some (.pointer (some ⟨tr,0,none⟩)):=fun V p hb hs=>(cT V p (HH.out.rd.on hb) hs).mono fun e w' hh=>by
  have F:=(Fr.of_below (S:=fun _=>False) hb (tr:=tr) (by omega)).trans (Fr.of_but hh.2.2)
  exact⟨hh.1,hh.2.1,F,by rw[F.cell 0 hlt (by omega) (fun h=>h)];exact hp0⟩
 have cT2:∀(V:World) (p z:Nat),Below W.heap.size W V→zec V p [g]→Box3 V z (.int .i64 0) (.string ⟨#[]⟩) (.int .i64 0)→W.heap.size≤z→Calls Tryz.prog 50 #[.pointer (some ⟨tr,0,none⟩),signV p] V fun e w'=>(∃(k:Int) (x:ByteArray) (a:Int),e=.returned (.tuple #[.agg #[.int .i64 k,.string x,.int .i64 a],.bool R]))∧RdAt en w' tr rs∧Fr tr (fun _=>False) W w'∧w'.cell? ⟨rb,0,none⟩=some (.pointer (some ⟨tr,0,none⟩))∧Box3 w' z (.int .i64 0) (.string ⟨#[]⟩) (.int .i64 0):=fun V p z hb hs hz hzW=>(cT V p (HH.out.rd.on hb) hs).mono fun e w' hh=>by
  have F:=(Fr.of_below (S:=fun _=>False) hb (tr:=tr) (by omega)).trans (Fr.of_but hh.2.2)
  exact⟨hh.1,hh.2.1,F,by rw[F.cell 0 hlt (by omega) (fun h=>h)];exact hp0,hz.but hh.2.2 (by omega)⟩
 have hsuf:rs <:+ ts:=by have:=zaV g ts;rw[hR] at this;exact this
 have fin:∀w3,Fr tr (fun _=>False) W w3→RdAt en w3 tr rs→Aside (QH WZ en w3 tr rb rs)∧Aside (Fr tr (fun _=>False) W w3):=fun w3 F hr=>⟨HH.out.fr F hr hsuf (fun h=>h),F⟩
 have n0:rb≠W.heap.size:=by omega
 have n0':W.heap.size≠rb:=by omega
 have n1':W.heap.size+1≠rb:=by omega
 have n1:rb≠W.heap.size+1:=by omega
 clear h hR cT
 go_enter Tryz.func26,Tryz.ntmps26
 go_wp2
 go_region_held3 (fun w'=>w'.cell? ⟨rb,0,none⟩=some (.pointer (some ⟨tr,0,none⟩))) (go_keep) (first
  | (go_at_call 51;refine (cO2 _ _ W.heap.size ?_ ?_ ?_ ?_ ?_).mono ?_;(repeat (first|exact Below.refl _ _|refine Below.drew ?_|refine zaf ?_ (Nat.le_refl _) _));(first|exact Nat.le_refl _|exact Nat.le_succ _);(focus (simp;done));(focus (first|(simp;done)|(simp;omega)));(focus (refine⟨?_,?_,?_,?_,?_⟩;(focus (simp;done));(focus (simp;done));(focus (simp;done));(focus (intro o;simp;done));(first|(simp;done)|(simp;omega))));rintro e' w1 ⟨⟨p,rfl,hp⟩,BW1,q0,XX⟩)
  | (go_at_call 51;refine (cO2 _ _ (W.heap.size+1) ?_ ?_ ?_ ?_ ?_).mono ?_;(repeat (first|exact Below.refl _ _|refine Below.drew ?_|refine zaf ?_ (Nat.le_refl _) _));(first|exact Nat.le_refl _|exact Nat.le_succ _);(focus (simp;done));(focus (first|(simp;done)|(simp;omega)));(focus (refine⟨?_,?_,?_,?_,?_⟩;(focus (simp;done));(focus (simp;done));(focus (simp;done));(focus (intro o;simp;done));(first|(simp;done)|(simp;omega))));rintro e' w1 ⟨⟨p,rfl,hp⟩,BW1,q0,XX⟩)
  | (go_at_call 51;refine (cO1 _ _ ?_ ?_ ?_ ?_).mono ?_;(repeat (first|exact Below.refl _ _|refine Below.drew ?_|refine zaf ?_ (Nat.le_refl _) _));(first|exact Nat.le_refl _|exact Nat.le_succ _);(focus (simp;done));(focus (first|(simp;done)|(simp;omega)));rintro e' w1 ⟨⟨p,rfl,hp⟩,BW1,q0,nq,nq'⟩)
  | (go_at_call 50;refine (cT2 _ p _ ?_ ?_ XX ?_).mono ?_;(repeat (first|exact BW1|refine Below.drew ?_|refine zaf ?_ (Nat.le_refl _) _));exact hp.sign;(first|exact Nat.le_refl _|exact Nat.le_succ _);rintro e' w2 ⟨⟨tk,tx,ta,rfl⟩,hr2,F2,q2,⟨x0,x1,x2,xf,xl⟩⟩)
  | (go_at_call 50;refine (cT2 _ p w1.heap.size ?_ ?_ ?_ ?_).mono ?_;(repeat (first|exact BW1|refine Below.drew ?_|refine zaf ?_ (Nat.le_refl _) _));refine hp.sign.on ?_;(repeat (first|exact Below.refl _ _|refine Below.drew ?_|refine zaf ?_ (Nat.le_refl _) _));(focus (refine⟨?_,?_,?_,?_,?_⟩;(focus (simp;done));(focus (simp;done));(focus (simp;done));(focus (intro o;simp;done));(first|(simp;done)|(simp;omega))));exact BW1.size;rintro e' w2 ⟨⟨tk,tx,ta,rfl⟩,hr2,F2,q2,⟨x0,x1,x2,xf,xl⟩⟩)
  | (go_at_call 50;refine (cT1 _ p ?_ ?_).mono ?_;(repeat (first|exact BW1|refine Below.drew ?_));exact hp.sign;rintro e' w2 ⟨⟨tk,tx,ta,rfl⟩,hr2,F2,q2⟩))
 all_goals
  go_wp2
  go_ret
  refine⟨rfl,?_⟩
  have sz:=F2.size
  have bz:=BW1.size
  first
   | exact fin _ (F2.on (al _ _) (by omega)) (hr2.on (al _ _))
   | exact fin _ (F2.set3 _ _ _ (by omega) (fun h=>by omega)) (hr2.set3 (by omega) _ _ _)
end
end Go.Proofs.YtopghagjmdbglaaGreatDoor
