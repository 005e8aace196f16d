/-
  SlQ, SlC, SlE.
-/
import Derived.Test.YtopghagjmdbglaaGreatDoorGyBm
import Derived.Test.YtopghagjmdbglaaGreatDoorGyBn
import Derived.Test.YtopghagjmdbglaaGreatDoorGyBh
import Derived.Test.YtopghagjmdbglaaGreatDoorYNgW
import Derived.Test.YtopghagjmdbglaaGreatDoorGyBe
namespace Go.Proofs.YtopghagjmdbglaaGreatDoor
open Go.RowKit
set_option linter.unusedVariables false
set_option linter.unusedSimpArgs false
set_option maxHeartbeats 8000000
def slS:ByteArray:=⟨#[115,101,108,101,99,116,32,99,111,117,110,116,32,97,115,32,110,32,102,114,111,109,32,116,32,103,114,111,117,112,32,98,121,32,97,116,32,119,105,110,100,111,119,32,53]⟩
def slQ:Qy:=⟨⟨#[116]⟩,ex0,[],[],[⟨#[97,116]⟩],5,5,[⟨⟨#[99,111,117,110,116]⟩,ex0,⟨#[110]⟩⟩]⟩
theorem zsT:(zaY slS.data.toList).2=(0,0):=by kernel_rfl
def slT:List Tok:=(jU zdM (zaY slS.data.toList).1).2
theorem zrl:jU zdM (zaY slS.data.toList).1=(some (),slT):=by kernel_rfl
theorem zrn:nextB agB slT=true:=by kernel_rfl
theorem zrp:qTwoU slT=(some slQ,[]):=by kernel_rfl
theorem sl_ok:OkQ slQ:=⟨by decide,.inl rfl,.inr ⟨rfl,rfl,by simp[slQ],fun a ha=>by
 rw[slQ,List.mem_singleton] at ha
 subst ha
 exact⟨by decide,.inl ⟨by decide,rfl⟩,by decide⟩,fun n hn=>by
 rw[slQ,List.mem_singleton] at hn
 subst hn
 decide,by simp[slQ],by unfold inN;decide,by unfold inN;decide⟩⟩
theorem zrk:exsQ slQ=[ex0,ex0]:=rfl
theorem zsS:(exsQ slQ).any ckB=false:=by
 have h1:=zsn
 simp[exsQ,slQ,h1]
theorem zoM:chQ slL slQ=([(⟨#[97,116]⟩,1),(⟨#[110]⟩,1)],0):=by kernel_rfl
theorem zsU:TyL (fun _=>False) slQ:=⟨.inl (by decide),fun x hx=>by simp[slQ] at hx,fun a ha=>.inl (by rw[slQ,List.mem_singleton] at ha;subst ha;decide)⟩
section
open Go.BigFrame
theorem zoN:QyA slQ:=⟨by rw[zmP];decide,fun x hx=>by simp[slQ] at hx,fun a ha=>by
  rw[slQ,List.mem_singleton] at ha
  subst ha
  rw[zmP]
  decide,fun s hs=>by
  simp[zaZ,slQ] at hs
  rcases hs with rfl|rfl<;>decide,by unfold inM;decide,by unfold inM;decide⟩
theorem zku{w:World}(henv:KEnv w)(haenv:AEnv w)(hsg:SG w)(W:World)(hb:Below w.heap.size w W):Calls Tryz.prog 4 #[.string slS] W fun e w'=>(∃PC:Array Value,e=.returned (.tuple #[.agg PC,.agg #[.int .i64 0,.int .i64 0]])∧PC.size=14∧PC.all (·.oneCell')=true∧Aside (∀(V W9:World) (b:Nat),Blk V b q0D 34→V.setCells b 0 PC.toList=W9→Blk W9 b PC 34)∧Aside (QyIn w' (fun _=>True) (.agg PC) slQ))∧Below W.heap.size W w':=by
 refine (zjT slS W (henv.tenv.on hb) (haenv.onB hb henv.tenv.big hb.size) (hsg.on hb) (zaY slS.data.toList).1 slT (by rw[←zsT]) (by decide) slQ zrl zrn zrp sl_ok zsS (fun x hx=>?_) (by rw[zrk];decide)).mono fun e w' hh=>⟨?_,hh.2⟩
 ·rw[zrk] at hx
  simp at hx
  subst hx
  decide
 obtain⟨u,he,hq'⟩:=hh.1
 obtain⟨wp,wc,cp,cc,np,nc,gp,gc,ap,ac,rfl,hB⟩:=id hq'
 exact⟨_,he,rfl,one14 slQ wp wc cp cc np nc gp gc ap ac,(show Aside _ from fun V W9 b X h=>blk14 X h),hq'⟩
structure SlNew(W:World)(x:Sp)(w':World):Prop where
 low:W.heap.size≤x.gb
 ng:NgIs x.W3 x.gb 0 5 5 slL ex0 [ex0] [zeV] [0] [1] x.s
 col:x.s.SC[0]?=some x.cv
 old:Below W.heap.size W x.W3
 new:Below x.W3.heap.size x.W3 w'
 tb:Blk w' x.tb (tlG x.cv x.gb) 107
 sb:Blk w' x.sb (smC x.tb 0) 71
 ltb:x.W3.heap.size≤x.tb
 lsb:x.W3.heap.size≤x.sb
theorem zln(y:Ex)(hy:y=ex0)(lo:Nat→Prop)(yp:Option Addr)(yc:Nat)(W:World)(h:ExIn W lo (exV y yp yc) y):Calls Tryz.prog 74 #[exV y yp yc] W fun e w'=>(∃v,e=.returned v∧Aside (ExIn w' (W.heap.size≤·) v ex0))∧Below W.heap.size W w':=by
 subst hy
 refine (zdX ex0 lo _ W h (by decide)).mono ?_
 rintro e w' ⟨rfl,hb⟩
 exact⟨⟨_,rfl,(show Aside _ from ztb _ _)⟩,hb⟩
set_option maxRecDepth 20000 in
theorem zrm{w:World}(henv:KEnv w)(haenv:AEnv w)(QC:Array Value)(b rc:Nat)(W:World)(hb:Below w.heap.size w W)(hq:QyIn W (fun _=>True) (.agg QC) slQ)(hl:Blk W b #[.string ⟨#[97,116]⟩,.int .i64 1] 24) :
  Calls Tryz.prog 5 #[.agg QC,.slice (some ⟨b,0,none⟩) 1 1] W fun e w'=>(∃sb,e=.returned (.tuple #[.pointer (some ⟨sb,0,none⟩),.nilIface])∧Aside (∃x:Sp,x.sb=sb∧SlNew W x w'))∧Below W.heap.size W w':=by
 have hbig:=henv.tenv.big
 have hci:∀V,Below W.heap.size W V→zbm V b 0 slL:=fun V hV=>⟨(hl.on hV).lt,fun j hj=>by
  have:j=0:=by rw[slL,List.length_singleton] at hj;omega
  subst this
  exact⟨by rw[(hl.on hV).cell];rfl,by rw[(hl.on hV).cell];rfl⟩⟩
 have hcv:∀V,Below W.heap.size W V→ColsV V (.slice (some ⟨b,0,none⟩) 1 1) slL:=fun V hV=>⟨_,1,rfl,.inr ⟨b,0,rfl,Nat.le_refl _,fun z hz=>by rw[slL,List.mem_singleton] at hz;subst hz;decide,hci V hV⟩⟩
 have hsz:QC.size=14:=by
  obtain⟨wp,wc,cp,cc,np,nc,gp,gc,ap,ac,e,-⟩:=hq
  injection e with e
  rw[e]
  rfl
 have h11:QC[11]?=some (.int .i64 5):=by
  obtain⟨wp,wc,cp,cc,np,nc,gp,gc,ap,ac,e,-⟩:=hq
  injection e with e
  rw[e]
  rfl
 have hi14:(Tryz.prog.info? 34).map (·.size)=some QC.size:=by rw[hsz];kernel_rfl
 have hFd:∀V,Below W.heap.size W V→Calls Tryz.prog 76 #[.slice (some ⟨b,0,none⟩) 1 1,.string ⟨#[97,116]⟩] V fun e w'=>e=.returned (.tuple #[.int .i64 ((0:Nat):Int),.nilIface])∧Below V.heap.size V w':=fun V hV=>zjk ⟨#[97,116]⟩ b 0 1 slL V (by decide) (hci V hV) 0 (by decide)
 have hNg:∀V u,Below W.heap.size W V→ColsV V u [(⟨#[97,116]⟩,1),(⟨#[110]⟩,1)]→Calls Tryz.prog 43 #[.agg QC,.slice (some ⟨b,0,none⟩) 1 1,u,.int .i64 0] V fun e w'=>(∃gb,e=.returned (.pointer (some ⟨gb,0,none⟩))∧Aside ((W.heap.size≤gb∧Below W.heap.size W w'∧∃s,NgIs w' gb 0 5 5 slL ex0 [ex0] [zeV] [0] [1] s)∧∃q n c,w'.cell? ⟨gb,0,none⟩=some (.slice q n c)))∧Below V.heap.size V w':=fun V u hV hu=>by
  obtain⟨wp,wc,cp,cc,np,nc,gp,gc,ap,ac,e,hB⟩:=hq.on hV
  rw[e]
  have hs:=hV.size
  refine (zfn slQ wp wc cp cc np nc gp gc ap ac (fun _=>True) (.slice (some ⟨b,0,none⟩) 1 1) u slL [(⟨#[97,116]⟩,1),(⟨#[110]⟩,1)] 0 (fun _=>ex0) V hB (hcv V hV) hu (by decide) (by decide) (by decide) (by decide) (by decide) (fun a ha=>by rw[slQ,List.mem_singleton] at ha;subst ha;decide) (fun z hz=>by rw[slL,List.mem_singleton] at hz;subst hz;decide) [0] rfl (fun j h1 h2 V2 hV2=>?_) (fun y hy lo' yp yc V2 hV2 hx=>?_)).mono ?_
  ·have:j=0:=by rw[List.length_singleton] at h2;omega
   subst this
   exact hFd V2 (hV.trans (hV2.mono hs))
  ·refine zln y ?_ lo' yp yc V2 hx
   simp[slQ] at hy
   exact hy
  ·rintro e w' ⟨⟨gb,h1,h2⟩,h3⟩
   obtain⟨h4,s,h5⟩:=h2.out
   refine⟨⟨gb,h1,(show Aside _ from ⟨⟨by omega,hV.trans (h3.mono hs),s,h5⟩,?_⟩)⟩,h3⟩
   obtain⟨C,c1,c2⟩:=h5.blk
   obtain⟨r,-,cv,yp,yc,uv,e2,⟨cq,cc2,e3,-⟩,-⟩:=h5.sv
   exact⟨cq,_,cc2,by rw[c1.cell,c2.sv.2 0 cv (by rw[e2];rfl),e3]⟩
 have hT:∀V,Below W.heap.size W V→_:=fun V (hV:Below W.heap.size W V)=>zhX QC (.slice (some ⟨b,0,none⟩) 1 1) 5 0 V (fun u V'=>ColsV V' u [(⟨#[97,116]⟩,1),(⟨#[110]⟩,1)]) (fun gb V'=>W.heap.size≤gb∧Below W.heap.size W V'∧∃s,NgIs V' gb 0 5 5 slL ex0 [ex0] [zeV] [0] [1] s) hi14 h11 (by decide) (fun u V1 V2 h1 h2=>h1.on h2)
  (fun V' hV'=>by
   have hV2:=hV.trans (hV'.mono hV.size)
   exact zpB slQ _ (.agg QC) (.slice (some ⟨b,0,none⟩) 1 1) slL V' (⟨henv.tw.on (hb.trans (hV2.mono hb.size)),fun x h=>h.elim⟩:TyEnv (fun _=>False) V') zsU (haenv.onB (hb.trans (hV2.mono hb.size)) hbig (by have:=hV2.size;have:=hb.size;omega)) (hq.on hV2) (hcv V' hV2) zoN _ 0 zoM)
  (fun V' hV'=>by
   have hV2:=hV.trans (hV'.mono hV.size)
   exact zgI b 0 1 1 0 V' (by decide) (by decide) (hl.on hV2).lt (by rw[(hl.on hV2).cell];rfl) (hFd V' hV2))
  (fun V' u hV' hu=>hNg V' u (hV.trans (hV'.mono hV.size)) hu)
 refine (zru QC (.slice (some ⟨b,0,none⟩) 1 1) W _ hi14 hT).mono ?_
 rintro e w' ⟨⟨sb,h1,h2⟩,h3⟩
 obtain⟨tb,w1,⟨gb,cv,w0,⟨g1,g2,s,g3⟩,g4,g5,g6,g7⟩,g8,g9,g10⟩:=h2.out
 have hs0:=g4.size
 refine⟨⟨sb,h1,(show Aside _ from ⟨⟨sb,tb,gb,cv,s,w0⟩,rfl,g1,g3,?_,g2,g4.trans (g8.mono hs0),g5.on g8,g9,g6,by show w0.heap.size≤sb;omega⟩)⟩,h3⟩
 obtain⟨C,c1,c2⟩:=g3.blk
 obtain⟨r,-,cv',yp,yc,uv,e2,-⟩:=g3.sv
 have h0:s.SC[0]?=some cv':=by rw[e2];rfl
 have:=c2.sv.2 0 cv' h0
 rw[c1.cell,this] at g7
 injection g7 with g7
 subst g7
 exact h0
def slS0(x y:Sp)(k:Nat):Prop:=(k=x.gb∨k=x.sb)∨(k=y.gb∨k=y.sb)
theorem NgIs.glt{W:World}{gb:Nat}{A sz sl:Int}{zs:List (ByteArray×Int)}{y:Ex}{ys:List Ex}{xs:List ByteArray}{ns:List Nat}{ts:List Int}{s:Gs}(h:NgIs W gb A sz sl zs y ys xs ns ts s):gb<W.heap.size:=by
 obtain⟨C,c1,-⟩:=h.blk
 exact c1.lt
theorem zrj{w W10 W11 W12:World}{x y:Sp}(henv:KEnv w)(haenv:AEnv w)(hB:Below w.heap.size w W10)(hX:SlNew W10 x W11)(hY:SlNew W11 y W12)(b12:Below W11.heap.size W11 W12) :
  zdj w W12 (slS0 x y) x y∧SlIv W12 (slS0 x y) x y 0 0 (0,[]) (0,[]) W12.heap.size W12.heap.size W12:=by
 have s0:=hB.size
 have s1:=hX.old.size
 have s2:=hX.new.size
 have s3:=hY.old.size
 have s4:=hY.new.size
 have gx:=hX.ng.glt
 have gy:=hY.ng.glt
 have lx:=hX.sb.lt
 have ltx:=hX.tb.lt
 have ly:=hY.sb.lt
 have lty:=hY.tb.lt
 have a1:=hX.low
 have a2:=hY.low
 have a3:=hX.ltb
 have a4:=hX.lsb
 have a5:=hY.ltb
 have a6:=hY.lsb
 have d1:x.tb≠x.sb:=zdQ hX.tb hX.sb (by decide)
 have d2:y.tb≠y.sb:=zdQ hY.tb hY.sb (by decide)
 have s12:=b12.size
 have hxo:Below w.heap.size w x.W3:=hB.trans (hX.old.mono s0)
 have hyo:Below w.heap.size w y.W3:=(hxo.trans (hX.new.mono (by omega))).trans (hY.old.mono (by omega))
 refine⟨⟨⟨henv,haenv,hX.ng,hX.col,hxo,.inl (.inl rfl),fun k hk=>?_,fun k hk=>?_⟩,⟨henv,haenv,hY.ng,hY.col,hyo,.inr (.inl rfl),fun k hk=>?_,fun k hk=>?_⟩,hX.new.trans (b12.mono s2),hY.new,fun k=>Iff.rfl,hX.tb.on b12,hY.tb,fun h=>?_,fun h=>?_,⟨by omega,by omega⟩,⟨by omega,by omega⟩,⟨by omega,by omega,by omega⟩,⟨by omega,by omega,by omega⟩,by omega⟩,?_⟩
 ·rcases hk with (rfl|rfl)|(rfl|rfl)<;>omega
 ·rcases hk with (rfl|rfl)|(rfl|rfl)<;>omega
 ·rcases hk with (rfl|rfl)|(rfl|rfl)<;>omega
 ·rcases hk with (rfl|rfl)|(rfl|rfl)<;>omega
 ·rcases h with (h|h)|(h|h)<;>omega
 ·rcases h with (h|h)|(h|h)<;>omega
 ·obtain⟨C,c1,c2⟩:=hX.ng.blk
  obtain⟨D,e1,e2⟩:=hY.ng.blk
  have f:∀(gb k:Nat),GrS gb (.slice none 0 0) [] k→k=gb:=fun gb k h=>by
   rcases h with h|h|⟨z,hz,-⟩
   ·exact h
   ·simp[Value.ownBlock] at h
   ·simp at hz
  refine⟨Kp.refl _ _,hX.sb.on b12,hY.sb,⟨_,[],_,[],GrAt.start (c1.on (hX.new.trans (b12.mono s2))) c2 gx,rfl,GrAt.start (e1.on hY.new) e2 gy,rfl,fun k hk=>?_,fun k hk=>?_,fun k hk hk2=>?_⟩,⟨by omega,Nat.le_refl _⟩,⟨by omega,Nat.le_refl _⟩⟩
  ·have:=f _ _ hk
   exact⟨.inl this,by omega⟩
  ·have:=f _ _ hk
   exact⟨.inl this,by omega⟩
  ·have h1:=f _ _ hk
   have h2:=f _ _ hk2
   omega
end
end Go.Proofs.YtopghagjmdbglaaGreatDoor
