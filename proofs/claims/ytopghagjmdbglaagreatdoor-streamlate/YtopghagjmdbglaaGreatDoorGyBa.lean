/-
  QrJ, QrK, QrL, QuC4, TreeQs, TreeNw.
-/
import Derived.Test.YtopghagjmdbglaaGreatDoorGyAz
import Derived.Test.YtopghagjmdbglaaGreatDoorGyAs
import Derived.Deep.MidRow
import Derived.Deep.QuietTactic
import Derived.Deep.RegionHeld3
import Derived.Test.YtopghagjmdbglaaGreatDoorGyAg
import Derived.Test.YtopghagjmdbglaaGreatDoorGyAj
import Derived.Test.YtopghagjmdbglaaGreatDoorGyAf
import Derived.Test.YtopghagjmdbglaaGreatDoorGyAx
namespace Go.Proofs.YtopghagjmdbglaaGreatDoor
open Go.RowKit
set_option linter.unusedVariables false
set_option linter.unusedSimpArgs false
set_option maxHeartbeats 8000000
set_option maxRecDepth 20000
section
open Go.BigFrame
variable {en : Nat} {WZ : World}

theorem zsT(args:Array Value)(W:World):Sem.run Tryz.prog (callFunc 60 args) W=.ok (.enter 60 args) W:=by kernel_rfl
theorem zsh(args:Array Value)(W:World):Sem.run Tryz.prog (callFunc 55 args) W=.ok (.enter 55 args) W:=by kernel_rfl
theorem zrg(args:Array Value)(W:World):Sem.run Tryz.prog (callFunc 56 args) W=.ok (.enter 56 args) W:=by kernel_rfl
theorem zpb(W:World)(tr rb:Nat)(ts:List Tok)(BC:Array Value)(I:World→Prop)(h:QS WZ en W tr rb ts BC I)(hc:KpQ tr rb I)(hsz:BC.size=15)(h11:BC[11]?=some (.slice none 0 0))(hl:ts.length≤400) :
  Calls Tryz.prog 54 #[.pointer (some ⟨rb,0,none⟩),.func (.func 60) #[.pointer (some ⟨rb,0,none⟩)] #[]] W fun e w'=>∃(R:Bool)(gs:List ByteArray)(gq:Option Addr)(gc:Nat),e=.returned (.bool R)∧Aside (QS WZ en w' tr rb (sevU nU (ts.length+1) [] ts).2 (BC.setIfInBounds 11 (.slice gq gs.length gc)) (fun V=>I V∧V.ownsRow (rb+1) 9 1 (.slice gq gs.length gc) gs.length (gs.map .string)))∧Hid ((sevU nU (ts.length+1) [] ts).1=if R=true then some gs else none):=by
 have hne:=h.qh.ne
 have hrl:=h.qh.lt
 have S0:GrSq WZ en W W tr rb BC ts []:=⟨h.qh,⟨none,0,by rw[show (.slice none ([]:List ByteArray).length 0:Value)=.slice none 0 0 from rfl,zdr h11];exact h.box,World.ownsRow_nil _ _ _ _⟩,Fr.refl _ _ _,by omega,hrl⟩
 have c:=zfu (en:=en) (fun V ts gs=>GrSq WZ en W V tr rb BC ts gs) nU 60 zsT tr rb (fun V ts gs h=>h.qh) (fun V w' ts ts' gs h hf hq=>h.go hf hq) zdO (fun V ts gs hS hl=>(zlN W V tr rb BC ts gs hS hl).mono fun e w' hh=>by
  obtain⟨R,x,he,hg,hr⟩:=hh
  refine⟨R,gs++[x],he,hg,?_⟩
  cases R
  ·exact .inr ⟨rfl,hr.out⟩
  ·exact .inl ⟨rfl,x,hr.out,rfl⟩) W ts S0 hl
 refine c.mono fun e w' hh=>?_
 obtain⟨R,gs,he,hg,hr⟩:=hh
 obtain⟨gq,gc,hb,ho⟩:=hg.out.box
 refine⟨R,gs,gq,gc,he,⟨hg.out.qh,hb,hc W w' hrl h.inv hg.out.fr,?_⟩,?_⟩
 ·refine⟨ho.1,?_⟩
  rcases ho.2 with hn|⟨g,cap,cur,e1,h1,rest⟩
  ·exact .inl hn
  ·exact .inr ⟨g,cap,cur,e1,by omega,rest⟩
 ·cases R
  ·rcases hr.out with ⟨h1,_⟩|⟨_,h2⟩
   ·exact absurd h1 (by decide)
   ·exact h2
  ·rcases hr.out with ⟨_,h2⟩|⟨h1,_⟩
   ·exact h2
   ·exact absurd h1 (by decide)
theorem zrz{tr rb:Nat}{e:TypeId}{size n:Nat}{v:Value}{xs:List Value}(hne:tr<rb):KpQ tr rb (fun V=>V.ownsRow (rb+1) e size v n xs):=fun W w' hl h hf=>zar h (zjS hf hne) (Nat.le_refl _)
theorem zkt(W:World)(tr rb:Nat)(BC:Array Value)(hb:Blk W rb BC 60)(h14:∃p c,BC[14]?=some (.slice p 0 c)) :
  Calls Tryz.prog 30 #[.pointer (some ⟨rb,0,none⟩)] W fun e w'=>e=.returned (.bool true)∧w'=W:=by
 obtain⟨p,c,h14⟩:=h14
 have hc:W.cell? ⟨rb,14,none⟩=some (.slice p 0 c):=by rw[hb.cell];exact h14
 have hl:=hb.lt
 clear hb h14
 go_enter Tryz.func30,Tryz.ntmps30
 go_wp2
 go_ret
 exact⟨rfl,rfl⟩
theorem zug(W:World)(tr rb:Nat)(ts:List Tok)(BC:Array Value)(I:World→Prop)(h:QS WZ en W tr rb ts BC I)(hc:KpQ tr rb I)(hsz:BC.size=15)(h11:BC[11]?=some (.slice none 0 0))(h12:BC[12]?=some (.int .i64 0))(h13:BC[13]?=some (.int .i64 0))(p14:Option Addr)(n14 c14:Nat)(h14:BC[14]?=some (.slice p14 n14 c14))(hn:n14≠0)(hn2:n14≤1000)(hl:ts.length≤400) :
  Calls Tryz.prog 30 #[.pointer (some ⟨rb,0,none⟩)] W fun e w'=>∃R:Bool,e=.returned (.bool R)∧Aside (QH WZ en w' tr rb (grU ts).2)∧Hid ((R=false∧(grU ts).1=none)∨(R=true∧∃gs gq gc z s,(grU ts).1=some (gs,z,s)∧QS WZ en w' tr rb (grU ts).2 (((BC.setIfInBounds 11 (.slice gq gs.length gc)).setIfInBounds 12 (.int .i64 z)).setIfInBounds 13 (.int .i64 s)) (fun V=>I V∧V.ownsRow (rb+1) 9 1 (.slice gq gs.length gc) gs.length (gs.map .string)))):=by
 have HS:Aside (QS WZ en W tr rb ts BC I):=h
 have hne:=h.qh.ne
 have hrl:=h.qh.lt
 have hc14:W.cell? ⟨rb,14,none⟩=some (.slice p14 n14 c14):=by rw[h.box.cell];exact h14
 have hnz:((n14:Int) == 0)=false:=by simp;omega
 obtain⟨R1,rs1,hj1⟩:=zaI zcd ts
 have c1:=zcn zcd W tr rb ts h.qh R1 rs1 hj1
 have hs1:rs1 <:+ ts:=by have:=zaV zcd ts;rw[hj1] at this;exact this
 clear h h14
 cases R1
 ·have HA:Hid (grU ts=(none,rs1)):=by show _=_;rw[grU,zai hj1]
  go_enter Tryz.func30,Tryz.ntmps30
  go_wp2_with fail
  refine c1.mono ?_
  rintro e w1 ⟨rfl,Q1,F1⟩
  clear c1
  go_wp2
  go_ret
  refine⟨false,rfl,?_,.inl ⟨rfl,?_⟩⟩
  ·rw[HA.out];exact Q1
  ·rw[HA.out]
 obtain⟨R2,rs2,hj2⟩:=zaI wBy rs1
 have hs2:rs2 <:+ rs1:=by have:=zaV wBy rs1;rw[hj2] at this;exact this
 have c2:=fun w1 (q:QH WZ en w1 tr rb rs1)=>zcn wBy w1 tr rb rs1 q R2 rs2 hj2
 cases R2
 ·have HA:Hid (grU ts=(none,rs2)):=by show _=_;rw[grU,zad hj1,zai hj2]
  go_enter Tryz.func30,Tryz.ntmps30
  go_wp2_with fail
  refine c1.mono ?_
  rintro e w1 ⟨rfl,Q1,F1⟩
  go_wp2_with fail
  refine (c2 w1 Q1.out).mono ?_
  rintro e w2 ⟨rfl,Q2,F2⟩
  clear c1 c2
  go_wp2
  go_ret
  refine⟨false,rfl,?_,.inl ⟨rfl,?_⟩⟩
  ·rw[HA.out];exact Q2
  ·rw[HA.out]
 have hl2:rs2.length≤400:=by have:=hs1.length_le;have:=hs2.length_le;omega
 have c3:=fun w2 (q:QS WZ en w2 tr rb rs2 BC I)=>zpb w2 tr rb rs2 BC I q hc hsz h11 hl2
 have HAg:Hid (grU ts=thU (sevU nU (rs2.length+1) [] rs2) fun g rs=>thU (jU zce rs) fun _ rs=>thU (iU rs) fun z rs=>thU (slU z rs) fun s rs=>(some (g,z,s),rs)):=by show _=_;rw[grU,zad hj1,zad hj2]
 clear hj1 hj2
 go_enter Tryz.func30,Tryz.ntmps30
 go_wp2_with fail
 refine c1.mono ?_
 rintro e w1 ⟨rfl,Q1,F1⟩
 go_wp2_with fail
 refine (c2 w1 Q1.out).mono ?_
 rintro e w2 ⟨rfl,Q2,F2⟩
 have S2:=(HS.out.go hc F1.out Q1.out).go hc F2.out Q2.out
 clear c1 c2 Q1 F1 Q2 F2 HS
 go_wp2_with fail
 refine (c3 w2 S2).mono ?_
 rintro e w3 ⟨R3,gs,gq,gc,rfl,S3,HR3⟩
 clear c3 S2
 obtain⟨rs3,hrs3⟩:∃rs3,(sevU nU (rs2.length+1) [] rs2).2=rs3:=⟨_,rfl⟩
 have hsv:sevU nU (rs2.length+1) [] rs2=(if R3=true then some gs else none,rs3):=Prod.ext HR3.out hrs3
 rw[hrs3] at S3
 clear hrs3 HR3
 cases R3
 ·have HA:Hid (grU ts=(none,rs3)):=by show _=_;rw[HAg.out,zai hsv]
  go_wp2
  go_ret
  refine⟨false,rfl,?_,.inl ⟨rfl,?_⟩⟩
  ·rw[HA.out];exact S3.out.qh
  ·rw[HA.out]
 obtain⟨R4,rs4,hj4⟩:=zaI zce rs3
 have c4:=zcn zce w3 tr rb rs3 S3.out.qh R4 rs4 hj4
 have hc3:=zoe hc (zrz (e:=9) (size:=1) (n:=gs.length) (v:=.slice gq gs.length gc) (xs:=gs.map .string) hne)
 cases R4
 ·have HA:Hid (grU ts=(none,rs4)):=by show _=_;rw[HAg.out,zad hsv,zai hj4]
  go_wp2_with fail
  refine c4.mono ?_
  rintro e w4 ⟨rfl,Q4,F4⟩
  clear c4
  go_wp2
  go_ret
  refine⟨false,rfl,?_,.inl ⟨rfl,?_⟩⟩
  ·rw[HA.out];exact Q4
  ·rw[HA.out]
 go_wp2_with fail
 refine c4.mono ?_
 rintro e w4 ⟨rfl,Q4,F4⟩
 have S4:=S3.out.go hc3 F4.out Q4.out
 have hrl4:=S4.qh.lt
 have c5:=zkG w4 tr rb rs4 S4.qh rb 12 _ 60 S4.box hne (by simp;omega) (fun _=>by decide)
 clear c4 Q4 F4 S3
 go_wp2_with fail
 refine c5.mono ?_
 rintro e w5 ⟨R5,z,rfl,Q5,F5,B5,HR5⟩
 have S5:=S4.put hc3 F5.out Q5.out B5.out
 clear c5 Q5 F5 B5 S4
 obtain⟨rs5,hrs5⟩:∃rs5,(iU rs4).2=rs5:=⟨_,rfl⟩
 have hiv:iU rs4=(if R5=true then some z else none,rs5):=Prod.ext HR5.out hrs5
 rw[hrs5] at S5
 clear hrs5 HR5
 cases R5
 ·have HA:Hid (grU ts=(none,rs5)):=by show _=_;rw[HAg.out,zad hsv,zad hj4,zai hiv]
  go_wp2
  go_ret
  refine⟨false,rfl,?_,.inl ⟨rfl,?_⟩⟩
  ·rw[HA.out];exact S5.qh
  ·rw[HA.out]
 have c6:=ztF w5 tr rb rs5 _ _ S5 hc3 (by simp;omega) z 0 (by rw[Array.getElem?_setIfInBounds,if_pos rfl,if_pos (by simp;omega)]) (by rw[Array.getElem?_setIfInBounds,if_neg (by decide),Array.getElem?_setIfInBounds,if_neg (by decide)];exact h13)
 clear S5
 go_wp2_with fail
 refine c6.mono ?_
 rintro e w6 ⟨R6,s,rfl,S6,HR6⟩
 obtain⟨rs6,hrs6⟩:∃rs6,(slU z rs5).2=rs6:=⟨_,rfl⟩
 have hsl:slU z rs5=(if R6=true then some s else none,rs6):=Prod.ext HR6.out hrs6
 rw[hrs6] at S6
 clear hrs6 HR6 c6
 have HA:Hid (grU ts=(if R6=true then some (gs,z,s) else none,rs6)):=by
  show _=_
  rw[HAg.out,zad hsv,zad hj4,zad hiv]
  cases R6
  ·rw[zai hsl];rfl
  ·rw[zad hsl];rfl
 go_wp2
 go_ret
 refine⟨R6,rfl,?_,?_⟩
 ·rw[HA.out];exact S6.out.qh
 ·rw[HA.out]
  cases R6
  ·exact .inl ⟨rfl,rfl⟩
  ·exact .inr ⟨rfl,gs,gq,gc,z,s,rfl,S6.out⟩
end
section
open Go.BigFrame
variable {en : Nat} {WZ : World}

theorem zip(ts:List Tok):(asU ts).2 <:+ ts:=by
 obtain⟨R,rs,hj⟩:=zaI wAs ts
 have hs:rs <:+ ts:=by have:=zaV wAs ts;rw[hj] at this;exact this
 cases R
 ·rw[asU,zai hj];exact hs
 ·rw[asU,zad hj];exact (zdO rs).trans hs
theorem zbO(ts:List Tok):(colU ts).2 <:+ ts:=by
 cases h:(readE ts).1 with
 | none=>rw[colU,zai (rs:=(readE ts).2) (Prod.ext h rfl)];exact zaY ts
 | some x =>
  rw[colU,zad (x:=x) (rs:=(readE ts).2) (Prod.ext h rfl)]
  cases h2:(asU (readE ts).2).1 with
  | none=>rw[zai (rs:=(asU (readE ts).2).2) (Prod.ext h2 rfl)];exact (zip _).trans (zaY ts)
  | some n=>rw[zad (x:=n) (rs:=(asU (readE ts).2).2) (Prod.ext h2 rfl)];exact (zip _).trans (zaY ts)
theorem ztP(ts:List Tok):(brU ts).2 <:+ ts:=by
 obtain⟨R,rs,hj⟩:=zaI [40] ts
 have hs:rs <:+ ts:=by have:=zaV [40] ts;rw[hj] at this;exact this
 cases R
 ·rw[brU,zai hj];exact hs
 ·rw[brU,zad hj]
  cases h:(readE rs).1 with
  | none=>rw[zai (rs:=(readE rs).2) (Prod.ext h rfl)];exact (zaY rs).trans hs
  | some x =>
   rw[zad (x:=x) (rs:=(readE rs).2) (Prod.ext h rfl)]
   obtain⟨R2,rs2,hj2⟩:=zaI [41] (readE rs).2
   have hs2:rs2 <:+ (readE rs).2:=by have:=zaV [41] (readE rs).2;rw[hj2] at this;exact this
   cases R2
   ·rw[zai hj2];exact hs2.trans ((zaY rs).trans hs)
   ·rw[zad hj2];exact hs2.trans ((zaY rs).trans hs)
theorem zgW(w:List UInt8)(ts:List Tok):(argU w ts).2 <:+ ts:=by
 rw[argU]
 split
 ·exact List.suffix_rfl
 ·exact ztP ts
theorem zbJ(ts:List Tok):(aggU ts).2 <:+ ts:=by
 rw[aggU]
 cases h:nxT agB ts with
 | none=>exact List.suffix_rfl
 | some p =>
  obtain⟨t,rs⟩:=p
  have hs:=zcF h
  simp only
  cases h1:(argU t.2.1.data.toList rs).1 with
  | none=>rw[zai (rs:=(argU t.2.1.data.toList rs).2) (Prod.ext h1 rfl)];exact (zgW _ rs).trans hs
  | some x =>
   rw[zad (x:=x) (rs:=(argU t.2.1.data.toList rs).2) (Prod.ext h1 rfl)]
   cases h2:(asU (argU t.2.1.data.toList rs).2).1 with
   | none=>rw[zai (rs:=(asU (argU t.2.1.data.toList rs).2).2) (Prod.ext h2 rfl)];exact (zip _).trans ((zgW _ rs).trans hs)
   | some n=>rw[zad (x:=n) (rs:=(asU (argU t.2.1.data.toList rs).2).2) (Prod.ext h2 rfl)];exact (zip _).trans ((zgW _ rs).trans hs)
theorem ztR(W:World)(tr rb:Nat)(ts:List Tok)(h:QH WZ en W tr rb ts) :
  Calls Tryz.prog 52 #[.pointer (some ⟨tr,0,none⟩),.func (.func 53) #[] #[]] W fun e w'=>e=.returned (.bool (nextB agB ts))∧Below W.heap.size W w':=by
 cases ts with
 | nil=>exact (ziG W tr _ h.rd).mono fun e w' hh=>⟨hh.1,by rw[hh.2];exact Below.refl _ _⟩
 | cons t ts=>exact zki _ #[] zmn W tr t ts (agB t) h.rd (zkz t W h.aenv)
theorem znD(W:World)(tr rb:Nat)(ts:List Tok)(BC:Array Value)(h:QS WZ en W tr rb ts BC (fun _=>True))(hsz:BC.size=15)(h14:BC[14]?=some (.slice none 0 0))(hl:ts.length≤400)(hb:nextB agB ts=true) :
  Calls Tryz.prog 27 #[.pointer (some ⟨rb,0,none⟩)] W fun e w'=>∃(R:Bool)(ls:List Ag)(aq:Option Addr)(ac:Nat),e=.returned (.bool R)∧Aside (QS WZ en w' tr rb (sevU aggU (ts.length+1) [] ts).2 (BC.setIfInBounds 14 (.slice aq ls.length ac)) (fun V=>zbP V (rb+1) (.slice aq ls.length ac) ls))∧Hid ((sevU aggU (ts.length+1) [] ts).1=if R=true then some ls else none):=by
 have hne:=h.qh.ne
 have hrl:=h.qh.lt
 have hp0:=h.qh.p0
 have cX:=ztR W tr rb ts h.qh
 rw[hb] at cX
 have cS:=fun w1 (q:QS WZ en w1 tr rb ts BC (fun _=>True))=>zfu (en:=en) (fun V ts ls=>AgS WZ en w1 V tr rb BC ts ls) aggU 55 zsh tr rb (fun V ts gs h=>h.qh) (fun V w' ts ts' gs h hf hq=>h.go hf hq) zbJ (fun V ts ls hS hl=>agg_q w1 V tr rb BC ts ls hS hl) w1 ts ⟨q.qh,⟨none,0,by rw[show (.slice none ([]:List Ag).length 0:Value)=.slice none 0 0 from rfl,zdr h14];exact q.box,zmw _ _⟩,Fr.refl _ _ _,by omega,q.qh.lt⟩ hl
 have HS:Aside (QS WZ en W tr rb ts BC (fun _=>True)):=h
 clear h hb
 go_enter Tryz.func27,Tryz.ntmps27
 go_wp2_with fail
 refine cX.mono ?_
 rintro e w1 ⟨rfl,b1⟩
 have s1:=b1.size
 have F1:Fr tr (fun _=>False) W w1:=Fr.of_below b1 (by omega)
 have S1:=HS.out.go (fun _ _ _ _ _=>trivial) F1 (HS.out.qh.fr F1 (HS.out.qh.rd.on b1) List.suffix_rfl (fun h=>h))
 have c2:=cS w1 S1
 clear cS cX HS S1 F1
 go_wp2_with fail
 refine c2.mono ?_
 rintro e w2 ⟨R,ls,rfl,hg,hr⟩
 clear c2
 obtain⟨aq,ac,hbx,ho⟩:=hg.out.box
 have SF:Aside (QS WZ en w2 tr rb (sevU aggU (ts.length+1) [] ts).2 (BC.setIfInBounds 14 (.slice aq ls.length ac)) (fun V=>zbP V (rb+1) (.slice aq ls.length ac) ls)):=by
  refine⟨hg.out.qh,hbx,?_⟩
  obtain⟨cs,h1,h2⟩:=ho
  refine⟨cs,⟨h1.1,?_⟩,fun j hj=>?_⟩
  ·rcases h1.2 with hn|⟨g,cap,cur,e1,hB,rest⟩
   ·exact .inl hn
   ·exact .inr ⟨g,cap,cur,e1,by omega,rest⟩
  ·obtain⟨ap,ac',e0,e1,e2,e3,e4,e5,e6,e7,e8,hx⟩:=h2 j hj
   exact⟨ap,ac',e0,e1,e2,e3,e4,e5,e6,e7,e8,ExIn.low (fun b _ hb=>⟨by have:=hb.1;omega,hb.2⟩) _ _ hx⟩
 have HR:Hid ((sevU aggU (ts.length+1) [] ts).1=if R=true then some ls else none):=by
  show _=_
  cases R
  ·rcases hr.out with ⟨h1,_⟩|⟨_,h2⟩
   ·exact absurd h1 (by decide)
   ·exact h2
  ·rcases hr.out with ⟨_,h2⟩|⟨h1,_⟩
   ·exact h2
   ·exact absurd h1 (by decide)
 clear hg hr hbx ho
 go_wp2
 go_ret
 exact⟨R,ls,aq,ac,rfl,SF,HR⟩
def CoS(WZ:World)(en:Nat)(W0:World)(tr rb:Nat)(BC:Array Value)(W:World)(ts:List Tok)(l:List (Ex×ByteArray)):Prop:=∃cq cc nq nc,CoX WZ en W0 W tr rb BC ts (l.map (·.1)) (l.map (·.2)) cq l.length cc nq l.length nc
theorem zmQ(W:World)(tr rb:Nat)(ts:List Tok)(BC:Array Value)(h:QS WZ en W tr rb ts BC (fun _=>True))(hsz:BC.size=15)(h9:BC[9]?=some (.slice none 0 0))(h10:BC[10]?=some (.slice none 0 0))(hl:ts.length≤400)(hb:nextB agB ts=false) :
  Calls Tryz.prog 27 #[.pointer (some ⟨rb,0,none⟩)] W fun e w'=>∃(R:Bool)(l:List (Ex×ByteArray))(cq:Option Addr)(cc:Nat)(nq:Option Addr)(nc:Nat),e=.returned (.bool R)∧Aside (QS WZ en w' tr rb (sevU colU (ts.length+1) [] ts).2 (bc2 BC (.slice cq l.length cc) (.slice nq l.length nc)) (fun V=>ArgsO V (rb+1) (.slice cq l.length cc) (Value.slice nq l.length nc).ownBlock (l.map (·.1))∧V.ownsRow (rb+1) 9 1 (.slice nq l.length nc) l.length ((l.map (·.2)).map .string)))∧Hid ((sevU colU (ts.length+1) [] ts).1=if R=true then some l else none):=by
 have hne:=h.qh.ne
 have hrl:=h.qh.lt
 have hp0:=h.qh.p0
 have cX:=ztR W tr rb ts h.qh
 rw[hb] at cX
 have cS:=fun w1 (q:QS WZ en w1 tr rb ts BC (fun _=>True))=>zfu (en:=en) (fun V ts l=>CoS WZ en w1 tr rb BC V ts l) colU 56 zrg tr rb (fun V ts l h=>by obtain⟨_,_,_,_,h⟩:=h;exact h.qh) (fun V w' ts ts' l h hf hq=>by obtain⟨cq,cc,nq,nc,h⟩:=h;exact⟨cq,cc,nq,nc,h.keep hf (fun _ _ h=>h) hq⟩) zbO (fun V ts l hS hl=>by
   obtain⟨cq,cc,nq,nc,hx⟩:=hS
   refine (col_q w1 V tr rb BC ts _ _ cq l.length cc nq l.length nc hx hl hl).mono fun e w' hh=>?_
   obtain⟨R,x,nm,cq',cc',nq',nc',he,hX,hr⟩:=hh
   refine⟨R,l++[(x,nm)],he,⟨cq',cc',nq',nc',by simpa using hX.out⟩,?_⟩
   cases R
   ·exact .inr ⟨rfl,hr.out⟩
   ·exact .inl ⟨rfl,_,hr.out,rfl⟩) w1 ts ⟨none,0,none,0,q.qh,by
    show Blk w1 rb (bc2 BC (.slice none 0 0) (.slice none 0 0)) _
    rw[bc2,zdr h9,zdr h10];exact q.box,znl _ _ _,World.ownsRow_nil _ _ _ _,rfl,rfl,Fr.refl _ _ _,by omega,q.qh.lt⟩ hl
 have HS:Aside (QS WZ en W tr rb ts BC (fun _=>True)):=h
 clear h hb
 go_enter Tryz.func27,Tryz.ntmps27
 go_wp2_with fail
 refine cX.mono ?_
 rintro e w1 ⟨rfl,b1⟩
 have s1:=b1.size
 have F1:Fr tr (fun _=>False) W w1:=Fr.of_below b1 (by omega)
 have S1:=HS.out.go (fun _ _ _ _ _=>trivial) F1 (HS.out.qh.fr F1 (HS.out.qh.rd.on b1) List.suffix_rfl (fun h=>h))
 have c2:=cS w1 S1
 clear cS cX HS S1 F1
 go_wp2_with fail
 refine c2.mono ?_
 rintro e w2 ⟨R,l,rfl,hg,hr⟩
 clear c2
 obtain⟨cq,cc,nq,nc,hX⟩:=hg.out
 have SF:Aside (QS WZ en w2 tr rb (sevU colU (ts.length+1) [] ts).2 (bc2 BC (.slice cq l.length cc) (.slice nq l.length nc)) (fun V=>ArgsO V (rb+1) (.slice cq l.length cc) (Value.slice nq l.length nc).ownBlock (l.map (·.1))∧V.ownsRow (rb+1) 9 1 (.slice nq l.length nc) l.length ((l.map (·.2)).map .string))):=by
  refine⟨hX.qh,hX.box,?_,?_⟩
  ·obtain⟨cs,h1,h2⟩:=hX.cols
   refine⟨cs,⟨h1.1,?_⟩,fun j hj=>?_⟩
   ·rcases h1.2 with hn|⟨g,cap,cur,e1,hB,rest⟩
    ·exact .inl hn
    ·exact .inr ⟨g,cap,cur,e1,by omega,rest⟩
   ·obtain⟨a0,a1,a2,a3,a4,a5,a6,e0,e1,e2,e3,e4,e5,e6,hx⟩:=h2 j hj
    exact⟨a0,a1,a2,a3,a4,a5,a6,e0,e1,e2,e3,e4,e5,e6,ExIn.low (fun b _ hb=>⟨by have:=hb.1;omega,hb.2⟩) _ _ hx⟩
  ·refine⟨hX.names.1,?_⟩
   rcases hX.names.2 with hn|⟨g,cap,cur,e1,hB,rest⟩
   ·exact .inl hn
   ·exact .inr ⟨g,cap,cur,e1,by omega,rest⟩
 have HR:Hid ((sevU colU (ts.length+1) [] ts).1=if R=true then some l else none):=by
  show _=_
  cases R
  ·rcases hr.out with ⟨h1,_⟩|⟨_,h2⟩
   ·exact absurd h1 (by decide)
   ·exact h2
  ·rcases hr.out with ⟨_,h2⟩|⟨h1,_⟩
   ·exact h2
   ·exact absurd h1 (by decide)
 clear hg hr hX
 go_wp2
 go_ret
 exact⟨R,l,cq,cc,nq,nc,rfl,SF,HR⟩
end
section
open Go.BigFrame
variable {en : Nat} {WZ : World}

theorem zeL{α:Type}{part:List Tok→Option α×List Tok}(hs:∀ts,(part ts).2 <:+ ts):∀(k:Nat) (acc:List α) (ts:List Tok) (l:List α),(sevU part k acc ts).1=some l→acc.length<l.length∧l.length≤acc.length+ts.length+1
 | 0,acc,ts,l,h=>by rw[sevU] at h;exact absurd h (by simp)
 | k+1,acc,ts,l,h=>by
  cases hp:(part ts).1 with
  | none=>rw[zdk (rs:=(part ts).2) (Prod.ext hp rfl)] at h;exact absurd h (by simp)
  | some x =>
   have hle:=(hs ts).length_le
   cases hn:nxT (sgT [[44]]) (part ts).2 with
   | none =>
    rw[zdo (x:=x) (rs:=(part ts).2) (Prod.ext hp rfl) hn] at h
    have:acc++[x]=l:=by simpa using h
    subst this
    simp
   | some q =>
    obtain⟨t,rs⟩:=q
    rw[zdc (x:=x) (rs:=(part ts).2) (Prod.ext hp rfl) hn] at h
    have h2:=zeL hs k _ _ _ h
    have h3:rs.length+1=(part ts).2.length:=by rw[(zag hn).1];simp
    simp at h2
    omega
theorem zby{α:Type}{part:List Tok→Option α×List Tok}(hs:∀ts,(part ts).2 <:+ ts):∀(k:Nat) (acc:List α) (ts:List Tok),(sevU part k acc ts).2 <:+ ts
 | 0,acc,ts=>by rw[sevU];exact List.suffix_rfl
 | k+1,acc,ts=>by
  cases hp:(part ts).1 with
  | none=>rw[zdk (rs:=(part ts).2) (Prod.ext hp rfl)];exact hs ts
  | some x =>
   cases hn:nxT (sgT [[44]]) (part ts).2 with
   | none=>rw[zdo (x:=x) (rs:=(part ts).2) (Prod.ext hp rfl) hn];exact hs ts
   | some q =>
    obtain⟨t,rs⟩:=q
    rw[zdc (x:=x) (rs:=(part ts).2) (Prod.ext hp rfl) hn]
    exact (zby hs k _ _).trans ((zcF hn).trans (hs ts))
abbrev qb0(tr:Nat):Array Value:=#[.pointer (some ⟨tr,0,none⟩),.string ⟨#[]⟩,.string ⟨#[]⟩,.string ⟨#[]⟩,.int .i64 0,.int .i64 0,.string ⟨#[]⟩,.slice none 0 0,.int .i64 0,.slice none 0 0,.slice none 0 0,.slice none 0 0,.int .i64 0,.int .i64 0,.slice none 0 0]
abbrev qbX(tr:Nat)(f:ByteArray)(x:Ex)(xp:Option Addr)(xc:Nat)(c n g:Value)(z s:Int)(a:Value):Array Value:=#[.pointer (some ⟨tr,0,none⟩),.string f,.string x.op,.string x.nm,.int .i64 x.vt,.int .i64 x.vn,.string x.vs,.slice xp x.args.length xc,.int .i64 x.pos,c,n,g,.int .i64 z,.int .i64 s,a]
theorem qb_0(tr:Nat):qb0 tr=qbX tr ⟨#[]⟩ ex0 none 0 (.slice none 0 0) (.slice none 0 0) (.slice none 0 0) 0 0 (.slice none 0 0):=rfl
section
variable (tr : Nat) (f f' : ByteArray) (x y : Ex) (xp yp : Option Addr) (xc yc : Nat) (c n g a v : Value) (z s k : Int)
theorem qb_14:(qbX tr f x xp xc c n g z s a).setIfInBounds 14 v=qbX tr f x xp xc c n g z s v:=by simp only[qbX,List.setIfInBounds_toArray,List.set_cons_zero,List.set_cons_succ]
theorem qb_11:(qbX tr f x xp xc c n g z s a).setIfInBounds 11 v=qbX tr f x xp xc c n v z s a:=by simp only[qbX,List.setIfInBounds_toArray,List.set_cons_zero,List.set_cons_succ]
theorem qb_12:(qbX tr f x xp xc c n g z s a).setIfInBounds 12 (.int .i64 k)=qbX tr f x xp xc c n g k s a:=by simp only[qbX,List.setIfInBounds_toArray,List.set_cons_zero,List.set_cons_succ]
theorem qb_13:(qbX tr f x xp xc c n g z s a).setIfInBounds 13 (.int .i64 k)=qbX tr f x xp xc c n g z k a:=by simp only[qbX,List.setIfInBounds_toArray,List.set_cons_zero,List.set_cons_succ]
theorem qb_1:(qbX tr f x xp xc c n g z s a).setIfInBounds 1 (.string f')=qbX tr f' x xp xc c n g z s a:=by simp only[qbX,List.setIfInBounds_toArray,List.set_cons_zero,List.set_cons_succ]
theorem qb_c2(u:Value):bc2 (qbX tr f x xp xc c n g z s a) u v=qbX tr f x xp xc u v g z s a:=by simp only[bc2,qbX,List.setIfInBounds_toArray,List.set_cons_zero,List.set_cons_succ]
theorem qb_w:putB (qbX tr f x xp xc c n g z s a) 2 (exL y yp yc)=qbX tr f y yp yc c n g z s a:=by simp only[putB,qbX,List.setIfInBounds_toArray,List.set_cons_zero,List.set_cons_succ,Nat.reduceAdd]
end
abbrev qbC(tr:Nat)(q:Qy)(wp:Option Addr)(wc:Nat)(cp:Option Addr)(cc:Nat)(np:Option Addr)(nc:Nat)(gp:Option Addr)(gc:Nat)(ap:Option Addr)(ac:Nat):Array Value :=
 #[.pointer (some ⟨tr,0,none⟩),.string q.frm,.string q.whr.op,.string q.whr.nm,.int .i64 q.whr.vt,.int .i64 q.whr.vn,.string q.whr.vs,.slice wp q.whr.args.length wc,.int .i64 q.whr.pos,.slice cp q.cols.length cc,.slice np q.names.length nc,.slice gp q.group.length gc,.int .i64 q.size,.int .i64 q.slide,.slice ap q.aggs.length ac]
def QFin(W:World)(tr rb:Nat)(q:Qy):Prop:=∃wp wc cp cc np nc gp gc ap ac,Blk W rb (qbC tr q wp wc cp cc np nc gp gc ap ac) 60∧QyBe W (rb+1≤·) q wp wc cp cc np nc gp gc ap ac∧(cp=none→cc=0)∧q.cols.length≤401∧q.aggs.length≤401
theorem zsy{tr rb:Nat}{v:Value}{u:Option Nat}{xs:List Ex}(hne:tr<rb):KpQ tr rb (fun V=>ArgsO V (rb+1) v u xs):=fun W w' hl h hf=>h.keepB (zjS hf hne) (Nat.le_refl _)
theorem zuO{tr rb:Nat}{v:Value}{xs:List Ag}(hne:tr<rb):KpQ tr rb (fun V=>zbP V (rb+1) v xs):=fun W w' hl h hf=>h.keepB (zjS hf hne) (Nat.le_refl _)
theorem zrx{ts:List Tok}{gs:List ByteArray}{z s:Int}(h:(grU ts).1=some (gs,z,s)):gs.length≤ts.length+1:=by
 rw[grU] at h
 obtain⟨R1,rs1,hj1⟩:=zaI zcd ts
 have l1:rs1.length≤ts.length:=by have:=(zaV zcd ts).length_le;rw[hj1] at this;exact this
 cases R1
 ·rw[zai hj1] at h;exact absurd h (by simp)
 rw[zad hj1] at h
 obtain⟨R2,rs2,hj2⟩:=zaI wBy rs1
 have l2:rs2.length≤rs1.length:=by have:=(zaV wBy rs1).length_le;rw[hj2] at this;exact this
 cases R2
 ·rw[zai hj2] at h;exact absurd h (by simp)
 rw[zad hj2] at h
 cases hs:(sevU nU (rs2.length+1) [] rs2).1 with
 | none=>rw[zai (rs:=(sevU nU (rs2.length+1) [] rs2).2) (Prod.ext hs rfl)] at h;exact absurd h (by simp)
 | some g =>
  have l3:=(zeL zdO _ _ _ _ hs).2
  rw[zad (x:=g) (rs:=(sevU nU (rs2.length+1) [] rs2).2) (Prod.ext hs rfl)] at h
  obtain⟨R4,rs4,hj4⟩:=zaI zce (sevU nU (rs2.length+1) [] rs2).2
  cases R4
  ·rw[zai hj4] at h;exact absurd h (by simp)
  rw[zad hj4] at h
  cases hi:(iU rs4).1 with
  | none=>rw[zai (rs:=(iU rs4).2) (Prod.ext hi rfl)] at h;exact absurd h (by simp)
  | some k =>
   rw[zad (x:=k) (rs:=(iU rs4).2) (Prod.ext hi rfl)] at h
   cases hk:(slU k (iU rs4).2).1 with
   | none=>rw[zai (rs:=(slU k (iU rs4).2).2) (Prod.ext hk rfl)] at h;exact absurd h (by simp)
   | some m =>
    rw[zad (x:=m) (rs:=(slU k (iU rs4).2).2) (Prod.ext hk rfl)] at h
    have e:g=gs:=by
     have:=(Option.some.inj h)
     exact (Prod.mk.inj this).1
    subst e
    simp at l3
    omega
theorem znf(W:World)(tr rb:Nat)(ts rs1:List Tok)(h:QH WZ en W tr rb ts)(hj:jU zaR ts=(none,rs1)) :
  Calls Tryz.prog 12 #[.pointer (some ⟨rb,0,none⟩)] W fun e w'=>e=.returned (.bool false)∧Aside (QH WZ en w' tr rb rs1):=by
 have c1:=zcn zaR W tr rb ts h false rs1 hj
 clear h
 go_enter Tryz.func12,Tryz.ntmps12
 go_wp2_with fail
 refine c1.mono ?_
 rintro e w1 ⟨rfl,Q1,F1⟩
 clear c1
 go_wp2
 go_ret
 exact⟨rfl,Q1⟩
theorem znW(W:World)(tr rb:Nat)(ts rs1:List Tok)(h:QS WZ en W tr rb ts (qb0 tr) (fun _=>True))(hl:ts.length≤400)(hj:jU zaR ts=(some (),rs1))(hnb:nextB agB rs1=false) :
  Calls Tryz.prog 12 #[.pointer (some ⟨rb,0,none⟩)] W fun e w'=>∃R:Bool,e=.returned (.bool R)∧Aside (QH WZ en w' tr rb (qOneU rs1).2)∧Hid ((R=false∧(qOneU rs1).1=none)∨(R=true∧∃q,(qOneU rs1).1=some q∧QFin w' tr rb q)):=by
 have hne:=h.qh.ne
 have hrl:=h.qh.lt
 have c1:=zcn zaR W tr rb ts h.qh true rs1 hj
 have hl1:rs1.length≤400:=by have:=(zaV zaR ts).length_le;rw[hj] at this;simp only at this;omega
 have HS:Aside (QS WZ en W tr rb ts (qb0 tr) (fun _=>True)):=h
 have c2:=fun w1 (q:QS WZ en w1 tr rb rs1 (qb0 tr) (fun _=>True))=>zmQ w1 tr rb rs1 (qb0 tr) q rfl rfl rfl hl1 hnb
 clear h hj hnb
 go_enter Tryz.func12,Tryz.ntmps12
 go_wp2_with fail
 refine c1.mono ?_
 rintro e w1 ⟨rfl,Q1,F1⟩
 have c2':=c2 w1 (HS.out.go (fun _ _ _ _ _=>trivial) F1.out Q1.out)
 clear c1 c2 HS Q1 F1
 go_wp2_with fail
 refine c2'.mono ?_
 rintro e w2 ⟨R2,ls,cq,cc,nq,nc,rfl,S2,HR2⟩
 have hk2:=zoe (zsy (v:=.slice cq ls.length cc) (u:=(Value.slice nq ls.length nc).ownBlock) (xs:=ls.map (·.1)) hne) (zrz (e:=9) (size:=1) (n:=ls.length) (v:=.slice nq ls.length nc) (xs:=(ls.map (·.2)).map .string) hne)
 clear c2'
 obtain⟨rs2,hrs2⟩:∃rs2,(sevU colU (rs1.length+1) [] rs1).2=rs2:=⟨_,rfl⟩
 have hsv:sevU colU (rs1.length+1) [] rs1=(if R2=true then some ls else none,rs2):=Prod.ext HR2.out hrs2
 have hl2:rs2.length≤400:=by rw[←hrs2];have:=(zby zbO (rs1.length+1) [] rs1).length_le;omega
 rw[hrs2,qb_0,qb_c2] at S2
 clear hrs2 HR2
 cases R2
 ·have HA:Hid (qOneU rs1=(none,rs2)):=by show _=_;rw[qOneU,zai hsv]
  go_wp2
  go_ret
  refine⟨false,rfl,?_,.inl ⟨rfl,?_⟩⟩
  ·rw[HA.out];exact S2.out.qh
  ·rw[HA.out]
 have hln:=zeL zbO (rs1.length+1) [] rs1 ls (by rw[hsv];rfl)
 simp at hln
 obtain⟨R3,rs3,hj3⟩:=zaI wFrom rs2
 have hl3:rs3.length≤400:=by have:=(zaV wFrom rs2).length_le;rw[hj3] at this;simp only at this;omega
 have c3:=zcn wFrom w2 tr rb rs2 S2.out.qh R3 rs3 hj3
 cases R3
 ·have HA:Hid (qOneU rs1=(none,rs3)):=by show _=_;rw[qOneU,zad hsv,frU,zai hj3];try rfl
  go_wp2_with fail
  refine c3.mono ?_
  rintro e w3 ⟨rfl,Q3,F3⟩
  clear c3
  go_wp2
  go_ret
  refine⟨false,rfl,?_,.inl ⟨rfl,?_⟩⟩
  ·rw[HA.out];exact Q3
  ·rw[HA.out]
 go_wp2_with fail
 refine c3.mono ?_
 rintro e w3 ⟨rfl,Q3,F3⟩
 have S3:=S2.out.go hk2 F3.out Q3.out
 have hrl3:=S3.qh.lt
 have c4:=znT w3 tr rb rs3 S3.qh rb 1 _ 60 S3.box hne (show 1<15 by decide) (fun _=>Nat.le_refl _)
 clear c3 Q3 F3 S2
 go_wp2_with fail
 refine c4.mono ?_
 rintro e w4 ⟨R4,fr,rfl,Q4,F4,B4,HR4⟩
 have S4:=S3.put hk2 F4.out Q4.out B4.out
 clear c4 Q4 F4 B4 S3
 obtain⟨rs4,hrs4⟩:∃rs4,(nU rs3).2=rs4:=⟨_,rfl⟩
 have hnv:nU rs3=(if R4=true then some fr else none,rs4):=Prod.ext HR4.out hrs4
 have hl4:rs4.length≤400:=by rw[←hrs4];have:=(zdO rs3).length_le;omega
 rw[hrs4,qb_1] at S4
 clear hrs4 HR4
 cases R4
 ·have HA:Hid (qOneU rs1=(none,rs4)):=by show _=_;rw[qOneU,zad hsv,frU,zad hj3,zai hnv];try rfl
  go_wp2
  go_ret
  refine⟨false,rfl,?_,.inl ⟨rfl,?_⟩⟩
  ·rw[HA.out];exact S4.qh
  ·rw[HA.out]
 have c5:=zoq w4 tr rb rs4 _ _ S4 hk2 rfl (qb_w ..)
 clear S4
 go_wp2_with fail
 refine c5.mono ?_
 rintro e w5 ⟨R5,x,xp,xc,rfl,S5,HR5⟩
 clear c5
 obtain⟨rs5,hrs5⟩:∃rs5,(whU rs4).2=rs5:=⟨_,rfl⟩
 have hwv:whU rs4=(if R5=true then some x else none,rs5):=Prod.ext HR5.out hrs5
 have hl5:rs5.length≤400:=by rw[←hrs5];have:=(zkP rs4).length_le;omega
 rw[hrs5,qb_w] at S5
 clear hrs5 HR5
 cases R5
 ·have HA:Hid (qOneU rs1=(none,rs5)):=by show _=_;rw[qOneU,zad hsv,frU,zad hj3,zad hnv,zai hwv];try rfl
  go_wp2
  go_ret
  refine⟨false,rfl,?_,.inl ⟨rfl,?_⟩⟩
  ·rw[HA.out];exact S5.out.qh
  ·rw[HA.out]
 have HF:Hid (frU rs2=(some (fr,x),rs5)):=by show _=_;rw[frU,zad hj3,zad hnv,zad hwv];try rfl
 have htr:tr<rb+1:=by omega
 have hk5:=zoe hk2 (cl_ex (tr:=tr) (rb:=rb) (B:=rb+1) (v:=exV x xp xc) (x:=x) htr (Nat.lt_succ_self rb))
 have c6:=zkt w5 tr rb _ S5.out.box ⟨none,0,rfl⟩
 have HA:Hid (qOneU rs1=(some ⟨fr,x,ls.map (·.1),ls.map (·.2),[],0,0,[]⟩,rs5)):=by show _=_;rw[qOneU,zad hsv,zad HF.out]
 have FIN:Aside (QFin w5 tr rb ⟨fr,x,ls.map (·.1),ls.map (·.2),[],0,0,[]⟩):=by
  refine⟨xp,xc,cq,cc,nq,nc,none,0,none,0,?_,⟨S5.out.inv.2,?_,?_,?_,StsA.nil _,⟨Nat.zero_le _,.inl rfl⟩⟩,fun hcn=>?_,?_,Nat.zero_le _⟩
  ·have:=S5.out.box
   simp only[qbC,List.length_map,List.length_nil]
   exact this
  ·have:=(ArgsO.own S5.out.inv.1.1).is
   simp only[List.length_map]
   exact this
  ·simp only[List.length_map];omega
  ·simp only[List.length_map]
   exact zlJ (by simp) (by omega) S5.out.inv.1.2
  ·obtain⟨cs',h1,-⟩:=S5.out.inv.1.1
   rcases h1.2 with ⟨h2,-⟩|⟨g,cap,cur,h2,-⟩
   ·simp only[Value.slice.injEq] at h2
    exact h2.2.2
   ·simp only[Value.slice.injEq] at h2
    rw[hcn] at h2
    exact absurd h2.1 (by simp)
  ·simp only[List.length_map];omega
 have Q5:=(show Aside _ from S5.out.qh)
 clear S5
 go_wp2_with fail
 refine c6.mono ?_
 rintro e w6 ⟨rfl,hq6⟩
 obtain rfl:=hq6
 clear c6
 go_wp2
 go_ret
 refine⟨true,rfl,?_,.inr ⟨rfl,_,?_,FIN.out⟩⟩
 ·rw[HA.out];exact Q5
 ·rw[HA.out]
theorem znn(W:World)(tr rb:Nat)(ts rs1:List Tok)(h:QS WZ en W tr rb ts (qb0 tr) (fun _=>True))(hl:ts.length≤400)(hj:jU zaR ts=(some (),rs1))(hnb:nextB agB rs1=true) :
  Calls Tryz.prog 12 #[.pointer (some ⟨rb,0,none⟩)] W fun e w'=>∃R:Bool,e=.returned (.bool R)∧Aside (QH WZ en w' tr rb (qTwoU rs1).2)∧Hid ((R=false∧(qTwoU rs1).1=none)∨(R=true∧∃q,(qTwoU rs1).1=some q∧QFin w' tr rb q)):=by
 have hne:=h.qh.ne
 have hrl:=h.qh.lt
 have c1:=zcn zaR W tr rb ts h.qh true rs1 hj
 have hl1:rs1.length≤400:=by have:=(zaV zaR ts).length_le;rw[hj] at this;simp only at this;omega
 have HS:Aside (QS WZ en W tr rb ts (qb0 tr) (fun _=>True)):=h
 have c2:=fun w1 (q:QS WZ en w1 tr rb rs1 (qb0 tr) (fun _=>True))=>znD w1 tr rb rs1 (qb0 tr) q rfl rfl hl1 hnb
 clear h hj hnb
 go_enter Tryz.func12,Tryz.ntmps12
 go_wp2_with fail
 refine c1.mono ?_
 rintro e w1 ⟨rfl,Q1,F1⟩
 have c2':=c2 w1 (HS.out.go (fun _ _ _ _ _=>trivial) F1.out Q1.out)
 clear c1 c2 HS Q1 F1
 go_wp2_with fail
 refine c2'.mono ?_
 rintro e w2 ⟨R2,ls,aq,ac,rfl,S2,HR2⟩
 have hk2:=zuO (v:=.slice aq ls.length ac) (xs:=ls) hne
 clear c2'
 obtain⟨rs2,hrs2⟩:∃rs2,(sevU aggU (rs1.length+1) [] rs1).2=rs2:=⟨_,rfl⟩
 have hsv:sevU aggU (rs1.length+1) [] rs1=(if R2=true then some ls else none,rs2):=Prod.ext HR2.out hrs2
 have hl2:rs2.length≤400:=by rw[←hrs2];have:=(zby zbJ (rs1.length+1) [] rs1).length_le;omega
 rw[hrs2,qb_0,qb_14] at S2
 clear hrs2 HR2
 cases R2
 ·have HA:Hid (qTwoU rs1=(none,rs2)):=by show _=_;rw[qTwoU,zai hsv]
  go_wp2
  go_ret
  refine⟨false,rfl,?_,.inl ⟨rfl,?_⟩⟩
  ·rw[HA.out];exact S2.out.qh
  ·rw[HA.out]
 have hln:=zeL zbJ (rs1.length+1) [] rs1 ls (by rw[hsv];rfl)
 simp at hln
 obtain⟨R3,rs3,hj3⟩:=zaI wFrom rs2
 have hl3:rs3.length≤400:=by have:=(zaV wFrom rs2).length_le;rw[hj3] at this;simp only at this;omega
 have c3:=zcn wFrom w2 tr rb rs2 S2.out.qh R3 rs3 hj3
 cases R3
 ·have HA:Hid (qTwoU rs1=(none,rs3)):=by show _=_;rw[qTwoU,zad hsv,frU,zai hj3];try rfl
  go_wp2_with fail
  refine c3.mono ?_
  rintro e w3 ⟨rfl,Q3,F3⟩
  clear c3
  go_wp2
  go_ret
  refine⟨false,rfl,?_,.inl ⟨rfl,?_⟩⟩
  ·rw[HA.out];exact Q3
  ·rw[HA.out]
 go_wp2_with fail
 refine c3.mono ?_
 rintro e w3 ⟨rfl,Q3,F3⟩
 have S3:=S2.out.go hk2 F3.out Q3.out
 have hrl3:=S3.qh.lt
 have c4:=znT w3 tr rb rs3 S3.qh rb 1 _ 60 S3.box hne (show 1<15 by decide) (fun _=>Nat.le_refl _)
 clear c3 Q3 F3 S2
 go_wp2_with fail
 refine c4.mono ?_
 rintro e w4 ⟨R4,fr,rfl,Q4,F4,B4,HR4⟩
 have S4:=S3.put hk2 F4.out Q4.out B4.out
 clear c4 Q4 F4 B4 S3
 obtain⟨rs4,hrs4⟩:∃rs4,(nU rs3).2=rs4:=⟨_,rfl⟩
 have hnv:nU rs3=(if R4=true then some fr else none,rs4):=Prod.ext HR4.out hrs4
 have hl4:rs4.length≤400:=by rw[←hrs4];have:=(zdO rs3).length_le;omega
 rw[hrs4,qb_1] at S4
 clear hrs4 HR4
 cases R4
 ·have HA:Hid (qTwoU rs1=(none,rs4)):=by show _=_;rw[qTwoU,zad hsv,frU,zad hj3,zai hnv];try rfl
  go_wp2
  go_ret
  refine⟨false,rfl,?_,.inl ⟨rfl,?_⟩⟩
  ·rw[HA.out];exact S4.qh
  ·rw[HA.out]
 have c5:=zoq w4 tr rb rs4 _ _ S4 hk2 rfl (qb_w ..)
 clear S4
 go_wp2_with fail
 refine c5.mono ?_
 rintro e w5 ⟨R5,x,xp,xc,rfl,S5,HR5⟩
 clear c5
 obtain⟨rs5,hrs5⟩:∃rs5,(whU rs4).2=rs5:=⟨_,rfl⟩
 have hwv:whU rs4=(if R5=true then some x else none,rs5):=Prod.ext HR5.out hrs5
 have hl5:rs5.length≤400:=by rw[←hrs5];have:=(zkP rs4).length_le;omega
 rw[hrs5,qb_w] at S5
 clear hrs5 HR5
 cases R5
 ·have HA:Hid (qTwoU rs1=(none,rs5)):=by show _=_;rw[qTwoU,zad hsv,frU,zad hj3,zad hnv,zai hwv];try rfl
  go_wp2
  go_ret
  refine⟨false,rfl,?_,.inl ⟨rfl,?_⟩⟩
  ·rw[HA.out];exact S5.out.qh
  ·rw[HA.out]
 have HF:Hid (frU rs2=(some (fr,x),rs5)):=by show _=_;rw[frU,zad hj3,zad hnv,zad hwv];try rfl
 have htr:tr<rb+1:=by omega
 have hk5:=zoe hk2 (cl_ex (tr:=tr) (rb:=rb) (B:=rb+1) (v:=exV x xp xc) (x:=x) htr (Nat.lt_succ_self rb))
 have c6:=zug w5 tr rb rs5 _ _ S5.out hk5 rfl rfl rfl rfl aq ls.length ac rfl (by omega) (by omega) hl5
 clear S5
 go_wp2_with fail
 refine c6.mono ?_
 rintro e w6 ⟨R6,rfl,Q6,HR6⟩
 clear c6
 cases R6
 ·have hgn:(grU rs5).1=none:=by
   rcases HR6.out with ⟨-,h⟩|⟨h,-⟩
   ·exact h
   ·exact absurd h (by decide)
  have HA:Hid (qTwoU rs1=(none,(grU rs5).2)):=by show _=_;rw[qTwoU,zad hsv,zad HF.out,zai (rs:=(grU rs5).2) (Prod.ext hgn rfl)]
  clear HR6
  go_wp2
  go_ret
  refine⟨false,rfl,?_,.inl ⟨rfl,?_⟩⟩
  ·rw[HA.out];exact Q6
  ·rw[HA.out]
 ·obtain⟨gs,gq,gc,z,s,hgs,S6⟩:∃gs gq gc z s,(grU rs5).1=some (gs,z,s)∧_:=by
   rcases HR6.out with ⟨h,-⟩|⟨-,h⟩
   ·exact absurd h (by decide)
   ·exact h
  have HA:Hid (qTwoU rs1=(some ⟨fr,x,[],[],gs,z,s,ls⟩,(grU rs5).2)):=by show _=_;rw[qTwoU,zad hsv,zad HF.out,zad (x:=(gs,z,s)) (rs:=(grU rs5).2) (Prod.ext hgs rfl)]
  rw[qb_11,qb_12,qb_13] at S6
  have FIN:Aside (QFin w6 tr rb ⟨fr,x,[],[],gs,z,s,ls⟩):=by
   refine⟨xp,xc,none,0,none,0,gq,gc,aq,ac,S6.box,⟨S6.inv.1.2,zbu _ _,Nat.zero_le _,StsA.nil _,?_,?_⟩,fun _=>rfl,Nat.zero_le _,(show ls.length≤401 by omega)⟩
   ·have hgl:gs.length≤1048576:=by
     have:=zrx hgs
     omega
    exact zlJ rfl hgl S6.inv.2
   ·exact zbP.is S6.inv.1.1 (by simp only;omega)
  clear HR6 S6 hgs
  go_wp2
  go_ret
  refine⟨true,rfl,?_,.inr ⟨rfl,_,?_,FIN.out⟩⟩
  ·rw[HA.out];exact Q6
  ·rw[HA.out]
end
section
open Go.BigFrame
theorem zps{w:World}{lo:Nat→Prop}{p:Option Addr}{l:List Ag}(h:AgsIs w lo p l){j:Nat}(hj:j<l.length):∃ba oa yp yc,p=some ⟨ba,oa,none⟩∧ba<w.heap.size∧lo ba∧w.rangeAt ba (oa+j*9) [.string l[j].what,.string l[j].arg.op,.string l[j].arg.nm,.int .i64 l[j].arg.vt,.int .i64 l[j].arg.vn,.string l[j].arg.vs,.slice yp l[j].arg.args.length yc,.int .i64 l[j].arg.pos,.string l[j].name]∧ExIn w lo (exV l[j].arg yp yc) l[j].arg:=by
 obtain⟨-,h⟩:=h
 rcases h with h0|⟨ba,oa,e,hbl,hlo,hE⟩
 ·exact absurd h0 (by omega)
 ·obtain⟨yp,yc,c0,c1,c2,c3,c4,c5,c6,c7,c8,hx⟩:=hE j hj
  refine⟨ba,oa,yp,yc,e,hbl,hlo,fun k v hv=>?_,hx⟩
  have hk:k<9:=by have:=(List.getElem?_eq_some_iff.1 hv).1;simpa using this
  have:k=0∨k=1∨k=2∨k=3∨k=4∨k=5∨k=6∨k=7∨k=8:=by omega
  rcases this with rfl|rfl|rfl|rfl|rfl|rfl|rfl|rfl|rfl
  all_goals (simp at hv;subst hv;assumption)
theorem zdu{w w':World}{b o:Nat}{cs:List Value}(h:w.rangeAt b o cs)(hb:b<w.heap.size)(hw:Below w.heap.size w w'):w'.rangeAt b o cs:=fun j v hv=>by
 rw[hw.cell (p:=⟨b,o+j,none⟩) hb];exact h j v hv
theorem zjN(q:Qy)(lo:Nat→Prop)(wp:Option Addr)(wc:Nat)(cp:Option Addr)(cc:Nat)(np:Option Addr)(nc:Nat)(gp:Option Addr)(gc:Nat)(ap:Option Addr)(ac:Nat)(QC:Array Value)(hQ:QV QC q cp cc np nc gp gc ap ac)(vl:Value)(zs:List Cl)(w:World)(henv:KEnv w)(hB:QyBe w lo q wp wc cp cc np nc gp gc ap ac)(hcv:ColsV w vl zs)(i:Nat)(hi:i<q.cols.length)(hsz:(q.cols[i].pre 1).length≤1048576)(T E:Int)(hR:tyAt zs q i=(T,E)) :
  Calls Tryz.prog 104 #[.agg QC,.int .i64 (i:Int),vl] w fun e w'=>e=.returned (.tuple #[.int .i64 T,errV E])∧Below w.heap.size w w':=by
 have b1:=(Below.refl w.heap.size w).alloc (Nat.le_refl _) (.cells QC 34)
 obtain⟨z1,z2,rfl⟩:=zaO hcv
 obtain⟨ba,oa,yp,yc,rfl,hbl,-,hrg,hx⟩:=zfn hB.cols hi
 have hR2:ofT zs q.cols[i]=(T,E):=by
  rw[tyAt,if_pos hi,List.getElem?_eq_getElem hi] at hR
  exact hR
 have cT:=zhC _ lo _ _ zs _ (henv.on b1) (hx.on b1) hsz (hcv.on b1) T E hR2
 have hrg2:=zdu hrg hbl b1
 have hclen:=hB.clen
 obtain⟨hs,h8,-⟩:=hQ
 clear hs hR hR2 hx hrg hcv henv hB hsz
 generalize q.cols[i]=x at cT hrg2
 obtain⟨op,nm,vt,vn,vs,pos,l⟩:=x
 simp only[exV,Ex.op,Ex.nm,Ex.vt,Ex.vn,Ex.vs,Ex.args,Ex.pos] at cT hrg2
 generalize l.length=NL at cT hrg2
 generalize q.cols.length=NC at h8 hi hclen
 generalize zs.length=NZ at cT ⊢
 have hld:∀{ops:Array Oper} {rest:List Oper} {op':Oper} {a:Act} {Q:Exit→Act→World→Prop} (hgd:op'.guard=none) (x:Operand) (ho:op'.op=.load 30 x) (hx:a.eval x=.pointer (some ⟨ba,oa+i*7,none⟩)),wpList Tryz.prog ops Q rest (a.put op'.dst (.agg #[.string op,.string nm,.int .i64 vt,.int .i64 vn,.string vs,.slice yp NL yc,.int .i64 pos])) (w.alloc (.cells QC 34))→wpList Tryz.prog ops Q (op'::rest) a (w.alloc (.cells QC 34)):=fun hgd x ho hx=>wpList_load_mid hgd 30 x ho ba (oa+i*7) hx _ _ hrg2 Tryz.underlying30 rfl zaM
 have hiz:(i:Int)<(NC:Int):=by omega
 have h0z:(0:Int)≤(i:Int):=by omega
 clear hrg2
 go_enter Tryz.func104,Tryz.ntmps104
 go_wp2_with (refine hld rfl _ rfl rfl ?_)
 go_wp2_with fail
 refine cT.mono ?_
 rintro e w1 ⟨rfl,b2⟩
 clear hld cT
 go_wp2
 go_ret2
 exact⟨rfl,b1.trans (b2.mono (by simp))⟩
theorem zjW(q:Qy)(lo:Nat→Prop)(wp:Option Addr)(wc:Nat)(cp:Option Addr)(cc:Nat)(np:Option Addr)(nc:Nat)(gp:Option Addr)(gc:Nat)(ap:Option Addr)(ac:Nat)(QC:Array Value)(hQ:QV QC q cp cc np nc gp gc ap ac)(vl:Value)(zs:List Cl)(w:World)(henv:KEnv w)(haenv:AEnv w)(hB:QyBe w lo q wp wc cp cc np nc gp gc ap ac)(hcv:ColsV w vl zs)(k:Nat)(hk:k<q.aggs.length)(hc0:q.cols.length=0)(hg6:q.group.length≤6)(hsz:(q.aggs[k].arg.pre 1).length≤1048576)(T E:Int)(hR:tyAt zs q (q.group.length+k)=(T,E)) :
  Calls Tryz.prog 104 #[.agg QC,.int .i64 ((q.group.length+k:Nat):Int),vl] w fun e w'=>e=.returned (.tuple #[.int .i64 T,errV E])∧Below w.heap.size w w':=by
 have b1:=(Below.refl w.heap.size w).alloc (Nat.le_refl _) (.cells QC 34)
 obtain⟨z1,z2,rfl⟩:=zaO hcv
 obtain⟨ba,oa,yp,yc,rfl,hbl,-,hrg,hx⟩:=zps hB.aggs hk
 have hR2:agQ zs q.aggs[k]=(T,E):=by
  rw[tyAt,if_neg (by omega),if_neg (by omega),Nat.add_sub_cancel_left,List.getElem?_eq_getElem hk] at hR
  exact hR
 have cT:=zjs _ lo yp yc _ zs _ (henv.on b1) (haenv.on b1) (hx.on b1) hsz (hcv.on b1) T E hR2
 have hrg2:=zdu hrg hbl b1
 have halen:=hB.aggs.1
 obtain⟨hs,h8,-,h10,-,-,h13⟩:=hQ
 clear hs hR hR2 hx hrg hcv henv haenv hB hsz
 rw[hc0] at h8
 clear hc0
 generalize q.aggs[k]=x at cT hrg2
 obtain⟨what,⟨op,nm,vt,vn,vs,pos,l⟩,name⟩:=x
 simp only[agV,exV,Ex.op,Ex.nm,Ex.vt,Ex.vn,Ex.vs,Ex.args,Ex.pos] at cT hrg2
 generalize l.length=NL at cT hrg2
 generalize q.aggs.length=NA at h13 hk halen
 generalize q.group.length=NG at h10 hg6 ⊢
 generalize zs.length=NZ at cT ⊢
 have hld:∀{ops:Array Oper} {rest:List Oper} {op':Oper} {a:Act} {Q:Exit→Act→World→Prop} (hgd:op'.guard=none) (x:Operand) (ho:op'.op=.load 92 x) (hx:a.eval x=.pointer (some ⟨ba,oa+k*9,none⟩)),wpList Tryz.prog ops Q rest (a.put op'.dst (.agg #[.string what,.string op,.string nm,.int .i64 vt,.int .i64 vn,.string vs,.slice yp NL yc,.int .i64 pos,.string name])) (w.alloc (.cells QC 34))→wpList Tryz.prog ops Q (op'::rest) a (w.alloc (.cells QC 34)):=fun hgd x ho hx=>wpList_load_mid hgd 92 x ho ba (oa+k*9) hx _ _ hrg2 Tryz.underlying92 rfl zgX
 have hiz:(k:Int)<(NA:Int):=by omega
 have h0z:(0:Int)≤(k:Int):=by omega
 have e0:((NG+k:Nat):Int)-(NG:Int)=(k:Int):=by omega
 obtain⟨I,hI⟩:∃I:Int,((NG+k:Nat):Int)=I:=⟨_,rfl⟩
 have hwr:IntKind.i64.wrap (I-(NG:Int))=(k:Int):=by rw[←hI,e0,IntKind.wrap_i64];omega
 have hi1:¬I<0:=by omega
 have hi2:¬I<(NG:Int):=by omega
 rw[hI]
 clear hrg2 e0 hI
 go_enter Tryz.func104,Tryz.ntmps104
 go_wp2_with (refine hld rfl _ rfl rfl ?_)
 go_wp2_with fail
 refine cT.mono ?_
 rintro e w1 ⟨rfl,b2⟩
 clear hld cT
 go_wp2
 go_ret2
 exact⟨rfl,b1.trans (b2.mono (by simp))⟩
theorem zha(q:Qy)(lo:Nat→Prop)(wp:Option Addr)(wc:Nat)(cp:Option Addr)(cc:Nat)(np:Option Addr)(nc:Nat)(gp:Option Addr)(gc:Nat)(ap:Option Addr)(ac:Nat)(QC:Array Value)(hQ:QV QC q cp cc np nc gp gc ap ac)(vl:Value)(zs:List Cl)(w:World)(hB:QyBe w lo q wp wc cp cc np nc gp gc ap ac)(hcv:ColsV w vl zs)(hz0:zs.length≠0)(hz6:zs.length≤6)(i:Nat)(hi:i<q.group.length)(hc0:q.cols.length=0)(hg6:q.group.length≤6)(T E:Int)(hR:tyAt zs q i=(T,E)) :
  Calls Tryz.prog 104 #[.agg QC,.int .i64 (i:Int),vl] w fun e w'=>e=.returned (.tuple #[.int .i64 T,errV E])∧Below w.heap.size w w':=by
 have b1:=(Below.refl w.heap.size w).alloc (Nat.le_refl _) (.cells QC 34)
 obtain⟨z1,z2,rfl⟩:=zaO hcv
 have hR2:grT zs (q.group.take i) q.group[i]=(T,E):=by
  rw[tyAt,if_neg (by omega),if_pos hi,List.getElem?_eq_getElem hi] at hR
  exact hR
 have hst:=hB.group
 obtain⟨gb,go,rfl,hgl,hgc⟩:=zeI hst hi
 have hcell:=hgc i hi
 obtain⟨p1,c1,hsl,hst1⟩:=zja hst rfl (Nat.le_of_lt hi)
 have hlt:(q.group.take i).length=i:=by rw[List.length_take];omega
 have cT:=fun W (hb:Below w.heap.size w W)=>zfC q.group[i] p1 i c1 (q.group.take i) _ zs W hlt (hst1.on hb) (by omega) (hcv.on hb) hz0 hz6 T E hR2
 rw[←b1.cell (p:=⟨gb,go+i,none⟩) hgl] at hcell
 obtain⟨hs,h8,-,h10,-⟩:=hQ
 clear hs hR hR2 hcv hB hgc hst hst1 hlt
 rw[hc0] at h8
 clear hc0
 generalize q.group[i]=x at cT hcell
 generalize q.group.length=NG at h10 hi hg6 hsl
 generalize zs.length=NZ at cT ⊢
 have hiz:(i:Int)<(NG:Int):=by omega
 have h0z:(0:Int)≤(i:Int):=by omega
 have hgl1:gb<w.heap.size+1:=by omega
 go_enter Tryz.func104,Tryz.ntmps104
 go_wp2
 go_region_with (go_at_call 131;refine (cT _ (by repeat (first|exact b1|apply below_drewN|refine Below.drew ?_))).mono ?_;rintro e' w1 ⟨rfl,b2⟩)
 all_goals
  go_wp2
  go_ret2
  exact⟨rfl,(Below.drew b1).trans (b2.mono (by simp))⟩
end
--BEGIN
theorem zjE{l:List Ex}(h:∀y∈l,∀d,(y.pre d).length=y.size)(d:Nat):(Ex.pres d l).length=Ex.sizes l:=by
 induction l with
 | nil=>rw[Ex.pres,Ex.sizes];rfl
 | cons x xs ih =>
  rw[Ex.pres,Ex.sizes,List.length_append,h x List.mem_cons_self,ih (fun y hy=>h y (List.mem_cons_of_mem _ hy))]
theorem zlc:∀(x:Ex) (d:Nat),(x.pre d).length=x.size:=by
 refine Ex.ind fun op nm vt vn vs pos args ih d=>?_
 rw[Ex.pre,Ex.size,List.length_cons,zjE ih];omega
def Szd(sub:List Tok→Option Ex×List Tok):Prop:=∀ts y,(sub ts).1=some y→y.size+(sub ts).2.length≤ts.length
theorem ziv{sub:List Tok→Option Ex×List Tok}(hs:Szd sub)(gs:List (List UInt8)):∀(k:Nat) (e:Ex) (ts:List Tok) (y:Ex),(uLoop sub gs k e ts).1=some y→y.size+(uLoop sub gs k e ts).2.length≤e.size+ts.length
 | 0,e,ts,y,h=>by rw[uLoop] at h ⊢;simp only[Option.some.injEq] at h;subst h;exact Nat.le_refl _
 | k+1,e,ts,y,h=>by
  rw[uLoop] at h ⊢
  cases hn:nxT (sgT gs) ts with
  | none=>rw[hn] at h;simp only[Option.some.injEq] at h;subst h;exact Nat.le_refl _
  | some q =>
   obtain⟨t,r⟩:=q
   rw[hn] at h
   have h1:=(zag hn).1
   subst h1
   simp only at h ⊢
   have h2:=hs r
   cases h3:sub r with
   | mk o r2 =>
    rw[h3] at h h2
    cases o with
    | none=>exact absurd h (by simp)
    | some b =>
     have h4:=h2 b rfl
     have h5:=ziv hs gs k (betT e t b) r2 y h
     rw[betT,Ex.size,Ex.sizes,Ex.sizes,Ex.sizes] at h5
     simp only[List.length_cons] at h4 ⊢
     simp only[betT] at h5 ⊢
     omega
theorem zfe{sub:List Tok→Option Ex×List Tok}(hs:Szd sub)(gs:List (List UInt8)):Szd (uSev sub gs):=by
 intro ts y h
 have h2:=hs ts
 rw[uSev] at h ⊢
 cases h3:sub ts with
 | mk o r =>
  rw[h3] at h h2
  cases o with
  | none=>exact absurd h (by simp)
  | some e =>
   have h4:=h2 e rfl
   have h5:=ziv hs gs (r.length+1) e r y h
   simp only at h4 h5 ⊢
   omega
theorem zgk{sub other:List Tok→Option Ex×List Tok}(hs:Szd sub)(ho:Szd other)(op:List UInt8)(gs:List (List UInt8)):Szd (zba op gs sub other):=by
 intro ts y h
 rw[zba] at h ⊢
 cases hn:nxT (sgT gs) ts with
 | none=>rw[hn] at h;exact ho ts y h
 | some q =>
  obtain⟨t,r⟩:=q
  rw[hn] at h
  have h1:=(zag hn).1
  subst h1
  have h2:=hs r
  simp only at h ⊢
  cases h3:sub r with
  | mk o r2 =>
   rw[h3] at h h2
   cases o with
   | none=>exact absurd h (by simp)
   | some e =>
    have h4:=h2 e rfl
    simp only[Option.some.injEq] at h
    subst h
    rw[op1,Ex.size,Ex.sizes,Ex.sizes]
    simp only[List.length_cons] at h4 ⊢
    omega
theorem zqL{sub:List Tok→Option Ex×List Tok}(hs:Szd sub):Szd (uCmp sub):=by
 intro ts y h
 have h2:=hs ts
 rw[uCmp] at h ⊢
 cases h3:sub ts with
 | mk o r =>
  rw[h3] at h h2
  cases o with
  | none=>exact absurd h (by simp)
  | some e =>
   have h4:=h2 e rfl
   simp only at h h4 ⊢
   cases hn:nxT (sgT cmpL) r with
   | none=>rw[hn] at h;simp only[Option.some.injEq] at h;subst h;exact h4
   | some q =>
    obtain⟨t,r2⟩:=q
    rw[hn] at h
    have h1:=(zag hn).1
    subst h1
    have h5:=hs r2
    simp only at h ⊢
    cases h6:sub r2 with
    | mk o r3 =>
     rw[h6] at h h5
     cases o with
     | none=>exact absurd h (by simp)
     | some b =>
      have h7:=h5 b rfl
      simp only[Option.some.injEq] at h
      subst h
      rw[betT,Ex.size,Ex.sizes,Ex.sizes,Ex.sizes]
      simp only[List.length_cons] at h4 h7 ⊢
      omega
theorem zhV:∀(l m:List Ex),Ex.sizes (l++m)=Ex.sizes l+Ex.sizes m
 | [],m=>by rw[Ex.sizes,List.nil_append];omega
 | x::l,m=>by rw[List.cons_append,Ex.sizes,Ex.sizes,zhV l m];omega
theorem zmb{sub:List Tok→Option Ex×List Tok}(hs:Szd sub):∀(k:Nat) (acc:List Ex) (ts:List Tok) (l:List Ex),(uBr sub k acc ts).1=some l→Ex.sizes l+(uBr sub k acc ts).2.length+1≤Ex.sizes acc+ts.length
 | 0,acc,ts,l,h=>by
  rw[uBr] at h ⊢
  cases hn:nxT (sgT [[41]]) ts with
  | none=>rw[hn] at h;exact absurd h (by simp)
  | some q =>
   obtain⟨t,r⟩:=q
   rw[hn] at h
   have h1:=(zag hn).1
   subst h1
   simp only[Option.some.injEq] at h
   subst h
   simp only[List.length_cons]
   omega
 | k+1,acc,ts,l,h=>by
  rw[uBr] at h ⊢
  cases hn:nxT (sgT [if acc.length=0 then [40] else [44]]) ts with
  | none=>rw[hn] at h;exact absurd h (by simp)
  | some q =>
   obtain⟨t,r⟩:=q
   rw[hn] at h
   have h1:=(zag hn).1
   subst h1
   have h2:=hs r
   simp only at h ⊢
   cases h3:sub r with
   | mk o r2 =>
    rw[h3] at h h2
    cases o with
    | none=>exact absurd h (by simp)
    | some e =>
     have h4:=h2 e rfl
     have h5:=zmb hs k (acc++[e]) r2 l h
     rw[zhV,Ex.sizes,Ex.sizes] at h5
     simp only[List.length_cons] at h4 h5 ⊢
     omega
theorem zpt{sub:List Tok→Option Ex×List Tok}(hs:Szd sub):Szd (uOne sub):=by
 intro ts y h
 cases hn:nxT (sgT lenIf) ts with
 | some q =>
  obtain⟨t,r⟩:=q
  rw[zdh hn] at h ⊢
  have h1:=(zag hn).1
  have h2:=zmb hs (manyT t) [] r
  cases h3:(uBr sub (manyT t) [] r).1 with
  | none=>rw[h3] at h;exact absurd h (by simp)
  | some l =>
   rw[h3] at h
   simp only[Option.map_some,Option.some.injEq] at h
   have h4:=h2 l h3
   rw[←h,Ex.size,h1]
   rw[Ex.sizes] at h4
   simp only[List.length_cons]
   omega
 | none =>
  cases hv:nxT vlT ts with
  | some q =>
   obtain⟨t,r⟩:=q
   rw[zeZ hn hv] at h ⊢
   simp only[Option.some.injEq] at h
   rw[←h,valE,Ex.size,Ex.sizes,(zag hv).1,List.length_cons]
   show 1+0+r.length≤r.length+1
   omega
  | none =>
   cases hc:nxT nmT ts with
   | some q =>
    obtain⟨t,r⟩:=q
    rw[zeR hn hv hc] at h ⊢
    simp only[Option.some.injEq] at h
    rw[←h,colE1,Ex.size,Ex.sizes,(zag hc).1,List.length_cons]
    show 1+0+r.length≤r.length+1
    omega
   | none =>
    rw[zio hn hv hc] at h ⊢
    have h2:=zmb hs 1 [] ts
    have h5:=zeq (sub:=sub) 1 [] ts
    cases h3:(uBr sub 1 [] ts).1 with
    | none=>rw[h3] at h;exact absurd h (by simp)
    | some l =>
     rw[h3] at h
     have h4:=h2 l h3
     have h6:=h5 l h3
     match l,h6 with
     | [x],_ =>
      simp only[Option.bind_some,List.head?_cons,Option.some.injEq] at h
      subst h
      rw[Ex.sizes,Ex.sizes,Ex.sizes] at h4
      simp only
      omega
theorem zsB:∀(f lv:Nat),Szd (uE f lv)
 | 0,lv=>fun ts y h=>by rw[uE] at h;exact absurd h (by simp)
 | f+1,lv=>by
  have ih:=fun lv=>zsB f lv
  intro ts
  unfold uE
  split
  ·exact zfe (ih 1) _ ts
  ·exact zfe (ih 2) _ ts
  ·exact zgk (ih 2) (ih 3) _ _ ts
  ·exact zqL (ih 4) ts
  ·exact zfe (ih 5) _ ts
  ·exact zfe (ih 6) _ ts
  ·exact zgk (ih 6) (ih 7) _ _ ts
  ·exact zpt (ih 0) ts
--END
section
open Go.BigFrame
variable {en : Nat}

theorem zjF{s:List UInt8}{R:List Tok}{E:Int}{P:Nat}(h:zaC s=(R,E,P)):R.length≤400∧Fit R:=by
 by_cases he:E=0
 ·subst he
  obtain⟨h1,_,h3,_⟩:=zcX h
  obtain⟨h4,h5⟩:=zeh s R 0 (Nat.zero_le _) h3
  exact⟨by omega,fun t ht=>by have:=(h5 t ht).1;omega⟩
 ·obtain⟨rfl,_⟩:=zlE h he
  exact⟨by simp,fun t ht=>absurd ht (by simp)⟩
theorem zoF(w:World)(r:Nat)(ts:List Tok)(h:RdAt en w r ts):Calls Tryz.prog 14 #[.pointer (some ⟨r,0,none⟩)] w fun e w'=>e=.returned (.int .i64 (zgI ts en:Nat))∧w'=w:=by
 cases ts with
 | nil =>
  have cE:=zdt w r h
  have hfin:=h.fin
  have hl:=h.lt
  rw[zgI]
  clear h
  go_enter Tryz.func14,Tryz.ntmps14
  go_wp2_with fail
  refine cE.mono ?_
  rintro e w1 ⟨rfl,rfl⟩
  clear cE
  go_wp2
  go_ret
  exact⟨rfl,rfl⟩
 | cons t ts =>
  have cE:=zdV w r t ts h
  obtain⟨⟨p,c,h1,h2,h3⟩,hfz,hl,hfin⟩:=h
  rcases h3 with h3|⟨b,off,rfl,hbr,h4⟩
  ·simp at h3
  obtain⟨d0,d1,d2⟩:=h4.2 0 (by simp)
  have hbl:=h4.1
  have hlen:(0:Int)<((t::ts).length:Int):=by rw[List.length_cons];omega
  obtain⟨tk,tx,ta⟩:=t
  simp only[List.getElem_cons_zero,Nat.zero_mul,Nat.add_zero] at d0 d1 d2
  rw[zgI]
  simp only
  generalize ((tk,tx,ta)::ts).length=L at h1 h2 hlen cE
  clear h4 hfin
  go_enter Tryz.func14,Tryz.ntmps14
  go_wp2_with fail
  refine cE.mono ?_
  rintro e w1 ⟨rfl,rfl⟩
  clear cE
  go_wp2
  go_ret
  exact⟨rfl,rfl⟩
structure Bx2(w:World)(b:Nat)(a0 a1:Value):Prop where
 c0:w.cell? ⟨b,0,none⟩=some a0
 c1:w.cell? ⟨b,1,none⟩=some a1
 fz:∀o,w.frozen? ⟨b,o,none⟩=false
 lt:b<w.heap.size
theorem Bx2.on{w w':World}{b:Nat}{a0 a1:Value}(h:Bx2 w b a0 a1)(hb:Below w.heap.size w w'):Bx2 w' b a0 a1:=by
 obtain⟨c0,c1,fz,lt⟩:=h
 exact⟨by rw[hb.cell (p:=⟨b,0,none⟩) lt];exact c0,by rw[hb.cell (p:=⟨b,1,none⟩) lt];exact c1,fun o=>by rw[hb.frozen (p:=⟨b,o,none⟩) lt];exact fz o,by have:=hb.size;omega⟩
theorem zeU{w:World}{a:Addr}{v:Value}(h:w.cell? a=some v)(b:Addr):(w.setCell a v).cell? b=w.cell? b:=by
 by_cases e:a=b
 ·subst e
  rw[World.cell?_setCell_same _ _ _ h,h]
 ·exact World.cell?_setCell_other _ _ _ _ e
theorem zgo(s:ByteArray)(w:World)(henv:TEnv w)(hw:SG w)(R:List Tok)(E:Int)(P:Nat)(hL:zaC s.data.toList=(R,E,P))(hE:E≠0)(hs:s.size≤maxLen) :
  Calls Tryz.prog 11 #[.string s] w fun e w'=>e=.returned (.tuple #[.pointer none,.agg #[.int .i64 E,.int .i64 (P:Nat)]])∧Below w.heap.size w w':=by
 have HE:Aside (TEnv w):=henv
 have HW:Aside (SG w):=hw
 have hG:=henv.big
 have b1:Below w.heap.size w (w.alloc (.cells #[.int .i64 0,.int .i64 0] 37)):=al w _
 have Y0:Bx2 (w.alloc (.cells #[.int .i64 0,.int .i64 0] 37)) w.heap.size (.int .i64 0) (.int .i64 0):=⟨by rw[World.cell?_alloc_at _ _ _ _ (by simp)];rfl,by rw[World.cell?_alloc_at _ _ _ _ (by simp)];rfl,fun o=>World.frozen?_alloc_at _ _ _ _ (by simp),by simp⟩
 have cT:=zfD s R E P _ ((HE.out.on b1).env) (HW.out.on b1) hL
 have hb0:(E == 0)=false:=by simpa using hE
 unfold maxLen at hs
 clear henv hw
 go_enter Tryz.func11,Tryz.ntmps11
 go_wp2_with fail
 refine cT.mono ?_
 rintro e w2 ⟨⟨vl,rfl,hT,hcap⟩,b2⟩
 have Y2:=Y0.on b2
 have B2:=b1.trans (b2.mono (by simp))
 have hz2:w.heap.size+1≤w2.heap.size:=by have:=b2.size;simpa using this
 obtain⟨lp,lc,rfl,hlm,hT⟩:=hT
 clear cT Y0 b1 b2 hT
 obtain⟨y0,y1,yf,yl⟩:=Y2
 have yf0:=yf 0
 have yf1:=yf 1
 clear yf
 go_wp2
 go_region
 all_goals
  go_wp2
  refine bodyPost_ret (v:=.tuple #[.pointer none,.agg #[.int .i64 E,.int .i64 (P:Nat)]]) (by simp[results,Tryz.results11,go_sem,y0,y1,yl]) rfl ⟨rfl,?_⟩
  exact Below.drew (((B2.setCell (p:=⟨w.heap.size,0,none⟩) (by simp) _).setCell (p:=⟨w.heap.size,1,none⟩) (by simp) _).alloc (by simp[World.setCell];omega) _)
theorem zfm(s:ByteArray)(w:World)(henv:TEnv w)(hw:SG w)(R:List Tok)(hL:zaC s.data.toList=(R,0,0))(hs:s.size≤maxLen) :
  Calls Tryz.prog 11 #[.string s] w fun e w'=>(∃r,e=.returned (.tuple #[.pointer (some ⟨r,0,none⟩),.agg #[.int .i64 0,.int .i64 0]])∧w.heap.size≤r∧RdAt s.size w' r R)∧Below w.heap.size w w':=by
 have HE:Aside (TEnv w):=henv
 have HW:Aside (SG w):=hw
 have hG:=henv.big
 have b1:Below w.heap.size w (w.alloc (.cells #[.int .i64 0,.int .i64 0] 37)):=al w _
 have Y0:Bx2 (w.alloc (.cells #[.int .i64 0,.int .i64 0] 37)) w.heap.size (.int .i64 0) (.int .i64 0):=⟨by rw[World.cell?_alloc_at _ _ _ _ (by simp)];rfl,by rw[World.cell?_alloc_at _ _ _ _ (by simp)];rfl,fun o=>World.frozen?_alloc_at _ _ _ _ (by simp),by simp⟩
 have cT:=zfD s R 0 0 _ ((HE.out.on b1).env) (HW.out.on b1) hL
 unfold maxLen at hs
 clear henv hw
 go_enter Tryz.func11,Tryz.ntmps11
 go_wp2_with fail
 refine cT.mono ?_
 rintro e w2 ⟨⟨vl,rfl,hT,hcap⟩,b2⟩
 have Y2:=Y0.on b2
 have B2:=b1.trans (b2.mono (by simp))
 have hz2:w.heap.size+1≤w2.heap.size:=by have:=b2.size;simpa using this
 obtain⟨lp,lc,rfl,hlm,hT⟩:=hT
 have HT:Aside (R.length=0∨∃b off,lp=some ⟨b,off,none⟩∧zgH w2 b off R):=hT
 have hcap:R.length≤lc:=hcap
 clear cT Y0 b1 b2 hT
 obtain⟨y0,y1,yf,yl⟩:=Y2
 have yf0:=yf 0
 have yf1:=yf 1
 clear yf
 go_wp2
 have hset:∀a:Addr,((w2.setCell ⟨w.heap.size,0,none⟩ (.int .i64 0)).setCell ⟨w.heap.size,1,none⟩ (.int .i64 0)).cell? a=w2.cell? a:=fun a=>by
  rw[zeU (by rw[zeU y0];exact y1),zeU y0]
 have hsz:((w2.setCell ⟨w.heap.size,0,none⟩ (.int .i64 0)).setCell ⟨w.heap.size,1,none⟩ (.int .i64 0)).heap.size=w2.heap.size:=by simp[World.setCell]
 refine bodyPost_ret (v:=.tuple #[.pointer (some ⟨w2.heap.size+1,0,none⟩),.agg #[.int .i64 0,.int .i64 0]]) (by simp[results,Tryz.results11,go_sem,y0,y1,yl,Nat.lt_succ_of_lt yl]) rfl ⟨⟨_,rfl,by omega,?_⟩,?_⟩
 ·have HT:=HT.out
  generalize (w2.setCell ⟨w.heap.size,0,none⟩ (.int .i64 0)).setCell ⟨w.heap.size,1,none⟩ (.int .i64 0)=W at hset hsz ⊢
  have hsz1:(W.alloc (.cells #[.int .i64 0,.int .i64 0] 37)).heap.size=w2.heap.size+1:=by simp[hsz]
  refine⟨⟨lp,lc,?_,hcap,?_⟩,?_,by simp[hsz],?_⟩
  ·rw[World.cell?_alloc_at _ _ _ _ (by simp[hsz])];rfl
  ·rcases HT with h|⟨b,off,e,hb,hT⟩
   ·exact .inl h
   ·refine .inr ⟨b,off,e,by omega,zgH.on (zgH.on (w:=W) ⟨by rw[hsz];exact hb,fun j hj=>?_⟩ (al _ _)) (al _ _)⟩
    rw[hset,hset,hset]
    exact hT j hj
  ·exact World.frozen?_alloc_at _ _ _ _ (by simp[hsz])
  ·rw[World.cell?_alloc_at _ _ _ _ (by simp[hsz])];rfl
 ·exact (((B2.setCell (p:=⟨w.heap.size,0,none⟩) (by simp) _).setCell (p:=⟨w.heap.size,1,none⟩) (by simp) _).alloc (by rw[hsz];omega) _).alloc (by simp[hsz];omega) _
end
end Go.Proofs.YtopghagjmdbglaaGreatDoor
