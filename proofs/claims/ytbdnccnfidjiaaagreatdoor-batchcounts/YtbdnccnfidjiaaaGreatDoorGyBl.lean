/-
  BcT, BcN.
-/
import Derived.Test.YtbdnccnfidjiaaaGreatDoorGyBi
import Derived.Test.YtbdnccnfidjiaaaGreatDoorGyBj
import Derived.Test.YtbdnccnfidjiaaaGreatDoorYPhW
import Derived.Test.YtbdnccnfidjiaaaGreatDoorGyBb
import Derived.Test.YtbdnccnfidjiaaaGreatDoorYNgW
import Derived.Test.YtbdnccnfidjiaaaGreatDoorGyBe
import Derived.Test.YtbdnccnfidjiaaaGreatDoorGyBf
import Derived.Test.YtbdnccnfidjiaaaGreatDoorYSlC
namespace Go.Proofs.YtbdnccnfidjiaaaGreatDoor
open Go.RowKit
set_option linter.unusedVariables false
set_option linter.unusedSimpArgs false
set_option maxHeartbeats 8000000
section
open Go.BigFrame
noncomputable def bcSt(Z Y:Int)(rs:List (Int×ByteArray))(j:Nat):Int×List PW:=(rs.take j).foldl (fun st r=>(zbu Z Y st r).1) (0,[])
noncomputable def bcO(Z Y:Int)(rs:List (Int×ByteArray))(j:Nat):List Ot:=(zbu Z Y (bcSt Z Y rs j) (rs.getD j (0,⟨#[]⟩))).2
theorem zdY{Z Y:Int}{rs:List (Int×ByteArray)}{j:Nat}(h:j<rs.length):bcSt Z Y rs (j+1)=(zbu Z Y (bcSt Z Y rs j) rs[j]).1:=by
 rw[bcSt,bcSt,List.take_succ_eq_append_getElem h,List.foldl_append];rfl
theorem znO{Z Y:Int}{rs:List (Int×ByteArray)}{j:Nat}(h:j<rs.length):bcO Z Y rs j=(zbu Z Y (bcSt Z Y rs j) rs[j]).2:=by
 rw[bcO,List.getD_eq_getElem?_getD,List.getElem?_eq_getElem h];rfl
theorem ziW(Z Y:Int)(rs:List (Int×ByteArray)):∀j,j≤rs.length→(List.range j).flatMap (bcO Z Y rs)++zbp Z Y (bcSt Z Y rs j) (rs.drop j)=zbp Z Y (0,[]) rs
 | 0,_=>rfl
 | j+1,h=>by
  rw[←ziW Z Y rs j (by omega),zbL,List.drop_eq_getElem_cons (by omega:j<rs.length),zbp,znO (by omega),zdY (by omega),List.append_assoc]
theorem zdE{Z Y:Int}(hw:wdB Z Y){rs:List (Int×ByteArray)}(hr:BcRs 0 rs)(hl:rs.length≤40):∀j,j≤rs.length→BcI Z Y j (bcSt Z Y rs j)∧BcRs (bcSt Z Y rs j).1 (rs.drop j)
 | 0,_=>⟨BcI.nil _ _,hr⟩
 | j+1,h=>by
  obtain⟨h1,h2⟩:=zdE hw hr hl j (by omega)
  rw[List.drop_eq_getElem_cons (by omega:j<rs.length)] at h2
  obtain⟨a1,a2,a3,a4⟩:=h2
  obtain⟨e,hI⟩:=ziZ hw h1 (by omega) a1 a2 a3
  rw[zdY (by omega)]
  exact⟨hI,by rw[e];exact a4⟩
theorem zqa{Z Y:Int}(hw:wdB Z Y){rs:List (Int×ByteArray)}(hr:BcRs 0 rs)(hl:rs.length≤40){j:Nat}(h:j<rs.length):(bcSt Z Y rs j).1≤rs[j].1∧rs[j].1≤1000000∧chk 3 0 rs[j].2.data.toList=0:=by
 have:=(zdE hw hr hl j (by omega)).2
 rw[List.drop_eq_getElem_cons h] at this
 exact⟨this.1,this.2.1,this.2.2.1⟩
theorem znR{Z Y:Int}(hw:wdB Z Y){rs:List (Int×ByteArray)}(hr:BcRs 0 rs)(hl:rs.length≤40){j:Nat}(h:j≤rs.length):∀l:List PW,l.Sublist (bcSt Z Y rs j).2→(l.flatMap (wOt bcPs)).length≤16000:=fun l hs=>by
 obtain⟨hI,-⟩:=zdE hw hr hl j h
 have key:∀l:List PW,(∀x∈l,x.2.length≤40)→(l.flatMap (wOt bcPs)).length≤40*l.length:=fun l=>by
  induction l with
  | nil=>intro _;simp
  | cons x t ih =>
   intro hx
   have h1:=hx x (List.mem_cons_self ..)
   have h2:=ih (fun y hy=>hx y (List.mem_cons_of_mem _ hy))
   rw[List.flatMap_cons,List.length_append,List.length_cons,wOt,List.length_map]
   omega
 have h1:=key l fun x hx=>by have:=hI.few x (hs.subset hx);omega
 have h2:=hI.cnt
 have h3:=hs.length_le
 omega
theorem ziX{Z Y:Int}(hw:wdB Z Y){rs:List (Int×ByteArray)}(hr:BcRs 0 rs)(hl:rs.length≤40):∀j,j≤rs.length→((List.range j).flatMap (bcO Z Y rs)).length≤16000*j
 | 0,_=>by simp
 | j+1,h=>by
  have h1:=ziX hw hr hl j (by omega)
  obtain⟨r1,r2,r3⟩:=zqa hw hr hl (by omega:j<rs.length)
  have h2:=znR hw hr hl (by omega:j≤rs.length) (toldB Z rs[j].1 (bcSt Z Y rs j).2) (List.takeWhile_sublist _)
  rw[zbL,List.length_append,znO (by omega),(ziZ hw (zdE hw hr hl j (by omega)).1 (by omega) r1 r2 r3).1]
  show _+(List.flatMap _ _).length≤_
  omega
theorem zlB{r:Int×ByteArray}(h:chk 3 0 r.2.data.toList=0):zgM bcL (bcRow r)=0:=by
 have h0:schE bcL=0:=by decide
 rw[zgM,if_neg (fun h=>h h0),if_neg (by simp[bcL,bcRow])]
 show rcGo [(⟨#[97,116]⟩,1),(⟨#[107]⟩,3)] [(1,r.1,⟨#[]⟩),(3,0,r.2)]=0
 rw[rcGo,if_neg (by simp[chk]),if_neg (by simp),rcGo,if_neg (by rw[h];simp),if_neg (by simp),rcGo]
 intro z zs r rs h
 cases h
structure BcIv(W:World)(Z Y:Int)(rs:List (Int×ByteArray))(tb m:Nat)(V:World)(S:Nat→Prop)(j:Nat):Prop where
 ex:∃(gb:Nat) (cv:Value) (s:Gs) (W3:World) (ov:Value) (xs:List Wm),NgIs W3 gb 0 Z Y bcL ex0 [ex0] [zed] [1] [1] s∧s.SC[0]?=some cv∧Below W.heap.size W W3∧W.heap.size≤gb∧(W3.heap.size≤tb∧tb<m)∧Kp (·=gb) W3 V∧Blk V tb (tlG cv gb) 102∧GrAt V W3.heap.size bcPs gb s (bcSt Z Y rs j).1 ov xs∧xs.map Wm.pl=(bcSt Z Y rs j).2∧(∀k,S k↔GrS gb ov xs k)∧¬S tb
theorem PhPd.up{V W w':World}{base:Nat}{ps0:List Pt}{gb:Nat}{s:Gs}{ov:Value}{xs:List Wm}{st:Int×List PW}{l:List Ot}{u:Value}(h:PhPd V w' base ps0 gb s ov xs st l u)(hb:Below W.heap.size W V):PhPd W w' base ps0 gb s ov xs st l u:=by
 obtain⟨D,ov',xs',h1,h2,h3,h4,h5,h6,h7⟩:=h
 have:=hb.size
 exact⟨D,ov',xs',h1,fun k hk=>by have:=h2 k hk;omega,h3,h4,h5,(Kp.of_below hb).trans h6,fun k hk=>(h7 k hk).imp id (fun h=>by omega)⟩
theorem ziV{w W W3 V:World}{gb:Nat}(hb0:Below w.heap.size w W)(hold:Below W.heap.size W W3)(hlow:W.heap.size≤gb)(hb:Kp (·=gb) W3 V):Below w.heap.size w V:=by
 have h1:=hb0.size
 have h2:=hold.size
 exact (hb0.trans (hold.mono h1)).trans (hb.below (by omega) fun k hk hs=>by omega)
theorem BcIv.kp{W:World}{Z Y:Int}{rs:List (Int×ByteArray)}{tb m:Nat}{V:World}{S:Nat→Prop}{j:Nat}{T:Nat→Prop}{V':World}(h:BcIv W Z Y rs tb m V S j)(hk:Kp T V V')(hm:MutS V T)(hT:∀k,T k→m≤k∧¬S k):BcIv W Z Y rs tb m V' S j:=by
 obtain⟨gb,cv,s,W3,ov,xs,h1,h2,h3,h4,⟨h5,h5'⟩,h6,h7,h8,h9,h10,h11⟩:=h.ex
 have h6s:=h6.size
 exact⟨gb,cv,s,W3,ov,xs,h1,h2,h3,h4,⟨h5,h5'⟩,⟨h6.low.trans hk.low,fun k hk1 hk2=>by rw[hk.kept k (by omega) (fun ht=>by have:=(hT k ht).1;omega),h6.kept k hk1 hk2]⟩,h7.kp hk (fun ht=>by have:=(hT tb ht).1;omega),h8.kp hk hm (fun k hk' ht=>(hT k ht).2 ((h10 k).2 hk')),h9,h10,h11⟩
theorem zlC{w W:World}(henv:KEnv w)(haenv:AEnv w)(hb0:Below w.heap.size w W){Z Y:Int}(hw:wdB Z Y){rs:List (Int×ByteArray)}(hr:BcRs 0 rs)(hl:rs.length≤40)(j:Nat)(hj:j<rs.length)(tb m:Nat)(V:World)(S:Nat→Prop)(hV:Below W.heap.size W V)(h:BcIv W Z Y rs tb m V S j)(q:Option Addr)(c:Nat)(hv:zaf V q (bcRow rs[j]))(hS:∀g o,q=some ⟨g,o,none⟩→(bcRow rs[j]).length=0∨¬S g) :
  Calls Tryz.prog 18 #[.pointer (some ⟨tb,0,none⟩),.slice q (bcRow rs[j]).length c] V fun e w'=>∃u,e=.returned (.tuple #[u,.nilIface])∧Aside (∃D S',OutsG D w' u (bcO Z Y rs j)∧(∀k,D k→V.heap.size≤k)∧(∀k,S' k→¬D k)∧(∀k,S' k→(S k∨V.heap.size≤k)∧k<w'.heap.size)∧Kp S V w'∧BcIv W Z Y rs tb m w' S' (j+1)):=by
 obtain⟨hI,-⟩:=zdE hw hr hl j (Nat.le_of_lt hj)
 obtain⟨r1,r2,r3⟩:=zqa hw hr hl hj
 rw[znO hj]
 have hnx:=zdY (Z:=Z) (Y:=Y) hj
 generalize rs[j]=r at *
 obtain⟨A,sk⟩:=r
 have h0:=hI.ok.time.1
 have r1:(bcSt Z Y rs j).1≤A:=r1
 have r2:A≤1000000:=r2
 obtain⟨gb,cv,s,W3,ov,xs,hng,hcol,hold,hlow,⟨htb,htm⟩,hkp,hT,hG,hst,hS2,hnt⟩:=h.ex
 have hB:Bts (·=gb) gb W3 V:=⟨hkp,rfl,fun k hk=>.inl (Nat.le_of_eq hk)⟩
 have hbl:∀V,Bts (·=gb) gb W3 V→Below w.heap.size w V:=fun V hb=>ziV hb0 hold hlow hb.kp
 have hAm:inB A:=by unfold inB;omega
 have hsz:zbt (bcRow (A,sk)):=zdD hAm r3
 obtain⟨pp,pc,hpv,hpl⟩:=hng.pl
 obtain⟨ap,ac,hav,hag⟩:=hng.ag
 obtain⟨tp,tc,htv,hty⟩:=hng.ty
 obtain⟨r,hgr,hNV⟩:=hng.sv
 have hgl:gb<W3.heap.size:=by
  obtain⟨C,hC1,hC2⟩:=hng.blk
  exact hC1.lt
 rw[hpv] at hpl
 rw[hav] at hag
 rw[htv] at hty
 have hz:∀z∈bcL,z.1.size≤maxLen:=fun z hz=>by
  simp only[bcL,List.mem_cons,List.not_mem_nil,or_false] at hz
  rcases hz with rfl|rfl<;>decide
 have hcv:ColsV V cv bcL:=by
  obtain⟨cv',yp,yc,uv,e,⟨cq,cc,e1,o1⟩,-⟩:=hNV
  have:cv=cv':=by
   have:=hcol
   rw[e] at this
   simpa using this.symm
  subst this
  exact zjo rfl hz (zaA o1 hB.keepB (by omega))
 have e5:s.size=Z:=hng.size
 have e6:s.slide=Y:=hng.slide
 have hwd:wdB s.size s.slide:=by rw[e5,e6];exact hw
 have hTk:=zmz (S0:=(·=gb)) (gb:=gb) hNV hgr hz (by decide) (by decide) (fun x hx=>by rw[List.mem_singleton] at hx;subst hx;decide) [noV] true 0 q c (bcRow (A,sk)) (zpx bcL (bcRow (A,sk)))
 have hNw:=zrj (S0:=(·=gb)) (gb:=gb) (W1:=W3) (fun V hv=>haenv.on (hbl V hv)) ap ac [zed] tp tc [1] hag hty (by decide) (by decide) zhB
 have hCk:=zkF cv (.slice q (bcRow (A,sk)).length c) bcL (bcRow (A,sk)) V (henv.on (hbl V hB)).tw hcv ⟨q,c,rfl,by show 2≤maxLen;decide,hv⟩ hsz
 rw[zlB r3] at hCk
 have hok:OkSt [3] (10*j) s.size ((bcSt Z Y rs j).1,xs.map Wm.pl):=by rw[hst,e5];exact hI.ok
 have hP:∀V2,Below V.heap.size V V2→Calls Tryz.prog 72 #[.pointer (some ⟨gb,0,none⟩),.slice q (bcRow (A,sk)).length c] V2 fun e w'=>∃u,e=.returned u∧Aside (PhPd V w' W3.heap.size bcPs gb s ov xs (zbu Z Y (bcSt Z Y rs j) (A,sk)).1 (zbu Z Y (bcSt Z Y rs j) (A,sk)).2 u):=fun V2 hb=>by
  have:=zlS (hG.on hb) (hB.on hb) rfl hok hwd (by omega) (by decide) (by decide) (fun V hv=>(henv.on (hbl V hv)).et) q c (bcRow (A,sk)) (hv.on hb) (.inr fun b o e hs=>((hS b o e).resolve_left (by show ¬2=0;decide)) ((hS2 b).2 hs)) (by show 2≤1000;decide) 0 hng.at_ (by show 0<2;decide) A rfl hAm pp pc [1] hpv (by decide) (fun V hv=>zku (zaA hpl hv.keepB (Nat.le_refl _))) (fun i hi=>by rw[List.mem_singleton] at hi;subst hi;show 1<2;decide) (zka r3) [noV] true 0 hTk (fun _ _=>⟨fun v hv=>by
   rw[List.mem_singleton] at hv
   subst hv
   exact⟨Nat.zero_le _,by unfold noV inB;decide⟩,by decide,zhg⟩) (by rw[hav,htv];exact hNw)
  rw[e5,e6,hst] at this
  refine this.mono ?_
  rintro e w' ⟨u,e1,e2⟩
  exact⟨u,e1,(show Aside _ from e2.out.up hb)⟩
 refine (zpB tb gb cv (.slice q (bcRow (A,sk)).length c) V _ hT hCk hP).mono ?_
 rintro e w' ⟨u,e1,e2⟩
 obtain⟨D,ov',xs',d1,d2,d3,d4,d5,d6,d7⟩:=e2.out
 have htV:=hT.lt
 have hgs:∀k,GrS gb ov xs k→k=gb∨W3.heap.size≤k:=fun k hk=>(hG.in_ k hk).imp id (fun h=>h.1)
 have hkV:=hkp.size
 refine⟨u,e1,(show Aside _ from ⟨D,GrS gb ov' xs',d1,d2,d3,fun k hk=>⟨(d7 k hk).imp (fun h=>(hS2 k).2 h) id,d4.top k hk⟩,d6.mono fun k _ hk=>(hS2 k).2 hk,⟨gb,cv,s,W3,ov',xs',hng,hcol,hold,hlow,⟨htb,htm⟩,⟨hkp.low.trans d6.low,fun k hk1 hk2=>?_⟩,hT.kp d6 (fun hs=>hnt ((hS2 tb).2 hs)),by rw[hnx];exact d4,by rw[hnx];exact d5,fun k=>Iff.rfl,fun hs=>?_⟩⟩)⟩
 ·rw[d6.kept k (by omega) (fun hs=>by
   rcases hgs k hs with h|h
   ·exact hk2 h
   ·omega),hkp.kept k hk1 hk2]
 ·rcases d7 tb hs with h|h
  ·exact hnt ((hS2 tb).2 h)
  ·omega
theorem znS{w W:World}(henv:KEnv w)(hb0:Below w.heap.size w W){Z Y:Int}(hw:wdB Z Y){rs:List (Int×ByteArray)}(hr:BcRs 0 rs)(hl:rs.length≤40)(tb m:Nat)(V:World)(S:Nat→Prop)(hV:Below W.heap.size W V)(h:BcIv W Z Y rs tb m V S rs.length) :
  Calls Tryz.prog 19 #[.pointer (some ⟨tb,0,none⟩)] V fun e w'=>∃u,e=.returned u∧Aside (∃D,OutsG D w' u (endP bcPs (bcSt Z Y rs rs.length))∧(∀k,D k→V.heap.size≤k)∧Kp S V w'):=by
 obtain⟨hI,-⟩:=zdE hw hr hl rs.length (Nat.le_refl _)
 obtain⟨gb,cv,s,W3,ov,xs,hng,hcol,hold,hlow,⟨htb,htm⟩,hkp,hT,hG,hst,hS2,hnt⟩:=h.ex
 have hgl:gb<W3.heap.size:=by
  obtain⟨C,hC1,hC2⟩:=hng.blk
  exact hC1.lt
 have hkV:=hkp.size
 have hgs:∀k,GrS gb ov xs k→k=gb∨W3.heap.size≤k:=fun k hk=>(hG.in_ k hk).imp id (fun h=>h.1)
 have hEt:∀V',Kp (GrS gb ov xs) V V'→EtAt V':=fun V' hk=>(henv.on (ziV hb0 hold hlow (⟨hkp.low.trans hk.low,fun k hk1 hk2=>by
  rw[hk.kept k (by omega) (fun hs=>by
   rcases hgs k hs with h|h
   ·exact hk2 h
   ·omega),hkp.kept k hk1 hk2]⟩:Kp (·=gb) W3 V'))).et
 have hfew:xs.length≤1000:=by
  have:=hI.cnt
  rw[←hst,List.length_map] at this
  omega
 have hE:=zqx hG (hEt V (Kp.refl _ _)) hEt hkV (by decide) hfew (kt:=[3]) (c:=10*rs.length) (by rw[hst];exact hI.ok.ok) (by decide)
 refine (zsm tb gb cv V _ hT hE).mono ?_
 rintro e w' ⟨u,e1,e2⟩
 obtain⟨D,ov',xs',d1,d2,d3,d4,d5,d6,d7⟩:=e2.out
 rw[hst] at d1
 exact⟨u,e1,(show Aside _ from ⟨D,d1,d2,d6.mono fun k _ hk=>(hS2 k).2 hk⟩)⟩
theorem znU{Z Y:Int}(hz:inM Z)(hy:inM Y):QyA (bcQ Z Y):=⟨by rw[znq];show (ex0:Ex).size≤_;decide,fun x hx=>by simp[bcQ] at hx,fun a ha=>by
  rw[bcQ,List.mem_singleton] at ha
  subst ha
  rw[znq]
  decide,fun s hs=>by
  simp[zaT,bcQ] at hs
  rcases hs with rfl|rfl<;>decide,hz,hy⟩
theorem ziY{w:World}(henv:KEnv w)(haenv:AEnv w)(hsg:SG w)(W:World)(hb:Below w.heap.size w W):Calls Tryz.prog 4 #[.string bcS] W fun e w'=>(∃PC:Array Value,e=.returned (.tuple #[.agg PC,.agg #[.int .i64 0,.int .i64 0]])∧PC.size=14∧PC.all (·.oneCell')=true∧Aside (∀(V W9:World) (b:Nat),Blk V b q0D 34→V.setCells b 0 PC.toList=W9→Blk W9 b PC 34)∧Aside (QyIn w' (fun _=>True) (.agg PC) (bcQ 10 10)))∧Below W.heap.size W w':=by
 refine (zkp bcS W (henv.tenv.on hb) (haenv.onB hb henv.tenv.big hb.size) (hsg.on hb) (zaY bcS.data.toList).1 bcTk (by rw[←zsO]) (by decide) (bcQ 10 10) zpW zpY zpZ bc_ok zsN (fun x hx=>?_) (by rw[zpV];decide)).mono fun e w' hh=>⟨?_,hh.2⟩
 ·rw[zpV] at hx
  simp at hx
  subst hx
  decide
 obtain⟨u,he,hq'⟩:=hh.1
 obtain⟨wp,wc,cp,cc,np,nc,gp,gc,ap,ac,rfl,hB⟩:=id hq'
 exact⟨_,he,rfl,one14 (bcQ 10 10) wp wc cp cc np nc gp gc ap ac,(show Aside _ from fun V W9 b X h=>blk14 X h),hq'⟩
theorem znT{W:World}{QC:Array Value}{Z0 Y0:Int}(h:QyIn W (fun _=>True) (.agg QC) (bcQ Z0 Y0))(Z Y:Int):QyIn W (fun _=>True) (.agg ((QC.setIfInBounds 11 (.int .i64 Z)).setIfInBounds 12 (.int .i64 Y))) (bcQ Z Y):=by
 obtain⟨wp,wc,cp,cc,np,nc,gp,gc,ap,ac,e,h1,h2,h3,h4,h5,h6⟩:=h
 injection e with e
 exact⟨wp,wc,cp,cc,np,nc,gp,gc,ap,ac,by rw[e];rfl,h1,h2,h3,h4,h5,h6⟩
set_option maxRecDepth 20000 in
theorem zsP{w:World}(henv:KEnv w)(haenv:AEnv w){Z Y:Int}(hw:wdB Z Y)(rs:List (Int×ByteArray))(QC:Array Value)(b:Nat)(W:World)(hb:Below w.heap.size w W)(hq:QyIn W (fun _=>True) (.agg QC) (bcQ Z Y))(hl:Blk W b #[.string ⟨#[97,116]⟩,.int .i64 1,.string ⟨#[107]⟩,.int .i64 3] 25)(V0:World)(hV0:Below W.heap.size W V0) :
  Calls Tryz.prog 17 #[.agg QC,.slice (some ⟨b,0,none⟩) 2 2] V0 fun e w'=>(∃tb,e=.returned (.tuple #[.pointer (some ⟨tb,0,none⟩),.nilIface])∧Aside (∃m S,W.heap.size≤m∧m≤w'.heap.size∧(∀k,S k→W.heap.size≤k∧k<w'.heap.size)∧BcIv W Z Y rs tb m w' S 0))∧Below V0.heap.size V0 w':=by
 have hbig:=henv.tenv.big
 have hM:inM Z∧inM Y:=by
  obtain⟨h1,h2,h3,h4,h5⟩:=hw
  unfold inM
  omega
 have hZ0:Z≠0:=by have:=hw.1;omega
 have hci:∀V,Below W.heap.size W V→zbn V b 0 bcL:=fun V hV=>⟨(hl.on hV).lt,fun j hj=>by
  have:j=0∨j=1:=by rw[bcL] at hj;simp at hj;omega
  rcases this with rfl|rfl
  ·exact⟨by rw[(hl.on hV).cell];rfl,by rw[(hl.on hV).cell];rfl⟩
  ·exact⟨by rw[(hl.on hV).cell];rfl,by rw[(hl.on hV).cell];rfl⟩⟩
 have hzz:∀z∈bcL,z.1.size≤281474976710656:=fun z hz=>by
  simp only[bcL,List.mem_cons,List.not_mem_nil,or_false] at hz
  rcases hz with rfl|rfl<;>decide
 have hcv:∀V,Below W.heap.size W V→ColsV V (.slice (some ⟨b,0,none⟩) 2 2) bcL:=fun V hV=>⟨_,2,rfl,.inr ⟨b,0,rfl,Nat.le_refl _,fun z hz=>Nat.le_trans (hzz z hz) (by unfold maxLen;decide),hci V hV⟩⟩
 have hsz:QC.size=14:=by
  obtain⟨wp,wc,cp,cc,np,nc,gp,gc,ap,ac,e,-⟩:=hq
  injection e with e
  rw[e]
  rfl
 have h11:QC[11]?=some (.int .i64 Z):=by
  obtain⟨wp,wc,cp,cc,np,nc,gp,gc,ap,ac,e,-⟩:=hq
  injection e with e
  rw[e]
  rfl
 have hi14:(Tryz.prog.info? 34).map (·.size)=some QC.size:=by rw[hsz];kernel_rfl
 have hFd:∀V,Below W.heap.size W V→Calls Tryz.prog 71 #[.slice (some ⟨b,0,none⟩) 2 2,.string ⟨#[97,116]⟩] V fun e w'=>e=.returned (.tuple #[.int .i64 ((0:Nat):Int),.nilIface])∧Below V.heap.size V w':=fun V hV=>zgt ⟨#[97,116]⟩ b 0 2 bcL V (by decide) (hci V hV) 0 (by decide)
 have hFk:∀V,Below W.heap.size W V→Calls Tryz.prog 71 #[.slice (some ⟨b,0,none⟩) 2 2,.string ⟨#[107]⟩] V fun e w'=>e=.returned (.tuple #[.int .i64 ((1:Nat):Int),.nilIface])∧Below V.heap.size V w':=fun V hV=>zgt ⟨#[107]⟩ b 0 2 bcL V (by decide) (hci V hV) 1 (by decide)
 have hNg:∀V u,Below W.heap.size W V→ColsV V u [(⟨#[107]⟩,3),(⟨#[110]⟩,1)]→Calls Tryz.prog 38 #[.agg QC,.slice (some ⟨b,0,none⟩) 2 2,u,.int .i64 0] V fun e w'=>(∃gb,e=.returned (.pointer (some ⟨gb,0,none⟩))∧Aside ((W.heap.size≤gb∧Below W.heap.size W w'∧∃s,NgIs w' gb 0 Z Y bcL ex0 [ex0] [zed] [1] [1] s)∧∃q n c,w'.cell? ⟨gb,0,none⟩=some (.slice q n c)))∧Below V.heap.size V w':=fun V u hV hu=>by
  obtain⟨wp,wc,cp,cc,np,nc,gp,gc,ap,ac,e,hB⟩:=hq.on hV
  rw[e]
  have hs:=hV.size
  refine (zfA (bcQ Z Y) wp wc cp cc np nc gp gc ap ac (fun _=>True) (.slice (some ⟨b,0,none⟩) 2 2) u bcL [(⟨#[107]⟩,3),(⟨#[110]⟩,1)] 0 (fun _=>ex0) V hB (hcv V hV) hu (by show 1<2;decide) (by show 1≤1000;decide) (by show 1≤1000;decide) (by decide) (by decide) (fun a ha=>by rw[bcQ,List.mem_singleton] at ha;subst ha;decide) hzz [1] rfl (fun j h1 h2 V2 hV2=>?_) (fun y hy lo' yp yc V2 hV2 hx=>?_)).mono ?_
  ·have:j=0:=by rw[List.length_singleton] at h2;omega
   subst this
   exact hFk V2 (hV.trans (hV2.mono hs))
  ·refine zlP y ?_ lo' yp yc V2 hx
   simp[bcQ] at hy
   exact hy
  ·rintro e w' ⟨⟨gb,h1,h2⟩,h3⟩
   obtain⟨h4,s,h5⟩:=h2.out
   refine⟨⟨gb,h1,(show Aside _ from ⟨⟨by omega,hV.trans (h3.mono hs),s,h5⟩,?_⟩)⟩,h3⟩
   obtain⟨C,c1,c2⟩:=h5.blk
   obtain⟨r,-,cv,yp,yc,uv,e2,⟨cq,cc2,e3,-⟩,-⟩:=h5.sv
   exact⟨cq,_,cc2,by rw[c1.cell,c2.sv.2 0 cv (by rw[e2];rfl),e3]⟩
 refine (zio QC (.slice (some ⟨b,0,none⟩) 2 2) Z 0 V0 (fun u V'=>ColsV V' u [(⟨#[107]⟩,3),(⟨#[110]⟩,1)]) (fun gb V'=>W.heap.size≤gb∧Below W.heap.size W V'∧∃s,NgIs V' gb 0 Z Y bcL ex0 [ex0] [zed] [1] [1] s) hi14 h11 hZ0 (fun u V1 V2 h1 h2=>h1.on h2)
  (fun V' hV'=>by
   have hV2:=hV0.trans (hV'.mono hV0.size)
   exact zqm (bcQ Z Y) _ (.agg QC) (.slice (some ⟨b,0,none⟩) 2 2) bcL V' (⟨henv.tw.on (hb.trans (hV2.mono hb.size)),fun x h=>h.elim⟩:TyEnv (fun _=>False) V') (zsQ Z Y) (haenv.onB (hb.trans (hV2.mono hb.size)) hbig (by have:=hV2.size;have:=hb.size;omega)) (hq.on hV2) (hcv V' hV2) (znU hM.1 hM.2) _ 0 (znQ hw))
  (fun V' hV'=>by
   have hV2:=hV0.trans (hV'.mono hV0.size)
   exact zgW b 0 2 2 0 V' (by decide) (by decide) (hl.on hV2).lt (by rw[(hl.on hV2).cell];rfl) (hFd V' hV2))
  (fun V' u hV' hu=>hNg V' u (hV0.trans (hV'.mono hV0.size)) hu)).mono ?_
 rintro e w' ⟨⟨tb,h1,h2⟩,h3⟩
 obtain⟨gb,cv,w0,⟨g1,g2,s,g3⟩,g4,g5,g6,g7⟩:=h2.out
 have hs0:=g4.size
 have hsW:=g2.size
 obtain⟨C,c1,c2⟩:=g3.blk
 have hgl:=c1.lt
 have htl:=g5.lt
 have hcol:s.SC[0]?=some cv:=by
  obtain⟨r,-,cv',yp,yc,uv,e2,-⟩:=g3.sv
  have h0:s.SC[0]?=some cv':=by rw[e2];rfl
  have:=c2.sv.2 0 cv' h0
  rw[c1.cell,this] at g7
  injection g7 with g7
  subst g7
  exact h0
 have f:∀k:Nat,GrS gb (.slice none 0 0) [] k→k=gb:=fun k h=>by
  rcases h with h|h|⟨z,hz,-⟩
  ·exact h
  ·simp[Value.ownBlock] at h
  ·simp at hz
 refine⟨⟨tb,h1,(show Aside _ from ⟨w'.heap.size,GrS gb (.slice none 0 0) [],by omega,Nat.le_refl _,fun k hk=>?_,⟨gb,cv,s,w0,.slice none 0 0,[],g3,hcol,g2,g1,⟨g6,htl⟩,Kp.of_below g4,g5,GrAt.start (c1.on g4) c2 hgl,rfl,fun k=>Iff.rfl,fun hk=>?_⟩⟩)⟩,h3⟩
 ·have:=f k hk
  omega
 ·have:=f tb hk
  omega
theorem zqb{w:World}(henv:KEnv w)(haenv:AEnv w){Z Y:Int}(hw:wdB Z Y){rs:List (Int×ByteArray)}(hr:BcRs 0 rs)(hlen:rs.length≤40)(QC:Array Value)(b:Nat)(vr:Value)(W:World)(hb:Below w.heap.size w W)(hq:QyIn W (fun _=>True) (.agg QC) (bcQ Z Y))(hl:Blk W b #[.string ⟨#[97,116]⟩,.int .i64 1,.string ⟨#[107]⟩,.int .i64 3] 25)(hrv:RowsV W vr (rs.map bcRow)) :
  Calls Tryz.prog 6 #[.agg QC,.slice (some ⟨b,0,none⟩) 2 2,vr] W fun e w'=>(∃u,e=.returned (.tuple #[u,.nilIface])∧Aside (OutsV w' u (zbp Z Y (0,[]) rs)))∧Below W.heap.size W w':=by
 have hsz:QC.size=14:=by
  obtain⟨wp,wc,cp,cc,np,nc,gp,gc,ap,ac,e,-⟩:=hq
  injection e with e
  rw[e]
  rfl
 have hL:(rs.map bcRow).length=rs.length:=List.length_map _
 have hT:TlLaw W QC (.slice (some ⟨b,0,none⟩) 2 2) (rs.map bcRow) (bcO Z Y rs) (endP bcPs (bcSt Z Y rs rs.length)) (BcIv W Z Y rs):=⟨fun V hV=>zsP henv haenv hw rs QC b W hb hq hl V hV,fun tb m V S j T V' h hk hm hT=>h.kp hk hm hT,fun j hj tb m V S hV h q c hv hS=>by
  have hj2:j<rs.length:=by rw[hL] at hj;exact hj
  have e:(rs.map bcRow)[j]=bcRow rs[j]:=List.getElem_map ..
  rw[e] at hv hS ⊢
  exact zlC henv haenv hb hw hr hlen j hj2 tb m V S hV h q c hv hS,fun tb m V S hV h=>by
  rw[hL] at h
  exact znS henv hb hw hr hlen tb m V S hV h⟩
 have hall:=ziW Z Y rs rs.length (Nat.le_refl _)
 rw[List.drop_length,zbp] at hall
 have:=zrR W QC (.slice (some ⟨b,0,none⟩) 2 2) vr (rs.map bcRow) (bcO Z Y rs) _ _ hT (by rw[hsz];kernel_rfl) ⟨_,_,_,rfl⟩ hrv (by rw[hL];omega) (fun j hj=>by rw[hL] at hj;have:=ziX hw hr hlen j hj;omega) (by have:=znR hw hr hlen (Nat.le_refl _) _ (List.Sublist.refl _);show (List.flatMap _ _).length≤_;omega)
 rw[hL,hall] at this
 exact this
end
end Go.Proofs.YtbdnccnfidjiaaaGreatDoor
