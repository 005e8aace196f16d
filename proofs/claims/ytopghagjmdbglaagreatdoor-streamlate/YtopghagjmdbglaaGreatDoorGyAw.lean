/-
  SmW, FeW, ClO, FcW, StB, RgFi, NsW, TkB, NgA.
-/
import Derived.Test.YtopghagjmdbglaaGreatDoorGyAv
import Derived.Test.YtopghagjmdbglaaGreatDoorGyAs
import Derived.Test.YtopghagjmdbglaaGreatDoorGyAf
import Derived.Test.YtopghagjmdbglaaGreatDoorGyAt
import Derived.Test.YtopghagjmdbglaaGreatDoorGyAj
import Derived.OwnWalk
import Derived.Laws.AppendOwnNone
import Derived.Laws.OwnMore
import Derived.Test.YtopghagjmdbglaaGreatDoorGyAl
import Derived.Test.YtopghagjmdbglaaGreatDoorGyAn
import Derived.Test.YtopghagjmdbglaaGreatDoorGyAk
import Derived.Deep.RegionLaw
import Derived.Deep.RegionWith
import Derived.Deep.LoopGhost
import Derived.Test.YtopghagjmdbglaaGreatDoorGyAr
import Derived.Test.YtopghagjmdbglaaGreatDoorGyAq
import Derived.Test.YtopghagjmdbglaaGreatDoorGyAo
import Derived.Lib.SliceRun
namespace Go.Proofs.YtopghagjmdbglaaGreatDoor
open Go.RowKit
set_option linter.unusedVariables false
set_option linter.unusedSimpArgs false
set_option maxHeartbeats 8000000
set_option maxRecDepth 20000
def ziQ(W w':World)(base:Nat)(ps0:List Pt)(sb tb gb:Nat)(s:Gs)(ov:Value)(xs:List Wm)(rows:Int)(st:Int×List PW):Prop:=∃ov' xs',GrAt w' base ps0 gb s st.1 ov' xs'∧xs'.map Wm.pl=st.2∧Blk w' sb (smC tb rows) 71∧Kp (fun k=>GrS gb ov xs k∨k=sb) W w'∧(∀k,GrS gb ov' xs' k→GrS gb ov xs k∨W.heap.size≤k)
theorem zbn.up{V W w':World}{base:Nat}{ps0:List Pt}{gb:Nat}{s:Gs}{ov:Value}{xs:List Wm}{st:Int×List PW}(h:zbn V w' base ps0 gb s ov xs st)(hb:Below W.heap.size W V):zbn W w' base ps0 gb s ov xs st:=by
 obtain⟨ov',xs',h1,h2,h3,h4⟩:=h
 exact⟨ov',xs',h1,h2,(Kp.of_below hb).trans h3,fun k hk=>(h4 k hk).imp id (fun h=>by have:=hb.size;omega)⟩
theorem zuc{W w1:World}{base:Nat}{ps0:List Pt}{sb tb gb:Nat}{s:Gs}{ov:Value}{xs:List Wm}{rows r':Int}{st:Int×List PW}(h:zbn W w1 base ps0 gb s ov xs st)(hS:Blk W sb (smC tb rows) 71)(hns:¬GrS gb ov xs sb):ziQ W (w1.setCell ⟨sb,1,none⟩ (.int .i64 r')) base ps0 sb tb gb s ov xs r' st:=by
 obtain⟨ov',xs',h1,h2,h3,h4⟩:=h
 have hb1:Blk w1 sb (smC tb rows) 71:=hS.kp h3 hns
 have hl:=hS.lt
 have hkp:Kp (·=sb) w1 (w1.setCell ⟨sb,1,none⟩ (.int .i64 r')):=(Kp.refl _ _).set _ _ (fun _=>rfl)
 refine⟨ov',xs',h1.kp hkp (MutS.one hb1 (by decide)) (fun k hk e=>?_),h2,hb1.set 1 (.int .i64 r'),(h3.mono fun k _ hk=>.inl hk).trans (hkp.mono fun k _ e=>.inr e),h4⟩
 subst e
 rcases h4 _ hk with h|h
 ·exact hns h
 ·omega
theorem zuj{W W1:World}{S0:Nat→Prop}{base:Nat}{ps0:List Pt}{sb tb gb:Nat}{cv:Value}{s:Gs}{last rows:Int}{ov:Value}{xs:List Wm}(hG:GrAt W base ps0 gb s last ov xs)(hb1:Bts S0 gb W1 W)(hbase:base=W1.heap.size)(hS:Blk W sb (smC tb rows) 71)(hTl:Blk W tb (tlG cv gb) 107)(hns:¬GrS gb ov xs sb)(hrows:0≤rows∧rows≤1000000)
  {kt:List Int}{c:Nat}(hst:OkSt kt c s.size (last,xs.map Wm.pl))(hwd:wdB s.size s.slide)(hc:c+11≤10000)(hm:kt.length≤1000)(hp0:ps0.length≤1000)(hEt:∀W,Bts S0 gb W1 W→EtAt W)
  (rq:Option Addr)(rc:Nat)(rs:List V3)(hr:zah W rq rs)(hrd:rs.length=0∨∀b o,rq=some ⟨b,o,none⟩→¬GrS gb ov xs b)(hrl:rs.length≤1000)(ia:Nat)(hia:s.at_=(ia:Int))(hia2:ia<rs.length)(A:Int)(hA:(rs.getD ia noV).2.1=A)(hAm:inM A)(p:Option Addr)(pc:Nat)(ns:List Nat)(hp:s.pv=.slice p ns.length pc)(hnl:ns.length≤1000)(hPl:∀W,Bts S0 gb W1 W→zbk W p ns)(hi:∀i∈ns,i<rs.length)(hkey:OkK kt (keyP rs ns))
  (T:List V3)(P:Bool)(E:Int)(hT:∀W,Bts S0 gb W1 W→zah W rq rs→Calls Tryz.prog 71 #[.agg s.SC,.slice rq rs.length rc] W fun e w'=>(∃u,e=.returned (.tuple #[u,.bool P,errV E])∧Aside (FrV W.heap.size w' u T))∧Below W.heap.size W w')
  (hTo:E=0→P=true→zbK T∧T.length≤maxLen∧adE ps0 T=0)
  (hN:∀W,Bts S0 gb W1 W→Calls Tryz.prog 200 #[s.av,s.tv] W fun e w'=>∃a v,e=.returned (.tuple #[.pointer (some ⟨a,0,none⟩),.nilIface])∧Aside (AcAt w' a v ps0 []∧(∀k,accS a v k→W.heap.size≤k))∧Below W.heap.size W w')
  (hCk:Calls Tryz.prog 44 #[cv,.slice rq rs.length rc] W fun e w'=>e=.returned .nilIface∧Below W.heap.size W w') :
  Calls Tryz.prog 6 #[.pointer (some ⟨sb,0,none⟩),.slice rq rs.length rc] W fun e w'=>∃u,e=.returned (.tuple #[u,.nilIface])∧Aside (OutsF W.heap.size w' u (pushP ps0 s.size s.slide (last,xs.map Wm.pl) A (T,P,E) (keyP rs ns)).2∧ziQ W w' base ps0 sb tb gb s ov xs (rows+1) (pushP ps0 s.size s.slide (last,xs.map Wm.pl) A (T,P,E) (keyP rs ns)).1):=by
 have hP:∀V,Below W.heap.size W V→Calls Tryz.prog 77 #[.pointer (some ⟨gb,0,none⟩),.slice rq rs.length rc] V fun e w'=>∃u,e=.returned u∧Aside ((OutsF W.heap.size w' u (pushP ps0 s.size s.slide (last,xs.map Wm.pl) A (T,P,E) (keyP rs ns)).2∧zbn W w' base ps0 gb s ov xs (pushP ps0 s.size s.slide (last,xs.map Wm.pl) A (T,P,E) (keyP rs ns)).1)∧Blk w' sb (smC tb rows) 71):=fun V hV=>by
  refine (znz (hG.on hV) (hb1.on hV) hbase hst hwd hc hm hp0 hEt rq rc rs (hr.on hV) hrd hrl ia hia hia2 A hA hAm p pc ns hp hnl hPl hi hkey T P E hT hTo hN).mono ?_
  rintro e w' ⟨⟨u,e1,e2⟩,e3⟩
  have h3:=e3.out.up hV
  refine⟨u,e1,(show Aside _ from ⟨⟨e2.out.low hV.size,h3⟩,?_⟩)⟩
  obtain⟨ov',xs',-,-,k3,-⟩:=h3
  exact hS.kp k3 hns
 have hTP:=zqQ tb gb cv (.slice rq rs.length rc) W (fun u w'=>(OutsF W.heap.size w' u (pushP ps0 s.size s.slide (last,xs.map Wm.pl) A (T,P,E) (keyP rs ns)).2∧zbn W w' base ps0 gb s ov xs (pushP ps0 s.size s.slide (last,xs.map Wm.pl) A (T,P,E) (keyP rs ns)).1)∧Blk w' sb (smC tb rows) 71) hTl hCk hP
 refine (zpy sb tb rows (.slice rq rs.length rc) W (fun u w'=>OutsF W.heap.size w' u (pushP ps0 s.size s.slide (last,xs.map Wm.pl) A (T,P,E) (keyP rs ns)).2∧zbn W w' base ps0 gb s ov xs (pushP ps0 s.size s.slide (last,xs.map Wm.pl) A (T,P,E) (keyP rs ns)).1) hS hrows hTP).mono ?_
 rintro e w' ⟨u,e1,e2⟩
 obtain⟨w1,⟨h1,h2⟩,h3,rfl⟩:=e2.out
 refine⟨u,e1,(show Aside _ from ⟨h1.kp (S:=(·=sb)) ((Kp.refl _ _).set _ _ (fun _=>rfl)) (fun k hk=>by subst hk;exact hS.lt),zuc h2 hS hns⟩)⟩
theorem zqt{W:World}{base:Nat}{ps0:List Pt}{sb tb gb:Nat}{cv:Value}{s:Gs}{last rows:Int}{ov:Value}{xs:List Wm}(hG:GrAt W base ps0 gb s last ov xs)(hS:Blk W sb (smC tb rows) 71)(hTl:Blk W tb (tlG cv gb) 107)(hns:¬GrS gb ov xs sb)(htb:tb≠sb)(hEt:∀V,Kp (fun k=>GrS gb ov xs k∨k=sb) W V→EtAt V)(hbase:base≤W.heap.size)(hp:ps0.length≤1000)(hn:xs.length≤1000){kt:List Int}{c:Nat}(hW:WOk kt c (xs.map Wm.pl))(hm:kt.length≤1000) :
  Calls Tryz.prog 10 #[.pointer (some ⟨sb,0,none⟩)] W fun e w'=>∃u,e=.returned u∧Aside (OutsF W.heap.size w' u ((xs.map Wm.pl).flatMap (wOt ps0))∧ziQ W w' base ps0 sb tb gb s ov xs 0 (0,[])):=by
 have hk:Kp (·=sb) W (W.setCell ⟨sb,1,none⟩ (.int .i64 0)):=(Kp.refl _ _).set _ _ (fun _=>rfl)
 have hG':GrAt (W.setCell ⟨sb,1,none⟩ (.int .i64 0)) base ps0 gb s last ov xs:=hG.kp hk (MutS.one hS (by decide)) (fun k hk e=>hns (e▸hk))
 have hsz:(W.setCell ⟨sb,1,none⟩ (.int .i64 0)).heap.size=W.heap.size:=by simp[World.setCell]
 have hk':∀V,Kp (GrS gb ov xs) (W.setCell ⟨sb,1,none⟩ (.int .i64 0)) V→Kp (fun k=>GrS gb ov xs k∨k=sb) W V:=fun V h=>(hk.mono fun k _ e=>.inr e).trans (h.mono fun k _ e=>.inl e)
 have hE:=zrO hG' (hEt _ (hk' _ (Kp.refl _ _))) (fun V hV=>hEt _ (hk' V hV)) (by omega) hp hn hW hm
 have hTe:=ztx tb gb cv (W.setCell ⟨sb,1,none⟩ (.int .i64 0)) (fun u w'=>OutsF W.heap.size w' u ((xs.map Wm.pl).flatMap (wOt ps0))∧ziQ W w' base ps0 sb tb gb s ov xs 0 (0,[])) (hTl.far htb _ _) (hE.mono ?_)
 ·exact zmC sb tb rows W _ hS hTe
 ·rintro e w' ⟨⟨u,e1,e2⟩,e3⟩
  refine⟨u,e1,(show Aside _ from ⟨by have:=e2.out;rw[hsz] at this;exact this,?_⟩)⟩
  obtain⟨ov',xs',h1,h2,h3,h4⟩:=e3.out
  exact⟨ov',xs',h1,h2,(hS.set 1 (.int .i64 0)).kp h3 hns,hk' _ h3,fun k hk=>by have:=h4 k hk;rw[hsz] at this;exact this⟩
theorem ztK{W:World}{base:Nat}{ps0:List Pt}{sb tb gb:Nat}{cv:Value}{s:Gs}{last rows:Int}{ov:Value}{xs:List Wm}(hG:GrAt W base ps0 gb s last ov xs)(hS:Blk W sb (smC tb rows) 71)(hTl:Blk W tb (tlG cv gb) 107) :
  Calls Tryz.prog 9 #[.pointer (some ⟨sb,0,none⟩)] W fun e w'=>e=.returned (.int .i64 (xs.length:Int))∧w'=W:=by
 obtain⟨q,c,hq⟩:=zaa hG.row
 have h16:=hG.c16
 rw[hq] at h16
 exact zpd sb tb gb xs.length rows cv q c W hS hTl h16
section
open Go.BigFrame
theorem zqM:(Tryz.prog.info? 30).map (fun i=>(i.zero,i.size,i.bytes))=some (some (.agg #[.string ⟨#[]⟩,.string ⟨#[]⟩,.int .i64 0,.int .i64 0,.string ⟨#[]⟩,.slice none 0 0,.int .i64 0]),7,96):=by kernel_rfl
abbrev zE7:Array Value:=#[.string ⟨#[]⟩,.string ⟨#[]⟩,.int .i64 0,.int .i64 0,.string ⟨#[]⟩,.slice none 0 0,.int .i64 0]
theorem zfz(x:Ex)(lo:Nat→Prop)(XC:Array Value)(w:World)(hx:ExIn w lo (.agg XC) x)(hn:noOp x=true) :
  Calls Tryz.prog 74 #[.agg XC] w fun e w'=>e=.returned (.agg zE7)∧Below w.heap.size w w':=by
 have hX7:=zeO hx
 have b1:=alB w (.cells XC 30)
 have b2:=b1.alloc (by simp) (.cells zE7 30)
 have box:∀W,Below (w.heap.size+2) ((w.alloc (.cells XC 30)).alloc (.cells zE7 30)) W→Blk W w.heap.size XC 30∧Blk W (w.heap.size+1) zE7 30∧w.heap.size+2≤W.heap.size∧Below w.heap.size w W:=fun W hb=>by
  have hz:=hb.size
  simp at hz
  have k1:=zac (w.alloc (.cells XC 30)) zE7 30
  rw[show (w.alloc (.cells XC 30)).heap.size=w.heap.size+1 by simp] at k1
  exact⟨((zac w XC _).on (alB _ _)).keep (hb.block _ (by omega)),k1.keep (hb.block _ (by omega)),hz,b2.trans (hb.mono (by omega))⟩
 have cN:=fun W (hb:Below w.heap.size w W)=>zaL x lo (.agg XC) W (hx.on hb)
 rw[hn] at cN
 have hs7:(Tryz.prog.info? 30).map (·.size)=some XC.size:=by rw[hX7];kernel_rfl
 have hld:=fun W (hb:Blk W w.heap.size XC 30)=>@zgC W _ _ _ _ hb Tryz.underlying30 rfl hs7
 clear hx hs7
 go_enter Tryz.func74,Tryz.ntmps74
 go_wp2_with (refine hld _ (box _ (Below.refl _ _)).1 rfl _ rfl rfl ?_)
 go_wp2_with fail
 refine (cN _ b2).mono ?_
 rintro e w1 ⟨rfl,b3⟩
 obtain⟨k0,k1,hl,B⟩:=box w1 (b3.mono (by simp))
 have f0:=k1.cell 0
 have f1:=k1.cell 1
 have f2:=k1.cell 2
 have f3:=k1.cell 3
 have f4:=k1.cell 4
 have f5:=k1.cell 5
 have f6:=k1.cell 6
 have ff:=fun o=>k1.frozen o
 simp at f0 f1 f2 f3 f4 f5 f6
 clear cN hld box k0 b3
 have HB1:Aside _:=B
 have HK1:Aside (Blk w1 (w.heap.size+1) zE7 30):=k1
 clear f0 f1 f2 f3 f4 f5 f6 ff k1 B
 have hst:=fun {ops:Array Oper} {rest:List Oper} {op:Oper} {a:Act} {Q:Exit→Act→World→Prop} (hgd:op.guard=none) (x y:Operand) (ho:op.op=.store 30 x y) (hx:a.eval x=.pointer (some ⟨w.heap.size+1,0,none⟩)) (hy:a.eval y=.agg zE7) h=>@zaj Tryz.prog ops rest op a w1 Q hgd 30 x y ho (w.heap.size+1) 0 zE7 hx hy zE7 _ HK1.out (by decide) (by kernel_rfl) (by simp[zE7,Value.oneCell']) h
 go_wp2_with (refine hst rfl _ _ rfl rfl rfl ?_)
 intro W2 HB2 HU2
 have k2:Blk W2 (w.heap.size+1) zE7 30:=HB2
 have g0:=k2.cell 0
 have g1:=k2.cell 1
 have g2:=k2.cell 2
 have g3:=k2.cell 3
 have g4:=k2.cell 4
 have g5:=k2.cell 5
 have g6:=k2.cell 6
 simp at g0 g1 g2 g3 g4 g5 g6
 have HF:Aside (Below w.heap.size w W2):=HB1.out.trans (HU2.below.mono (Nat.le_succ _))
 clear HB2 k2 HU2 hst
 go_wp2
 exact bodyPost_ret (v:=.agg zE7) (by simp[results,Tryz.results74,go_sem,g0,g1,g2,g3,g4,g5,g6]) rfl ⟨rfl,HF.out⟩
theorem zuG(w:World)(lo:Nat→Prop):ExIn w lo (.agg zE7) ex0:=by
 rw[ex0,ExIn]
 exact⟨none,0,rfl,⟨Nat.zero_le _,Nat.le_refl _⟩,Nat.zero_le _,Nat.zero_le _,Nat.zero_le _,.inl rfl⟩
theorem zhr(es:List Ex)(fx:Ex→Ex)(lo:Nat→Prop)(cp:Option Addr)(cc:Nat)(w:World)(hes:zat w lo (.slice cp es.length cc) es)(hel:es.length≤1000)
  (hFE:∀y∈es,∀yp yc W,Below w.heap.size w W→ExIn W lo (exV y yp yc) y→Calls Tryz.prog 74 #[exV y yp yc] W fun e w'=>(∃v,e=.returned v∧Aside (ExIn w' (W.heap.size≤·) v (fx y)))∧Below W.heap.size W w') :
  Calls Tryz.prog 75 #[.slice cp es.length cc] w fun e w'=>(∃u,e=.returned u∧Aside (zau w' w.heap.size u (es.map fx)))∧Below w.heap.size w w':=by
 have HES:Aside (zat w lo (.slice cp es.length cc) es):=hes
 have HFE:Aside _:=hFE
 obtain⟨N,hN⟩:∃N,es.length=N:=⟨_,rfl⟩
 have HN:Hid (es.length=N):=hN
 rw[hN] at hel ⊢
 clear hes hFE hN
 have hnz:(N:Int)≤1000:=by omega
 obtain⟨j0,hj0,hy0,hy1,hy2⟩:=info_parts zqM
 go_enter Tryz.func75,Tryz.ntmps75
 go_wp2
 go_loopg [3,5,8] N (fun gg s3 _ s8 wr=>∃(kk:Nat) (u:Value),kk≤N∧N-kk≤gg∧s8=.int .i64 (kk:Int)∧s3=u∧Aside (zau wr w.heap.size u ((es.take kk).map fx))∧Aside (Below w.heap.size w wr))
 case atStart=>exact⟨0,.slice none 0 0,Nat.zero_le _,by omega,rfl,rfl,(show Aside _ from zey _ _),(show Aside _ from Below.refl _ _)⟩
 case round =>
  obtain⟨kk,u,hkk,hg,rfl,hu,OW,BW⟩:=hrel
  obtain rfl:u=_:=hu.symm
  have hbs:=BW.out.size
  by_cases hlt:kk<N
  ·have hltz:(kk:Int)<(N:Int):=by omega
   have h0z:(0:Int)≤(kk:Int):=by omega
   have hk2:kk<es.length:=by rw[HN.out];exact hlt
   obtain⟨ba,oa,yp,yc,hcp,hbl,hlo,hrg,hEx⟩:=zfn (HES.out.onB BW.out) hk2
   subst hcp
   have HT:Hid ((es.take (kk+1)).map fx=(es.take kk).map fx++[fx es[kk]]):=by show _=_;rw[List.take_succ_eq_append_getElem hk2,List.map_append];rfl
   have hm:=List.getElem_mem hk2
   have cE:=HFE.out es[kk] hm yp yc
   have hTL:Hid (((es.take kk).map fx).length=kk):=by show _=_;rw[List.length_map,List.length_take];omega
   have hdr:exV es[kk] yp yc=.agg #[.string es[kk].op,.string es[kk].nm,.int .i64 es[kk].vt,.int .i64 es[kk].vn,.string es[kk].vs,.slice yp es[kk].args.length yc,.int .i64 es[kk].pos]:=rfl
   rw[hdr] at cE hEx
   generalize es[kk]=y at *
   have b1:=alB wr (.cells #[.string y.op,.string y.nm,.int .i64 y.vt,.int .i64 y.vn,.string y.vs,.slice yp y.args.length yc,.int .i64 y.pos] 30)
   have cE1:=cE _ (BW.out.trans (b1.mono hbs)) (hEx.on b1)
   have hldy:=@zgC (wr.alloc (.cells #[.string y.op,.string y.nm,.int .i64 y.vt,.int .i64 y.vn,.string y.vs,.slice yp y.args.length yc,.int .i64 y.pos] 30)) wr.heap.size _ 30 _ (zaW wr _ _) Tryz.underlying30 rfl (by kernel_rfl)
   clear cE hEx hm hdr
   go_wp2_with (first|(refine wpList_load_mid rfl 30 _ rfl ba (oa+kk*7) rfl _ _ hrg Tryz.underlying30 rfl zaM ?_)|(refine hldy rfl _ rfl rfl ?_))
   go_wp2_with fail
   refine cE1.mono ?_
   rintro e w2 ⟨⟨v,rfl,HV⟩,b2⟩
   obtain⟨zp,zc,hv,-⟩:=HV.out.whole
   have hs2:=b2.size
   simp at hs2
   have B2:Below w.heap.size w w2:=(BW.out.trans (b1.mono hbs)).trans (b2.mono (by simp;omega))
   have O2:=(OW.out.on b1).on b2
   generalize fx y=z at *
   subst hv
   have b3:=alB w2 (.cells #[.string z.op,.string z.nm,.int .i64 z.vt,.int .i64 z.vn,.string z.vs,.slice zp z.args.length zc,.int .i64 z.pos] 30)
   have k3:=zac w2 #[.string z.op,.string z.nm,.int .i64 z.vt,.int .i64 z.vn,.string z.vs,.slice zp z.args.length zc,.int .i64 z.pos] 30
   obtain⟨cs,o1,o2⟩:=O2.on b3
   rw[hTL.out] at o1
   have HB3:Aside (Below w.heap.size w (w2.alloc (.cells #[.string z.op,.string z.nm,.int .i64 z.vt,.int .i64 z.vn,.string z.vs,.slice zp z.args.length zc,.int .i64 z.pos] 30))):=B2.trans (b3.mono B2.size)
   have HO:Aside ((w2.alloc (.cells #[.string z.op,.string z.nm,.int .i64 z.vt,.int .i64 z.vn,.string z.vs,.slice zp z.args.length zc,.int .i64 z.pos] 30)).ownsRow w.heap.size 30 7 u kk cs):=o1
   have HO2:Aside _:=o2
   have HK3:Aside (Blk (w2.alloc (.cells #[.string z.op,.string z.nm,.int .i64 z.vt,.int .i64 z.vn,.string z.vs,.slice zp z.args.length zc,.int .i64 z.pos] 30)) w2.heap.size #[.string z.op,.string z.nm,.int .i64 z.vt,.int .i64 z.vn,.string z.vs,.slice zp z.args.length zc,.int .i64 z.pos] 30):=k3
   have huo:∀m,u.ownBlock=some m→m<wr.heap.size:=fun m hm=>by
    obtain⟨cs',o',-⟩:=OW.out
    exact (World.ownsRow.lt o' m hm).2
   have HZ:Aside (ExIn (w2.alloc (.cells #[.string z.op,.string z.nm,.int .i64 z.vt,.int .i64 z.vn,.string z.vs,.slice zp z.args.length zc,.int .i64 z.pos] 30)) (fun b=>w.heap.size≤b∧some b≠u.ownBlock) (.agg #[.string z.op,.string z.nm,.int .i64 z.vt,.int .i64 z.vn,.string z.vs,.slice zp z.args.length zc,.int .i64 z.pos]) z) :=
    ExIn.low (fun b _ hb=>⟨by simp at hb;omega,fun e=>by have:=huo b e.symm;simp at hb;omega⟩) _ _ (HV.out.on b3)
   obtain⟨uq,uc,rfl⟩:=zaa HO.out
   clear cE1 hldy hrg b1 b2 b3 B2 O2 o1 o2 k3 HV OW BW huo
   go_wp2_with (at_builtin;refine zae rfl _ _ 28 rfl w.heap.size 30 j0 _ 7 96 Tryz.underlying28 hj0 hy0 hy1 hy2 rfl (by decide) (.slice uq kk uc) kk cs rfl HO.out ⟨w2.heap.size,0,none⟩ 1 1 [.string z.op,.string z.nm,.int .i64 z.vt,.int .i64 z.vn,.string z.vs,.slice zp z.args.length zc,.int .i64 z.pos] rfl rfl (fun j v hv=>by rw[Go.WideShapes.add_plain,HK3.out.cell,Nat.zero_add];simpa using hv) (fun v hv=>by simp at hv;rcases hv with rfl|rfl|rfl|rfl|rfl|rfl|rfl<;>rfl) (by decide) (by unfold maxLen;omega) (by omega) (by simp;omega) ?_)
   intro v' w4 hown' hgr hfr
   have A4:Aside (zau w4 w.heap.size v' ((es.take (kk+1)).map fx)):=by
    rw[HT.out]
    exact zau.push (by rw[hTL.out];exact HO.out) HO2.out HZ.out (by rw[hTL.out];exact hown') hgr (by simpa using hfr)
   have B4:Aside (Below w.heap.size w w4):=HB3.out.grown hgr (by simp;omega) (fun m hm=>(World.ownsRow.lt HO.out m hm).1)
   clear hown' hgr hfr HO HO2 HZ HB3 HK3 HT
   go_wp2
   go_roundg (N-(kk+1))
   case measure=>omega
   case rel=>exact⟨kk+1,v',by omega,by omega,by go_num,rfl,A4,B4⟩
  ·have hltz:¬(kk:Int)<(N:Int):=by omega
   obtain rfl:kk=N:=by omega
   have HO:Aside (zau wr w.heap.size u (es.map fx)):=by
    have:=OW.out
    rw[List.take_of_length_le (by rw[HN.out];exact Nat.le_refl _)] at this
    exact this
   clear OW
   go_wp2
   go_ret
   exact⟨⟨_,rfl,HO⟩,BW.out⟩
end
def colC(zs:List (ByteArray×Int)):List Value:=zs.flatMap fun z=>[.string z.1,.int .i64 z.2]
theorem ziF(zs:List (ByteArray×Int))(z:ByteArray×Int):colC (zs++[z])=colC zs++[.string z.1,.int .i64 z.2]:=by simp[colC]
theorem zoy:∀(zs:List (ByteArray×Int)) (j:Nat) (h:j<zs.length),(colC zs)[j*2]?=some (.string zs[j].1)∧(colC zs)[j*2+1]?=some (.int .i64 zs[j].2)
 | [],j,h=>absurd h (Nat.not_lt_zero _)
 | z::zs,0,h=>⟨rfl,rfl⟩
 | z::zs,j+1,h=>by
  have:=zoy zs j (by simpa using h)
  rw[show (j+1)*2=j*2+2 by omega]
  simp only[colC,List.flatMap_cons,List.cons_append,List.nil_append,List.getElem?_cons_succ,List.getElem_cons_succ] at this ⊢
  exact this
theorem znH:(Tryz.prog.info? 24).map (fun i=>(i.zero,i.size,i.bytes))=some (some (.agg #[.string ⟨#[]⟩,.int .i64 0]),2,24):=by kernel_rfl
theorem zke{W:World}{B:Nat}{v:Value}{n:Nat}{zs:List (ByteArray×Int)}(hn:zs.length=n)(hz:∀z∈zs,z.1.size≤maxLen)(h:W.ownsRow B 24 2 v n (colC zs)):ColsV W v zs:=by
 subst hn
 rcases id h.2 with ⟨rfl,e⟩|⟨g,cap,cur,rfl,hb,hg,hm,hx,hs,ht⟩
 ·exact⟨none,0,by rw[e],.inl e⟩
 ·refine⟨_,cap,rfl,.inr ⟨g,0,rfl,by omega,hz,(Array.getElem?_eq_some_iff.1 hg).1,fun j hj=>?_⟩⟩
  obtain⟨c1,c2⟩:=zoy zs j hj
  have h1:=h.cells (g:=g) rfl _ _ c1
  have h2:=h.cells (g:=g) rfl _ _ c2
  rw[Go.WideShapes.add_plain] at h1 h2
  exact⟨h1,h2⟩
theorem zcU{w:World}{ops:Array Oper}{rest:List Oper}{o:Oper}{a:Act}{Q:Exit→Act→World→Prop}(hgd:o.guard=none)(s x:Operand)
  (ho:o.op=.call { callee:=.builtin .append,args:=#[s,x],argTypes:=#[25,25] })
  (base:Nat)(v:Value)(n:Nat)(zs:List (ByteArray×Int))(hs:a.eval s=v)(hown:w.ownsRow base 24 2 v n (colC zs))
  (g c:Nat)(nm:ByteArray)(t:Int)(hx:a.eval x=.slice (some ⟨g,0,none⟩) 1 c)(hc0:w.cell? ⟨g,0,none⟩=some (.string nm))(hc1:w.cell? ⟨g,1,none⟩=some (.int .i64 t))
  (cs':List Value)(hcs:colC (zs++[(nm,t)])=cs')(hsm:n≤1000)(hbase:base≤w.heap.size)
  (h:∀v' w',w'.ownsRow base 24 2 v' (n+1) cs'→Below base w w'→wpList Tryz.prog ops Q rest (a.put o.dst v') w'):wpList Tryz.prog ops Q (o::rest) a w:=by
 subst hcs
 obtain⟨i0,hi,hz0,hz1,hzz⟩:=info_parts znH
 refine wpList_append_own w hgd s x 25 ho base 24 i0 _ 2 24 Tryz.underlying25 hi hz0 hz1 hzz rfl (by decide) v n (colC zs) hs hown ⟨g,0,none⟩ 1 c [.string nm,.int .i64 t] hx rfl (fun j y hy=>?_) (fun y hy=>?_) (by unfold maxLen;omega) (by omega) hbase (fun v' w' o1 o2 _=>?_)
 ·rw[Go.WideShapes.add_plain]
  have hj:j<2:=by have:=(List.getElem?_eq_some_iff.1 hy).1;simpa using this
  have:j=0∨j=1:=by omega
  rcases this with rfl|rfl
  ·have e:Value.string nm=y:=by simpa using hy
   subst e;exact hc0
  ·have e:Value.int .i64 t=y:=by simpa using hy
   subst e;exact hc1
 ·have:y=.string nm∨y=.int .i64 t:=by simpa using hy
  rcases this with rfl|rfl<;>rfl
 ·refine h v' w' ?_ ((Below.refl _ w).grown o2 hbase (fun j hj=>(hown.lt j hj).1))
  rw[ziF];exact o1
section
open Go.BigFrame
theorem znU:(Tryz.prog.info? 24).map (fun i=>(i.zero,i.size,i.bytes))=some (some (.agg #[.string ⟨#[]⟩,.int .i64 0]),2,24):=by kernel_rfl
theorem zjd(vl:Value)(zs:List (ByteArray×Int))(w:World)(h:ColsV w vl zs)(hn:zs.length≤1000)(hs:∀z∈zs,z.1.size≤281474976710656) :
  Calls Tryz.prog 73 #[vl] w fun e w'=>(∃u,e=.returned u∧Aside (w'.ownsRow w.heap.size 24 2 u zs.length (colC zs)))∧Below w.heap.size w w':=by
 obtain⟨q,c,rfl,hc⟩:=h
 have HC:Aside _:=hc
 have S:Aside _:=hs
 obtain⟨N,hN⟩:∃N,zs.length=N:=⟨_,rfl⟩
 have HN:Hid (zs.length=N):=hN
 rw[hN] at hn ⊢
 clear hc hs hN
 have hnz:(N:Int)≤1000:=by omega
 obtain⟨j0,hj0,hy0,hy1,hy2⟩:=info_parts znU
 go_enter Tryz.func73,Tryz.ntmps73
 go_wp2
 go_loopg [3,5,8] N (fun gg s3 _ s8 wr=>∃(kk:Nat) (u:Value),kk≤N∧N-kk≤gg∧s8=.int .i64 (kk:Int)∧s3=u∧Aside (wr.ownsRow w.heap.size 24 2 u kk (colC (zs.take kk)))∧Aside (Below w.heap.size w wr))
 case atStart=>exact⟨0,.slice none 0 0,Nat.zero_le _,by omega,rfl,rfl,(show Aside _ from World.ownsRow_nil _ _ _ _),(show Aside _ from Below.refl _ _)⟩
 case round =>
  obtain⟨kk,u,hkk,hg,rfl,hu,OW,BW⟩:=hrel
  obtain rfl:u=_:=hu.symm
  by_cases hlt:kk<N
  ·have hltz:(kk:Int)<(N:Int):=by omega
   have h0z:(0:Int)≤(kk:Int):=by omega
   have hk1:kk<zs.length:=by rw[HN.out];exact hlt
   rcases HC.out with h0|⟨b,off,rfl,-,hz,hbl,hcell⟩
   ·rw[h0] at hk1;simp at hk1
   obtain⟨e0,e1⟩:=hcell kk hk1
   have z1:=S.out _ (List.getElem_mem hk1)
   have HT:Hid (colC (zs.take (kk+1))=colC (zs.take kk)++[.string zs[kk].1,.int .i64 zs[kk].2]):=by show _=_;rw[List.take_succ_eq_append_getElem hk1,ziF]
   rw[←BW.out.cell (p:=⟨b,_,none⟩) hbl] at e0 e1
   clear hcell hz
   generalize zs[kk]=x at e0 e1 z1 HT
   obtain⟨nm,t⟩:=x
   simp only at e0 e1 z1
   have hbs:=BW.out.size
   obtain⟨uq,uc,rfl⟩:=zaa OW.out
   have cC:=fun W=>zbz nm W z1
   have hCA:∀W,Below (wr.heap.size+1) (wr.alloc (.cells #[.string nm,.int .i64 t] 24)).drew W→W.cell? ⟨wr.heap.size,1,none⟩=some (.int .i64 t)∧wr.heap.size<W.heap.size∧(∀o,(W.alloc o).cell? ⟨wr.heap.size,1,none⟩=some (.int .i64 t)):=fun W hb=>by
    have h1:W.cell? ⟨wr.heap.size,1,none⟩=some (.int .i64 t):=by
     rw[hb.cell (p:=⟨wr.heap.size,1,none⟩) (show wr.heap.size<wr.heap.size+1 by omega)]
     simp
    have h2:wr.heap.size<W.heap.size:=by have:=hb.size;have e:(wr.alloc (.cells #[.string nm,.int .i64 t] 24)).drew.heap.size=wr.heap.size+1:=by (show (wr.alloc _).heap.size=_);simp
                                               omega
    exact⟨h1,h2,fun o=>by rw[(alB W o).cell (p:=⟨wr.heap.size,1,none⟩) h2];exact h1⟩
   have HCA:Aside _:=hCA
   clear hCA
   go_wp2_with fail
   go_region_law (first
    | (refine zax rfl (.tmp 12) (.tmp 19) 25 rfl w.heap.size 24 j0 _ 2 24 Tryz.underlying25 hj0 hy0 hy1 hy2 (by decide) (by decide) (.slice uq kk uc) kk (colC (zs.take kk)) (by simp[Act.eval]) (zab HO3.out (alB w3 _)) ⟨w3.heap.size,0,none⟩ 1 1 [.string nm,.int .i64 t] (by simp[Act.eval]) rfl (fun j y hy=>by rw[Go.WideShapes.add_plain];have hj:j<2:=(by have:=(List.getElem?_eq_some_iff.1 hy).1;simpa using this);have:j=0∨j=1:=(by omega);rcases this with rfl|rfl<;>(simp at hy;subst hy;simp)) (fun y hy=>by have:y=.string nm∨y=.int .i64 t:=(by simpa using hy);rcases this with rfl|rfl<;>rfl) (by unfold maxLen;omega) (by omega) (by simp;omega) ?_;intro q9 c9 w9 hown' hgrow)
    | (go_simp;go_wp2_with (go_at_call 49;refine (cC _).mono ?_;rintro e w3 ⟨rfl,b3⟩;have BA:Below w.heap.size w w3:=(BW.out.alloc hbs _).drew.trans (b3.mono (by simp;omega));have hb3:Below (wr.heap.size+1) (wr.alloc (.cells #[.string nm,.int .i64 t] 24)).drew w3:=(b3.mono (Nat.le_of_eq (by (show _=(wr.alloc _).heap.size);simp)));have hk1:=(HCA.out w3 hb3).1;have hk2:=(HCA.out w3 hb3).2.1;have hk3:=(HCA.out w3 hb3).2.2;have HB3:Aside _:=BA;have hs3:=BA.size;have HO3:Aside (w3.ownsRow w.heap.size 24 2 (.slice uq kk uc) kk (colC (zs.take kk))):=zab (zab OW.out ((Below.refl _ wr).alloc (Nat.le_refl _) (.cells #[.string nm,.int .i64 t] 24) |>.drew)) b3)))
   all_goals
    have O9:Aside (w9.ownsRow w.heap.size 24 2 (.slice q9 (kk+1) c9) (kk+1) (colC (zs.take (kk+1)))):=by rw[HT.out];exact hown'
    have B9:Aside (Below w.heap.size w w9):=(HB3.out.alloc hs3 _).grown hgrow (by simp;omega) (fun k hk=>(World.ownsRow.lt HO3.out k hk).1)
    clear hown' hgrow HO3 HB3 hk1 hk2 hk3 hb3 BA b3 HT HCA e0 e1
    go_wp2
    go_roundg (N-(kk+1))
    case measure=>omega
    case rel=>exact⟨kk+1,_,by omega,by omega,by go_num,rfl,O9,B9⟩
  ·have hltz:¬(kk:Int)<(N:Int):=by omega
   obtain rfl:kk=N:=by omega
   have HO:Aside (wr.ownsRow w.heap.size 24 2 u kk (colC zs)):=by
    have:=OW.out
    rw[List.take_of_length_le (by rw[HN.out];exact Nat.le_refl _)] at this
    exact this
   clear OW
   go_wp2
   go_ret
   exact⟨⟨u,rfl,HO⟩,BW.out⟩
theorem But.low{r:Nat}{w0 w W:World}(h:But r w W)(hb:Below w0.heap.size w0 w)(hr:w0.heap.size≤r):Below w0.heap.size w0 W:=hb.trans (h.below.mono hr)
theorem zhE(b off n c k:Nat)(w:World)(hk:k<n)(hn:n≤1000)(hb:b<w.heap.size)(hc:w.cell? ⟨b,off+k*2+1,none⟩=some (.int .i64 1))
  (hF:Calls Tryz.prog 76 #[.slice (some ⟨b,off,none⟩) n c,.string ⟨#[97,116]⟩] w fun e w'=>e=.returned (.tuple #[.int .i64 (k:Int),.nilIface])∧Below w.heap.size w w') :
  Calls Tryz.prog 41 #[.slice (some ⟨b,off,none⟩) n c] w fun e w'=>e=.returned (.tuple #[.int .i64 (k:Int),.nilIface])∧Below w.heap.size w w':=by
 have hkz:(k:Int)<(n:Int):=by omega
 have hk0:(0:Int)≤(k:Int):=by omega
 go_enter Tryz.func41,Tryz.ntmps41
 go_wp2_with fail
 refine hF.mono ?_
 rintro e w1 ⟨rfl,b1⟩
 have hc1:w1.cell? ⟨b,off+k*2+1,none⟩=some (.int .i64 1):=by rw[b1.cell (p:=⟨b,_,none⟩) hb];exact hc
 clear hF hc
 go_wp2
 go_ret2
 exact⟨rfl,b1⟩
end
section
open Go
section
variable {P : Program} {ops : Array Oper} {Q : Exit → Act → World → Prop}
structure RfJ(ops:Array Oper)(m:Nat)(Le:World→World→Prop)(R:Nat→Value→World→Prop)(a0:Act)(w0:World)(listed:Array Bool)(a:Act)(w:World):Prop where
 le:Le w0 w
 sz:a.tmps.size=a0.tmps.size
 df:a.defers=a0.defers
 done:∀i o d,i<m→listed.getD i false=true→ops[i]?=some o→o.dst=some d→R i (a.tmps.getD d undef) w
 old:∀d,(∀o∈ops.toList,o.dst≠some d)→a.tmps.getD d undef=a0.tmps.getD d undef
def rfOk(ops:Array Oper)(n m:Nat):Bool :=
 rgOk ops n&&(decide (ops.size=m+1)&&((List.range m).all (fun i=>(match ops[i]? with|some o=>o.dst.isSome|none=>false)&&(match ops[m]? with|some o=>o.after.toList.any (fun e=>Region.binds .any e&&e.on == i)|none=>false))))
theorem zfB{id:Nat}{a0:Act}{w:World}(n m:Nat)(hok:rfOk ops n m=true)(hn:a0.tmps.size=n)(hm:P.follows .mixedOrders=true)(om:Oper)(hom:ops[m]?=some om)(hdm:om.dst=none)(Le:World→World→Prop)(hrefl:∀w,Le w w)(htrans:∀a b c,Le a b→Le b c→Le a c)
  (R:Nat→Value→World→Prop)(hR:∀i v w1 w2,Le w1 w2→R i v w1→R i v w2)
  (hstep:∀(i:Nat) (o:Oper) (d:Tmp),i<m→ops[i]?=some o→o.dst=some d→∀a w',Le w.drew w' →
   (∀e∈o.after,Region.binds .any e=true→∀(oj:Oper) (d:Tmp),ops[e.on]?=some oj→oj.dst=some d→R e.on (a.tmps.getD d undef) w') →
   (∀d,(ops.toList.all fun o=>!(o.dst == some d))=true→a.tmps.getD d undef=a0.tmps.getD d undef) →
   ∀K:Act→World→Prop,(∀v w'',R i v w''→Le w' w''→K (a.put (some d) v) w'')→Oper.wp P o a w' K Q)
  (hfin:∀(vs:Nat→Value) w',Le w.drew w'→(∀i,i<m→R i (vs i) w')→∀K:Act→World→Prop,(∀a' w'',Q .normal a' w''→K a' w'')→Oper.wp P om (putL vs (ops.toList.take m) 0 a0) w' K Q) :
  (Code.region id ops true).wp P Q a0 w:=by
 rw[rfOk,Bool.and_eq_true,Bool.and_eq_true] at hok
 obtain⟨hok,hsz,hall0⟩:=hok
 have hsz:ops.size=m+1:=of_decide_eq_true hsz
 rw[rgOk,Bool.and_eq_true,Bool.and_eq_true,Bool.and_eq_true] at hok
 obtain⟨c1,c2,c3,c4⟩:=hok
 have hg:∀o∈ops.toList,o.guard=none:=fun o ho=>by
  have:=List.all_eq_true.1 c1 o ho
  simpa using this
 have hu:∀(i j:Nat) (oi oj:Oper) (d:Tmp),ops[i]?=some oi→ops[j]?=some oj→oi.dst=some d→oj.dst=some d→i=j:=fun i j oi oj d hi hj =>
  zeS ops.toList (of_decide_eq_true c2) i j oi oj d (by simpa using hi) (by simpa using hj)
 have hlt:∀o∈ops.toList,∀d,o.dst=some d→d<a0.tmps.size:=fun o ho d hd=>by
  rw[hn]
  exact of_decide_eq_true (List.all_eq_true.1 c3 d (List.mem_filterMap.2 ⟨o,ho,hd⟩))
 have hac:∀(i:Nat) (o:Oper),ops[i]?=some o→∀e∈o.after,Region.binds .any e=true→e.on<i:=fun i o hi e he hb=>by
  have h:=List.all_eq_true.1 c4 i (List.mem_range.2 (Array.getElem?_eq_some_iff.1 hi).1)
  rw[hi] at h
  have h2:=List.all_eq_true.1 h e (by simpa using he)
  rw[hb] at h2
  simpa using h2
 have hds:∀i o,i<m→ops[i]?=some o→∃d,o.dst=some d:=fun i o hi ho=>by
  have h:=List.all_eq_true.1 hall0 i (List.mem_range.2 hi)
  rw[Bool.and_eq_true,ho] at h
  exact Option.isSome_iff_exists.1 h.1
 have hbm:∀i,i<m→∃e∈om.after,Region.binds .any e=true∧e.on=i:=fun i hi=>by
  have h:=List.all_eq_true.1 hall0 i (List.mem_range.2 hi)
  rw[Bool.and_eq_true,hom] at h
  obtain⟨e,he,he2⟩:=List.any_eq_true.1 h.2
  rw[Bool.and_eq_true] at he2
  exact⟨e,by simpa using he,he2.1,by simpa using he2.2⟩
 have hex:∀(i:Nat) (o:Oper),ops[i]?=some o→o∈ops.toList:=fun i o ho=>by have:=Array.mem_of_getElem? ho;simpa using this
 have hold:∀(d:Tmp),(ops.toList.all fun o=>!(o.dst == some d))=true→∀o∈ops.toList,o.dst≠some d:=fun d h o ho e=>by
  have:=List.all_eq_true.1 h o ho
  rw[e] at this
  simp at this
 refine wp_region_any hm ?_
 refine zeT (fun listed a w'=>(listed.getD m false=false∧RfJ ops m Le R a0 w.drew listed a w')∨((∀i,i<ops.size→listed.getD i false=true)∧Q .normal a w')) ?_ ?_ ops.size _ a0 _ (by simp) ?_ ?_
 ·intro listed a w' hs hJ i hi
  obtain⟨h0,o,ho,hall⟩:=mem_ready.1 hi
  have hio:i<ops.size:=(Array.getElem?_eq_some_iff.1 ho).1
  have hmem:=hex i o ho
  have h00:listed.getD i false=false:=by
   have hsz:i<listed.size:=by omega
   simpa [hsz] using h0
  rcases hJ with ⟨hml,hJ⟩|⟨hal,-⟩
  ·refine wpOp_step ho fun K' hK=>?_
   rw[if_pos (by simp[Region.wanted,hg o hmem])]
   by_cases him:i=m
   ·subst him
    obtain rfl:o=om:=Option.some.inj (ho.symm.trans hom)
    have hl:∀j,j<i→listed.getD j false=true:=fun j hj=>by
     obtain⟨e,he,hb,hej⟩:=hbm j hj
     rw[←hej];exact hall e he hb
    have hat:∀(t:Array Value) (d:Nat) (h:d<t.size),t.getD d undef=t[d]:=fun t d h=>by simp[h]
    obtain⟨vs,hvs⟩:∃vs:Nat→Value,∀i o d,ops[i]?=some o→o.dst=some d→vs i=a.tmps.getD d undef:=⟨fun i=>a.tmps.getD (((ops[i]?).bind (·.dst)).getD 0) undef,fun i o d ho hd=>by simp[ho,hd]⟩
    have htk:∀j (oj:Oper),(ops.toList.take i)[j]?=some oj→j<i∧ops[j]?=some oj:=fun j oj h=>by
     have hj:j<i:=by
      have:=(List.getElem?_eq_some_iff.1 h).1
      rw[List.length_take] at this;omega
     rw[List.getElem?_take_of_lt hj] at h
     exact⟨hj,by simpa using h⟩
    have hpt:∀d,d<a0.tmps.size→(putL vs (ops.toList.take i) 0 a0).tmps.getD d undef=a.tmps.getD d undef:=fun d hd=>by
     by_cases hexi:∃(j:Nat) (oj:Oper),j<i∧ops[j]?=some oj∧oj.dst=some d
     ·obtain⟨j,oj,hj,hoj,hod⟩:=hexi
      rw[zlR vs (ops.toList.take i) 0 a0 j oj (by rw[List.getElem?_take_of_lt hj];simpa using hoj) hod (fun j' o' h1 h2=>hu j' j o' oj d (htk j' o' h1).2 hoj h2 hod) hd,Nat.zero_add]
      exact hvs j oj d hoj hod
     ·have hno:∀oj∈ops.toList,oj.dst≠some d:=fun oj hoj h=>by
       obtain⟨j,hj,rfl⟩:=List.getElem_of_mem hoj
       have hj2:j<ops.size:=by simpa using hj
       have hjm:j≠i:=fun e=>by
        subst e
        have e2:ops.toList[j]=o:=by
         have:=ho
         rw[Array.getElem?_eq_getElem hj2] at this
         injection this with this
        rw[e2,hdm] at h
        cases h
       exact hexi ⟨j,ops.toList[j],by omega,by simp[hj2],h⟩
      rw[zhY vs (ops.toList.take i) 0 a0 (fun oj hoj=>hno oj (List.mem_of_mem_take hoj))]
      exact (hJ.old d hno).symm
    have heq:a=putL vs (ops.toList.take i) 0 a0:=by
     have h1:a.tmps=(putL vs (ops.toList.take i) 0 a0).tmps:=by
      refine Array.ext (by rw[zft];exact hJ.sz) fun d h1 h2=>?_
      rw[←hat _ _ h1,←hat _ _ h2]
      exact (hpt d (by rw[←hJ.sz];exact h1)).symm
     have h2:a.defers=(putL vs (ops.toList.take i) 0 a0).defers:=by rw[zcz];exact hJ.df
     cases a
     cases h:putL vs (ops.toList.take i) 0 a0
     rw[h] at h1 h2
     simp only at h1 h2
     rw[h1,h2]
    rw[heq]
    refine hfin vs w' hJ.le (fun j hj=>?_) K' (fun a' w'' hq=>?_)
    ·have hj2:j<ops.size:=by omega
     obtain⟨d,hd⟩:=hds j ops[j] hj (by simp[hj2])
     rw[hvs j ops[j] d (by simp[hj2]) hd]
     exact hJ.done j ops[j] d hj (hl j hj) (by simp[hj2]) hd
    ·refine hK a' w'' (.inr ⟨fun j hj=>?_,hq⟩)
     by_cases hji:i=j
     ·subst hji
      have hz:i<listed.size:=by omega
      simp[hz]
     ·exact getD_set_true (hl j (by omega))
   ·obtain⟨d,hd⟩:=hds i o (by omega) ho
    have hdd:d<a.tmps.size:=by rw[hJ.sz];exact hlt o hmem d hd
    refine hstep i o d (by omega) ho hd a w' hJ.le (fun e he hb oj dj hoj hdj=>hJ.done e.on oj dj (by have:=hac i o ho e he hb;omega) (hall e he hb) hoj hdj) (fun dj hdj=>hJ.old dj (hold dj hdj)) K' (fun v w'' hv hle=>?_)
    rw[←hd]
    refine hK _ w'' (.inl ⟨by rw[getD_set_ne false him];exact hml,⟨htrans _ _ _ hJ.le hle,by rw[zds];exact hJ.sz,by rw[zcq];exact hJ.df,fun j oj dj hjm hj hoj hdj=>?_,fun dj hdj=>?_⟩⟩)
    ·by_cases hji:i=j
     ·subst hji
      obtain rfl:o=oj:=Option.some.inj (ho.symm.trans hoj)
      obtain rfl:d=dj:=Option.some.inj (hd.symm.trans hdj)
      rw[hd,zni _ _ hdd]
      exact hv
     ·rw[getD_set_ne false hji] at hj
      rw[hd,zgg _ _ (fun h=>hji (hu i j o oj d ho hoj hd (by rw[hdj];injection h with h;rw[h])))]
      exact hR _ _ _ _ hle (hJ.done j oj dj hjm hj hoj hdj)
    ·rw[zgg _ _ (hdj o hmem)]
     exact hJ.old dj hdj
  ·have:=hal i hio
   rw[h00] at this;cases this
 ·intro listed a w' hs hJ hr
  rcases hJ with ⟨hml,hJ⟩|⟨-,hq⟩
  ·exfalso
   have hall:∀i,i<ops.size→listed.getD i false=true:=by
    intro i
    induction i using Nat.strongRecOn with
    | ind i ih =>
     intro hi
     by_cases hl:listed.getD i false=true
     ·exact hl
     ·have hl2:listed.getD i true=false:=by
       have hi2:i<listed.size:=by omega
       simp[hi2] at hl ⊢
       exact hl
      have hin:i∈Region.ready .any ops listed:=mem_ready.2 ⟨hl2,ops[i],by simp[hi],fun e he hb=>ih e.on (hac i ops[i] (by simp[hi]) e he hb) (by have:=hac i ops[i] (by simp[hi]) e he hb;omega)⟩
      rw[hr] at hin
      cases hin
   have:=hall m (by omega)
   rw[hml] at this;cases this
  ·exact hq
 ·unfold left
  exact Nat.le_trans (List.countP_le_length) (by simp)
 ·have hf:∀i,(Array.replicate ops.size false).getD i false=false:=fun i=>by
   rcases Nat.lt_or_ge i ops.size with h'|h'
   ·simp[h']
   ·simp[h']
  refine .inl ⟨hf m,hrefl _,rfl,rfl,fun i o d _ h=>?_,fun d _=>rfl⟩
  rw[hf] at h;cases h
end
end
section
open Go.BigFrame
def NsC(r:Nat)(zs:List (ByteArray×Int))(v:Value)(W:World):Prop:=∃q c,v=.slice q zs.length c∧W.ownsRow (r+1) 24 2 v zs.length (colC zs)
def NsE(r:Nat)(y:Ex)(v:Value)(W:World):Prop:=ExIn W (r < ·) v y
def NsS(r:Nat)(ys:List Ex)(v:Value)(W:World):Prop:=∃q c,v=.slice q ys.length c∧zau W (r+1) v ys
def NsV(r:Nat)(zs:List (ByteArray×Int))(y:Ex)(ys:List Ex)(SC:Array Value)(W:World):Prop:=∃cv yp yc uv,SC=#[cv,.string y.op,.string y.nm,.int .i64 y.vt,.int .i64 y.vn,.string y.vs,.slice yp y.args.length yc,.int .i64 y.pos,uv]∧NsC r zs cv W∧NsE r y (exV y yp yc) W∧NsS r ys uv W
theorem NsC.on{r:Nat}{zs:List (ByteArray×Int)}{v:Value}{W W':World}(h:NsC r zs v W)(hb:Below W.heap.size W W'):NsC r zs v W':=by
 obtain⟨q,c,e,h⟩:=h
 exact⟨q,c,e,zab h hb⟩
theorem NsE.on{r:Nat}{y:Ex}{v:Value}{W W':World}(h:NsE r y v W)(hb:Below W.heap.size W W'):NsE r y v W':=ExIn.on h hb
theorem NsS.on{r:Nat}{ys:List Ex}{v:Value}{W W':World}(h:NsS r ys v W)(hb:Below W.heap.size W W'):NsS r ys v W':=by
 obtain⟨q,c,e,h⟩:=h
 exact⟨q,c,e,h.on hb⟩
theorem NsV.on{r:Nat}{zs:List (ByteArray×Int)}{y:Ex}{ys:List Ex}{SC:Array Value}{W W':World}(h:NsV r zs y ys SC W)(hb:Below W.heap.size W W'):NsV r zs y ys SC W':=by
 obtain⟨cv,yp,yc,uv,e,h1,h2,h3⟩:=h
 exact⟨cv,yp,yc,uv,e,h1.on hb,h2.on hb,h3.on hb⟩
theorem NsV.but{r:Nat}{zs:List (ByteArray×Int)}{y:Ex}{ys:List Ex}{SC:Array Value}{W W':World}(h:NsV r zs y ys SC W)(hb:But r W W'):NsV r zs y ys SC W':=by
 obtain⟨cv,yp,yc,uv,e,⟨q1,c1,e1,h1⟩,h2,q3,c3,e3,h3⟩:=h
 exact⟨cv,yp,yc,uv,e,⟨q1,c1,e1,zdS h1 hb (Nat.lt_succ_self _)⟩,ExIn.but h2 hb (fun b hb=>by omega),⟨q3,c3,e3,h3.but hb (Nat.lt_succ_self _)⟩⟩
def NsR(r:Nat)(zs:List (ByteArray×Int))(y:Ex)(ys:List Ex)(vl:Value)(XC:Array Value)(sv:Value)(i:Nat)(v:Value)(W:World):Prop:=match i with
 | 0=>v=vl
 | 1=>NsC r zs v W
 | 2=>v=.agg XC
 | 3=>NsE r y v W
 | 4=>v=sv
 | 5=>NsS r ys v W
 | _=>∃SC,v=.agg SC∧NsV r zs y ys SC W
theorem NsR.on{r:Nat}{zs:List (ByteArray×Int)}{y:Ex}{ys:List Ex}{vl:Value}{XC:Array Value}{sv:Value}(i:Nat)(v:Value)(W W':World)(hb:Below W.heap.size W W')(h:NsR r zs y ys vl XC sv i v W):NsR r zs y ys vl XC sv i v W':=by
 unfold NsR at *
 split at h
 ·exact h
 ·exact NsC.on h hb
 ·exact h
 ·exact NsE.on h hb
 ·exact h
 ·exact NsS.on h hb
 ·obtain⟨SC,e,h⟩:=h
  exact⟨SC,e,h.on hb⟩
abbrev zS9:Array Value:=#[.slice none 0 0,.string ⟨#[]⟩,.string ⟨#[]⟩,.int .i64 0,.int .i64 0,.string ⟨#[]⟩,.slice none 0 0,.int .i64 0,.slice none 0 0]
set_option maxHeartbeats 40000000 in
theorem zlf(x y:Ex)(ys:List Ex)(zs:List (ByteArray×Int))(lo:Nat→Prop)(XC:Array Value)(vl sv:Value)(w:World)(hx:ExIn w lo (.agg XC) x)
  (hE:∀W,Below w.heap.size w W→Calls Tryz.prog 74 #[.agg XC] W fun e w'=>(∃v,e=.returned v∧Aside (ExIn w' (W.heap.size≤·) v y))∧Below W.heap.size W w')
  (hS:∀W,Below w.heap.size w W→Calls Tryz.prog 75 #[sv] W fun e w'=>(∃u,e=.returned u∧Aside (zau w' W.heap.size u ys))∧Below W.heap.size W w')
  (hC:∀W,Below w.heap.size w W→Calls Tryz.prog 73 #[vl] W fun e w'=>(∃u,e=.returned u∧Aside (w'.ownsRow W.heap.size 24 2 u zs.length (colC zs)))∧Below W.heap.size W w') :
  Calls Tryz.prog 40 #[.agg XC,sv,vl] w fun e w'=>(∃SC,e=.returned (.agg SC)∧Aside (NsV (w.heap.size+1) zs y ys SC w'))∧Below w.heap.size w w':=by
 have hX7:=zeO hx
 have hs7:(Tryz.prog.info? 30).map (·.size)=some XC.toList.length:=by rw[Array.length_toList,hX7];kernel_rfl
 have b2:Below w.heap.size w ((w.alloc (.cells XC 30)).alloc (.cells zS9 97)):=(alB w _).alloc (by simp) _
 have k0:Blk ((w.alloc (.cells XC 30)).alloc (.cells zS9 97)) w.heap.size XC 30:=(zac w XC _).on (alB _ _)
 have k1:Blk ((w.alloc (.cells XC 30)).alloc (.cells zS9 97)) (w.heap.size+1) zS9 97:=by
  have:=zac (w.alloc (.cells XC 30)) zS9 97
  rwa [show (w.alloc (.cells XC 30)).heap.size=w.heap.size+1 by simp] at this
 have hsz:((w.alloc (.cells XC 30)).alloc (.cells zS9 97)).heap.size=w.heap.size+2:=by simp
 have HB:Aside (Below w.heap.size w ((w.alloc (.cells XC 30)).alloc (.cells zS9 97))):=b2
 clear hx b2
 go_enter Tryz.func40,Tryz.ntmps40
 go_wp2
 go_upto_region 1 with fail
 generalize hW0:((w.alloc (.cells XC 30)).alloc (.cells zS9 97))=W0 at *
 clear hW0
 have hbw:∀w',Below W0.drew.heap.size W0.drew w'→Below w.heap.size w w'∧w.heap.size+2≤w'.heap.size∧Below W0.heap.size W0 w':=fun w' hb=>by
  have h1:Below W0.heap.size W0 w':=(Below.refl _ W0).drew.trans hb
  exact⟨HB.out.trans (h1.mono (by omega)),by have:=h1.size;omega,h1⟩
 refine zfB 14 7 (by kernel_rfl) rfl (by kernel_rfl) _ rfl rfl (fun a b=>Below a.heap.size a b) (fun a=>Below.refl _ _) (fun a b c h k=>h.trans (k.mono h.size)) (NsR (w.heap.size+1) zs y ys vl XC sv) NsR.on ?_ ?_
 ·intro i o d hi ho hd a w' hle hdep hold KK hKK
  obtain⟨hb1,hb2,hb3⟩:=hbw w' hle
  rcases i with _|i
  ·cases ho;cases hd
   have q2:a.tmps.getD 2 undef=vl:=hold 2 rfl
   rw[Array.getD_eq_getD_getElem?] at q2
   unfold Oper.wp execOp
   go_simp
   exact hKK _ _ rfl (Below.refl _ _)
  rcases i with _|i
  ·cases ho;cases hd
   have q7:a.tmps.getD 7 undef=vl:=hdep ⟨0,.data⟩ (by simp) rfl _ 7 rfl rfl
   rw[Array.getD_eq_getD_getElem?] at q7
   unfold Oper.wp execOp
   go_simp
   refine (hC w' hb1).mono ?_
   rintro e wq ⟨⟨u,rfl,HU⟩,bq⟩
   obtain⟨uq,uc,hu⟩:=zaa HU.out
   exact hKK _ _ ⟨uq,uc,hu,zfH HU.out (by omega)⟩ bq
  rcases i with _|i
  ·cases ho;cases hd
   have q3:a.tmps.getD 3 undef=.pointer (some ⟨w.heap.size,0,none⟩):=hold 3 rfl
   refine wp_load_mid 30 _ rfl w.heap.size 0 q3 XC.toList _ (fun j v hv=>?_) Tryz.underlying30 rfl hs7 ?_
   ·rw[Nat.zero_add,(k0.on hb3).cell]
    simpa using hv
   ·exact hKK _ _ rfl (Below.refl _ _)
  rcases i with _|i
  ·cases ho;cases hd
   have q9:a.tmps.getD 9 undef=.agg XC:=hdep ⟨2,.data⟩ (by simp) rfl _ 9 rfl rfl
   rw[Array.getD_eq_getD_getElem?] at q9
   unfold Oper.wp execOp
   go_simp
   refine (hE w' hb1).mono ?_
   rintro e wq ⟨⟨u,rfl,HU⟩,bq⟩
   exact hKK _ _ (show NsE _ _ _ _ from ExIn.low (fun b _ hb=>by omega) _ _ HU.out) bq
  rcases i with _|i
  ·cases ho;cases hd
   have q1:a.tmps.getD 1 undef=sv:=hold 1 rfl
   rw[Array.getD_eq_getD_getElem?] at q1
   unfold Oper.wp execOp
   go_simp
   exact hKK _ _ rfl (Below.refl _ _)
  rcases i with _|i
  ·cases ho;cases hd
   have q11:a.tmps.getD 11 undef=sv:=hdep ⟨4,.data⟩ (by simp) rfl _ 11 rfl rfl
   rw[Array.getD_eq_getD_getElem?] at q11
   unfold Oper.wp execOp
   go_simp
   refine (hS w' hb1).mono ?_
   rintro e wq ⟨⟨u,rfl,HU⟩,bq⟩
   obtain⟨cs,o1,o2⟩:=HU.out
   obtain⟨uq,uc,hu⟩:=zaa o1
   refine hKK _ _ ⟨uq,uc,hu,?_⟩ bq
   refine⟨cs,zfH o1 (by omega),fun j hj=>?_⟩
   obtain⟨a0,a1,a2,a3,a4,a5,a6,e0,e1,e2,e3,e4,e5,e6,hz⟩:=o2 j hj
   exact⟨a0,a1,a2,a3,a4,a5,a6,e0,e1,e2,e3,e4,e5,e6,ExIn.low (fun b _ hb=>⟨by omega,hb.2⟩) _ _ hz⟩
  rcases i with _|i
  ·cases ho;cases hd
   have q8:NsC (w.heap.size+1) zs (a.tmps.getD 8 undef) w':=hdep ⟨1,.data⟩ (by simp) rfl _ 8 rfl rfl
   have q10:NsE (w.heap.size+1) y (a.tmps.getD 10 undef) w':=hdep ⟨3,.data⟩ (by simp) rfl _ 10 rfl rfl
   have q12:NsS (w.heap.size+1) ys (a.tmps.getD 12 undef) w':=hdep ⟨5,.data⟩ (by simp) rfl _ 12 rfl rfl
   obtain⟨cq,cc,e8,h8⟩:=q8
   obtain⟨yp,yc,e10,-⟩:=ExIn.whole q10
   obtain⟨uq,uc,e12,h12⟩:=q12
   have q10':NsE (w.heap.size+1) y (exV y yp yc) w':=by
    have:=q10
    rw[e10] at this
    exact this
   have g8:=e8
   have g10:=e10
   have g12:=e12
   rw[Array.getD_eq_getD_getElem?] at g8 g10 g12
   unfold Oper.wp execOp
   go_simp
   exact hKK _ _ ⟨_,rfl,_,yp,yc,_,rfl,⟨cq,cc,rfl,by rw[←e8];exact h8⟩,q10',⟨uq,uc,rfl,by rw[←e12];exact h12⟩⟩ (Below.refl _ _)
  ·omega
 ·intro vs w' hle hR KK hKK
  have h0:=hbw w' hle
  have h6:=hR 6 (by omega)
  generalize hact:putL vs _ 0 _=act
  have a6:act.tmps.getD 6 undef=.pointer (some ⟨w.heap.size+1,0,none⟩):=by rw[←hact];rfl
  have a13:act.tmps.getD 13 undef=vs 6:=by rw[←hact];rfl
  have ad:act.defers=[]:=by rw[←hact];rfl
  clear hact hle hR hbw
  obtain⟨hb1,hb2,hb3⟩:=h0
  obtain⟨SC,e6,hV⟩:=h6
  rw[e6] at a13
  obtain⟨cv,yp,yc,uv,eSC,h1,h2,h3⟩:=id hV
  have hk:=k1.on hb3
  obtain⟨cq,cc,rfl,h1⟩:=h1
  obtain⟨uq,uc,rfl,h3⟩:=h3
  subst eSC
  refine wp_store_mid 97 (.tmp 6) (.tmp 13) rfl (w.heap.size+1) 0 _ a6 a13 (hk.there 0 9 (by decide)) (by kernel_rfl) (by simp[Value.oneCell']) ?_
  refine hKK _ _ ?_
  have hk2:=Blk.cells [.slice cq zs.length cc,.string y.op,.string y.nm,.int .i64 y.vt,.int .i64 y.vn,.string y.vs,.slice yp y.args.length yc,.int .i64 y.pos,.slice uq ys.length uc] 0 w' zS9 hk
  have hbu:But (w.heap.size+1) w' (w'.setCells (w.heap.size+1) 0 [.slice cq zs.length cc,.string y.op,.string y.nm,.int .i64 y.vt,.int .i64 y.vn,.string y.vs,.slice yp y.args.length yc,.int .i64 y.pos,.slice uq ys.length uc]):=But.cells _ _ _ (But.refl _ _)
  have HV2:Aside (NsV (w.heap.size+1) zs y ys #[.slice cq zs.length cc,.string y.op,.string y.nm,.int .i64 y.vt,.int .i64 y.vn,.string y.vs,.slice yp y.args.length yc,.int .i64 y.pos,.slice uq ys.length uc] (w'.setCells (w.heap.size+1) 0 [.slice cq zs.length cc,.string y.op,.string y.nm,.int .i64 y.vt,.int .i64 y.vn,.string y.vs,.slice yp y.args.length yc,.int .i64 y.pos,.slice uq ys.length uc])):=hV.but hbu
  have HB2:Aside (Below w.heap.size w (w'.setCells (w.heap.size+1) 0 [.slice cq zs.length cc,.string y.op,.string y.nm,.int .i64 y.vt,.int .i64 y.vn,.string y.vs,.slice yp y.args.length yc,.int .i64 y.pos,.slice uq ys.length uc])):=hb1.trans (hbu.below.mono (Nat.le_succ _))
  have g:∀i,(w'.setCells (w.heap.size+1) 0 [.slice cq zs.length cc,.string y.op,.string y.nm,.int .i64 y.vt,.int .i64 y.vn,.string y.vs,.slice yp y.args.length yc,.int .i64 y.pos,.slice uq ys.length uc]).cell? ⟨w.heap.size+1,i,none⟩=(#[.slice cq zs.length cc,.string y.op,.string y.nm,.int .i64 y.vt,.int .i64 y.vn,.string y.vs,.slice yp y.args.length yc,.int .i64 y.pos,.slice uq ys.length uc]:Array Value)[i]?:=fun i=>by rw[hk2.cell];rfl
  have g0:=g 0
  have g1:=g 1
  have g2:=g 2
  have g3:=g 3
  have g4:=g 4
  have g5:=g 5
  have g6:=g 6
  have g7:=g 7
  have g8:=g 8
  simp only[List.getElem?_toArray,List.getElem?_cons_zero,List.getElem?_cons_succ] at g0 g1 g2 g3 g4 g5 g6 g7 g8
  clear g hk2 hbu hV h1 h2 h3 hk hb1 hb2 hb3 a13 hE hS hC hKK
  generalize (w'.setCells (w.heap.size+1) 0 [.slice cq zs.length cc,.string y.op,.string y.nm,.int .i64 y.vt,.int .i64 y.vn,.string y.vs,.slice yp y.args.length yc,.int .i64 y.pos,.slice uq ys.length uc])=W2 at *
  rw[Array.getD_eq_getD_getElem?] at a6
  change Exit.then _ _ Exit.normal (act.put none undef) _
  simp only[Act.put]
  go_wp2
  exact bodyPost_ret (v:=.agg #[.slice cq zs.length cc,.string y.op,.string y.nm,.int .i64 y.vt,.int .i64 y.vn,.string y.vs,.slice yp y.args.length yc,.int .i64 y.pos,.slice uq ys.length uc]) (by simp[results,Tryz.results40,go_sem,a6,g0,g1,g2,g3,g4,g5,g6,g7,g8]) ad ⟨⟨_,rfl,HV2⟩,HB2.out⟩
end
theorem ExIn.keepB{w w':World}{B:Nat}{lo:Nat→Prop}{v:Value}{x:Ex}(h:ExIn w lo v x)(hk:KeepB B w w')(hl:∀b,lo b→B≤b):ExIn w' lo v x:=ExIn.keep hk.1 (fun b o hb hlt=>by simp only[World.cell?,hk.2 b (hl b hb) hlt]) _ _ h
theorem zat.keepB{w w':World}{B:Nat}{lo:Nat→Prop}{v:Value}{l:List Ex}(h:zat w lo v l)(hk:KeepB B w w')(hl:∀b,lo b→B≤b):zat w' lo v l:=h.keep hk.1 (fun b o hb hlt=>by simp only[World.cell?,hk.2 b (hl b hb) hlt])
theorem znM{S0:Nat→Prop}{r gb:Nat}{zs:List (ByteArray×Int)}{y:Ex}{ys:List Ex}{SC:Array Value}{W1:World}(hV:NsV r zs y ys SC W1)(hg:gb≤r)(hz:∀z∈zs,z.1.size≤maxLen)(hel:ys.length≤1048576)(hny:noOp y=true)(hnys:∀x∈ys,noOp x=true)
  (T:List V3)(P:Bool)(E:Int)(rq:Option Addr)(rc:Nat)(rs:List V3)(hR:takP zs y ys rs=(T,P,E)) :
  ∀W,Bts S0 gb W1 W→zah W rq rs→Calls Tryz.prog 71 #[.agg SC,.slice rq rs.length rc] W fun e w'=>(∃u,e=.returned (.tuple #[u,.bool P,errV E])∧Aside (FrV W.heap.size w' u T))∧Below W.heap.size W w':=by
 intro W hb hv
 have hk:=hb.keepB
 obtain⟨cv,yp,yc,uv,rfl,⟨cq,cc,ec,h1⟩,h2,⟨uq,uc,eu,h3⟩⟩:=hV
 subst ec
 subst eu
 have hx:ExIn W (r < ·) (.agg #[.string y.op,.string y.nm,.int .i64 y.vt,.int .i64 y.vn,.string y.vs,.slice yp y.args.length yc,.int .i64 y.pos]) y:=ExIn.keepB h2 hk (fun b hb=>by have hb:r<b:=hb;omega)
 have hes:zat W (fun b=>r+1≤b) (.slice uq ys.length uc) ys:=(zau.is h3).keepB hk (fun b hb=>by have hb:r+1≤b:=hb;omega)
 have hes:zat W (r < ·) (.slice uq ys.length uc) ys:=hes
 have hcv:ColsV W (.slice cq zs.length cc) zs:=zke rfl hz (zar h1 hk (by omega))
 refine zvp y ys (r < ·) #[.string y.op,.string y.nm,.int .i64 y.vt,.int .i64 y.vn,.string y.vs,.slice yp y.args.length yc,.int .i64 y.pos] _ (.slice cq zs.length cc) _ uq uc zs rs W hx hes hel ⟨rfl,rfl,fun j v hv=>?_,rfl⟩ hcv T P E hR (fun h=>by rw[hny] at h;cases h) (fun z hz h=>by rw[hnys z hz] at h;cases h)
 have hj:j<7:=by have:=(Array.getElem?_eq_some_iff.1 hv).1;simpa using this
 have:j=0∨j=1∨j=2∨j=3∨j=4∨j=5∨j=6:=by omega
 rcases this with rfl|rfl|rfl|rfl|rfl|rfl|rfl
 all_goals (simp at hv;subst hv;rfl)
def agC(x:ByteArray):List Value:=[.string x,.string ⟨#[]⟩,.string ⟨#[]⟩,.int .i64 0,.int .i64 0,.string ⟨#[]⟩,.slice none 0 0,.int .i64 0,.string ⟨#[]⟩]
def agsC(xs:List ByteArray):List Value:=xs.flatMap agC
theorem zlt(x:ByteArray):(agC x).length=9:=rfl
theorem zoU:∀(xs:List ByteArray) (j:Nat) (h:j<xs.length) (i:Nat),i<9→(agsC xs)[j*9+i]?=(agC xs[j])[i]?
 | x::t,0,_,i,hi=>by
  show (agC x++agsC t)[0*9+i]?=_
  rw[List.getElem?_append_left (by rw[zlt];omega),Nat.zero_mul,Nat.zero_add]
  rfl
 | x::t,j+1,h,i,hi=>by
  show (agC x++agsC t)[(j+1)*9+i]?=_
  rw[List.getElem?_append_right (by rw[zlt];omega),zlt,show (j+1)*9+i-9=j*9+i by omega,zoU t j (by simpa using h) i hi]
  rfl
theorem zuu{W:World}{B:Nat}{p:Option Addr}{c:Nat}{xs:List ByteArray}(h:W.ownsRow B 92 9 (.slice p xs.length c) xs.length (agsC xs)):AgsW W p xs:=by
 rcases id h.2 with ⟨e,-⟩|⟨g,cap,cur,e,hB,hg,-⟩
 ·injection e with e1 e2 e3
  exact .inl e2
 ·injection e with e1 e2 e3
  subst e1
  refine .inr ⟨g,0,rfl,lt_of_block hg,fun j hj=>⟨⟨#[]⟩,⟨#[]⟩,0,0,⟨#[]⟩,none,0,0,0,⟨#[]⟩,fun i v hv=>?_⟩⟩
  have hi:i<9:=by have:=(List.getElem?_eq_some_iff.1 hv).1;simpa using this
  have h1:=h.cells (g:=g) rfl (j*9+i) v (by rw[zoU xs j hj i hi];exact hv)
  rw[Go.WideShapes.add_plain] at h1
  rw[Nat.zero_add] at h1 ⊢
  exact h1
def nsI(ns:List Nat):List Int:=ns.map Int.ofNat
theorem zkh(ns:List Nat):(nsI ns).length=ns.length:=by simp[nsI]
theorem zvd{ns:List Nat}{j:Nat}(h:j<ns.length):(intC (nsI ns))[j]?=some (.int .i64 (ns[j]:Int)):=by
 simp[intC,nsI,h]
theorem zro{W:World}{B:Nat}{p:Option Addr}{c:Nat}{ts:List Int}(h:W.ownsRow B 3 1 (.slice p ts.length c) ts.length (intC ts)):IntW W p ts:=by
 rcases id h.2 with ⟨e,-⟩|⟨g,cap,cur,e,hB,hg,-⟩
 ·injection e with e1 e2 e3
  exact .inl e2
 ·injection e with e1 e2 e3
  subst e1
  refine .inr ⟨g,0,rfl,lt_of_block hg,fun j hj=>?_⟩
  have h1:=h.cells (g:=g) rfl j (.int .i64 ts[j]) (by simp[intC,hj])
  rw[Go.WideShapes.add_plain] at h1
  exact h1
theorem zjR{W:World}{B:Nat}{p:Option Addr}{c:Nat}{ns:List Nat}(h:W.ownsRow B 3 1 (.slice p ns.length c) ns.length (intC (nsI ns))):zbk W p ns:=by
 rcases id h.2 with ⟨e,-⟩|⟨g,cap,cur,e,hB,hg,-⟩
 ·injection e with e1 e2 e3
  exact .inl e2
 ·injection e with e1 e2 e3
  subst e1
  refine .inr ⟨g,0,rfl,lt_of_block hg,fun j hj=>?_⟩
  have h1:=h.cells (g:=g) rfl j (.int .i64 (ns[j]:Int)) (zvd hj)
  rw[Go.WideShapes.add_plain] at h1
  exact h1
theorem zsC{S0:Nat→Prop}{gb:Nat}{W1:World}(hA:∀W,Bts S0 gb W1 W→AEnv W)(ap:Option Addr)(ac:Nat)(xs:List ByteArray)(tp:Option Addr)(tc:Nat)(ts:List Int)(ha:W1.ownsRow (gb+1) 92 9 (.slice ap xs.length ac) xs.length (agsC xs))(ht:W1.ownsRow (gb+1) 3 1 (.slice tp ts.length tc) ts.length (intC ts))(hx:xs.length≤maxLen)(htl:ts.length≤maxLen)(hE:nwE xs ts=0) :
  ∀W,Bts S0 gb W1 W→Calls Tryz.prog 200 #[.slice ap xs.length ac,.slice tp ts.length tc] W fun e w'=>∃a v,e=.returned (.tuple #[.pointer (some ⟨a,0,none⟩),.nilIface])∧Aside (AcAt w' a v (nwP xs ts) []∧(∀k,accS a v k→W.heap.size≤k))∧Below W.heap.size W w':=by
 intro W hb
 refine (new_c ap ac xs tp tc ts W (hA W hb) (zuu (zar ha hb.keepB (Nat.le_refl _))) (zro (zar ht hb.keepB (Nat.le_refl _))) hx htl hE).mono ?_
 rintro e w' ⟨a,v,e1,e2,e3,e4⟩
 exact⟨a,v,e1,(show Aside _ from ⟨e2,e3⟩),e4⟩
theorem GrAt.start{w:World}{base:Nat}{ps0:List Pt}{gb:Nat}{s:Gs}{C:Array Value}(hb:Blk w gb C 110)(hC:GrC s 0 (.slice none 0 0) C)(hg:gb<base):GrAt w base ps0 gb s 0 (.slice none 0 0) [] :=
 ⟨⟨C,hb,hC⟩,World.ownsRow_nil _ _ _ _,by simp,by simp,hg⟩
structure NgIs(W:World)(gb:Nat)(A sz sl:Int)(zs:List (ByteArray×Int))(y:Ex)(ys:List Ex)(xs:List ByteArray)(ns:List Nat)(ts:List Int)(s:Gs):Prop where
 blk:∃C,Blk W gb C 110∧GrC s 0 (.slice none 0 0) C
 at_:s.at_=A
 size:s.size=sz
 slide:s.slide=sl
 sv:∃r,gb≤r∧NsV r zs y ys s.SC W
 pl:∃p c,s.pv=.slice p ns.length c∧W.ownsRow (gb+1) 3 1 s.pv ns.length (intC (nsI ns))
 ag:∃p c,s.av=.slice p xs.length c∧W.ownsRow (gb+1) 92 9 s.av xs.length (agsC xs)
 ty:∃p c,s.tv=.slice p ts.length c∧W.ownsRow (gb+1) 3 1 s.tv ts.length (intC ts)
theorem zmt(b off n c l:Nat)(hl:l<n)(hn:n≤c)(W:World):Sem.run Tryz.prog (Instr.slice 25 (.slice (some ⟨b,off,none⟩) n c) (some (.int .i64 (l:Int))) none none) W=.ok (.slice (some ⟨b,off+l*2,none⟩) (n-l) (c-l)) W:=by
 have g0:(0:Int)≤(l:Int):=by omega
 have g1:(l:Int)≤(n:Int):=by omega
 have g2:Sem.run Tryz.prog (Go.sizeOf (Tryz.prog.elem 25)) W=.ok 2 W:=by kernel_rfl
 rw[run_slice_l W 25 (some ⟨b,off,none⟩) n c (by kernel_rfl) .i64 l g0 g1,g2]
 show Result.ok (sliced (some ⟨b,off,none⟩) l n c 2) W=_
 rw[sliced,if_neg (by omega),Option.map_some,Go.WideShapes.add_plain]
theorem NsV.keepB{r B:Nat}{zs:List (ByteArray×Int)}{y:Ex}{ys:List Ex}{SC:Array Value}{W W':World}(h:NsV r zs y ys SC W)(hk:KeepB B W W')(hB:B≤r+1):NsV r zs y ys SC W':=by
 obtain⟨cv,yp,yc,uv,e,⟨q1,c1,e1,h1⟩,h2,q3,c3,e3,cs,o1,o2⟩:=h
 refine⟨cv,yp,yc,uv,e,⟨q1,c1,e1,zar h1 hk hB⟩,ExIn.keepB h2 hk (fun b hb=>by have hb:r<b:=hb;omega),q3,c3,e3,cs,zar o1 hk hB,fun j hj=>?_⟩
 obtain⟨a0,a1,a2,a3,a4,a5,a6,e0,e1,e2,e3,e4,e5,e6,hz⟩:=o2 j hj
 exact⟨a0,a1,a2,a3,a4,a5,a6,e0,e1,e2,e3,e4,e5,e6,hz.keepB hk (fun b hb=>by omega)⟩
end Go.Proofs.YtopghagjmdbglaaGreatDoor
