/-
  FeW, StB, NsW, TkB, NgA, SlP.
-/
import Derived.Test.YtopghagjmdbglaaGreatDoorGyBe
import Derived.Test.YtopghagjmdbglaaGreatDoorGyAj
import Derived.Test.YtopghagjmdbglaaGreatDoorGyBf
import Derived.Test.YtopghagjmdbglaaGreatDoorYFcW
import Derived.Test.YtopghagjmdbglaaGreatDoorGyAt
import Derived.Test.YtopghagjmdbglaaGreatDoorGyBb
import Derived.Test.YtopghagjmdbglaaGreatDoorYRgFi
import Derived.Test.YtopghagjmdbglaaGreatDoorGyAv
import Derived.Test.YtopghagjmdbglaaGreatDoorGyAp
import Derived.Lib.SliceRun
import Derived.Test.YtopghagjmdbglaaGreatDoorGyAx
namespace Go.Proofs.YtopghagjmdbglaaGreatDoor
open Go.RowKit
set_option linter.unusedVariables false
set_option linter.unusedSimpArgs false
set_option maxHeartbeats 8000000
section
open Go.BigFrame
theorem znZ:(Tryz.prog.info? 30).map (fun i=>(i.zero,i.size,i.bytes))=some (some (.agg #[.string ⟨#[]⟩,.string ⟨#[]⟩,.int .i64 0,.int .i64 0,.string ⟨#[]⟩,.slice none 0 0,.int .i64 0]),7,96):=by kernel_rfl
abbrev zE7:Array Value:=#[.string ⟨#[]⟩,.string ⟨#[]⟩,.int .i64 0,.int .i64 0,.string ⟨#[]⟩,.slice none 0 0,.int .i64 0]
set_option maxRecDepth 20000 in
theorem zdX(x:Ex)(lo:Nat→Prop)(XC:Array Value)(w:World)(hx:ExIn w lo (.agg XC) x)(hn:noOp x=true) :
  Calls Tryz.prog 74 #[.agg XC] w fun e w'=>e=.returned (.agg zE7)∧Below w.heap.size w w':=by
 have hX7:=zdV hx
 have b1:=alB w (.cells XC 30)
 have b2:=b1.alloc (by simp) (.cells zE7 30)
 have box:∀W,Below (w.heap.size+2) ((w.alloc (.cells XC 30)).alloc (.cells zE7 30)) W→Blk W w.heap.size XC 30∧Blk W (w.heap.size+1) zE7 30∧w.heap.size+2≤W.heap.size∧Below w.heap.size w W:=fun W hb=>by
  have hz:=hb.size
  simp at hz
  have k1:=zab (w.alloc (.cells XC 30)) zE7 30
  rw[show (w.alloc (.cells XC 30)).heap.size=w.heap.size+1 by simp] at k1
  exact⟨((zab w XC _).on (alB _ _)).keep (hb.block _ (by omega)),k1.keep (hb.block _ (by omega)),hz,b2.trans (hb.mono (by omega))⟩
 have cN:=fun W (hb:Below w.heap.size w W)=>zaE x lo (.agg XC) W (hx.on hb)
 rw[hn] at cN
 have hs7:(Tryz.prog.info? 30).map (·.size)=some XC.size:=by rw[hX7];kernel_rfl
 have hld:=fun W (hb:Blk W w.heap.size XC 30)=>@zfk W _ _ _ _ hb Tryz.underlying30 rfl hs7
 clear hx hs7
 go_enter Tryz.func74,Tryz.ntmps74
 go_wp2_with (refine hld _ (box _ (Below.refl _ _)).1 rfl _ rfl rfl ?_)
 go_wp2_with fail
 refine (cN _ b2).mono ?_
 rintro e w1 ⟨rfl,b3⟩
 obtain⟨k0,k1,hl,B⟩:=box w1 (b3.mono (by simp))
 have f0:=k1.cell 0
 have f1:=k1.cell 1
 have f2:=k1.cell 2
 have f3:=k1.cell 3
 have f4:=k1.cell 4
 have f5:=k1.cell 5
 have f6:=k1.cell 6
 have ff:=fun o=>k1.frozen o
 simp at f0 f1 f2 f3 f4 f5 f6
 clear cN hld box k0 b3
 have HB1:Aside _:=B
 have HK1:Aside (Blk w1 (w.heap.size+1) zE7 30):=k1
 clear f0 f1 f2 f3 f4 f5 f6 ff k1 B
 have hst:=fun {ops:Array Oper} {rest:List Oper} {op:Oper} {a:Act} {Q:Exit→Act→World→Prop} (hgd:op.guard=none) (x y:Operand) (ho:op.op=.store 30 x y) (hx:a.eval x=.pointer (some ⟨w.heap.size+1,0,none⟩)) (hy:a.eval y=.agg zE7) h=>@zah Tryz.prog ops rest op a w1 Q hgd 30 x y ho (w.heap.size+1) 0 zE7 hx hy zE7 _ HK1.out (by decide) (by kernel_rfl) (by simp[zE7,Value.oneCell']) h
 go_wp2_with (refine hst rfl _ _ rfl rfl rfl ?_)
 intro W2 HB2 HU2
 have k2:Blk W2 (w.heap.size+1) zE7 30:=HB2
 have g0:=k2.cell 0
 have g1:=k2.cell 1
 have g2:=k2.cell 2
 have g3:=k2.cell 3
 have g4:=k2.cell 4
 have g5:=k2.cell 5
 have g6:=k2.cell 6
 simp at g0 g1 g2 g3 g4 g5 g6
 have HF:Aside (Below w.heap.size w W2):=HB1.out.trans (HU2.below.mono (Nat.le_succ _))
 clear HB2 k2 HU2 hst
 go_wp2
 exact bodyPost_ret (v:=.agg zE7) (by simp[results,Tryz.results74,go_sem,g0,g1,g2,g3,g4,g5,g6]) rfl ⟨rfl,HF.out⟩
theorem ztb(w:World)(lo:Nat→Prop):ExIn w lo (.agg zE7) ex0:=by
 rw[ex0,ExIn]
 exact⟨none,0,rfl,⟨Nat.zero_le _,Nat.le_refl _⟩,Nat.zero_le _,Nat.zero_le _,Nat.zero_le _,.inl rfl⟩
set_option maxRecDepth 20000 in
theorem zgg(es:List Ex)(fx:Ex→Ex)(lo:Nat→Prop)(cp:Option Addr)(cc:Nat)(w:World)(hes:zaq w lo (.slice cp es.length cc) es)(hel:es.length≤1000)
  (hFE:∀y∈es,∀yp yc W,Below w.heap.size w W→ExIn W lo (exV y yp yc) y→Calls Tryz.prog 74 #[exV y yp yc] W fun e w'=>(∃v,e=.returned v∧Aside (ExIn w' (W.heap.size≤·) v (fx y)))∧Below W.heap.size W w') :
  Calls Tryz.prog 75 #[.slice cp es.length cc] w fun e w'=>(∃u,e=.returned u∧Aside (zaw w' w.heap.size u (es.map fx)))∧Below w.heap.size w w':=by
 have HES:Aside (zaq w lo (.slice cp es.length cc) es):=hes
 have HFE:Aside _:=hFE
 obtain⟨N,hN⟩:∃N,es.length=N:=⟨_,rfl⟩
 have HN:Hid (es.length=N):=hN
 rw[hN] at hel ⊢
 clear hes hFE hN
 have hnz:(N:Int)≤1000:=by omega
 obtain⟨j0,hj0,hy0,hy1,hy2⟩:=info_parts znZ
 go_enter Tryz.func75,Tryz.ntmps75
 go_wp2
 go_loopg [3,5,8] N (fun gg s3 _ s8 wr=>∃(kk:Nat) (u:Value),kk≤N∧N-kk≤gg∧s8=.int .i64 (kk:Int)∧s3=u∧Aside (zaw wr w.heap.size u ((es.take kk).map fx))∧Aside (Below w.heap.size w wr))
 case atStart=>exact⟨0,.slice none 0 0,Nat.zero_le _,by omega,rfl,rfl,(show Aside _ from zdt _ _),(show Aside _ from Below.refl _ _)⟩
 case round =>
  obtain⟨kk,u,hkk,hg,rfl,hu,OW,BW⟩:=hrel
  obtain rfl:u=_:=hu.symm
  have hbs:=BW.out.size
  by_cases hlt:kk<N
  ·have hltz:(kk:Int)<(N:Int):=by omega
   have h0z:(0:Int)≤(kk:Int):=by omega
   have hk2:kk<es.length:=by rw[HN.out];exact hlt
   obtain⟨ba,oa,yp,yc,hcp,hbl,hlo,hrg,hEx⟩:=zem (HES.out.onB BW.out) hk2
   subst hcp
   have HT:Hid ((es.take (kk+1)).map fx=(es.take kk).map fx++[fx es[kk]]):=by show _=_;rw[List.take_succ_eq_append_getElem hk2,List.map_append];rfl
   have hm:=List.getElem_mem hk2
   have cE:=HFE.out es[kk] hm yp yc
   have hTL:Hid (((es.take kk).map fx).length=kk):=by show _=_;rw[List.length_map,List.length_take];omega
   have hdr:exV es[kk] yp yc=.agg #[.string es[kk].op,.string es[kk].nm,.int .i64 es[kk].vt,.int .i64 es[kk].vn,.string es[kk].vs,.slice yp es[kk].args.length yc,.int .i64 es[kk].pos]:=rfl
   rw[hdr] at cE hEx
   generalize es[kk]=y at *
   have b1:=alB wr (.cells #[.string y.op,.string y.nm,.int .i64 y.vt,.int .i64 y.vn,.string y.vs,.slice yp y.args.length yc,.int .i64 y.pos] 30)
   have cE1:=cE _ (BW.out.trans (b1.mono hbs)) (hEx.on b1)
   have hldy:=@zfk (wr.alloc (.cells #[.string y.op,.string y.nm,.int .i64 y.vt,.int .i64 y.vn,.string y.vs,.slice yp y.args.length yc,.int .i64 y.pos] 30)) wr.heap.size _ 30 _ (zbp wr _ _) Tryz.underlying30 rfl (by kernel_rfl)
   clear cE hEx hm hdr
   go_wp2_with (first|(refine wpList_load_mid rfl 30 _ rfl ba (oa+kk*7) rfl _ _ hrg Tryz.underlying30 rfl zbe ?_)|(refine hldy rfl _ rfl rfl ?_))
   go_wp2_with fail
   refine cE1.mono ?_
   rintro e w2 ⟨⟨v,rfl,HV⟩,b2⟩
   obtain⟨zp,zc,hv,-⟩:=HV.out.whole
   have hs2:=b2.size
   simp at hs2
   have B2:Below w.heap.size w w2:=(BW.out.trans (b1.mono hbs)).trans (b2.mono (by simp;omega))
   have O2:=(OW.out.on b1).on b2
   generalize fx y=z at *
   subst hv
   have b3:=alB w2 (.cells #[.string z.op,.string z.nm,.int .i64 z.vt,.int .i64 z.vn,.string z.vs,.slice zp z.args.length zc,.int .i64 z.pos] 30)
   have k3:=zab w2 #[.string z.op,.string z.nm,.int .i64 z.vt,.int .i64 z.vn,.string z.vs,.slice zp z.args.length zc,.int .i64 z.pos] 30
   obtain⟨cs,o1,o2⟩:=O2.on b3
   rw[hTL.out] at o1
   have HB3:Aside (Below w.heap.size w (w2.alloc (.cells #[.string z.op,.string z.nm,.int .i64 z.vt,.int .i64 z.vn,.string z.vs,.slice zp z.args.length zc,.int .i64 z.pos] 30))):=B2.trans (b3.mono B2.size)
   have HO:Aside ((w2.alloc (.cells #[.string z.op,.string z.nm,.int .i64 z.vt,.int .i64 z.vn,.string z.vs,.slice zp z.args.length zc,.int .i64 z.pos] 30)).ownsRow w.heap.size 30 7 u kk cs):=o1
   have HO2:Aside _:=o2
   have HK3:Aside (Blk (w2.alloc (.cells #[.string z.op,.string z.nm,.int .i64 z.vt,.int .i64 z.vn,.string z.vs,.slice zp z.args.length zc,.int .i64 z.pos] 30)) w2.heap.size #[.string z.op,.string z.nm,.int .i64 z.vt,.int .i64 z.vn,.string z.vs,.slice zp z.args.length zc,.int .i64 z.pos] 30):=k3
   have huo:∀m,u.ownBlock=some m→m<wr.heap.size:=fun m hm=>by
    obtain⟨cs',o',-⟩:=OW.out
    exact (World.ownsRow.lt o' m hm).2
   have HZ:Aside (ExIn (w2.alloc (.cells #[.string z.op,.string z.nm,.int .i64 z.vt,.int .i64 z.vn,.string z.vs,.slice zp z.args.length zc,.int .i64 z.pos] 30)) (fun b=>w.heap.size≤b∧some b≠u.ownBlock) (.agg #[.string z.op,.string z.nm,.int .i64 z.vt,.int .i64 z.vn,.string z.vs,.slice zp z.args.length zc,.int .i64 z.pos]) z) :=
    ExIn.low (fun b _ hb=>⟨by simp at hb;omega,fun e=>by have:=huo b e.symm;simp at hb;omega⟩) _ _ (HV.out.on b3)
   obtain⟨uq,uc,rfl⟩:=zaa HO.out
   clear cE1 hldy hrg b1 b2 b3 B2 O2 o1 o2 k3 HV OW BW huo
   go_wp2_with (at_builtin;refine zad rfl _ _ 28 rfl w.heap.size 30 j0 _ 7 96 Tryz.underlying28 hj0 hy0 hy1 hy2 rfl (by decide) (.slice uq kk uc) kk cs rfl HO.out ⟨w2.heap.size,0,none⟩ 1 1 [.string z.op,.string z.nm,.int .i64 z.vt,.int .i64 z.vn,.string z.vs,.slice zp z.args.length zc,.int .i64 z.pos] rfl rfl (fun j v hv=>by rw[Go.WideShapes.add_plain,HK3.out.cell,Nat.zero_add];simpa using hv) (fun v hv=>by simp at hv;rcases hv with rfl|rfl|rfl|rfl|rfl|rfl|rfl<;>rfl) (by decide) (by unfold maxLen;omega) (by omega) (by simp;omega) ?_)
   intro v' w4 hown' hgr hfr
   have A4:Aside (zaw w4 w.heap.size v' ((es.take (kk+1)).map fx)):=by
    rw[HT.out]
    exact zaw.push (by rw[hTL.out];exact HO.out) HO2.out HZ.out (by rw[hTL.out];exact hown') hgr (by simpa using hfr)
   have B4:Aside (Below w.heap.size w w4):=HB3.out.grown hgr (by simp;omega) (fun m hm=>(World.ownsRow.lt HO.out m hm).1)
   clear hown' hgr hfr HO HO2 HZ HB3 HK3 HT
   go_wp2
   go_roundg (N-(kk+1))
   case measure=>omega
   case rel=>exact⟨kk+1,v',by omega,by omega,by go_num,rfl,A4,B4⟩
  ·have hltz:¬(kk:Int)<(N:Int):=by omega
   obtain rfl:kk=N:=by omega
   have HO:Aside (zaw wr w.heap.size u (es.map fx)):=by
    have:=OW.out
    rw[List.take_of_length_le (by rw[HN.out];exact Nat.le_refl _)] at this
    exact this
   clear OW
   go_wp2
   go_ret
   exact⟨⟨_,rfl,HO⟩,BW.out⟩
theorem But.low{r:Nat}{w0 w W:World}(h:But r w W)(hb:Below w0.heap.size w0 w)(hr:w0.heap.size≤r):Below w0.heap.size w0 W:=hb.trans (h.below.mono hr)
set_option maxRecDepth 20000 in
theorem zgI(b off n c k:Nat)(w:World)(hk:k<n)(hn:n≤1000)(hb:b<w.heap.size)(hc:w.cell? ⟨b,off+k*2+1,none⟩=some (.int .i64 1))
  (hF:Calls Tryz.prog 76 #[.slice (some ⟨b,off,none⟩) n c,.string ⟨#[97,116]⟩] w fun e w'=>e=.returned (.tuple #[.int .i64 (k:Int),.nilIface])∧Below w.heap.size w w') :
  Calls Tryz.prog 41 #[.slice (some ⟨b,off,none⟩) n c] w fun e w'=>e=.returned (.tuple #[.int .i64 (k:Int),.nilIface])∧Below w.heap.size w w':=by
 have hkz:(k:Int)<(n:Int):=by omega
 have hk0:(0:Int)≤(k:Int):=by omega
 go_enter Tryz.func41,Tryz.ntmps41
 go_wp2_with fail
 refine hF.mono ?_
 rintro e w1 ⟨rfl,b1⟩
 have hc1:w1.cell? ⟨b,off+k*2+1,none⟩=some (.int .i64 1):=by rw[b1.cell (p:=⟨b,_,none⟩) hb];exact hc
 clear hF hc
 go_wp2
 go_ret2
 exact⟨rfl,b1⟩
def NsC(r:Nat)(zs:List (ByteArray×Int))(v:Value)(W:World):Prop:=∃q c,v=.slice q zs.length c∧W.ownsRow (r+1) 24 2 v zs.length (colC zs)
def NsE(r:Nat)(y:Ex)(v:Value)(W:World):Prop:=ExIn W (r < ·) v y
def NsS(r:Nat)(ys:List Ex)(v:Value)(W:World):Prop:=∃q c,v=.slice q ys.length c∧zaw W (r+1) v ys
def NsV(r:Nat)(zs:List (ByteArray×Int))(y:Ex)(ys:List Ex)(SC:Array Value)(W:World):Prop:=∃cv yp yc uv,SC=#[cv,.string y.op,.string y.nm,.int .i64 y.vt,.int .i64 y.vn,.string y.vs,.slice yp y.args.length yc,.int .i64 y.pos,uv]∧NsC r zs cv W∧NsE r y (exV y yp yc) W∧NsS r ys uv W
theorem NsC.on{r:Nat}{zs:List (ByteArray×Int)}{v:Value}{W W':World}(h:NsC r zs v W)(hb:Below W.heap.size W W'):NsC r zs v W':=by
 obtain⟨q,c,e,h⟩:=h
 exact⟨q,c,e,zac h hb⟩
theorem NsE.on{r:Nat}{y:Ex}{v:Value}{W W':World}(h:NsE r y v W)(hb:Below W.heap.size W W'):NsE r y v W':=ExIn.on h hb
theorem NsS.on{r:Nat}{ys:List Ex}{v:Value}{W W':World}(h:NsS r ys v W)(hb:Below W.heap.size W W'):NsS r ys v W':=by
 obtain⟨q,c,e,h⟩:=h
 exact⟨q,c,e,h.on hb⟩
theorem NsV.on{r:Nat}{zs:List (ByteArray×Int)}{y:Ex}{ys:List Ex}{SC:Array Value}{W W':World}(h:NsV r zs y ys SC W)(hb:Below W.heap.size W W'):NsV r zs y ys SC W':=by
 obtain⟨cv,yp,yc,uv,e,h1,h2,h3⟩:=h
 exact⟨cv,yp,yc,uv,e,h1.on hb,h2.on hb,h3.on hb⟩
theorem NsV.but{r:Nat}{zs:List (ByteArray×Int)}{y:Ex}{ys:List Ex}{SC:Array Value}{W W':World}(h:NsV r zs y ys SC W)(hb:But r W W'):NsV r zs y ys SC W':=by
 obtain⟨cv,yp,yc,uv,e,⟨q1,c1,e1,h1⟩,h2,q3,c3,e3,h3⟩:=h
 exact⟨cv,yp,yc,uv,e,⟨q1,c1,e1,zdC h1 hb (Nat.lt_succ_self _)⟩,ExIn.but h2 hb (fun b hb=>by omega),⟨q3,c3,e3,h3.but hb (Nat.lt_succ_self _)⟩⟩
def NsR(r:Nat)(zs:List (ByteArray×Int))(y:Ex)(ys:List Ex)(vl:Value)(XC:Array Value)(sv:Value)(i:Nat)(v:Value)(W:World):Prop:=match i with
 | 0=>v=vl
 | 1=>NsC r zs v W
 | 2=>v=.agg XC
 | 3=>NsE r y v W
 | 4=>v=sv
 | 5=>NsS r ys v W
 | _=>∃SC,v=.agg SC∧NsV r zs y ys SC W
theorem NsR.on{r:Nat}{zs:List (ByteArray×Int)}{y:Ex}{ys:List Ex}{vl:Value}{XC:Array Value}{sv:Value}(i:Nat)(v:Value)(W W':World)(hb:Below W.heap.size W W')(h:NsR r zs y ys vl XC sv i v W):NsR r zs y ys vl XC sv i v W':=by
 unfold NsR at *
 split at h
 ·exact h
 ·exact NsC.on h hb
 ·exact h
 ·exact NsE.on h hb
 ·exact h
 ·exact NsS.on h hb
 ·obtain⟨SC,e,h⟩:=h
  exact⟨SC,e,h.on hb⟩
abbrev zS9:Array Value:=#[.slice none 0 0,.string ⟨#[]⟩,.string ⟨#[]⟩,.int .i64 0,.int .i64 0,.string ⟨#[]⟩,.slice none 0 0,.int .i64 0,.slice none 0 0]
set_option maxHeartbeats 40000000 in
set_option maxRecDepth 20000 in
theorem zjK(x y:Ex)(ys:List Ex)(zs:List (ByteArray×Int))(lo:Nat→Prop)(XC:Array Value)(vl sv:Value)(w:World)(hx:ExIn w lo (.agg XC) x)
  (hE:∀W,Below w.heap.size w W→Calls Tryz.prog 74 #[.agg XC] W fun e w'=>(∃v,e=.returned v∧Aside (ExIn w' (W.heap.size≤·) v y))∧Below W.heap.size W w')
  (hS:∀W,Below w.heap.size w W→Calls Tryz.prog 75 #[sv] W fun e w'=>(∃u,e=.returned u∧Aside (zaw w' W.heap.size u ys))∧Below W.heap.size W w')
  (hC:∀W,Below w.heap.size w W→Calls Tryz.prog 73 #[vl] W fun e w'=>(∃u,e=.returned u∧Aside (w'.ownsRow W.heap.size 24 2 u zs.length (colC zs)))∧Below W.heap.size W w') :
  Calls Tryz.prog 40 #[.agg XC,sv,vl] w fun e w'=>(∃SC,e=.returned (.agg SC)∧Aside (NsV (w.heap.size+1) zs y ys SC w'))∧Below w.heap.size w w':=by
 have hX7:=zdV hx
 have hs7:(Tryz.prog.info? 30).map (·.size)=some XC.toList.length:=by rw[Array.length_toList,hX7];kernel_rfl
 have b2:Below w.heap.size w ((w.alloc (.cells XC 30)).alloc (.cells zS9 97)):=(alB w _).alloc (by simp) _
 have k0:Blk ((w.alloc (.cells XC 30)).alloc (.cells zS9 97)) w.heap.size XC 30:=(zab w XC _).on (alB _ _)
 have k1:Blk ((w.alloc (.cells XC 30)).alloc (.cells zS9 97)) (w.heap.size+1) zS9 97:=by
  have:=zab (w.alloc (.cells XC 30)) zS9 97
  rwa [show (w.alloc (.cells XC 30)).heap.size=w.heap.size+1 by simp] at this
 have hsz:((w.alloc (.cells XC 30)).alloc (.cells zS9 97)).heap.size=w.heap.size+2:=by simp
 have HB:Aside (Below w.heap.size w ((w.alloc (.cells XC 30)).alloc (.cells zS9 97))):=b2
 clear hx b2
 go_enter Tryz.func40,Tryz.ntmps40
 go_wp2
 go_upto_region 1 with fail
 generalize hW0:((w.alloc (.cells XC 30)).alloc (.cells zS9 97))=W0 at *
 clear hW0
 have hbw:∀w',Below W0.drew.heap.size W0.drew w'→Below w.heap.size w w'∧w.heap.size+2≤w'.heap.size∧Below W0.heap.size W0 w':=fun w' hb=>by
  have h1:Below W0.heap.size W0 w':=(Below.refl _ W0).drew.trans hb
  exact⟨HB.out.trans (h1.mono (by omega)),by have:=h1.size;omega,h1⟩
 refine zfM 14 7 (by kernel_rfl) rfl (by kernel_rfl) _ rfl rfl (fun a b=>Below a.heap.size a b) (fun a=>Below.refl _ _) (fun a b c h k=>h.trans (k.mono h.size)) (NsR (w.heap.size+1) zs y ys vl XC sv) NsR.on ?_ ?_
 ·intro i o d hi ho hd a w' hle hdep hold KK hKK
  obtain⟨hb1,hb2,hb3⟩:=hbw w' hle
  rcases i with _|i
  ·cases ho;cases hd
   have q2:a.tmps.getD 2 undef=vl:=hold 2 rfl
   rw[Array.getD_eq_getD_getElem?] at q2
   unfold Oper.wp execOp
   go_simp
   exact hKK _ _ rfl (Below.refl _ _)
  rcases i with _|i
  ·cases ho;cases hd
   have q7:a.tmps.getD 7 undef=vl:=hdep ⟨0,.data⟩ (by simp) rfl _ 7 rfl rfl
   rw[Array.getD_eq_getD_getElem?] at q7
   unfold Oper.wp execOp
   go_simp
   refine (hC w' hb1).mono ?_
   rintro e wq ⟨⟨u,rfl,HU⟩,bq⟩
   obtain⟨uq,uc,hu⟩:=zaa HU.out
   exact hKK _ _ ⟨uq,uc,hu,zft HU.out (by omega)⟩ bq
  rcases i with _|i
  ·cases ho;cases hd
   have q3:a.tmps.getD 3 undef=.pointer (some ⟨w.heap.size,0,none⟩):=hold 3 rfl
   refine wp_load_mid 30 _ rfl w.heap.size 0 q3 XC.toList _ (fun j v hv=>?_) Tryz.underlying30 rfl hs7 ?_
   ·rw[Nat.zero_add,(k0.on hb3).cell]
    simpa using hv
   ·exact hKK _ _ rfl (Below.refl _ _)
  rcases i with _|i
  ·cases ho;cases hd
   have q9:a.tmps.getD 9 undef=.agg XC:=hdep ⟨2,.data⟩ (by simp) rfl _ 9 rfl rfl
   rw[Array.getD_eq_getD_getElem?] at q9
   unfold Oper.wp execOp
   go_simp
   refine (hE w' hb1).mono ?_
   rintro e wq ⟨⟨u,rfl,HU⟩,bq⟩
   exact hKK _ _ (show NsE _ _ _ _ from ExIn.low (fun b _ hb=>by omega) _ _ HU.out) bq
  rcases i with _|i
  ·cases ho;cases hd
   have q1:a.tmps.getD 1 undef=sv:=hold 1 rfl
   rw[Array.getD_eq_getD_getElem?] at q1
   unfold Oper.wp execOp
   go_simp
   exact hKK _ _ rfl (Below.refl _ _)
  rcases i with _|i
  ·cases ho;cases hd
   have q11:a.tmps.getD 11 undef=sv:=hdep ⟨4,.data⟩ (by simp) rfl _ 11 rfl rfl
   rw[Array.getD_eq_getD_getElem?] at q11
   unfold Oper.wp execOp
   go_simp
   refine (hS w' hb1).mono ?_
   rintro e wq ⟨⟨u,rfl,HU⟩,bq⟩
   obtain⟨cs,o1,o2⟩:=HU.out
   obtain⟨uq,uc,hu⟩:=zaa o1
   refine hKK _ _ ⟨uq,uc,hu,?_⟩ bq
   refine⟨cs,zft o1 (by omega),fun j hj=>?_⟩
   obtain⟨a0,a1,a2,a3,a4,a5,a6,e0,e1,e2,e3,e4,e5,e6,hz⟩:=o2 j hj
   exact⟨a0,a1,a2,a3,a4,a5,a6,e0,e1,e2,e3,e4,e5,e6,ExIn.low (fun b _ hb=>⟨by omega,hb.2⟩) _ _ hz⟩
  rcases i with _|i
  ·cases ho;cases hd
   have q8:NsC (w.heap.size+1) zs (a.tmps.getD 8 undef) w':=hdep ⟨1,.data⟩ (by simp) rfl _ 8 rfl rfl
   have q10:NsE (w.heap.size+1) y (a.tmps.getD 10 undef) w':=hdep ⟨3,.data⟩ (by simp) rfl _ 10 rfl rfl
   have q12:NsS (w.heap.size+1) ys (a.tmps.getD 12 undef) w':=hdep ⟨5,.data⟩ (by simp) rfl _ 12 rfl rfl
   obtain⟨cq,cc,e8,h8⟩:=q8
   obtain⟨yp,yc,e10,-⟩:=ExIn.whole q10
   obtain⟨uq,uc,e12,h12⟩:=q12
   have q10':NsE (w.heap.size+1) y (exV y yp yc) w':=by
    have:=q10
    rw[e10] at this
    exact this
   have g8:=e8
   have g10:=e10
   have g12:=e12
   rw[Array.getD_eq_getD_getElem?] at g8 g10 g12
   unfold Oper.wp execOp
   go_simp
   exact hKK _ _ ⟨_,rfl,_,yp,yc,_,rfl,⟨cq,cc,rfl,by rw[←e8];exact h8⟩,q10',⟨uq,uc,rfl,by rw[←e12];exact h12⟩⟩ (Below.refl _ _)
  ·omega
 ·intro vs w' hle hR KK hKK
  have h0:=hbw w' hle
  have h6:=hR 6 (by omega)
  generalize hact:putL vs _ 0 _=act
  have a6:act.tmps.getD 6 undef=.pointer (some ⟨w.heap.size+1,0,none⟩):=by rw[←hact];rfl
  have a13:act.tmps.getD 13 undef=vs 6:=by rw[←hact];rfl
  have ad:act.defers=[]:=by rw[←hact];rfl
  clear hact hle hR hbw
  obtain⟨hb1,hb2,hb3⟩:=h0
  obtain⟨SC,e6,hV⟩:=h6
  rw[e6] at a13
  obtain⟨cv,yp,yc,uv,eSC,h1,h2,h3⟩:=id hV
  have hk:=k1.on hb3
  obtain⟨cq,cc,rfl,h1⟩:=h1
  obtain⟨uq,uc,rfl,h3⟩:=h3
  subst eSC
  refine wp_store_mid 97 (.tmp 6) (.tmp 13) rfl (w.heap.size+1) 0 _ a6 a13 (hk.there 0 9 (by decide)) (by kernel_rfl) (by simp[Value.oneCell']) ?_
  refine hKK _ _ ?_
  have hk2:=Blk.cells [.slice cq zs.length cc,.string y.op,.string y.nm,.int .i64 y.vt,.int .i64 y.vn,.string y.vs,.slice yp y.args.length yc,.int .i64 y.pos,.slice uq ys.length uc] 0 w' zS9 hk
  have hbu:But (w.heap.size+1) w' (w'.setCells (w.heap.size+1) 0 [.slice cq zs.length cc,.string y.op,.string y.nm,.int .i64 y.vt,.int .i64 y.vn,.string y.vs,.slice yp y.args.length yc,.int .i64 y.pos,.slice uq ys.length uc]):=But.cells _ _ _ (But.refl _ _)
  have HV2:Aside (NsV (w.heap.size+1) zs y ys #[.slice cq zs.length cc,.string y.op,.string y.nm,.int .i64 y.vt,.int .i64 y.vn,.string y.vs,.slice yp y.args.length yc,.int .i64 y.pos,.slice uq ys.length uc] (w'.setCells (w.heap.size+1) 0 [.slice cq zs.length cc,.string y.op,.string y.nm,.int .i64 y.vt,.int .i64 y.vn,.string y.vs,.slice yp y.args.length yc,.int .i64 y.pos,.slice uq ys.length uc])):=hV.but hbu
  have HB2:Aside (Below w.heap.size w (w'.setCells (w.heap.size+1) 0 [.slice cq zs.length cc,.string y.op,.string y.nm,.int .i64 y.vt,.int .i64 y.vn,.string y.vs,.slice yp y.args.length yc,.int .i64 y.pos,.slice uq ys.length uc])):=hb1.trans (hbu.below.mono (Nat.le_succ _))
  have g:∀i,(w'.setCells (w.heap.size+1) 0 [.slice cq zs.length cc,.string y.op,.string y.nm,.int .i64 y.vt,.int .i64 y.vn,.string y.vs,.slice yp y.args.length yc,.int .i64 y.pos,.slice uq ys.length uc]).cell? ⟨w.heap.size+1,i,none⟩=(#[.slice cq zs.length cc,.string y.op,.string y.nm,.int .i64 y.vt,.int .i64 y.vn,.string y.vs,.slice yp y.args.length yc,.int .i64 y.pos,.slice uq ys.length uc]:Array Value)[i]?:=fun i=>by rw[hk2.cell];rfl
  have g0:=g 0
  have g1:=g 1
  have g2:=g 2
  have g3:=g 3
  have g4:=g 4
  have g5:=g 5
  have g6:=g 6
  have g7:=g 7
  have g8:=g 8
  simp only[List.getElem?_toArray,List.getElem?_cons_zero,List.getElem?_cons_succ] at g0 g1 g2 g3 g4 g5 g6 g7 g8
  clear g hk2 hbu hV h1 h2 h3 hk hb1 hb2 hb3 a13 hE hS hC hKK
  generalize (w'.setCells (w.heap.size+1) 0 [.slice cq zs.length cc,.string y.op,.string y.nm,.int .i64 y.vt,.int .i64 y.vn,.string y.vs,.slice yp y.args.length yc,.int .i64 y.pos,.slice uq ys.length uc])=W2 at *
  rw[Array.getD_eq_getD_getElem?] at a6
  change Exit.then _ _ Exit.normal (act.put none undef) _
  simp only[Act.put]
  go_wp2
  exact bodyPost_ret (v:=.agg #[.slice cq zs.length cc,.string y.op,.string y.nm,.int .i64 y.vt,.int .i64 y.vn,.string y.vs,.slice yp y.args.length yc,.int .i64 y.pos,.slice uq ys.length uc]) (by simp[results,Tryz.results40,go_sem,a6,g0,g1,g2,g3,g4,g5,g6,g7,g8]) ad ⟨⟨_,rfl,HV2⟩,HB2.out⟩
end
theorem ExIn.keepB{w w':World}{B:Nat}{lo:Nat→Prop}{v:Value}{x:Ex}(h:ExIn w lo v x)(hk:KeepB B w w')(hl:∀b,lo b→B≤b):ExIn w' lo v x:=ExIn.keep hk.1 (fun b o hb hlt=>by simp only[World.cell?,hk.2 b (hl b hb) hlt]) _ _ h
theorem zaq.keepB{w w':World}{B:Nat}{lo:Nat→Prop}{v:Value}{l:List Ex}(h:zaq w lo v l)(hk:KeepB B w w')(hl:∀b,lo b→B≤b):zaq w' lo v l:=h.keep hk.1 (fun b o hb hlt=>by simp only[World.cell?,hk.2 b (hl b hb) hlt])
theorem zma{S0:Nat→Prop}{r gb:Nat}{zs:List (ByteArray×Int)}{y:Ex}{ys:List Ex}{SC:Array Value}{W1:World}(hV:NsV r zs y ys SC W1)(hg:gb≤r)(hz:∀z∈zs,z.1.size≤maxLen)(hel:ys.length≤1048576)(hny:noOp y=true)(hnys:∀x∈ys,noOp x=true)
  (T:List V3)(P:Bool)(E:Int)(rq:Option Addr)(rc:Nat)(rs:List V3)(hR:takP zs y ys rs=(T,P,E)) :
  ∀W,Bts S0 gb W1 W→zaf W rq rs→Calls Tryz.prog 71 #[.agg SC,.slice rq rs.length rc] W fun e w'=>(∃u,e=.returned (.tuple #[u,.bool P,errV E])∧Aside (FrV W.heap.size w' u T))∧Below W.heap.size W w':=by
 intro W hb hv
 have hk:=hb.keepB
 obtain⟨cv,yp,yc,uv,rfl,⟨cq,cc,ec,h1⟩,h2,⟨uq,uc,eu,h3⟩⟩:=hV
 subst ec
 subst eu
 have hx:ExIn W (r < ·) (.agg #[.string y.op,.string y.nm,.int .i64 y.vt,.int .i64 y.vn,.string y.vs,.slice yp y.args.length yc,.int .i64 y.pos]) y:=ExIn.keepB h2 hk (fun b hb=>by have hb:r<b:=hb;omega)
 have hes:zaq W (fun b=>r+1≤b) (.slice uq ys.length uc) ys:=(zaw.is h3).keepB hk (fun b hb=>by have hb:r+1≤b:=hb;omega)
 have hes:zaq W (r < ·) (.slice uq ys.length uc) ys:=hes
 have hcv:ColsV W (.slice cq zs.length cc) zs:=ziS rfl hz (zay h1 hk (by omega))
 refine zsV y ys (r < ·) #[.string y.op,.string y.nm,.int .i64 y.vt,.int .i64 y.vn,.string y.vs,.slice yp y.args.length yc,.int .i64 y.pos] _ (.slice cq zs.length cc) _ uq uc zs rs W hx hes hel ⟨rfl,rfl,fun j v hv=>?_,rfl⟩ hcv T P E hR (fun h=>by rw[hny] at h;cases h) (fun z hz h=>by rw[hnys z hz] at h;cases h)
 have hj:j<7:=by have:=(Array.getElem?_eq_some_iff.1 hv).1;simpa using this
 have:j=0∨j=1∨j=2∨j=3∨j=4∨j=5∨j=6:=by omega
 rcases this with rfl|rfl|rfl|rfl|rfl|rfl|rfl
 all_goals (simp at hv;subst hv;rfl)
def agC(x:ByteArray):List Value:=[.string x,.string ⟨#[]⟩,.string ⟨#[]⟩,.int .i64 0,.int .i64 0,.string ⟨#[]⟩,.slice none 0 0,.int .i64 0,.string ⟨#[]⟩]
def agsC(xs:List ByteArray):List Value:=xs.flatMap agC
theorem ziz(x:ByteArray):(agC x).length=9:=rfl
theorem zmm:∀(xs:List ByteArray) (j:Nat) (h:j<xs.length) (i:Nat),i<9→(agsC xs)[j*9+i]?=(agC xs[j])[i]?
 | x::t,0,_,i,hi=>by
  show (agC x++agsC t)[0*9+i]?=_
  rw[List.getElem?_append_left (by rw[ziz];omega),Nat.zero_mul,Nat.zero_add]
  rfl
 | x::t,j+1,h,i,hi=>by
  show (agC x++agsC t)[(j+1)*9+i]?=_
  rw[List.getElem?_append_right (by rw[ziz];omega),ziz,show (j+1)*9+i-9=j*9+i by omega,zmm t j (by simpa using h) i hi]
  rfl
theorem zpr{W:World}{B:Nat}{p:Option Addr}{c:Nat}{xs:List ByteArray}(h:W.ownsRow B 92 9 (.slice p xs.length c) xs.length (agsC xs)):AgsW W p xs:=by
 rcases id h.2 with ⟨e,-⟩|⟨g,cap,cur,e,hB,hg,-⟩
 ·injection e with e1 e2 e3
  exact .inl e2
 ·injection e with e1 e2 e3
  subst e1
  refine .inr ⟨g,0,rfl,lt_of_block hg,fun j hj=>⟨⟨#[]⟩,⟨#[]⟩,0,0,⟨#[]⟩,none,0,0,0,⟨#[]⟩,fun i v hv=>?_⟩⟩
  have hi:i<9:=by have:=(List.getElem?_eq_some_iff.1 hv).1;simpa using this
  have h1:=h.cells (g:=g) rfl (j*9+i) v (by rw[zmm xs j hj i hi];exact hv)
  rw[Go.WideShapes.add_plain] at h1
  rw[Nat.zero_add] at h1 ⊢
  exact h1
def nsI(ns:List Nat):List Int:=ns.map Int.ofNat
theorem zjN(ns:List Nat):(nsI ns).length=ns.length:=by simp[nsI]
theorem zsE{ns:List Nat}{j:Nat}(h:j<ns.length):(intC (nsI ns))[j]?=some (.int .i64 (ns[j]:Int)):=by
 simp[intC,nsI,h]
theorem zod{W:World}{B:Nat}{p:Option Addr}{c:Nat}{ts:List Int}(h:W.ownsRow B 3 1 (.slice p ts.length c) ts.length (intC ts)):IntW W p ts:=by
 rcases id h.2 with ⟨e,-⟩|⟨g,cap,cur,e,hB,hg,-⟩
 ·injection e with e1 e2 e3
  exact .inl e2
 ·injection e with e1 e2 e3
  subst e1
  refine .inr ⟨g,0,rfl,lt_of_block hg,fun j hj=>?_⟩
  have h1:=h.cells (g:=g) rfl j (.int .i64 ts[j]) (by simp[intC,hj])
  rw[Go.WideShapes.add_plain] at h1
  exact h1
theorem zjY{W:World}{B:Nat}{p:Option Addr}{c:Nat}{ns:List Nat}(h:W.ownsRow B 3 1 (.slice p ns.length c) ns.length (intC (nsI ns))):zaR W p ns:=by
 rcases id h.2 with ⟨e,-⟩|⟨g,cap,cur,e,hB,hg,-⟩
 ·injection e with e1 e2 e3
  exact .inl e2
 ·injection e with e1 e2 e3
  subst e1
  refine .inr ⟨g,0,rfl,lt_of_block hg,fun j hj=>?_⟩
  have h1:=h.cells (g:=g) rfl j (.int .i64 (ns[j]:Int)) (zsE hj)
  rw[Go.WideShapes.add_plain] at h1
  exact h1
theorem zqx{S0:Nat→Prop}{gb:Nat}{W1:World}(hA:∀W,Bts S0 gb W1 W→AEnv W)(ap:Option Addr)(ac:Nat)(xs:List ByteArray)(tp:Option Addr)(tc:Nat)(ts:List Int)(ha:W1.ownsRow (gb+1) 92 9 (.slice ap xs.length ac) xs.length (agsC xs))(ht:W1.ownsRow (gb+1) 3 1 (.slice tp ts.length tc) ts.length (intC ts))(hx:xs.length≤maxLen)(htl:ts.length≤maxLen)(hE:nwE xs ts=0) :
  ∀W,Bts S0 gb W1 W→Calls Tryz.prog 200 #[.slice ap xs.length ac,.slice tp ts.length tc] W fun e w'=>∃a v,e=.returned (.tuple #[.pointer (some ⟨a,0,none⟩),.nilIface])∧Aside (AcAt w' a v (nwP xs ts) []∧(∀k,accS a v k→W.heap.size≤k))∧Below W.heap.size W w':=by
 intro W hb
 refine (new_c ap ac xs tp tc ts W (hA W hb) (zpr (zay ha hb.keepB (Nat.le_refl _))) (zod (zay ht hb.keepB (Nat.le_refl _))) hx htl hE).mono ?_
 rintro e w' ⟨a,v,e1,e2,e3,e4⟩
 exact⟨a,v,e1,(show Aside _ from ⟨e2,e3⟩),e4⟩
theorem GrAt.start{w:World}{base:Nat}{ps0:List Pt}{gb:Nat}{s:Gs}{C:Array Value}(hb:Blk w gb C 110)(hC:GrC s 0 (.slice none 0 0) C)(hg:gb<base):GrAt w base ps0 gb s 0 (.slice none 0 0) [] :=
 ⟨⟨C,hb,hC⟩,World.ownsRow_nil _ _ _ _,by simp,by simp,hg⟩
structure NgIs(W:World)(gb:Nat)(A sz sl:Int)(zs:List (ByteArray×Int))(y:Ex)(ys:List Ex)(xs:List ByteArray)(ns:List Nat)(ts:List Int)(s:Gs):Prop where
 blk:∃C,Blk W gb C 110∧GrC s 0 (.slice none 0 0) C
 at_:s.at_=A
 size:s.size=sz
 slide:s.slide=sl
 sv:∃r,gb≤r∧NsV r zs y ys s.SC W
 pl:∃p c,s.pv=.slice p ns.length c∧W.ownsRow (gb+1) 3 1 s.pv ns.length (intC (nsI ns))
 ag:∃p c,s.av=.slice p xs.length c∧W.ownsRow (gb+1) 92 9 s.av xs.length (agsC xs)
 ty:∃p c,s.tv=.slice p ts.length c∧W.ownsRow (gb+1) 3 1 s.tv ts.length (intC ts)
theorem zkj(b off n c l:Nat)(hl:l<n)(hn:n≤c)(W:World):Sem.run Tryz.prog (Instr.slice 25 (.slice (some ⟨b,off,none⟩) n c) (some (.int .i64 (l:Int))) none none) W=.ok (.slice (some ⟨b,off+l*2,none⟩) (n-l) (c-l)) W:=by
 have g0:(0:Int)≤(l:Int):=by omega
 have g1:(l:Int)≤(n:Int):=by omega
 have g2:Sem.run Tryz.prog (Go.sizeOf (Tryz.prog.elem 25)) W=.ok 2 W:=by kernel_rfl
 rw[run_slice_l W 25 (some ⟨b,off,none⟩) n c (by kernel_rfl) .i64 l g0 g1,g2]
 show Result.ok (sliced (some ⟨b,off,none⟩) l n c 2) W=_
 rw[sliced,if_neg (by omega),Option.map_some,Go.WideShapes.add_plain]
theorem NsV.keepB{r B:Nat}{zs:List (ByteArray×Int)}{y:Ex}{ys:List Ex}{SC:Array Value}{W W':World}(h:NsV r zs y ys SC W)(hk:KeepB B W W')(hB:B≤r+1):NsV r zs y ys SC W':=by
 obtain⟨cv,yp,yc,uv,e,⟨q1,c1,e1,h1⟩,h2,q3,c3,e3,cs,o1,o2⟩:=h
 refine⟨cv,yp,yc,uv,e,⟨q1,c1,e1,zay h1 hk hB⟩,ExIn.keepB h2 hk (fun b hb=>by have hb:r<b:=hb;omega),q3,c3,e3,cs,zay o1 hk hB,fun j hj=>?_⟩
 obtain⟨a0,a1,a2,a3,a4,a5,a6,e0,e1,e2,e3,e4,e5,e6,hz⟩:=o2 j hj
 exact⟨a0,a1,a2,a3,a4,a5,a6,e0,e1,e2,e3,e4,e5,e6,hz.keepB hk (fun b hb=>by omega)⟩
theorem zoV(zs:List (ByteArray×Int))(rs:List V3):takP zs ex0 [ex0] rs=([noV],true,0):=by
 have h0:noOp ex0=true:=by decide
 have hp:pasP zs rs ex0=(true,0):=by rw[pasP,if_pos h0]
 have hc:comP zs rs ex0=(noV,0):=by rw[comP,if_pos h0]
 have hg:gatP zs rs [] [ex0]=([noV],0):=by rw[gatP,hc,if_neg (by simp),gatP];rfl
 rw[takP,hp,hg]
 simp
def zeV:ByteArray:=⟨#[99,111,117,110,116]⟩
theorem zlF:nwE [zeV] [1]=0:=by decide
theorem zkX:adE (nwP [zeV] [1]) [noV]=0:=by decide
theorem zmH(A:Int)(s:ByteArray)(hs:s.data.toList=[]):OkK [1] (keyP [(1,A,s)] [0]):=by
 refine⟨⟨rfl,?_⟩,trivial⟩
 show chk 1 A s.data.toList=0
 rw[hs]
 simp[chk]
theorem zlN{ps0:List Pt}{size slide:Int}{st:Int×List PW}{A:Int}{tk:List V3×Bool×Int}{key:List V3}(h0:0≤A∧A≤1000000)(h:A<st.1):pushP ps0 size slide st A tk key=(st,[([],6,0)]):=by
 rw[pushP,if_neg (fun h=>h h0),if_pos h]
end Go.Proofs.YtopghagjmdbglaaGreatDoor
