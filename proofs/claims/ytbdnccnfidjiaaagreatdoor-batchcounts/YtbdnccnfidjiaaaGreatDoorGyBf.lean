/-
  FeW, StB.
-/
import Derived.Test.YtbdnccnfidjiaaaGreatDoorGyBe
import Derived.Test.YtbdnccnfidjiaaaGreatDoorGyAj
import Derived.Test.YtbdnccnfidjiaaaGreatDoorYFcW
import Derived.Test.YtbdnccnfidjiaaaGreatDoorGyAx
import Derived.Test.YtbdnccnfidjiaaaGreatDoorGyAi
namespace Go.Proofs.YtbdnccnfidjiaaaGreatDoor
open Go.RowKit
set_option linter.unusedVariables false
set_option linter.unusedSimpArgs false
set_option maxHeartbeats 8000000
section
open Go.BigFrame
theorem zoH:(Tryz.prog.info? 31).map (fun i=>(i.zero,i.size,i.bytes))=some (some (.agg #[.string ⟨#[]⟩,.string ⟨#[]⟩,.int .i64 0,.int .i64 0,.string ⟨#[]⟩,.slice none 0 0,.int .i64 0]),7,96):=by kernel_rfl
abbrev zE7:Array Value:=#[.string ⟨#[]⟩,.string ⟨#[]⟩,.int .i64 0,.int .i64 0,.string ⟨#[]⟩,.slice none 0 0,.int .i64 0]
set_option maxRecDepth 20000 in
theorem zeg(x:Ex)(lo:Nat→Prop)(XC:Array Value)(w:World)(hx:ExIn w lo (.agg XC) x)(hn:noOp x=true) :
  Calls Tryz.prog 69 #[.agg XC] w fun e w'=>e=.returned (.agg zE7)∧Below w.heap.size w w':=by
 have hX7:=zee hx
 have b1:=alB w (.cells XC 31)
 have b2:=b1.alloc (by simp) (.cells zE7 31)
 have box:∀W,Below (w.heap.size+2) ((w.alloc (.cells XC 31)).alloc (.cells zE7 31)) W→Blk W w.heap.size XC 31∧Blk W (w.heap.size+1) zE7 31∧w.heap.size+2≤W.heap.size∧Below w.heap.size w W:=fun W hb=>by
  have hz:=hb.size
  simp at hz
  have k1:=zab (w.alloc (.cells XC 31)) zE7 31
  rw[show (w.alloc (.cells XC 31)).heap.size=w.heap.size+1 by simp] at k1
  exact⟨((zab w XC _).on (alB _ _)).keep (hb.block _ (by omega)),k1.keep (hb.block _ (by omega)),hz,b2.trans (hb.mono (by omega))⟩
 have cN:=fun W (hb:Below w.heap.size w W)=>zaG x lo (.agg XC) W (hx.on hb)
 rw[hn] at cN
 have hs7:(Tryz.prog.info? 31).map (·.size)=some XC.size:=by rw[hX7];kernel_rfl
 have hld:=fun W (hb:Blk W w.heap.size XC 31)=>@zfx W _ _ _ _ hb Tryz.underlying31 rfl hs7
 clear hx hs7
 go_enter Tryz.func69,Tryz.ntmps69
 go_wp2_with (refine hld _ (box _ (Below.refl _ _)).1 rfl _ rfl rfl ?_)
 go_wp2_with fail
 refine (cN _ b2).mono ?_
 rintro e w1 ⟨rfl,b3⟩
 obtain⟨k0,k1,hl,B⟩:=box w1 (b3.mono (by simp))
 have f0:=k1.cell 0
 have f1:=k1.cell 1
 have f2:=k1.cell 2
 have f3:=k1.cell 3
 have f4:=k1.cell 4
 have f5:=k1.cell 5
 have f6:=k1.cell 6
 have ff:=fun o=>k1.frozen o
 simp at f0 f1 f2 f3 f4 f5 f6
 clear cN hld box k0 b3
 have HB1:Aside _:=B
 have HK1:Aside (Blk w1 (w.heap.size+1) zE7 31):=k1
 clear f0 f1 f2 f3 f4 f5 f6 ff k1 B
 have hst:=fun {ops:Array Oper} {rest:List Oper} {op:Oper} {a:Act} {Q:Exit→Act→World→Prop} (hgd:op.guard=none) (x y:Operand) (ho:op.op=.store 31 x y) (hx:a.eval x=.pointer (some ⟨w.heap.size+1,0,none⟩)) (hy:a.eval y=.agg zE7) h=>@zah Tryz.prog ops rest op a w1 Q hgd 31 x y ho (w.heap.size+1) 0 zE7 hx hy zE7 _ HK1.out (by decide) (by kernel_rfl) (by simp[zE7,Value.oneCell']) h
 go_wp2_with (refine hst rfl _ _ rfl rfl rfl ?_)
 intro W2 HB2 HU2
 have k2:Blk W2 (w.heap.size+1) zE7 31:=HB2
 have g0:=k2.cell 0
 have g1:=k2.cell 1
 have g2:=k2.cell 2
 have g3:=k2.cell 3
 have g4:=k2.cell 4
 have g5:=k2.cell 5
 have g6:=k2.cell 6
 simp at g0 g1 g2 g3 g4 g5 g6
 have HF:Aside (Below w.heap.size w W2):=HB1.out.trans (HU2.below.mono (Nat.le_succ _))
 clear HB2 k2 HU2 hst
 go_wp2
 exact bodyPost_ret (v:=.agg zE7) (by simp[results,Tryz.results69,go_sem,g0,g1,g2,g3,g4,g5,g6]) rfl ⟨rfl,HF.out⟩
theorem ztI(w:World)(lo:Nat→Prop):ExIn w lo (.agg zE7) ex0:=by
 rw[ex0,ExIn]
 exact⟨none,0,rfl,⟨Nat.zero_le _,Nat.le_refl _⟩,Nat.zero_le _,Nat.zero_le _,Nat.zero_le _,.inl rfl⟩
set_option maxRecDepth 20000 in
theorem zgu(es:List Ex)(fx:Ex→Ex)(lo:Nat→Prop)(cp:Option Addr)(cc:Nat)(w:World)(hes:zaq w lo (.slice cp es.length cc) es)(hel:es.length≤1000)
  (hFE:∀y∈es,∀yp yc W,Below w.heap.size w W→ExIn W lo (exV y yp yc) y→Calls Tryz.prog 69 #[exV y yp yc] W fun e w'=>(∃v,e=.returned v∧Aside (ExIn w' (W.heap.size≤·) v (fx y)))∧Below W.heap.size W w') :
  Calls Tryz.prog 70 #[.slice cp es.length cc] w fun e w'=>(∃u,e=.returned u∧Aside (zax w' w.heap.size u (es.map fx)))∧Below w.heap.size w w':=by
 have HES:Aside (zaq w lo (.slice cp es.length cc) es):=hes
 have HFE:Aside _:=hFE
 obtain⟨N,hN⟩:∃N,es.length=N:=⟨_,rfl⟩
 have HN:Hid (es.length=N):=hN
 rw[hN] at hel ⊢
 clear hes hFE hN
 have hnz:(N:Int)≤1000:=by omega
 obtain⟨j0,hj0,hy0,hy1,hy2⟩:=info_parts zoH
 go_enter Tryz.func70,Tryz.ntmps70
 go_wp2
 go_loopg [3,5,8] N (fun gg s3 _ s8 wr=>∃(kk:Nat) (u:Value),kk≤N∧N-kk≤gg∧s8=.int .i64 (kk:Int)∧s3=u∧Aside (zax wr w.heap.size u ((es.take kk).map fx))∧Aside (Below w.heap.size w wr))
 case atStart=>exact⟨0,.slice none 0 0,Nat.zero_le _,by omega,rfl,rfl,(show Aside _ from zdB _ _),(show Aside _ from Below.refl _ _)⟩
 case round =>
  obtain⟨kk,u,hkk,hg,rfl,hu,OW,BW⟩:=hrel
  obtain rfl:u=_:=hu.symm
  have hbs:=BW.out.size
  by_cases hlt:kk<N
  ·have hltz:(kk:Int)<(N:Int):=by omega
   have h0z:(0:Int)≤(kk:Int):=by omega
   have hk2:kk<es.length:=by rw[HN.out];exact hlt
   obtain⟨ba,oa,yp,yc,hcp,hbl,hlo,hrg,hEx⟩:=zez (HES.out.onB BW.out) hk2
   subst hcp
   have HT:Hid ((es.take (kk+1)).map fx=(es.take kk).map fx++[fx es[kk]]):=by show _=_;rw[List.take_succ_eq_append_getElem hk2,List.map_append];rfl
   have hm:=List.getElem_mem hk2
   have cE:=HFE.out es[kk] hm yp yc
   have hTL:Hid (((es.take kk).map fx).length=kk):=by show _=_;rw[List.length_map,List.length_take];omega
   have hdr:exV es[kk] yp yc=.agg #[.string es[kk].op,.string es[kk].nm,.int .i64 es[kk].vt,.int .i64 es[kk].vn,.string es[kk].vs,.slice yp es[kk].args.length yc,.int .i64 es[kk].pos]:=rfl
   rw[hdr] at cE hEx
   generalize es[kk]=y at *
   have b1:=alB wr (.cells #[.string y.op,.string y.nm,.int .i64 y.vt,.int .i64 y.vn,.string y.vs,.slice yp y.args.length yc,.int .i64 y.pos] 31)
   have cE1:=cE _ (BW.out.trans (b1.mono hbs)) (hEx.on b1)
   have hldy:=@zfx (wr.alloc (.cells #[.string y.op,.string y.nm,.int .i64 y.vt,.int .i64 y.vn,.string y.vs,.slice yp y.args.length yc,.int .i64 y.pos] 31)) wr.heap.size _ 31 _ (zbb wr _ _) Tryz.underlying31 rfl (by kernel_rfl)
   clear cE hEx hm hdr
   go_wp2_with (first|(refine wpList_load_mid rfl 31 _ rfl ba (oa+kk*7) rfl _ _ hrg Tryz.underlying31 rfl zbf ?_)|(refine hldy rfl _ rfl rfl ?_))
   go_wp2_with fail
   refine cE1.mono ?_
   rintro e w2 ⟨⟨v,rfl,HV⟩,b2⟩
   obtain⟨zp,zc,hv,-⟩:=HV.out.whole
   have hs2:=b2.size
   simp at hs2
   have B2:Below w.heap.size w w2:=(BW.out.trans (b1.mono hbs)).trans (b2.mono (by simp;omega))
   have O2:=(OW.out.on b1).on b2
   generalize fx y=z at *
   subst hv
   have b3:=alB w2 (.cells #[.string z.op,.string z.nm,.int .i64 z.vt,.int .i64 z.vn,.string z.vs,.slice zp z.args.length zc,.int .i64 z.pos] 31)
   have k3:=zab w2 #[.string z.op,.string z.nm,.int .i64 z.vt,.int .i64 z.vn,.string z.vs,.slice zp z.args.length zc,.int .i64 z.pos] 31
   obtain⟨cs,o1,o2⟩:=O2.on b3
   rw[hTL.out] at o1
   have HB3:Aside (Below w.heap.size w (w2.alloc (.cells #[.string z.op,.string z.nm,.int .i64 z.vt,.int .i64 z.vn,.string z.vs,.slice zp z.args.length zc,.int .i64 z.pos] 31))):=B2.trans (b3.mono B2.size)
   have HO:Aside ((w2.alloc (.cells #[.string z.op,.string z.nm,.int .i64 z.vt,.int .i64 z.vn,.string z.vs,.slice zp z.args.length zc,.int .i64 z.pos] 31)).ownsRow w.heap.size 31 7 u kk cs):=o1
   have HO2:Aside _:=o2
   have HK3:Aside (Blk (w2.alloc (.cells #[.string z.op,.string z.nm,.int .i64 z.vt,.int .i64 z.vn,.string z.vs,.slice zp z.args.length zc,.int .i64 z.pos] 31)) w2.heap.size #[.string z.op,.string z.nm,.int .i64 z.vt,.int .i64 z.vn,.string z.vs,.slice zp z.args.length zc,.int .i64 z.pos] 31):=k3
   have huo:∀m,u.ownBlock=some m→m<wr.heap.size:=fun m hm=>by
    obtain⟨cs',o',-⟩:=OW.out
    exact (World.ownsRow.lt o' m hm).2
   have HZ:Aside (ExIn (w2.alloc (.cells #[.string z.op,.string z.nm,.int .i64 z.vt,.int .i64 z.vn,.string z.vs,.slice zp z.args.length zc,.int .i64 z.pos] 31)) (fun b=>w.heap.size≤b∧some b≠u.ownBlock) (.agg #[.string z.op,.string z.nm,.int .i64 z.vt,.int .i64 z.vn,.string z.vs,.slice zp z.args.length zc,.int .i64 z.pos]) z) :=
    ExIn.low (fun b _ hb=>⟨by simp at hb;omega,fun e=>by have:=huo b e.symm;simp at hb;omega⟩) _ _ (HV.out.on b3)
   obtain⟨uq,uc,rfl⟩:=zaa HO.out
   clear cE1 hldy hrg b1 b2 b3 B2 O2 o1 o2 k3 HV OW BW huo
   go_wp2_with (at_builtin;refine zad rfl _ _ 29 rfl w.heap.size 31 j0 _ 7 96 Tryz.underlying29 hj0 hy0 hy1 hy2 rfl (by decide) (.slice uq kk uc) kk cs rfl HO.out ⟨w2.heap.size,0,none⟩ 1 1 [.string z.op,.string z.nm,.int .i64 z.vt,.int .i64 z.vn,.string z.vs,.slice zp z.args.length zc,.int .i64 z.pos] rfl rfl (fun j v hv=>by rw[Go.WideShapes.add_plain,HK3.out.cell,Nat.zero_add];simpa using hv) (fun v hv=>by simp at hv;rcases hv with rfl|rfl|rfl|rfl|rfl|rfl|rfl<;>rfl) (by decide) (by unfold maxLen;omega) (by omega) (by simp;omega) ?_)
   intro v' w4 hown' hgr hfr
   have A4:Aside (zax w4 w.heap.size v' ((es.take (kk+1)).map fx)):=by
    rw[HT.out]
    exact zax.push (by rw[hTL.out];exact HO.out) HO2.out HZ.out (by rw[hTL.out];exact hown') hgr (by simpa using hfr)
   have B4:Aside (Below w.heap.size w w4):=HB3.out.grown hgr (by simp;omega) (fun m hm=>(World.ownsRow.lt HO.out m hm).1)
   clear hown' hgr hfr HO HO2 HZ HB3 HK3 HT
   go_wp2
   go_roundg (N-(kk+1))
   case measure=>omega
   case rel=>exact⟨kk+1,v',by omega,by omega,by go_num,rfl,A4,B4⟩
  ·have hltz:¬(kk:Int)<(N:Int):=by omega
   obtain rfl:kk=N:=by omega
   have HO:Aside (zax wr w.heap.size u (es.map fx)):=by
    have:=OW.out
    rw[List.take_of_length_le (by rw[HN.out];exact Nat.le_refl _)] at this
    exact this
   clear OW
   go_wp2
   go_ret
   exact⟨⟨_,rfl,HO⟩,BW.out⟩
theorem But.low{r:Nat}{w0 w W:World}(h:But r w W)(hb:Below w0.heap.size w0 w)(hr:w0.heap.size≤r):Below w0.heap.size w0 W:=hb.trans (h.below.mono hr)
set_option maxRecDepth 20000 in
theorem zgW(b off n c k:Nat)(w:World)(hk:k<n)(hn:n≤1000)(hb:b<w.heap.size)(hc:w.cell? ⟨b,off+k*2+1,none⟩=some (.int .i64 1))
  (hF:Calls Tryz.prog 71 #[.slice (some ⟨b,off,none⟩) n c,.string ⟨#[97,116]⟩] w fun e w'=>e=.returned (.tuple #[.int .i64 (k:Int),.nilIface])∧Below w.heap.size w w') :
  Calls Tryz.prog 36 #[.slice (some ⟨b,off,none⟩) n c] w fun e w'=>e=.returned (.tuple #[.int .i64 (k:Int),.nilIface])∧Below w.heap.size w w':=by
 have hkz:(k:Int)<(n:Int):=by omega
 have hk0:(0:Int)≤(k:Int):=by omega
 go_enter Tryz.func36,Tryz.ntmps36
 go_wp2_with fail
 refine hF.mono ?_
 rintro e w1 ⟨rfl,b1⟩
 have hc1:w1.cell? ⟨b,off+k*2+1,none⟩=some (.int .i64 1):=by rw[b1.cell (p:=⟨b,_,none⟩) hb];exact hc
 clear hF hc
 go_wp2
 go_ret2
 exact⟨rfl,b1⟩
end
end Go.Proofs.YtbdnccnfidjiaaaGreatDoor
