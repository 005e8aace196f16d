/-
  NsW.
-/
import Derived.Test.YtbdnccnfidjiaaaGreatDoorGyBf
import Derived.Test.YtbdnccnfidjiaaaGreatDoorGyBg
namespace Go.Proofs.YtbdnccnfidjiaaaGreatDoor
open Go.RowKit
set_option linter.unusedVariables false
set_option linter.unusedSimpArgs false
set_option maxHeartbeats 8000000
section
open Go.BigFrame
def NsC(r:Nat)(zs:List (ByteArray×Int))(v:Value)(W:World):Prop:=∃q c,v=.slice q zs.length c∧W.ownsRow (r+1) 25 2 v zs.length (colC zs)
def NsE(r:Nat)(y:Ex)(v:Value)(W:World):Prop:=ExIn W (r < ·) v y
def NsS(r:Nat)(ys:List Ex)(v:Value)(W:World):Prop:=∃q c,v=.slice q ys.length c∧zax W (r+1) v ys
def NsV(r:Nat)(zs:List (ByteArray×Int))(y:Ex)(ys:List Ex)(SC:Array Value)(W:World):Prop:=∃cv yp yc uv,SC=#[cv,.string y.op,.string y.nm,.int .i64 y.vt,.int .i64 y.vn,.string y.vs,.slice yp y.args.length yc,.int .i64 y.pos,uv]∧NsC r zs cv W∧NsE r y (exV y yp yc) W∧NsS r ys uv W
theorem NsC.on{r:Nat}{zs:List (ByteArray×Int)}{v:Value}{W W':World}(h:NsC r zs v W)(hb:Below W.heap.size W W'):NsC r zs v W':=by
 obtain⟨q,c,e,h⟩:=h
 exact⟨q,c,e,zac h hb⟩
theorem NsE.on{r:Nat}{y:Ex}{v:Value}{W W':World}(h:NsE r y v W)(hb:Below W.heap.size W W'):NsE r y v W':=ExIn.on h hb
theorem NsS.on{r:Nat}{ys:List Ex}{v:Value}{W W':World}(h:NsS r ys v W)(hb:Below W.heap.size W W'):NsS r ys v W':=by
 obtain⟨q,c,e,h⟩:=h
 exact⟨q,c,e,h.on hb⟩
theorem NsV.on{r:Nat}{zs:List (ByteArray×Int)}{y:Ex}{ys:List Ex}{SC:Array Value}{W W':World}(h:NsV r zs y ys SC W)(hb:Below W.heap.size W W'):NsV r zs y ys SC W':=by
 obtain⟨cv,yp,yc,uv,e,h1,h2,h3⟩:=h
 exact⟨cv,yp,yc,uv,e,h1.on hb,h2.on hb,h3.on hb⟩
theorem NsV.but{r:Nat}{zs:List (ByteArray×Int)}{y:Ex}{ys:List Ex}{SC:Array Value}{W W':World}(h:NsV r zs y ys SC W)(hb:But r W W'):NsV r zs y ys SC W':=by
 obtain⟨cv,yp,yc,uv,e,⟨q1,c1,e1,h1⟩,h2,q3,c3,e3,h3⟩:=h
 exact⟨cv,yp,yc,uv,e,⟨q1,c1,e1,zdM h1 hb (Nat.lt_succ_self _)⟩,ExIn.but h2 hb (fun b hb=>by omega),⟨q3,c3,e3,h3.but hb (Nat.lt_succ_self _)⟩⟩
def NsR(r:Nat)(zs:List (ByteArray×Int))(y:Ex)(ys:List Ex)(vl:Value)(XC:Array Value)(sv:Value)(i:Nat)(v:Value)(W:World):Prop:=match i with
 | 0=>v=vl
 | 1=>NsC r zs v W
 | 2=>v=.agg XC
 | 3=>NsE r y v W
 | 4=>v=sv
 | 5=>NsS r ys v W
 | _=>∃SC,v=.agg SC∧NsV r zs y ys SC W
theorem NsR.on{r:Nat}{zs:List (ByteArray×Int)}{y:Ex}{ys:List Ex}{vl:Value}{XC:Array Value}{sv:Value}(i:Nat)(v:Value)(W W':World)(hb:Below W.heap.size W W')(h:NsR r zs y ys vl XC sv i v W):NsR r zs y ys vl XC sv i v W':=by
 unfold NsR at *
 split at h
 ·exact h
 ·exact NsC.on h hb
 ·exact h
 ·exact NsE.on h hb
 ·exact h
 ·exact NsS.on h hb
 ·obtain⟨SC,e,h⟩:=h
  exact⟨SC,e,h.on hb⟩
abbrev zS9:Array Value:=#[.slice none 0 0,.string ⟨#[]⟩,.string ⟨#[]⟩,.int .i64 0,.int .i64 0,.string ⟨#[]⟩,.slice none 0 0,.int .i64 0,.slice none 0 0]
set_option maxHeartbeats 40000000 in
set_option maxRecDepth 20000 in
theorem zkh(x y:Ex)(ys:List Ex)(zs:List (ByteArray×Int))(lo:Nat→Prop)(XC:Array Value)(vl sv:Value)(w:World)(hx:ExIn w lo (.agg XC) x)
  (hE:∀W,Below w.heap.size w W→Calls Tryz.prog 69 #[.agg XC] W fun e w'=>(∃v,e=.returned v∧Aside (ExIn w' (W.heap.size≤·) v y))∧Below W.heap.size W w')
  (hS:∀W,Below w.heap.size w W→Calls Tryz.prog 70 #[sv] W fun e w'=>(∃u,e=.returned u∧Aside (zax w' W.heap.size u ys))∧Below W.heap.size W w')
  (hC:∀W,Below w.heap.size w W→Calls Tryz.prog 68 #[vl] W fun e w'=>(∃u,e=.returned u∧Aside (w'.ownsRow W.heap.size 25 2 u zs.length (colC zs)))∧Below W.heap.size W w') :
  Calls Tryz.prog 35 #[.agg XC,sv,vl] w fun e w'=>(∃SC,e=.returned (.agg SC)∧Aside (NsV (w.heap.size+1) zs y ys SC w'))∧Below w.heap.size w w':=by
 have hX7:=zee hx
 have hs7:(Tryz.prog.info? 31).map (·.size)=some XC.toList.length:=by rw[Array.length_toList,hX7];kernel_rfl
 have b2:Below w.heap.size w ((w.alloc (.cells XC 31)).alloc (.cells zS9 92)):=(alB w _).alloc (by simp) _
 have k0:Blk ((w.alloc (.cells XC 31)).alloc (.cells zS9 92)) w.heap.size XC 31:=(zab w XC _).on (alB _ _)
 have k1:Blk ((w.alloc (.cells XC 31)).alloc (.cells zS9 92)) (w.heap.size+1) zS9 92:=by
  have:=zab (w.alloc (.cells XC 31)) zS9 92
  rwa [show (w.alloc (.cells XC 31)).heap.size=w.heap.size+1 by simp] at this
 have hsz:((w.alloc (.cells XC 31)).alloc (.cells zS9 92)).heap.size=w.heap.size+2:=by simp
 have HB:Aside (Below w.heap.size w ((w.alloc (.cells XC 31)).alloc (.cells zS9 92))):=b2
 clear hx b2
 go_enter Tryz.func35,Tryz.ntmps35
 go_wp2
 go_upto_region 1 with fail
 generalize hW0:((w.alloc (.cells XC 31)).alloc (.cells zS9 92))=W0 at *
 clear hW0
 have hbw:∀w',Below W0.drew.heap.size W0.drew w'→Below w.heap.size w w'∧w.heap.size+2≤w'.heap.size∧Below W0.heap.size W0 w':=fun w' hb=>by
  have h1:Below W0.heap.size W0 w':=(Below.refl _ W0).drew.trans hb
  exact⟨HB.out.trans (h1.mono (by omega)),by have:=h1.size;omega,h1⟩
 refine zfY 14 7 (by kernel_rfl) rfl (by kernel_rfl) _ rfl rfl (fun a b=>Below a.heap.size a b) (fun a=>Below.refl _ _) (fun a b c h k=>h.trans (k.mono h.size)) (NsR (w.heap.size+1) zs y ys vl XC sv) NsR.on ?_ ?_
 ·intro i o d hi ho hd a w' hle hdep hold KK hKK
  obtain⟨hb1,hb2,hb3⟩:=hbw w' hle
  rcases i with _|i
  ·cases ho;cases hd
   have q2:a.tmps.getD 2 undef=vl:=hold 2 rfl
   rw[Array.getD_eq_getD_getElem?] at q2
   unfold Oper.wp execOp
   go_simp
   exact hKK _ _ rfl (Below.refl _ _)
  rcases i with _|i
  ·cases ho;cases hd
   have q7:a.tmps.getD 7 undef=vl:=hdep ⟨0,.data⟩ (by simp) rfl _ 7 rfl rfl
   rw[Array.getD_eq_getD_getElem?] at q7
   unfold Oper.wp execOp
   go_simp
   refine (hC w' hb1).mono ?_
   rintro e wq ⟨⟨u,rfl,HU⟩,bq⟩
   obtain⟨uq,uc,hu⟩:=zaa HU.out
   exact hKK _ _ ⟨uq,uc,hu,zfG HU.out (by omega)⟩ bq
  rcases i with _|i
  ·cases ho;cases hd
   have q3:a.tmps.getD 3 undef=.pointer (some ⟨w.heap.size,0,none⟩):=hold 3 rfl
   refine wp_load_mid 31 _ rfl w.heap.size 0 q3 XC.toList _ (fun j v hv=>?_) Tryz.underlying31 rfl hs7 ?_
   ·rw[Nat.zero_add,(k0.on hb3).cell]
    simpa using hv
   ·exact hKK _ _ rfl (Below.refl _ _)
  rcases i with _|i
  ·cases ho;cases hd
   have q9:a.tmps.getD 9 undef=.agg XC:=hdep ⟨2,.data⟩ (by simp) rfl _ 9 rfl rfl
   rw[Array.getD_eq_getD_getElem?] at q9
   unfold Oper.wp execOp
   go_simp
   refine (hE w' hb1).mono ?_
   rintro e wq ⟨⟨u,rfl,HU⟩,bq⟩
   exact hKK _ _ (show NsE _ _ _ _ from ExIn.low (fun b _ hb=>by omega) _ _ HU.out) bq
  rcases i with _|i
  ·cases ho;cases hd
   have q1:a.tmps.getD 1 undef=sv:=hold 1 rfl
   rw[Array.getD_eq_getD_getElem?] at q1
   unfold Oper.wp execOp
   go_simp
   exact hKK _ _ rfl (Below.refl _ _)
  rcases i with _|i
  ·cases ho;cases hd
   have q11:a.tmps.getD 11 undef=sv:=hdep ⟨4,.data⟩ (by simp) rfl _ 11 rfl rfl
   rw[Array.getD_eq_getD_getElem?] at q11
   unfold Oper.wp execOp
   go_simp
   refine (hS w' hb1).mono ?_
   rintro e wq ⟨⟨u,rfl,HU⟩,bq⟩
   obtain⟨cs,o1,o2⟩:=HU.out
   obtain⟨uq,uc,hu⟩:=zaa o1
   refine hKK _ _ ⟨uq,uc,hu,?_⟩ bq
   refine⟨cs,zfG o1 (by omega),fun j hj=>?_⟩
   obtain⟨a0,a1,a2,a3,a4,a5,a6,e0,e1,e2,e3,e4,e5,e6,hz⟩:=o2 j hj
   exact⟨a0,a1,a2,a3,a4,a5,a6,e0,e1,e2,e3,e4,e5,e6,ExIn.low (fun b _ hb=>⟨by omega,hb.2⟩) _ _ hz⟩
  rcases i with _|i
  ·cases ho;cases hd
   have q8:NsC (w.heap.size+1) zs (a.tmps.getD 8 undef) w':=hdep ⟨1,.data⟩ (by simp) rfl _ 8 rfl rfl
   have q10:NsE (w.heap.size+1) y (a.tmps.getD 10 undef) w':=hdep ⟨3,.data⟩ (by simp) rfl _ 10 rfl rfl
   have q12:NsS (w.heap.size+1) ys (a.tmps.getD 12 undef) w':=hdep ⟨5,.data⟩ (by simp) rfl _ 12 rfl rfl
   obtain⟨cq,cc,e8,h8⟩:=q8
   obtain⟨yp,yc,e10,-⟩:=ExIn.whole q10
   obtain⟨uq,uc,e12,h12⟩:=q12
   have q10':NsE (w.heap.size+1) y (exV y yp yc) w':=by
    have:=q10
    rw[e10] at this
    exact this
   have g8:=e8
   have g10:=e10
   have g12:=e12
   rw[Array.getD_eq_getD_getElem?] at g8 g10 g12
   unfold Oper.wp execOp
   go_simp
   exact hKK _ _ ⟨_,rfl,_,yp,yc,_,rfl,⟨cq,cc,rfl,by rw[←e8];exact h8⟩,q10',⟨uq,uc,rfl,by rw[←e12];exact h12⟩⟩ (Below.refl _ _)
  ·omega
 ·intro vs w' hle hR KK hKK
  have h0:=hbw w' hle
  have h6:=hR 6 (by omega)
  generalize hact:putL vs _ 0 _=act
  have a6:act.tmps.getD 6 undef=.pointer (some ⟨w.heap.size+1,0,none⟩):=by rw[←hact];rfl
  have a13:act.tmps.getD 13 undef=vs 6:=by rw[←hact];rfl
  have ad:act.defers=[]:=by rw[←hact];rfl
  clear hact hle hR hbw
  obtain⟨hb1,hb2,hb3⟩:=h0
  obtain⟨SC,e6,hV⟩:=h6
  rw[e6] at a13
  obtain⟨cv,yp,yc,uv,eSC,h1,h2,h3⟩:=id hV
  have hk:=k1.on hb3
  obtain⟨cq,cc,rfl,h1⟩:=h1
  obtain⟨uq,uc,rfl,h3⟩:=h3
  subst eSC
  refine wp_store_mid 92 (.tmp 6) (.tmp 13) rfl (w.heap.size+1) 0 _ a6 a13 (hk.there 0 9 (by decide)) (by kernel_rfl) (by simp[Value.oneCell']) ?_
  refine hKK _ _ ?_
  have hk2:=Blk.cells [.slice cq zs.length cc,.string y.op,.string y.nm,.int .i64 y.vt,.int .i64 y.vn,.string y.vs,.slice yp y.args.length yc,.int .i64 y.pos,.slice uq ys.length uc] 0 w' zS9 hk
  have hbu:But (w.heap.size+1) w' (w'.setCells (w.heap.size+1) 0 [.slice cq zs.length cc,.string y.op,.string y.nm,.int .i64 y.vt,.int .i64 y.vn,.string y.vs,.slice yp y.args.length yc,.int .i64 y.pos,.slice uq ys.length uc]):=But.cells _ _ _ (But.refl _ _)
  have HV2:Aside (NsV (w.heap.size+1) zs y ys #[.slice cq zs.length cc,.string y.op,.string y.nm,.int .i64 y.vt,.int .i64 y.vn,.string y.vs,.slice yp y.args.length yc,.int .i64 y.pos,.slice uq ys.length uc] (w'.setCells (w.heap.size+1) 0 [.slice cq zs.length cc,.string y.op,.string y.nm,.int .i64 y.vt,.int .i64 y.vn,.string y.vs,.slice yp y.args.length yc,.int .i64 y.pos,.slice uq ys.length uc])):=hV.but hbu
  have HB2:Aside (Below w.heap.size w (w'.setCells (w.heap.size+1) 0 [.slice cq zs.length cc,.string y.op,.string y.nm,.int .i64 y.vt,.int .i64 y.vn,.string y.vs,.slice yp y.args.length yc,.int .i64 y.pos,.slice uq ys.length uc])):=hb1.trans (hbu.below.mono (Nat.le_succ _))
  have g:∀i,(w'.setCells (w.heap.size+1) 0 [.slice cq zs.length cc,.string y.op,.string y.nm,.int .i64 y.vt,.int .i64 y.vn,.string y.vs,.slice yp y.args.length yc,.int .i64 y.pos,.slice uq ys.length uc]).cell? ⟨w.heap.size+1,i,none⟩=(#[.slice cq zs.length cc,.string y.op,.string y.nm,.int .i64 y.vt,.int .i64 y.vn,.string y.vs,.slice yp y.args.length yc,.int .i64 y.pos,.slice uq ys.length uc]:Array Value)[i]?:=fun i=>by rw[hk2.cell];rfl
  have g0:=g 0
  have g1:=g 1
  have g2:=g 2
  have g3:=g 3
  have g4:=g 4
  have g5:=g 5
  have g6:=g 6
  have g7:=g 7
  have g8:=g 8
  simp only[List.getElem?_toArray,List.getElem?_cons_zero,List.getElem?_cons_succ] at g0 g1 g2 g3 g4 g5 g6 g7 g8
  clear g hk2 hbu hV h1 h2 h3 hk hb1 hb2 hb3 a13 hE hS hC hKK
  generalize (w'.setCells (w.heap.size+1) 0 [.slice cq zs.length cc,.string y.op,.string y.nm,.int .i64 y.vt,.int .i64 y.vn,.string y.vs,.slice yp y.args.length yc,.int .i64 y.pos,.slice uq ys.length uc])=W2 at *
  rw[Array.getD_eq_getD_getElem?] at a6
  change Exit.then _ _ Exit.normal (act.put none undef) _
  simp only[Act.put]
  go_wp2
  exact bodyPost_ret (v:=.agg #[.slice cq zs.length cc,.string y.op,.string y.nm,.int .i64 y.vt,.int .i64 y.vn,.string y.vs,.slice yp y.args.length yc,.int .i64 y.pos,.slice uq ys.length uc]) (by simp[results,Tryz.results35,go_sem,a6,g0,g1,g2,g3,g4,g5,g6,g7,g8]) ad ⟨⟨_,rfl,HV2⟩,HB2.out⟩
end
end Go.Proofs.YtbdnccnfidjiaaaGreatDoor
