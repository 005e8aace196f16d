/-
  NgW.
-/
import Derived.Test.YtbdnccnfidjiaaaGreatDoorGyBh
import Derived.Test.YtbdnccnfidjiaaaGreatDoorGyAs
import Derived.Test.YtbdnccnfidjiaaaGreatDoorGyAm
import Derived.Test.YtbdnccnfidjiaaaGreatDoorGyAg
import Derived.Test.YtbdnccnfidjiaaaGreatDoorGyAx
namespace Go.Proofs.YtbdnccnfidjiaaaGreatDoor
open Go.RowKit
set_option linter.unusedVariables false
set_option linter.unusedSimpArgs false
set_option maxHeartbeats 8000000
section
open Go.BigFrame
theorem zlY:(Tryz.prog.info? 87).map (fun i=>(i.zero,i.size,i.bytes))=some (some (.agg #[.string ⟨#[]⟩,.string ⟨#[]⟩,.string ⟨#[]⟩,.int .i64 0,.int .i64 0,.string ⟨#[]⟩,.slice none 0 0,.int .i64 0,.string ⟨#[]⟩]),9,128):=by kernel_rfl
theorem zoI:(Tryz.prog.info? 31).map (fun i=>(i.zero,i.size,i.bytes))=some (some (.agg #[.string ⟨#[]⟩,.string ⟨#[]⟩,.int .i64 0,.int .i64 0,.string ⟨#[]⟩,.slice none 0 0,.int .i64 0]),7,96):=by kernel_rfl
theorem zmb:(Tryz.prog.info? 3).map (fun i=>(i.zero,i.size,i.bytes))=some (some (.int .i64 0),1,8):=by kernel_rfl
abbrev agL9(a:Ag)(xp:Option Addr)(xc:Nat):List Value:=[.string a.what,.string a.arg.op,.string a.arg.nm,.int .i64 a.arg.vt,.int .i64 a.arg.vn,.string a.arg.vs,.slice xp a.arg.args.length xc,.int .i64 a.arg.pos,.string a.name]
theorem ag_at{w:World}{lo:Nat→Prop}{p:Option Addr}{l:List Ag}(h:AgsIs w lo p l){j:Nat}(hj:j<l.length):∃b off xp xc,p=some ⟨b,off,none⟩∧b<w.heap.size∧w.rangeAt b (off+j*9) (agL9 l[j] xp xc)∧ExIn w lo (exV l[j].arg xp xc) l[j].arg:=by
 obtain⟨-,h2⟩:=h
 obtain⟨b,off,e,hl,hlo,h3⟩:=h2.resolve_left (by omega)
 obtain⟨xp,xc,c0,c1,c2,c3,c4,c5,c6,c7,c8,hx⟩:=h3 j hj
 refine⟨b,off,xp,xc,e,hl,fun i v hv=>?_,hx⟩
 have hi:i<9:=by have:=(List.getElem?_eq_some_iff.1 hv).1;simpa using this
 have:i=0∨i=1∨i=2∨i=3∨i=4∨i=5∨i=6∨i=7∨i=8:=by omega
 rcases this with rfl|rfl|rfl|rfl|rfl|rfl|rfl|rfl|rfl
 all_goals (simp at hv;subst hv;assumption)
abbrev ngZ(A:Int)(av:Value)(sz sl:Int):Array Value:=#[.slice none 0 0,.string ⟨#[]⟩,.string ⟨#[]⟩,.int .i64 0,.int .i64 0,.string ⟨#[]⟩,.slice none 0 0,.int .i64 0,.slice none 0 0,.int .i64 A,.slice none 0 0,av,.slice none 0 0,.int .i64 sz,.int .i64 sl,.int .i64 0,.slice none 0 0]
structure Ng1(w:World)(lo:Nat→Prop)(QC:Array Value)(A sz sl:Int)(l:List Ag)(k:Nat)(u av:Value)(W:World):Prop where
 old:Below w.heap.size w W
 qb:Blk W w.heap.size QC 34
 gb:Blk W (w.heap.size+1) (ngZ A av sz sl) 141
 ags:W.ownsRow (w.heap.size+2) 87 9 av k (agsC ((l.take k).map (·.what)))
 ofs:∃cs,ExCs w lo cs ((l.take k).map (·.arg))∧W.ownsRow (w.heap.size+2) 31 7 u k cs
 big:w.heap.size+2≤W.heap.size
theorem zly(xs:List ByteArray)(x:ByteArray):agsC (xs++[x])=agsC xs++agC x:=by simp[agsC]
theorem Ng1.on{w W W':World}{lo:Nat→Prop}{QC:Array Value}{A sz sl:Int}{l:List Ag}{k:Nat}{u av:Value}(h:Ng1 w lo QC A sz sl l k u av W)(hb:Below W.heap.size W W'):Ng1 w lo QC A sz sl l k u av W':=by
 obtain⟨cs,h1,h2⟩:=h.ofs
 exact⟨h.old.trans (hb.mono (by have:=h.big;omega)),h.qb.on hb,h.gb.on hb,zac h.ags hb,⟨cs,h1,zac h2 hb⟩,by have:=hb.size;have:=h.big;omega⟩
structure Ng2(w:World)(lo:Nat→Prop)(QC:Array Value)(A sz sl:Int)(l:List Ag)(k:Nat)(u av:Value)(W:World):Prop where
 old:Below w.heap.size w W
 qb:Blk W w.heap.size QC 34
 gb:Blk W (w.heap.size+1) (ngZ A av sz sl) 141
 ags:W.ownsRow (w.heap.size+2) 87 9 av k (agsC ((l.take k).map (·.what)))
 ofs:∃cs,ExCs w lo cs ((l.take (k+1)).map (·.arg))∧W.ownsRow (w.heap.size+2) 31 7 u (k+1) cs
 big:w.heap.size+2≤W.heap.size
theorem Ng2.on{w W W':World}{lo:Nat→Prop}{QC:Array Value}{A sz sl:Int}{l:List Ag}{k:Nat}{u av:Value}(h:Ng2 w lo QC A sz sl l k u av W)(hb:Below W.heap.size W W'):Ng2 w lo QC A sz sl l k u av W':=by
 obtain⟨cs,h1,h2⟩:=h.ofs
 exact⟨h.old.trans (hb.mono (by have:=h.big;omega)),h.qb.on hb,h.gb.on hb,zac h.ags hb,⟨cs,h1,zac h2 hb⟩,by have:=hb.size;have:=h.big;omega⟩
theorem Ng1.two{w X W:World}{lo:Nat→Prop}{QC:Array Value}{A sz sl:Int}{l:List Ag}{k:Nat}{u u' av:Value}{cs:List Value}{xp:Option Addr}{xc:Nat}(h:Ng1 w lo QC A sz sl l k u av X)(hk:k<l.length)(hu:∃cs0,X.ownsRow (w.heap.size+2) 31 7 u k cs0)(hcs:ExCs w lo cs ((l.take k).map (·.arg)))(hx:ExIn w lo (exV l[k].arg xp xc) l[k].arg)(ho:W.ownsRow (w.heap.size+2) 31 7 u' (k+1) (cs++exL l[k].arg xp xc))(hg:X.grownBy W u.ownBlock):Ng2 w lo QC A sz sl l k u' av W:=by
 obtain⟨cs0,hu⟩:=hu
 have hlt:=fun j hj=>(World.ownsRow.lt hu j hj).1
 refine⟨h.old.grown hg (by have:=h.big;omega) (fun j hj=>by have:=hlt j hj;omega),h.qb.grown hg (fun e=>by have:=hlt _ e.symm;omega),h.gb.grown hg (fun e=>by have:=hlt _ e.symm;omega),zeu h.ags hu (by decide) hg,⟨_,?_,ho⟩,by have:=hg.size;have:=h.big;omega⟩
 have:=hcs.app (ExCs.one hx)
 rw[List.take_succ_eq_append_getElem hk,List.map_append]
 exact this
theorem Ng2.one{w X W:World}{lo:Nat→Prop}{QC:Array Value}{A sz sl:Int}{l:List Ag}{k:Nat}{u av av':Value}(h:Ng2 w lo QC A sz sl l k u av X)(hk:k<l.length)(ho:W.ownsRow (w.heap.size+2) 87 9 av' (k+1) (agsC ((l.take k).map (·.what))++agC l[k].what))(hg:X.grownBy W av.ownBlock):Ng1 w lo QC A sz sl l (k+1) u av' (W.setCell ⟨w.heap.size+1,11,none⟩ av'):=by
 have hlt:=fun j hj=>(World.ownsRow.lt h.ags j hj).1
 obtain⟨cs,hc1,hc2⟩:=h.ofs
 have hb:=(h.gb.grown hg (fun e=>by have:=hlt _ e.symm;omega)).set 11 av'
 refine⟨(h.old.grown hg (by have:=h.big;omega) (fun j hj=>by have:=hlt j hj;omega)).setCell (p:=⟨w.heap.size+1,11,none⟩) (by show _≤w.heap.size+1;omega) _,(h.qb.grown hg (fun e=>by have:=hlt _ e.symm;omega)).far (by omega) _ _,?_,?_,⟨cs,hc1,?_⟩,by have:=hg.size;have:=h.big;simpa [World.setCell] using (by omega:w.heap.size+2≤W.heap.size)⟩
 ·exact hb
 ·rw[List.take_succ_eq_append_getElem hk,List.map_append]
  show World.ownsRow _ _ _ _ _ _ (agsC (_++[l[k].what]))
  rw[zly]
  exact ownsRow_setCell_other ho (fun e=>by have:=(World.ownsRow.lt ho _ e).1;have:w.heap.size+2≤w.heap.size+1:=this;omega) _
 ·exact ownsRow_setCell_other (zeu hc2 h.ags (by decide) hg) (fun e=>by have:=(World.ownsRow.lt (zeu hc2 h.ags (by decide) hg) _ e).1;have:w.heap.size+2≤w.heap.size+1:=this;omega) _
structure NgL(W0:World)(gb o:Nat)(C:Array Value)(ts:List Int)(pv:Value)(W:World):Prop where
 but:But gb W0 W
 gb:Blk W gb (C.setIfInBounds o pv) 141
 row:W.ownsRow W0.heap.size 3 1 pv ts.length (intC ts)
theorem NgL.on{W0 W W':World}{gb o:Nat}{C:Array Value}{ts:List Int}{pv:Value}(h:NgL W0 gb o C ts pv W)(hb:Below W.heap.size W W'):NgL W0 gb o C ts pv W':=⟨h.but.trans (But.of_below' hb (by have:=h.gb.lt;omega)),h.gb.on hb,zac h.row hb⟩
theorem NgL.more{W0 X W:World}{gb o:Nat}{C:Array Value}{ts:List Int}{pv pv':Value}(h:NgL W0 gb o C ts pv X)(t:Int)(hg0:gb<W0.heap.size)(ho:W.ownsRow W0.heap.size 3 1 pv' (ts.length+1) (intC ts++[.int .i64 t]))(hg:X.grownBy W pv.ownBlock):NgL W0 gb o C (ts++[t]) pv' (W.setCell ⟨gb,o,none⟩ pv'):=by
 have hlt:=fun j hj=>(World.ownsRow.lt h.row j hj).1
 have hsz:=h.but.size
 have hgz:=hg.size
 have hb:=(h.gb.grown hg (fun e=>by have:=hlt _ e.symm;omega)).set o pv'
 have hbw:But gb W0 W:=⟨h.but.below.grown hg (by omega) (fun j hj=>by have:=hlt j hj;omega),by omega,fun k h1 h2=>by rw[hg.block k (by omega) (fun e=>by have:=hlt _ e.symm;omega),h.but.kept k h1 h2]⟩
 refine⟨hbw.set o pv',?_,?_⟩
 ·rw[Array.setIfInBounds_setIfInBounds] at hb
  exact hb
 ·have e1:(ts++[t]).length=ts.length+1:=by simp
  have e2:intC (ts++[t])=intC ts++[.int .i64 t]:=by simp[intC]
  rw[e1,e2]
  exact ownsRow_setCell_other ho (fun e=>by have:=(World.ownsRow.lt ho _ e).1;have:W0.heap.size≤gb:=this;omega) _
theorem zta{a:Ag}{xp:Option Addr}{xc j:Nat}{v:Value}(hv:(exL a.arg xp xc)[j]?=some v):(agL9 a xp xc).toArray[1+j]?=some v:=by
 have hj:j<7:=by have:=(List.getElem?_eq_some_iff.1 hv).1;simpa using this
 have:j=0∨j=1∨j=2∨j=3∨j=4∨j=5∨j=6:=by omega
 rcases this with rfl|rfl|rfl|rfl|rfl|rfl|rfl
 all_goals (simp at hv;subst hv;rfl)
theorem zpS(x:ByteArray):∀u∈agC x,u.oneCell'=true:=fun u hu=>by
 simp only[agC,List.mem_cons,List.not_mem_nil,or_false] at hu
 rcases hu with rfl|rfl|rfl|rfl|rfl|rfl|rfl|rfl|rfl<;>rfl
theorem znL{x:ByteArray}(W:World){j:Nat}{u:Value}(h:(agC x)[j]?=some u):(W.alloc (.cells (agC x).toArray 87)).cell? ⟨W.heap.size,0+j,none⟩=some u:=by
 rw[(zab W (agC x).toArray 87).cell,Nat.zero_add]
 simpa using h
theorem zjX{t:Int}(W:World){j:Nat}{u:Value}(h:([.int .i64 t]:List Value)[j]?=some u):(W.alloc (.cells #[.int .i64 t] 3)).cell? ((⟨W.heap.size,0,none⟩:Addr).add j)=some u:=by
 rw[Go.WideShapes.add_plain,(zab W #[.int .i64 t] 3).cell,Nat.zero_add]
 simpa using h
set_option maxHeartbeats 40000000 in
set_option maxRecDepth 20000 in
theorem zfA(q:Qy)(wp:Option Addr)(wc:Nat)(cp:Option Addr)(cc:Nat)(np:Option Addr)(nc:Nat)(gp:Option Addr)(gc:Nat)(ap:Option Addr)(ac:Nat)(lo:Nat→Prop)(vl uv:Value)(zs RL:List (ByteArray×Int))(ia:Nat)(fx:Ex→Ex)(w:World)(hB:QyBe w lo q wp wc cp cc np nc gp gc ap ac)(hcv:ColsV w vl zs)(hcm:ColsV w uv RL)(hgl:q.group.length<RL.length)
  (ha9:q.aggs.length≤1000)(hg9:q.group.length≤1000)(hz9:zs.length≤1000)(hr9:RL.length≤1000)(hws:∀a∈q.aggs,a.what.size≤281474976710656)(hzs:∀z∈zs,z.1.size≤281474976710656)(ns:List Nat)(hnl:ns.length=q.group.length)
  (hF:∀j (h1:j<q.group.length) (h2:j<ns.length),∀W,Below w.heap.size w W→Calls Tryz.prog 71 #[vl,.string q.group[j]] W fun e w'=>e=.returned (.tuple #[.int .i64 (ns[j]:Int),.nilIface])∧Below W.heap.size W w')
  (hFE:∀y∈q.whr::q.aggs.map (·.arg),∀(lo':Nat→Prop) yp yc W,Below w.heap.size w W→ExIn W lo' (exV y yp yc) y→Calls Tryz.prog 69 #[exV y yp yc] W fun e w'=>(∃v,e=.returned v∧Aside (ExIn w' (W.heap.size≤·) v (fx y)))∧Below W.heap.size W w') :
  Calls Tryz.prog 38 #[.agg (qyC q wp wc cp cc np nc gp gc ap ac),vl,uv,.int .i64 (ia:Int)] w fun e w'=>(∃gb,e=.returned (.pointer (some ⟨gb,0,none⟩))∧Aside (w.heap.size≤gb∧∃s,NgIs w' gb (ia:Int) q.size q.slide zs (fx q.whr) ((q.aggs.map (·.arg)).map fx) (q.aggs.map (·.what)) ns ((RL.drop q.group.length).map (·.2)) s))∧Below w.heap.size w w':=by
 have HWHR:Aside (ExIn w lo (exV q.whr wp wc) q.whr):=hB.whr
 have HGRP:Aside (StsA w (.slice gp q.group.length gc) q.group):=hB.group
 have HAGS:Aside (AgsIs w lo ap q.aggs):=hB.aggs
 have HCV:Aside (ColsV w vl zs):=hcv
 have HCM:Aside (ColsV w uv RL):=hcm
 have HWS:Aside _:=hws
 have HZS:Aside _:=hzs
 have HF:Aside _:=hF
 have HFE:Aside _:=hFE
 have HNL:Hid (ns.length=q.group.length):=hnl
 have HGL:Hid (q.group.length<RL.length):=hgl
 obtain⟨N,hN⟩:∃N,q.aggs.length=N:=⟨_,rfl⟩
 have HN:Hid (q.aggs.length=N):=hN
 obtain⟨G,hG⟩:∃G,q.group.length=G:=⟨_,rfl⟩
 have HG:Hid (q.group.length=G):=hG
 have S1:Ng1 w lo (qyC q wp wc cp cc np nc gp gc ap ac) (ia:Int) q.size q.slide q.aggs 0 (.slice none 0 0) (.slice none 0 0) ((w.alloc (.cells (qyC q wp wc cp cc np nc gp gc ap ac) 34)).alloc (.cells (ngZ (ia:Int) (.slice none 0 0) q.size q.slide) 141)):=by
  refine⟨(alB w _).alloc (by simp) _,(zab w _ _).on (alB _ _),?_,World.ownsRow_nil _ _ _ _,⟨[],ExCs.nil _ _,World.ownsRow_nil _ _ _ _⟩,by simp⟩
  have:=zab (w.alloc (.cells (qyC q wp wc cp cc np nc gp gc ap ac) 34)) (ngZ (ia:Int) (.slice none 0 0) q.size q.slide) 141
  rwa [show (w.alloc (.cells (qyC q wp wc cp cc np nc gp gc ap ac) 34)).heap.size=w.heap.size+1 by simp] at this
 have S1A:Aside _:=S1
 have hNz:(N:Int)≤1000:=by omega
 have hGz:(G:Int)≤1000:=by omega
 have hRz:(RL.length:Int)≤1000:=by omega
 have hQC:qyC q wp wc cp cc np nc gp gc ap ac=#[.string q.frm,.string q.whr.op,.string q.whr.nm,.int .i64 q.whr.vt,.int .i64 q.whr.vn,.string q.whr.vs,.slice wp q.whr.args.length wc,.int .i64 q.whr.pos,.slice cp q.cols.length cc,.slice np q.names.length nc,.slice gp G gc,.int .i64 q.size,.int .i64 q.slide,.slice ap N ac]:=by rw[←hN,←hG]
 rw[hQC] at S1A ⊢
 rw[hG]
 rw[hN] at ha9
 rw[hG] at hg9 hgl hnl
 clear hB hcv hcm hws hzs hF hFE hN hG S1
 obtain⟨uq,uc,hue⟩:∃q c,uv=.slice q RL.length c:=by obtain⟨q,c,e,-⟩:=HCM.out;exact⟨q,c,e⟩
 subst hue
 obtain⟨j0,hj0,hy0,hy1,hy2⟩:=info_parts zlY
 obtain⟨i0,hi0,hx0,hx1,hx2⟩:=info_parts zoI
 obtain⟨n0,hn0,hw0,hw1,hw2⟩:=info_parts zmb
 go_enter Tryz.func38,Tryz.ntmps38
 go_wp2
 obtain⟨WZ,hWZ⟩:∃WZ,((w.alloc (.cells #[.string q.frm,.string q.whr.op,.string q.whr.nm,.int .i64 q.whr.vt,.int .i64 q.whr.vn,.string q.whr.vs,.slice wp q.whr.args.length wc,.int .i64 q.whr.pos,.slice cp q.cols.length cc,.slice np q.names.length nc,.slice gp G gc,.int .i64 q.size,.int .i64 q.slide,.slice ap N ac] 34)).alloc (.cells (ngZ (ia:Int) (.slice none 0 0) q.size q.slide) 141))=WZ:=⟨_,rfl⟩
 rw[hWZ] at S1A ⊢
 clear hWZ hQC
 obtain⟨QC,hQC⟩:∃QC:Array Value,#[.string q.frm,.string q.whr.op,.string q.whr.nm,.int .i64 q.whr.vt,.int .i64 q.whr.vn,.string q.whr.vs,.slice wp q.whr.args.length wc,.int .i64 q.whr.pos,.slice cp q.cols.length cc,.slice np q.names.length nc,.slice gp G gc,.int .i64 q.size,.int .i64 q.slide,.slice ap N ac]=QC:=⟨_,rfl⟩
 have hq10:QC[10]?=some (.slice gp G gc):=by rw[←hQC];rfl
 have hq1:Hid (∀(j:Nat) (v:Value),(exL q.whr wp wc)[j]?=some v→QC[1+j]?=some v):=by
  intro j v hv
  have hj:j<7:=by have:=(List.getElem?_eq_some_iff.1 hv).1;simpa using this
  rw[←hQC]
  have:j=0∨j=1∨j=2∨j=3∨j=4∨j=5∨j=6:=by omega
  rcases this with rfl|rfl|rfl|rfl|rfl|rfl|rfl
  all_goals (simp at hv;subst hv;rfl)
 rw[hQC] at S1A
 have HQ10:Hid _:=hq10
 clear hQC hq10
 go_loopg [10,12,29] N (fun gg s10 _ s29 wr=>∃(kk:Nat) (u av:Value),kk≤N∧N-kk≤gg∧s29=.int .i64 (kk:Int)∧s10=u∧Aside (Ng1 w lo QC (ia:Int) q.size q.slide q.aggs kk u av wr))
 case atStart=>exact⟨0,.slice none 0 0,.slice none 0 0,Nat.zero_le _,by omega,rfl,rfl,S1A⟩
 case round =>
  obtain⟨kk,u,av,hkk,hg,rfl,hu,NR⟩:=hrel
  obtain rfl:u=_:=hu.symm
  clear S1A
  by_cases hlt:kk<N
  ·have hltz:(kk:Int)<(N:Int):=by omega
   have h0z:(0:Int)≤(kk:Int):=by omega
   have hkL:kk<q.aggs.length:=by rw[HN.out];exact hlt
   obtain⟨ab,ao,xp,xc,hap,hal,hrg,hEx⟩:=ag_at HAGS.out hkL
   have hrg2:wr.rangeAt ab (ao+kk*9) (agL9 q.aggs[kk] xp xc):=fun j v hv=>by rw[NR.out.old.cell (p:=⟨ab,_,none⟩) hal];exact hrg j v hv
   have hwsz:=HWS.out _ (List.getElem_mem hkL)
   have h2:=fun (X W:World) (u':Value) (cs:List Value) (hh:Ng1 w lo QC (ia:Int) q.size q.slide q.aggs kk u av X) hu hcs ho hg=>Ng1.two (u':=u') (cs:=cs) (W:=W) hh hkL hu hcs hEx ho hg
   have h3:=fun (X W:World) (u' av':Value) (hh:Ng2 w lo QC (ia:Int) q.size q.slide q.aggs kk u' av X) ho hg=>Ng2.one (av':=av') (W:=W) hh hkL ho hg
   have hlw:((q.aggs.take kk).map (·.what)).length=kk:=by rw[List.length_map,List.length_take];omega
   subst hap
   have HH2:Aside _:=h2
   have HH3:Aside _:=h3
   clear hrg hEx h2 h3
   generalize q.aggs[kk]=a at *
   have b1:=alB wr (.cells (agL9 a xp xc).toArray 87)
   have kA:=zab wr (agL9 a xp xc).toArray 87
   have b2:Below wr.heap.size wr ((wr.alloc (.cells (agL9 a xp xc).toArray 87)).alloc (.cells (exL a.arg xp xc).toArray 31)):=b1.alloc (by simp) _
   have kE:Blk ((wr.alloc (.cells (agL9 a xp xc).toArray 87)).alloc (.cells (exL a.arg xp xc).toArray 31)) (wr.heap.size+1) (exL a.arg xp xc).toArray 31:=by
    have:=zab (wr.alloc (.cells (agL9 a xp xc).toArray 87)) (exL a.arg xp xc).toArray 31
    rwa [show (wr.alloc (.cells (agL9 a xp xc).toArray 87)).heap.size=wr.heap.size+1 by simp] at this
   have KA2:Aside (Blk ((wr.alloc (.cells (agL9 a xp xc).toArray 87)).alloc (.cells (exL a.arg xp xc).toArray 31)) wr.heap.size (agL9 a xp xc).toArray 87):=kA.on (alB _ _)
   have KE2:Aside (Blk ((wr.alloc (.cells (agL9 a xp xc).toArray 87)).alloc (.cells (exL a.arg xp xc).toArray 31)) (wr.heap.size+1) (exL a.arg xp xc).toArray 31):=kE
   obtain⟨cs,hcs,hou⟩:=(NR.out.on b2).ofs
   obtain⟨eq,ec,hue2⟩:=zaa hou
   subst hue2
   have HOU:Aside _:=hou
   have HCS:Aside _:=hcs
   have NX:Aside _:=NR.out.on b2
   have hbig:=NR.out.big
   have hult:∀m,(Value.slice eq kk ec).ownBlock=some m→m<wr.heap.size:=fun m hm=>by
    obtain⟨cs',-,o'⟩:=NR.out.ofs
    exact (World.ownsRow.lt o' m hm).2
   have HUL:Aside _:=hult
   have hsz2:((wr.alloc (.cells (agL9 a xp xc).toArray 87)).alloc (.cells (exL a.arg xp xc).toArray 31)).heap.size=wr.heap.size+2:=by simp
   clear b1 b2 kE hcs hou NR hult
   go_wp2_with (first|(refine wpList_load_mid rfl 87 _ rfl ab (ao+kk*9) rfl _ _ hrg2 Tryz.underlying87 rfl zhO ?_)|(refine zaj rfl 31 _ rfl wr.heap.size 1 rfl _ _ kA (exL a.arg xp xc) (fun j v hv=>zta hv) _ Tryz.underlying31 rfl (by kernel_rfl) ?_)|(at_builtin;go_loud (refine zad rfl _ _ 29 rfl (w.heap.size+2) 31 i0 _ 7 96 Tryz.underlying29 hi0 hx0 hx1 hx2 rfl (by decide) (.slice eq kk ec) kk cs rfl HOU.out ⟨wr.heap.size+1,0,none⟩ 1 1 (exL a.arg xp xc) rfl rfl (fun j v hv=>by rw[Go.WideShapes.add_plain,KE2.out.cell,Nat.zero_add];simpa using hv) (znb _ _ _) (by decide) (by unfold maxLen;omega) (by omega) (by simp;omega) ?_);intro v' w4 hown' hgr hfr))
   obtain⟨q4,c4,rfl⟩:=zaa hown'
   have N2:Aside (Ng2 w lo QC (ia:Int) q.size q.slide q.aggs kk (.slice q4 (kk+1) c4) av w4):=HH2.out _ w4 _ cs NX.out ⟨cs,HOU.out⟩ HCS.out hown' hgr
   have KZ:Aside (Blk w4 wr.heap.size (agL9 a xp xc).toArray 87):=KA2.out.grown hgr (fun e=>by have:=HUL.out _ e.symm;omega)
   have hz4:wr.heap.size<w4.heap.size:=KZ.out.lt
   clear hown' hgr hfr kA KA2 KE2 HOU HCS NX HUL HH2 hsz2 hrg2
   obtain⟨avq,avc,rfl⟩:=zaa N2.out.ags
   generalize wr.heap.size=za at *
   have hg4:w.heap.size+1<w4.heap.size:=N2.out.gb.lt
   have y1:=N2.out.gb.cell 11
   have y2:=KZ.out.cell 0
   simp at y1 y2
   have hCA:∀W,Below w4.heap.size w4 W→W.cell? ⟨w.heap.size+1,11,none⟩=some (.slice avq kk avc)∧W.cell? ⟨za,0,none⟩=some (.string a.what)∧w4.heap.size≤W.heap.size∧(∀o,(W.alloc o).cell? ⟨w.heap.size+1,11,none⟩=some (.slice avq kk avc)):=fun W hb=>by
    have h1:W.cell? ⟨w.heap.size+1,11,none⟩=some (.slice avq kk avc):=by rw[hb.cell (p:=⟨w.heap.size+1,11,none⟩) hg4];exact y1
    refine⟨h1,by rw[hb.cell (p:=⟨za,0,none⟩) hz4];exact y2,hb.size,fun o=>?_⟩
    rw[(alB W o).cell (p:=⟨w.heap.size+1,11,none⟩) (by have:=hb.size;show w.heap.size+1<W.heap.size;omega)]
    exact h1
   have HCA:Aside _:=hCA
   have cC:=fun W=>zbj a.what W hwsz
   clear hCA KZ
   go_region_law (first
    | (refine zat rfl (.tmp 42) (.tmp 47) 32 rfl (w.heap.size+2) 87 j0 _ 9 128 Tryz.underlying32 hj0 hy0 hy1 hy2 (by decide) (by decide) (.slice avq kk avc) kk (agsC ((q.aggs.take kk).map (·.what))) (by simp[Act.eval]) (N3.out.on (alB w3 _)).ags ⟨w3.heap.size,0,none⟩ 1 1 (agC a.what) (by simp[Act.eval]) rfl (fun j y hy=>by rw[Go.WideShapes.add_plain];exact znL w3 hy) (zpS _) (by unfold maxLen;omega) (by omega) (by simp;omega) ?_;intro q9 c9 w9 hown9 hgr9;have NL:=N3.out.on (alB w3 (.cells (agC a.what).toArray 87));have G9:=NL.gb.grown hgr9 (fun e=>by have:=(World.ownsRow.lt NL.ags _ e.symm).1;omega);have f9:=G9.frozen 11;have d9:=G9.cell 11)
    | (go_simp;go_wp2_with (go_at_call 44;refine (cC _).mono ?_;rintro e w3 ⟨rfl,b3⟩;have hb3:Below w4.heap.size w4 w3:=((Below.refl _ w4).drew).trans b3;have hk1:=(HCA.out w3 hb3).1;have hk2:=(HCA.out w3 hb3).2.1;have hk3:=(HCA.out w3 hb3).2.2.1;have hk4:=(HCA.out w3 hb3).2.2.2;have N3:Aside (Ng2 w lo QC (ia:Int) q.size q.slide q.aggs kk (.slice q4 (kk+1) c4) (.slice avq kk avc) w3):=N2.out.on hb3)))
   all_goals
    have N1:Aside (Ng1 w lo QC (ia:Int) q.size q.slide q.aggs (kk+1) (.slice q4 (kk+1) c4) (.slice q9 (kk+1) c9) (w9.setCell ⟨w.heap.size+1,11,none⟩ (.slice q9 (kk+1) c9))):=HH3.out _ w9 _ _ NL hown9 hgr9
    clear hown9 hgr9 NL G9 f9 d9 hk1 hk2 hk3 hk4 N3 hb3 b3 HCA N2 HH3 cC y1 y2
    go_wp2
    go_roundg (N-(kk+1))
    case measure=>omega
    case rel=>exact⟨kk+1,_,_,by omega,by omega,by go_num,rfl,N1⟩
  ·have hltz:¬(kk:Int)<(N:Int):=by omega
   obtain rfl:kk=N:=by omega
   obtain⟨cs,hcs,hou⟩:=NR.out.ofs
   have hta:q.aggs.take kk=q.aggs:=List.take_of_length_le (by rw[HN.out];exact Nat.le_refl _)
   rw[hta] at hcs
   have hml:(q.aggs.map (·.arg)).length=kk:=by rw[List.length_map,HN.out]
   have hags:=NR.out.ags
   rw[hta] at hags
   obtain⟨eq,ec,rfl⟩:=zaa hou
   obtain⟨avq,avc,rfl⟩:=zaa hags
   have HAG:Aside (wr.ownsRow (w.heap.size+2) 87 9 (.slice avq kk avc) kk (agsC (q.aggs.map (·.what)))):=hags
   have BW:Aside (Below w.heap.size w wr):=NR.out.old
   have hwl:w.heap.size+2≤wr.heap.size:=NR.out.big
   have GB:Aside (Blk wr (w.heap.size+1) (ngZ (ia:Int) (.slice avq kk avc) q.size q.slide) 141):=NR.out.gb
   have qb:=NR.out.qb
   have hS:=fun (W:World) (hW:Below wr.heap.size wr W)=>zgu (q.aggs.map (·.arg)) fx (fun b=>lo b∨w.heap.size+2≤b) eq ec W (by
    have h1:=ExCs.is hcs (BW.out.trans (hW.mono BW.out.size)) (by rw[hml];exact zac hou hW)
    rw[hml]
    exact h1) (by rw[hml];exact ha9) (fun y hy yp yc V hV hx=>HFE.out y (List.mem_cons_of_mem _ hy) _ yp yc V ((BW.out.trans (hW.mono BW.out.size)).trans (hV.mono (by have:=BW.out.size;have:=hW.size;omega))) hx)
   have cN:=zkh q.whr (fx q.whr) ((q.aggs.map (·.arg)).map fx) zs lo (exL q.whr wp wc).toArray vl (.slice eq kk ec) wr (HWHR.out.on BW.out) (fun W hW=>HFE.out _ (List.mem_cons_self ..) lo wp wc W (BW.out.trans (hW.mono BW.out.size)) (HWHR.out.on (BW.out.trans (hW.mono BW.out.size)))) (fun W hW=>by
    have:=hS W hW
    rw[hml] at this
    exact this) (fun W hW=>zid vl zs W (HCV.out.on (BW.out.trans (hW.mono BW.out.size))) hz9 HZS.out)
   clear hS hcs hou hta hags NR
   go_wp2_with (refine zaj rfl 31 _ rfl w.heap.size 1 rfl _ _ qb (exL q.whr wp wc) (fun j v hv=>hq1.out j v hv) _ Tryz.underlying31 rfl (by kernel_rfl) ?_)
   refine cN.mono ?_
   rintro e w6 ⟨⟨SC,rfl,HV⟩,b6⟩
   have HV6:=HV.out
   obtain⟨cv,yp,yc,uv,rfl,⟨cq,cc2,rfl,-⟩,-,⟨uq2,uc2,rfl,-⟩⟩:=id HV6
   obtain⟨YL,hYL⟩:∃YL,((q.aggs.map (·.arg)).map fx).length=YL:=⟨_,rfl⟩
   rw[hYL] at HV6 ⊢
   clear hYL cN HV
   have G6:=GB.out.on b6
   have q6:=qb.on b6
   have hsz6:=b6.size
   have HB6:Aside (Below w.heap.size w w6):=BW.out.trans (b6.mono BW.out.size)
   have HA6:Aside (w6.ownsRow (w.heap.size+2) 87 9 (.slice avq kk avc) kk (agsC (q.aggs.map (·.what)))):=zac HAG.out b6
   have HNV:Aside _:=HV6
   clear b6 GB HAG HV6 BW qb
   go_wp2_with (refine zah rfl 92 _ _ rfl (w.heap.size+1) 0 #[.slice cq zs.length cc2,.string (fx q.whr).op,.string (fx q.whr).nm,.int .i64 (fx q.whr).vt,.int .i64 (fx q.whr).vn,.string (fx q.whr).vs,.slice yp (fx q.whr).args.length yc,.int .i64 (fx q.whr).pos,.slice uq2 YL uc2] rfl rfl _ _ G6 (by simp) (by kernel_rfl) (by simp[Value.oneCell']) ?_;intro W5 P5 K5;have q5:W5.cell? ⟨w.heap.size,10,none⟩=some (.slice gp G gc):=by rw[(q6.but K5 (by omega)).cell];exact HQ10.out)
   have P6:Blk W5 (w.heap.size+1) #[.slice cq zs.length cc2,.string (fx q.whr).op,.string (fx q.whr).nm,.int .i64 (fx q.whr).vt,.int .i64 (fx q.whr).vn,.string (fx q.whr).vs,.slice yp (fx q.whr).args.length yc,.int .i64 (fx q.whr).pos,.slice uq2 YL uc2,.int .i64 (ia:Int),.slice none 0 0,.slice avq kk avc,.slice none 0 0,.int .i64 q.size,.int .i64 q.slide,.int .i64 0,.slice none 0 0] 141:=by simpa only[putA,List.setIfInBounds_toArray,List.set_cons_zero,List.set_cons_succ,Nat.reduceAdd] using P5
   have HNV5:Aside (NsV (wr.heap.size+1) zs (fx q.whr) ((q.aggs.map (·.arg)).map fx) #[.slice cq zs.length cc2,.string (fx q.whr).op,.string (fx q.whr).nm,.int .i64 (fx q.whr).vt,.int .i64 (fx q.whr).vn,.string (fx q.whr).vs,.slice yp (fx q.whr).args.length yc,.int .i64 (fx q.whr).pos,.slice uq2 YL uc2] W5):=NsV.keepB (r:=wr.heap.size+1) (W:=w6) HNV.out (KeepB.but (B:=wr.heap.size+2) K5 (by omega)) (by omega)
   have HB5:Aside (Below w.heap.size w W5):=But.low K5 HB6.out (by omega)
   have HA5:Aside (W5.ownsRow (w.heap.size+2) 87 9 (.slice avq kk avc) kk (agsC (q.aggs.map (·.what)))):=zdM HA6.out K5 (by omega)
   have hsz5:=K5.size
   obtain⟨C5,hC5⟩:∃C5:Array Value,#[.slice cq zs.length cc2,.string (fx q.whr).op,.string (fx q.whr).nm,.int .i64 (fx q.whr).vt,.int .i64 (fx q.whr).vn,.string (fx q.whr).vs,.slice yp (fx q.whr).args.length yc,.int .i64 (fx q.whr).pos,.slice uq2 YL uc2,.int .i64 (ia:Int),.slice none 0 0,.slice avq kk avc,.slice none 0 0,.int .i64 q.size,.int .i64 q.slide,.int .i64 0,.slice none 0 0]=C5:=⟨_,rfl⟩
   have HC17:Hid (C5.size=17):=by show _=_;rw[←hC5];rfl
   have HGC:Aside (∀pv tv,GrC ⟨#[.slice cq zs.length cc2,.string (fx q.whr).op,.string (fx q.whr).nm,.int .i64 (fx q.whr).vt,.int .i64 (fx q.whr).vn,.string (fx q.whr).vs,.slice yp (fx q.whr).args.length yc,.int .i64 (fx q.whr).pos,.slice uq2 YL uc2],(ia:Int),pv,.slice avq kk avc,tv,q.size,q.slide⟩ 0 (.slice none 0 0) ((C5.setIfInBounds 10 pv).setIfInBounds 12 tv)):=by
    intro pv tv
    rw[←hC5]
    refine⟨by simp,⟨by simp,fun j v hj=>?_⟩,by simp,by simp,by simp,by simp,by simp,by simp,by simp,by simp⟩
    have h9:j<9:=by have:=(Array.getElem?_eq_some_iff.1 hj).1;simpa using this
    have:j=0∨j=1∨j=2∨j=3∨j=4∨j=5∨j=6∨j=7∨j=8:=by omega
    rcases this with rfl|rfl|rfl|rfl|rfl|rfl|rfl|rfl|rfl
    all_goals (simp at hj;subst hj;simp)
   have HC12:Hid (∀pv,(C5.setIfInBounds 10 pv).setIfInBounds 12 (.slice none 0 0)=C5.setIfInBounds 10 pv):=by
    intro pv
    rw[←hC5]
    simp
   have hC10:C5.setIfInBounds 10 (.slice none 0 0)=C5:=by rw[←hC5];simp
   rw[hC5] at P6
   have S2:Aside (NgL W5 (w.heap.size+1) 10 C5 (nsI (ns.take 0)) (.slice none 0 0) W5):=⟨But.refl _ _,by rw[hC10];exact P6,World.ownsRow_nil _ _ _ _⟩
   have QB5:Aside (Blk W5 w.heap.size QC 34):=q6.but K5 (by omega)
   have hlt5:w.heap.size+1<W5.heap.size:=P6.lt
   clear P5 K5 hC5 P6 hC10 HNV HB6 HA6 G6 q6
   obtain⟨wo,rfl⟩:∃wo,wo=wr:=⟨_,rfl⟩
   go_loopg [14,15,16,63] G (fun gg _ _ _ s63 wr=>∃(k2:Nat) (pv:Value),k2≤G∧G-k2≤gg∧s63=.int .i64 (k2:Int)∧Aside (NgL W5 (w.heap.size+1) 10 C5 (nsI (ns.take k2)) pv wr))
   case atStart=>exact⟨0,.slice none 0 0,Nat.zero_le _,by omega,rfl,S2⟩
   case round =>
    obtain⟨k2,pv,hk2,hg2,rfl,NL2⟩:=hrel
    clear S2
    by_cases hlt2:k2<G
    ·have hltz2:(k2:Int)<(G:Int):=by omega
     have h0z2:(0:Int)≤(k2:Int):=by omega
     have hgi:k2<q.group.length:=by rw[HG.out];exact hlt2
     have hni:k2<ns.length:=by rw[HNL.out];exact hgi
     have hlen:(nsI (ns.take k2)).length=k2:=by rw[zkk,List.length_take];omega
     have BV:Below w.heap.size w wr:=But.low NL2.out.but HB5.out (by omega)
     obtain⟨gg1,go1,hgp,hgl1,hgc⟩:=zeM HGRP.out hgi
     subst hgp
     have hcell:wr.cell? ⟨gg1,go1+k2,none⟩=some (.string q.group[k2]):=by rw[BV.cell (p:=⟨gg1,_,none⟩) hgl1];exact hgc k2 hgi
     have cF:=HF.out k2 hgi hni wr BV
     have HT:Hid (nsI (ns.take (k2+1))=nsI (ns.take k2)++[(ns[k2]:Int)]):=by show _=_;rw[List.take_succ_eq_append_getElem hni,nsI,List.map_append];rfl
     clear hgc
     generalize q.group[k2]=nm at *
     generalize ns[k2]=n at *
     go_wp2_with fail
     refine cF.mono ?_
     rintro e w7 ⟨rfl,b7⟩
     have N7:=NL2.out.on b7
     have b8:=alB w7 (.cells #[.int .i64 (n:Int)] 3)
     have N8:Aside (NgL W5 (w.heap.size+1) 10 C5 (nsI (ns.take k2)) pv (w7.alloc (.cells #[.int .i64 (n:Int)] 3))):=N7.on b8
     have y10:=N7.gb.cell 10
     rw[Array.getElem?_setIfInBounds_self,if_pos (by rw[HC17.out];decide)] at y10
     obtain⟨pq,pc,rfl⟩:=zaa N7.row
     rw[hlen] at y10 N8
     have hsz7:W5.heap.size≤w7.heap.size:=N7.but.size
     have HLEN:Hid ((nsI (ns.take k2)).length=k2):=hlen
     clear cF NL2 N7 b7 b8 hcell BV hlen
     go_wp2_with (at_builtin;go_loud (refine zad rfl _ _ 22 rfl W5.heap.size 3 n0 _ 1 8 Tryz.underlying22 hn0 hw0 hw1 hw2 rfl (by decide) (.slice pq k2 pc) k2 (intC (nsI (ns.take k2))) rfl (by have:=N8.out.row;rw[HLEN.out] at this;exact this) ⟨w7.heap.size,0,none⟩ 1 1 [.int .i64 (n:Int)] rfl rfl (fun j v hv=>zjX w7 hv) (by simp[Value.oneCell']) (by decide) (by unfold maxLen;omega) (by omega) (by simp;omega) ?_);intro v' w9 hown9 hgr9 hfr9;obtain⟨q9,c9,rfl⟩:=zaa hown9;have G9:=N8.out.gb.grown hgr9 (fun e=>by have:=(World.ownsRow.lt N8.out.row _ e.symm).1;omega);have f9:=G9.frozen 10;have d9:=G9.cell 10;rw[Array.getElem?_setIfInBounds_self,if_pos (by rw[HC17.out];decide)] at d9)
     have N9:=NgL.more N8.out (n:Int) hlt5 (by rw[HLEN.out];exact hown9) hgr9
     rw[←HT.out] at N9
     have N9A:Aside _:=N9
     clear hown9 hgr9 G9 f9 d9 N8 y10 N9
     go_wp2
     go_roundg (G-(k2+1))
     case measure=>omega
     case rel=>exact⟨k2+1,_,by omega,by omega,by go_num,N9A⟩
    ·have hltz2:¬(k2:Int)<(G:Int):=by omega
     obtain rfl:k2=G:=by omega
     have hnt:ns.take k2=ns:=List.take_of_length_le (by rw[HNL.out,HG.out];exact Nat.le_refl _)
     have NLZ:=NL2.out
     rw[hnt] at NLZ
     have HLP:Aside (NgL W5 (w.heap.size+1) 10 C5 (nsI ns) pv wr):=NLZ
     have BV:Below w.heap.size w wr:=But.low NLZ.but HB5.out (by omega)
     have HBV:Aside (Below w.heap.size w wr):=BV
     have QB6:Blk wr w.heap.size QC 34:=QB5.out.but NLZ.but (by omega)
     have y10:wr.cell? ⟨w.heap.size,10,none⟩=some (.slice gp k2 gc):=by rw[QB6.cell];exact HQ10.out
     obtain⟨uq',uc',he,hcm⟩:=HCM.out
     injection he with he1 he2 he3
     subst he1 he3
     obtain⟨ub,uo,rfl,hucap,-,hui⟩:=hcm.resolve_left (by have:=HGL.out;omega)
     have hk2R:k2<RL.length:=by have:=HGL.out;rw[HG.out] at this;exact this
     have hsl:=fun W=>zkG ub uo RL.length uc k2 hk2R hucap W
     have hk2z:(k2:Int)≤(RL.length:Int):=by omega
     obtain⟨M,hM⟩:∃M,RL.length-k2=M:=⟨_,rfl⟩
     have HM:Hid (RL.length-k2=M):=hM
     rw[hM] at hsl
     have hMz:(M:Int)≤1000:=by omega
     have HUI:Aside (zbn w ub uo RL):=hui
     have hwr5:W5.heap.size≤wr.heap.size:=NLZ.but.size
     have S3:Aside (NgL wr (w.heap.size+1) 12 (C5.setIfInBounds 10 pv) (((RL.drop k2).take 0).map (·.2)) (.slice none 0 0) wr):=⟨But.refl _ _,by rw[HC12.out];exact NLZ.gb,World.ownsRow_nil _ _ _ _⟩
     clear NL2 NLZ hnt hcm QB6 QB5 BV hM hui
     go_wp2
     obtain⟨wp3,rfl⟩:∃wp3,wp3=wr:=⟨_,rfl⟩
     go_loopg [18,90] M (fun gg _ s90 wr=>∃(k3:Nat) (tv:Value),k3≤M∧M-k3≤gg∧s90=.int .i64 (k3:Int)∧Aside (NgL wp3 (w.heap.size+1) 12 (C5.setIfInBounds 10 pv) (((RL.drop k2).take k3).map (·.2)) tv wr))
     case atStart=>exact⟨0,.slice none 0 0,Nat.zero_le _,by omega,rfl,S3⟩
     case round =>
      obtain⟨k3,tv,hk3,hg3,rfl,NL3⟩:=hrel
      clear S3
      by_cases hlt3:k3<M
      ·have hltz3:(k3:Int)<(M:Int):=by omega
       have h0z3:(0:Int)≤(k3:Int):=by omega
       have hmi:k3<(RL.drop k2).length:=by rw[List.length_drop,HM.out];exact hlt3
       have hlen:(((RL.drop k2).take k3).map (·.2)).length=k3:=by rw[List.length_map,List.length_take];omega
       have BV:Below w.heap.size w wr:=But.low NL3.out.but HBV.out (by omega)
       have hgi:=HUI.out.2 (k2+k3) (by rw[List.length_drop] at hmi;omega)
       have hul:=HUI.out.1
       have hce:∀o,wr.cell? ⟨ub,o,none⟩=w.cell? ⟨ub,o,none⟩:=fun o=>BV.cell (p:=⟨ub,o,none⟩) hul
       obtain⟨g0,g1⟩:=hgi
       rw[←hce] at g0 g1
       have e0:uo+(k2+k3)*2=uo+k2*2+k3*2:=by omega
       rw[e0] at g0 g1
       have HT:Hid (((RL.drop k2).take (k3+1)).map (·.2)=((RL.drop k2).take k3).map (·.2)++[(RL[k2+k3]'(by rw[List.length_drop] at hmi;omega)).2]):=by
        show _=_
        rw[List.take_succ_eq_append_getElem hmi,List.map_append,List.getElem_drop]
        rfl
       generalize RL[k2+k3]'_=cl at *
       obtain⟨cn,ct⟩:=cl
       simp only at g0 g1 HT
       obtain⟨tq,tc,rfl⟩:=zaa NL3.out.row
       have bY:=alB wr (.cells #[.string cn,.int .i64 ct] 25)
       have NY0:=NL3.out.on bY
       rw[hlen] at NY0
       have z1:(wr.alloc (.cells #[.string cn,.int .i64 ct] 25)).cell? ⟨wr.heap.size,1,none⟩=some (.int .i64 ct):=by rw[(zab wr _ _).cell];rfl
       have HLEN:Hid ((((RL.drop k2).take k3).map (·.2)).length=k3):=hlen
       have hsz3:wp3.heap.size≤wr.heap.size:=NL3.out.but.size
       have hlt6:w.heap.size+1<wp3.heap.size:=by omega
       clear hce BV bY hlen
       go_wp2
       obtain⟨Y,hY⟩:∃Y,wr.alloc (.cells #[.string cn,.int .i64 ct] 25)=Y:=⟨_,rfl⟩
       have hYs:wp3.heap.size≤Y.heap.size:=by rw[←hY];simp;omega
       have hzY:wr.heap.size<Y.heap.size:=by rw[←hY];simp
       rw[hY] at z1 NY0 ⊢
       generalize wr.heap.size=zc at *
       have NY:Aside _:=NY0
       have ND:Aside (NgL wp3 (w.heap.size+1) 12 (C5.setIfInBounds 10 pv) (((RL.drop k2).take k3).map (·.2)) (.slice tq k3 tc) (Y.drew.alloc (.cells #[.int .i64 ct] 3))):=(NY0.on (Below.drew (Below.refl _ _))).on (alB _ _)
       have y12:=NY0.gb.cell 12
       rw[Array.getElem?_setIfInBounds_self,if_pos (by rw[Array.size_setIfInBounds,HC17.out];decide)] at y12
       have HC18:Hid ((C5.setIfInBounds 10 pv).size=17):=by show _=_;rw[Array.size_setIfInBounds,HC17.out]
       have hgY:w.heap.size+1≠Y.heap.size:=by omega
       have hgYl:w.heap.size+1<Y.heap.size:=by omega
       have hA12:∀o,(Y.drew.alloc o).cell? ⟨w.heap.size+1,12,none⟩=some (.slice tq k3 tc):=fun o=>by rw[(alB Y.drew o).cell (p:=⟨w.heap.size+1,12,none⟩) (show w.heap.size+1<Y.heap.size from hgYl)];exact y12
       have hB12:Y.drew.cell? ⟨w.heap.size+1,12,none⟩=some (.slice tq k3 tc):=y12
       have hzn:zc≠Y.heap.size:=by omega
       clear hY NL3 NY0 g0 g1
       go_region_law (refine zat rfl (.tmp 98) (.tmp 101) 22 rfl wp3.heap.size 3 n0 _ 1 8 Tryz.underlying22 hn0 hw0 hw1 hw2 (by decide) (by decide) (.slice tq k3 tc) k3 (intC (((RL.drop k2).take k3).map (·.2))) (by simp[Act.eval]) (by have:=ND.out.row;rw[HLEN.out] at this;exact this) ⟨Y.heap.size,0,none⟩ 1 1 [.int .i64 ct] (by simp[Act.eval]) rfl (fun j v hv=>zjX Y.drew hv) (by simp[Value.oneCell']) (by unfold maxLen;omega) (by omega) (by simp;omega) ?_;intro q9 c9 w9 hown9 hgr9;have G9:=ND.out.gb.grown hgr9 (fun e=>by have:=(World.ownsRow.lt ND.out.row _ e.symm).1;omega);have f9:=G9.frozen 12;have d9:=G9.cell 12;rw[Array.getElem?_setIfInBounds_self,if_pos (by rw[HC18.out];decide)] at d9)
       all_goals
        have N9:=NgL.more ND.out ct hlt6 (by rw[HLEN.out];exact hown9) hgr9
        rw[←HT.out] at N9
        have N9A:Aside _:=N9
        clear hown9 hgr9 G9 f9 d9 ND NY y12 N9
        go_wp2
        go_roundg (M-(k3+1))
        case measure=>omega
        case rel=>exact⟨k3+1,_,by omega,by omega,by go_num,N9A⟩
      ·have hltz3:¬(k3:Int)<(M:Int):=by omega
       obtain rfl:k3=M:=by omega
       have hnt:(RL.drop k2).take k3=RL.drop k2:=List.take_of_length_le (by rw[List.length_drop,HM.out];exact Nat.le_refl _)
       have NLZ:=NL3.out
       rw[hnt] at NLZ
       have hNB:=NLZ.but
       have hbw:Below w.heap.size w wr:=But.low hNB HBV.out (by omega)
       obtain⟨tq,tc,rfl⟩:=zaa NLZ.row
       obtain⟨pq,pc,rfl⟩:=zaa HLP.out.row
       have hml:(q.aggs.map (·.what)).length=kk:=by rw[List.length_map,HN.out]
       have hKB:KeepB (w.heap.size+2) W5 wr:=(KeepB.but HLP.out.but (by omega)).trans (KeepB.but hNB (by omega))
       have hfin:NgIs wr (w.heap.size+1) (ia:Int) q.size q.slide zs (fx q.whr) ((q.aggs.map (·.arg)).map fx) (q.aggs.map (·.what)) ns ((RL.drop k2).map (·.2)) _:=⟨⟨_,NLZ.gb,HGC.out _ _⟩,rfl,rfl,rfl,⟨wo.heap.size+1,by omega,NsV.keepB HNV5.out hKB (by omega)⟩,⟨pq,pc,by rw[zkk],by rw[←zkk];exact zdM (zfG HLP.out.row (by omega)) hNB (by omega)⟩,⟨avq,avc,by rw[hml],by rw[hml];exact zaA HA5.out hKB (by omega)⟩,⟨tq,tc,rfl,zfG NLZ.row (by omega)⟩⟩
       have HFIN:Aside (w.heap.size≤w.heap.size+1∧∃s,NgIs wr (w.heap.size+1) (ia:Int) q.size q.slide zs (fx q.whr) ((q.aggs.map (·.arg)).map fx) (q.aggs.map (·.what)) ns ((RL.drop k2).map (·.2)) s):=⟨by omega,_,hfin⟩
       have HBW:Aside (Below w.heap.size w wr):=hbw
       clear NL3 NLZ hNB hbw hKB hfin
       go_wp2
       go_ret
       exact⟨⟨_,rfl,(show Aside _ by have h:=HFIN.out;simp only[List.map_map,List.map_drop] at h;exact h)⟩,HBW.out⟩
end
end Go.Proofs.YtbdnccnfidjiaaaGreatDoor
