/-
  QyEnv, QyB0, QrA.
-/
import Derived.Test.YtbdnccnfidjiaaaGreatDoorGyAj
import Derived.Test.YtbdnccnfidjiaaaGreatDoorGyAk
import Derived.Test.YtbdnccnfidjiaaaGreatDoorGyAg
import Derived.Test.YtbdnccnfidjiaaaGreatDoorGyAm
import Derived.LaidHandle
import Derived.LaidSub
import Derived.Test.YtbdnccnfidjiaaaGreatDoorGyAi
import Derived.OneCell
import Derived.Test.YtbdnccnfidjiaaaGreatDoorYLex5
import Derived.Deep.RegionWith
import Derived.Deep.RegionHeld3
import Derived.Deep.MidRow
namespace Go.Proofs.YtbdnccnfidjiaaaGreatDoor
open Go.RowKit
set_option linter.unusedVariables false
set_option linter.unusedSimpArgs false
set_option maxHeartbeats 8000000
section
open Go.ChangeShapes Go.WideShapes Go.ChangeAt Go.Joins
open Go.ChangeMaps (open_string shut_string)

namespace qyEnv
theorem et : Tryz.prog.globalNamed "errors.errorType" = some 4 := by kernel_rfl
theorem rt : (Tryz.prog.cutTypes.find? (·.1 == "internal/reflectlite.rtype")).map (·.2) = some 119 := by kernel_rfl
theorem zto:((List.range 388).filter fun t=>Tryz.prog.rowNamed t [101,114,114,111,114])=[45]:=by kernel_rfl
theorem size:Tryz.prog.types.size=388:=by kernel_rfl
theorem handleBatchCounts{W:World}(h:laidMetH Tryz.prog Rows.batchCountsRow.laid W):W.cell? ⟨4,0,none⟩=some (.iface 119 (.agg #[.pointer (some ⟨12,45,none⟩)])):=by
 have h2:=(laidMetH_iff.1 h).2
 obtain⟨name,u,ty,e1,e2,e3,e4,e5⟩:=h2 _ (List.mem_singleton.2 rfl)
 have en:name=[101,114,114,111,114]:=(Option.some.inj e1).symm
 subst en
 obtain rfl:=Option.some.inj (rt.symm.trans e2)
 have hm:ty∈(List.range 388).filter fun t=>Tryz.prog.rowNamed t [101,114,114,111,114]:=List.mem_filter.2 ⟨List.mem_range.2 (by rw[←size];exact e3),e4⟩
 rw[zto] at hm
 obtain rfl:=List.mem_singleton.1 hm
 have hh:typeHandle Tryz.prog 45=.pointer (some ⟨12,45,none⟩):=by kernel_rfl
 rw[hh] at e5
 simpa using World.var?_cell et e5 0
theorem g_rul : Tryz.prog.globalNamed "sluicebook/kind.rules" = some 8 := by kernel_rfl
theorem t_rul:(Tryz.prog.globals[8]?).map (·.type)=some 317:=by kernel_rfl
theorem g_ags : Tryz.prog.globalNamed "sluicebook/query.aggs" = some 2 := by kernel_rfl
theorem t_ags:(Tryz.prog.globals[2]?).map (·.type)=some 188:=by kernel_rfl
set_option maxRecDepth 100000 in
theorem ztz {W : World} {rest : List (String × DataW Unit)} (h : laidMet Tryz.prog (("sluicebook/kind.rules", Rows.laid_sluicebook_kind_rules) :: rest) W) : REnv W :=
 zmK zpn h g_rul t_rul Tryz.underlying317 (by kernel_rfl) (by kernel_rfl)
set_option maxRecDepth 100000 in
theorem zsL {W : World} {rest : List (String × DataW Unit)} (h : laidMet Tryz.prog (("sluicebook/query.aggs", Rows.laid_sluicebook_query_aggs) :: rest) W) : ∃ t fr, W.heap[2]? = some (.cells aggsC t fr) :=
 zmK aggsC h g_ags t_ags Tryz.underlying188 (by kernel_rfl) (by kernel_rfl)
theorem zsS{W:World}(hsh:W.ShapedOpen Tryz.prog):12≤W.heap.size:=by
 obtain⟨o,o0,h,_⟩:=hsh.2 12 (Nat.le_of_eq (by kernel_rfl)) (of_decide_eq_true (by kernel_rfl))
 exact Nat.le_of_lt (Array.getElem?_eq_some_iff.1 h).1
open treeEnv in
theorem env {W : World} {r1 r2 : List (String × DataW Unit)} (h2 : laidMet Tryz.prog (("internal/strconv.uint64pow10", Rows.laid_internal_strconv_uint64pow10) :: r1) W) (h4 : laidMet Tryz.prog (("strconv.ErrRange", Rows.laid_strconv_ErrRange) :: ("strconv.ErrSyntax", Rows.laid_strconv_ErrSyntax) :: ("sluicebook/lex.signs", Rows.laid_sluicebook_lex_signs) :: ("sluicebook/row.typeWords", Rows.laid_sluicebook_row_typeWords) :: ("sluicebook/tree.words", Rows.laid_sluicebook_tree_words) :: ("sluicebook/tree.operations", Rows.laid_sluicebook_tree_operations) :: ("sluicebook/kind.rules", Rows.laid_sluicebook_kind_rules) :: ("sluicebook/query.aggs", Rows.laid_sluicebook_query_aggs) :: r2) W)
  (het:W.cell? ⟨4,0,none⟩=some (.iface 119 (.agg #[.pointer (some ⟨12,45,none⟩)])))(hsh:W.ShapedOpen Tryz.prog):KEnv W∧AEnv W∧SG W:=by
 have h5 : laidMet Tryz.prog (("strconv.ErrSyntax", Rows.laid_strconv_ErrSyntax) :: _) W := h4.tail
 have h6 : laidMet Tryz.prog (("sluicebook/lex.signs", Rows.laid_sluicebook_lex_signs) :: _) W := h5.tail
 have h7 : laidMet Tryz.prog (("sluicebook/row.typeWords", Rows.laid_sluicebook_row_typeWords) :: _) W := h6.tail
 have h8 : laidMet Tryz.prog (("sluicebook/tree.words", Rows.laid_sluicebook_tree_words) :: _) W := h7.tail
 have h9 : laidMet Tryz.prog (("sluicebook/tree.operations", Rows.laid_sluicebook_tree_operations) :: _) W := h8.tail
 have h10 : laidMet Tryz.prog (("sluicebook/kind.rules", Rows.laid_sluicebook_kind_rules) :: _) W := h9.tail
 have h11 : laidMet Tryz.prog (("sluicebook/query.aggs", Rows.laid_sluicebook_query_aggs) :: _) W := h10.tail
 obtain⟨a0,s0,hv0,_⟩:=laid_sentinel h4 g_ran tRan Tryz.underlying45 rowES Tryz.underlying298 Tryz.underlying300 rfl rfl Tryz.underlying9 zmU zob
 obtain⟨a1,s1,hv1,_⟩:=laid_sentinel h5 g_syn tSyn Tryz.underlying45 rowES Tryz.underlying298 Tryz.underlying300 rfl rfl Tryz.underlying9 zmU zob
 have htab : Lib.TabIs Tryz.prog W "internal/strconv.uint64pow10" .u64 Lib.pow10Tab := Lib.tabIs_of_head g_tab tTab Tryz.underlying340 Tryz.underlying262 zsU zsT h2
 have hbig:=zsS hsh
 have hT:TEnv W:=⟨⟨htab,⟨_,_,hv1⟩,⟨_,_,hv0⟩,by omega,by omega,by omega⟩,hbig,ztq h9,ztG h8⟩
 exact⟨⟨hT,tw_of h7,het,ztz h10⟩,⟨hbig,zsL h11⟩,sg_of h6⟩
def lay(w:World)(b:Nat):World :=
 treeEnv.layAt (treeEnv.layAt (treeEnv.layAt (treeEnv.layAt (treeEnv.lay w b) 7 (treeEnv.flat 5 Rows.laid_sluicebook_row_typeWords)) 8 (treeEnv.flat 5 Rows.laid_sluicebook_kind_rules)) 2 (treeEnv.flat 5 Rows.laid_sluicebook_query_aggs)) 4 [.iface 119 (.agg #[.pointer (some ⟨12,45,none⟩)])]
end qyEnv
end
theorem zhn{w w':World}{B:Nat}{lo:Nat→Prop}{v:Value}{x:Ex}(h:ExIn w lo v x)(hk:KeepB B w w')(hB:∀b,lo b→B≤b):ExIn w' lo v x:=by
 have h3:=ExIn.low (lo':=fun b=>lo b∧b<w.heap.size) (fun b hb hb2=>⟨hb2,hb⟩) _ _ h
 have h4:=ExIn.keep (w':=w') hk.1 (fun b o hb _=>by simp only[World.cell?,hk.2 b (hB b hb.1) hb.2]) _ _ h3
 exact ExIn.low (fun b _ hb=>hb.1) _ _ h4
def zbs(w:World)(B:Nat)(v:Value)(l:List Ag):Prop:=∃cs:List Value,w.ownsRow B 87 9 v l.length cs ∧
 ∀j (h:j<l.length),∃ap ac,cs[j*9]?=some (.string l[j].what)∧cs[j*9+1]?=some (.string l[j].arg.op)∧cs[j*9+2]?=some (.string l[j].arg.nm)∧cs[j*9+3]?=some (.int .i64 l[j].arg.vt)∧cs[j*9+4]?=some (.int .i64 l[j].arg.vn)∧cs[j*9+5]?=some (.string l[j].arg.vs)∧cs[j*9+6]?=some (.slice ap l[j].arg.args.length ac)∧cs[j*9+7]?=some (.int .i64 l[j].arg.pos)∧cs[j*9+8]?=some (.string l[j].name)∧ExIn w (fun b=>B≤b∧some b≠v.ownBlock) (exV l[j].arg ap ac) l[j].arg
theorem ziR(w:World)(B:Nat):zbs w B (.slice none 0 0) []:=⟨[],World.ownsRow_nil _ _ _ _,fun j h=>absurd h (Nat.not_lt_zero _)⟩
theorem zbs.keepB{w w':World}{B B':Nat}{v:Value}{xs:List Ag}(h:zbs w B v xs)(hk:KeepB B' w w')(hB:B'≤B):zbs w' B v xs:=by
 obtain⟨cs,h1,h2⟩:=h
 refine⟨cs,zaA h1 hk hB,fun j hj=>?_⟩
 obtain⟨ap,ac,e0,e1,e2,e3,e4,e5,e6,e7,e8,hx⟩:=h2 j hj
 exact⟨ap,ac,e0,e1,e2,e3,e4,e5,e6,e7,e8,zhn hx hk (fun b hb=>by omega)⟩
theorem zbs.push{w w':World}{B:Nat}{v v':Value}{xs:List Ag}{cs:List Value}{a:Ag}{ap:Option Addr}{ac:Nat}(h1:w.ownsRow B 87 9 v xs.length cs)
  (h2:∀j (h:j<xs.length),∃ap ac,cs[j*9]?=some (.string xs[j].what)∧cs[j*9+1]?=some (.string xs[j].arg.op)∧cs[j*9+2]?=some (.string xs[j].arg.nm)∧cs[j*9+3]?=some (.int .i64 xs[j].arg.vt)∧cs[j*9+4]?=some (.int .i64 xs[j].arg.vn)∧cs[j*9+5]?=some (.string xs[j].arg.vs)∧cs[j*9+6]?=some (.slice ap xs[j].arg.args.length ac)∧cs[j*9+7]?=some (.int .i64 xs[j].arg.pos)∧cs[j*9+8]?=some (.string xs[j].name)∧ExIn w (fun b=>B≤b∧some b≠v.ownBlock) (exV xs[j].arg ap ac) xs[j].arg)
  (hx:ExIn w (fun b=>B≤b∧some b≠v.ownBlock) (exV a.arg ap ac) a.arg)(hown':w'.ownsRow B 87 9 v' (xs.length+1) (cs++[.string a.what,.string a.arg.op,.string a.arg.nm,.int .i64 a.arg.vt,.int .i64 a.arg.vn,.string a.arg.vs,.slice ap a.arg.args.length ac,.int .i64 a.arg.pos,.string a.name]))(hg:w.grownBy w' v.ownBlock)(hf:v'.ownBlock=v.ownBlock∨v'.ownBlock=some w.heap.size):zbs w' B v' (xs++[a]):=by
 have key:∀(y:Ex) (z:Value),ExIn w (fun b=>B≤b∧some b≠v.ownBlock) z y→ExIn w' (fun b=>B≤b∧some b≠v'.ownBlock) z y:=fun y z hy=>by
  have h3:=ExIn.low (lo':=fun b=>(B≤b∧some b≠v.ownBlock)∧b<w.heap.size) (fun b hb hb2=>⟨hb2,hb⟩) _ _ hy
  have h4:=ExIn.keep (w':=w') hg.size (fun b o hb _=>by simp only[World.cell?,hg.block b hb.2 hb.1.2]) _ _ h3
  refine ExIn.low (fun b _ hb=>⟨hb.1.1,?_⟩) _ _ h4
  rcases hf with hf|hf
  ·rw[hf];exact hb.1.2
  ·rw[hf];intro e;injection e with e;have:=hb.2;omega
 have hlen:=h1.1
 refine⟨_,by rw[List.length_append,List.length_singleton];exact hown',fun j hj=>?_⟩
 rw[List.length_append,List.length_singleton] at hj
 by_cases hj2:j<xs.length
 ·obtain⟨ap,ac,e0,e1,e2,e3,e4,e5,e6,e7,e8,hy⟩:=h2 j hj2
  rw[List.getElem_append_left hj2]
  refine⟨ap,ac,?_,?_,?_,?_,?_,?_,?_,?_,?_,key _ _ hy⟩
  ·rw[List.getElem?_append_left (by omega)];exact e0
  ·rw[List.getElem?_append_left (by omega)];exact e1
  ·rw[List.getElem?_append_left (by omega)];exact e2
  ·rw[List.getElem?_append_left (by omega)];exact e3
  ·rw[List.getElem?_append_left (by omega)];exact e4
  ·rw[List.getElem?_append_left (by omega)];exact e5
  ·rw[List.getElem?_append_left (by omega)];exact e6
  ·rw[List.getElem?_append_left (by omega)];exact e7
  ·rw[List.getElem?_append_left (by omega)];exact e8
 ·obtain rfl:j=xs.length:=by omega
  rw[List.getElem_append_right (Nat.le_refl _)]
  simp only[Nat.sub_self,List.getElem_cons_zero]
  refine⟨ap,ac,?_,?_,?_,?_,?_,?_,?_,?_,?_,key _ _ hx⟩
  ·rw[List.getElem?_append_right (by omega),show xs.length*9-cs.length=0 by omega];rfl
  ·rw[List.getElem?_append_right (by omega),show xs.length*9+1-cs.length=1 by omega];rfl
  ·rw[List.getElem?_append_right (by omega),show xs.length*9+2-cs.length=2 by omega];rfl
  ·rw[List.getElem?_append_right (by omega),show xs.length*9+3-cs.length=3 by omega];rfl
  ·rw[List.getElem?_append_right (by omega),show xs.length*9+4-cs.length=4 by omega];rfl
  ·rw[List.getElem?_append_right (by omega),show xs.length*9+5-cs.length=5 by omega];rfl
  ·rw[List.getElem?_append_right (by omega),show xs.length*9+6-cs.length=6 by omega];rfl
  ·rw[List.getElem?_append_right (by omega),show xs.length*9+7-cs.length=7 by omega];rfl
  ·rw[List.getElem?_append_right (by omega),show xs.length*9+8-cs.length=8 by omega];rfl
theorem zbs.is{w:World}{B:Nat}{p:Option Addr}{n c:Nat}{xs:List Ag}(h:zbs w B (.slice p n c) xs)(hl:xs.length≤1048576):AgsIs w (B≤·) p xs:=by
 obtain⟨cs,h1,h2⟩:=h
 refine⟨hl,?_⟩
 rcases id h1.2 with ⟨hn,e⟩|⟨g,cap,cur,hv,hb,hg,hm,hx,hs,ht⟩
 ·exact .inl e
 ·injection hv with hv1 hv2 hv3
  subst hv1 hv2 hv3
  refine .inr ⟨g,0,rfl,(Array.getElem?_eq_some_iff.1 hg).1,hb,fun j hj=>?_⟩
  obtain⟨ap,ac,e0,e1,e2,e3,e4,e5,e6,e7,e8,hy⟩:=h2 j hj
  have k:∀o v,cs[o]?=some v→w.cell? ⟨g,0+o,none⟩=some v:=fun o v hv=>by
   have:=h1.cells (g:=g) rfl o v hv
   rw[Go.WideShapes.add_plain] at this
   exact this
  refine⟨ap,ac,k _ _ e0,?_,?_,?_,?_,?_,?_,?_,?_,ExIn.low (fun b _ hb=>hb.1) _ _ hy⟩
  ·exact k _ _ e1
  ·exact k _ _ e2
  ·exact k _ _ e3
  ·exact k _ _ e4
  ·exact k _ _ e5
  ·exact k _ _ e6
  ·exact k _ _ e7
  ·exact k _ _ e8
section
open Go.BigFrame
structure Fr(tr:Nat)(S:Nat→Prop)(w w':World):Prop where
 below:Below tr w w'
 kept:∀k,k<w.heap.size→k≠tr→¬S k→w'.heap[k]?=w.heap[k]?
theorem Fr.size{tr:Nat}{S:Nat→Prop}{w w':World}(h:Fr tr S w w'):w.heap.size≤w'.heap.size:=h.below.size
theorem Fr.refl(tr:Nat)(S:Nat→Prop)(w:World):Fr tr S w w:=⟨Below.refl _ _,fun _ _ _ _=>rfl⟩
theorem Fr.trans{tr:Nat}{S:Nat→Prop}{w w1 w2:World}(h:Fr tr S w w1)(k:Fr tr S w1 w2):Fr tr S w w2 :=
 ⟨h.below.trans k.below,fun b hb hr hs=>by rw[k.kept b (by have:=h.size;omega) hr hs,h.kept b hb hr hs]⟩
theorem Fr.mono{tr:Nat}{S S':Nat→Prop}{w w1:World}(h:Fr tr S w w1)(hs:∀k,k<w.heap.size→S k→S' k):Fr tr S' w w1:=⟨h.below,fun b hb hr hn=>h.kept b hb hr (fun e=>hn (hs b hb e))⟩
theorem Fr.of_but{tr:Nat}{S:Nat→Prop}{w w1:World}(h:But tr w w1):Fr tr S w w1:=⟨h.below,fun b hb hr _=>h.kept b hb hr⟩
theorem Fr.of_below{tr:Nat}{S:Nat→Prop}{w w1:World}(h:Below w.heap.size w w1)(hr:tr≤w.heap.size):Fr tr S w w1:=Fr.of_but (But.of_below' h hr)
theorem Fr.set{tr:Nat}{S:Nat→Prop}{w w1:World}(h:Fr tr S w w1){b:Nat}(o:Nat)(v:Value)(hb:tr≤b)(hs:b<w.heap.size→S b):Fr tr S w (w1.setCell ⟨b,o,none⟩ v) :=
 ⟨h.below.setCell (p:=⟨b,o,none⟩) hb v,fun k hk hkr hn=>by rw[Below.heap_setCell _ _ _ _ (fun e=>by simp at e;subst e;exact hn (hs hk))];exact h.kept k hk hkr hn⟩
theorem Fr.cells{tr:Nat}{S:Nat→Prop}{w:World}{b:Nat}(hb:tr≤b)(hs:b<w.heap.size→S b):∀(vs:List Value) (o:Nat) (w1:World),Fr tr S w w1→Fr tr S w (w1.setCells b o vs)
 | [],_,_,h=>h
 | v::r,o,w1,h=>Fr.cells hb hs r (o+1) _ (h.set o v hb hs)
theorem Fr.on{tr:Nat}{S:Nat→Prop}{w w1 w2:World}(h:Fr tr S w w1)(k:Below w1.heap.size w1 w2)(hr:tr≤w1.heap.size):Fr tr S w w2:=h.trans (Fr.of_below k hr)
theorem Fr.cell{tr:Nat}{S:Nat→Prop}{w w1:World}(h:Fr tr S w w1){b:Nat}(o:Nat)(hb:b<w.heap.size)(hr:b≠tr)(hs:¬S b):w1.cell? ⟨b,o,none⟩=w.cell? ⟨b,o,none⟩:=by
 simp only[World.cell?,h.kept b hb hr hs]
theorem Blk.fr{tr:Nat}{S:Nat→Prop}{w w1:World}{b:Nat}{cs:Array Value}{t:TypeId}(h:Blk w b cs t)(hf:Fr tr S w w1)(hr:b≠tr)(hs:¬S b):Blk w1 b cs t:=h.keep (hf.kept b h.lt hr hs)
def NumT(ts:List Tok):Prop:=∀t∈ts,isNum t=true→Lib.atoiAll t.2.1.data.toList=.ok (nuI t.2.1.data.toList)
theorem NumT.suf{ts rs:List Tok}(h:NumT ts)(hs:rs <:+ ts):NumT rs:=fun t ht=>h t (hs.mem ht)
structure QH(WZ:World)(en:Nat)(W:World)(tr rb:Nat)(ts:List Tok):Prop where
 rd:RdAt en W tr ts
 p0:W.cell? ⟨rb,0,none⟩=some (.pointer (some ⟨tr,0,none⟩))
 lt:rb<W.heap.size
 ne:tr<rb
 env:TEnv W
 aenv:AEnv W
 gt:12≤tr
 fit:Fit ts
 num:NumT ts
 old:Below tr WZ W
variable {en : Nat} {WZ : World}
theorem QH.go{W w':World}{tr rb:Nat}{S:Nat→Prop}{ts ts':List Tok}(h:QH WZ en W tr rb ts)(hf:Fr tr S W w')(hr:RdAt en w' tr ts')(hs:ts' <:+ ts)(hp:w'.cell? ⟨rb,0,none⟩=some (.pointer (some ⟨tr,0,none⟩))):QH WZ en w' tr rb ts' :=
 ⟨hr,hp,by have:=hf.size;have:=h.lt;omega,h.ne,h.env.onB hf.below h.gt hf.size,h.aenv.onB hf.below h.gt hf.size,h.gt,h.fit.suf hs,h.num.suf hs,h.old.trans hf.below⟩
theorem QH.fr{W w':World}{tr rb:Nat}{S:Nat→Prop}{ts ts':List Tok}(h:QH WZ en W tr rb ts)(hf:Fr tr S W w')(hr:RdAt en w' tr ts')(hs:ts' <:+ ts)(hS:¬S rb):QH WZ en w' tr rb ts' :=
 h.go hf hr hs (by rw[hf.cell 0 h.lt (by have:=h.ne;omega) hS];exact h.p0)
theorem zgF{P:Tok→Bool}{ts r:List Tok}{t:Tok}(h:nxT P ts=some (t,r)):r <:+ ts:=by rw[(zal h).1];exact List.suffix_cons t r
theorem zdt(g:List UInt8)(ts:List Tok):(jU g ts).2 <:+ ts:=by
 rw[jU]
 cases h:nxT (sgT [g]) ts with
 | none=>exact List.suffix_rfl
 | some p=>exact zgF h
theorem zkg(ts:List Tok):(nU ts).2 <:+ ts:=by
 rw[nU]
 cases h:nxT nmT ts with
 | none=>exact List.suffix_rfl
 | some p=>exact zgF h
theorem zth(ts:List Tok):(iU ts).2 <:+ ts:=by
 rw[iU]
 cases h:nxT isNum ts with
 | none=>exact List.suffix_rfl
 | some p=>exact zgF h
theorem zbU(ts:List Tok):(readE ts).2 <:+ ts:=zfS _ _ _
theorem znw{V:World}{b:Nat}{g:List UInt8}(h:V.cell? ⟨b,0,none⟩=some (.string ⟨g.toArray⟩))(hb:b<V.heap.size):zcc V b [g]:=⟨hb,fun j hj=>match j,hj with
 | 0,_=>h⟩
theorem zai{B:Nat}{w V:World}(h:Below B w V)(hB:B≤w.heap.size)(o:Obj):Below B w (V.alloc o):=h.alloc (Nat.le_trans hB h.size) o
structure Box3(w:World)(b:Nat)(a0 a1 a2:Value):Prop where
 c0:w.cell? ⟨b,0,none⟩=some a0
 c1:w.cell? ⟨b,1,none⟩=some a1
 c2:w.cell? ⟨b,2,none⟩=some a2
 fz:∀o,w.frozen? ⟨b,o,none⟩=false
 lt:b<w.heap.size
theorem Box3.on{w w':World}{b:Nat}{a0 a1 a2:Value}(h:Box3 w b a0 a1 a2)(hb:Below w.heap.size w w'):Box3 w' b a0 a1 a2:=by
 obtain⟨c0,c1,c2,fz,lt⟩:=h
 exact⟨by rw[hb.cell (p:=⟨b,0,none⟩) lt];exact c0,by rw[hb.cell (p:=⟨b,1,none⟩) lt];exact c1,by rw[hb.cell (p:=⟨b,2,none⟩) lt];exact c2,fun o=>by rw[hb.frozen (p:=⟨b,o,none⟩) lt];exact fz o,by have:=hb.size;omega⟩
theorem Box3.but{w w':World}{r b:Nat}{a0 a1 a2:Value}(h:Box3 w b a0 a1 a2)(hb:But r w w')(hr:b≠r):Box3 w' b a0 a1 a2:=by
 obtain⟨c0,c1,c2,fz,lt⟩:=h
 exact⟨by rw[hb.cell _ lt hr];exact c0,by rw[hb.cell _ lt hr];exact c1,by rw[hb.cell _ lt hr];exact c2,fun o=>by rw[zfb hb o lt hr];exact fz o,by have:=hb.size;omega⟩
theorem Fr.set3{tr:Nat}{S:Nat→Prop}{w w1:World}(h:Fr tr S w w1){b:Nat}(u0 u1 u2:Value)(hb:tr≤b)(hs:b<w.heap.size→S b):Fr tr S w (((w1.setCell ⟨b,0,none⟩ u0).setCell ⟨b,1,none⟩ u1).setCell ⟨b,2,none⟩ u2):=((h.set 0 u0 hb hs).set 1 u1 hb hs).set 2 u2 hb hs
theorem RdAt.set3{w:World}{r:Nat}{ts:List Tok}(h:RdAt en w r ts){z:Nat}(hz:r<z)(v0 v1 v2:Value):RdAt en (((w.setCell ⟨z,0,none⟩ v0).setCell ⟨z,1,none⟩ v1).setCell ⟨z,2,none⟩ v2) r ts :=
 h.onB ((((Below.refl (r+1) w).setCell (p:=⟨z,0,none⟩) hz v0).setCell (p:=⟨z,1,none⟩) hz v1).setCell (p:=⟨z,2,none⟩) hz v2) (by simp[World.setCell])
set_option maxRecDepth 20000 in
theorem zdb(g:List UInt8)(W:World)(tr rb:Nat)(ts:List Tok)(h:QH WZ en W tr rb ts)(R:Bool)(rs:List Tok)(hR:jU g ts=(if R=true then some () else none,rs)) :
  Calls Tryz.prog 21 #[.pointer (some ⟨rb,0,none⟩),.string ⟨g.toArray⟩] W fun e w'=>e=.returned (.bool R)∧Aside (QH WZ en w' tr rb rs)∧Aside (Fr tr (fun _=>False) W w'):=by
 have HH:Aside (QH WZ en W tr rb ts):=h
 have hp0:=h.p0
 have hlt:=h.lt
 have hne:=h.ne
 have hrl:=h.rd.lt
 have cO1:∀(V:World) (b:Nat),Below W.heap.size W V→W.heap.size≤b→V.cell? ⟨b,0,none⟩=some (.string ⟨g.toArray⟩)→b<V.heap.size→Calls Tryz.prog 46 #[.slice (some ⟨b,0,none⟩) 1 1] V fun e w'=>(∃p,e=.returned (signV p)∧zaW w' tr p [g])∧Below W.heap.size W w'∧w'.cell? ⟨rb,0,none⟩=some (.pointer (some ⟨tr,0,none⟩))∧rb≠w'.heap.size∧w'.heap.size≠rb:=fun V b hb hn hc hl=>(zaw b 1 tr [g] V (by simp) (znw hc hl) (by omega) (by have:=hb.size;omega)).mono (fun e w' hh=>by
  have B2:=hb.trans (hh.2.mono hb.size)
  exact⟨hh.1,B2,by rw[B2.cell (p:=⟨rb,0,none⟩) hlt];exact hp0,by have:=B2.size;omega,by have:=B2.size;omega⟩)
 have cO2:∀(V:World) (b z:Nat),Below W.heap.size W V→W.heap.size≤b→V.cell? ⟨b,0,none⟩=some (.string ⟨g.toArray⟩)→b<V.heap.size→Box3 V z (.int .i64 0) (.string ⟨#[]⟩) (.int .i64 0)→Calls Tryz.prog 46 #[.slice (some ⟨b,0,none⟩) 1 1] V fun e w'=>(∃p,e=.returned (signV p)∧zaW w' tr p [g])∧Below W.heap.size W w'∧w'.cell? ⟨rb,0,none⟩=some (.pointer (some ⟨tr,0,none⟩))∧Box3 w' z (.int .i64 0) (.string ⟨#[]⟩) (.int .i64 0):=fun V b z hb hn hc hl hz=>(zaw b 1 tr [g] V (by simp) (znw hc hl) (by omega) (by have:=hb.size;omega)).mono (fun e w' hh=>by
  have B2:=hb.trans (hh.2.mono hb.size)
  exact⟨hh.1,B2,by rw[B2.cell (p:=⟨rb,0,none⟩) hlt];exact hp0,hz.on hh.2⟩)
 have cT:∀(V:World) (p:Nat),RdAt en V tr ts→zdr V p [g]→Calls Tryz.prog 45 #[.pointer (some ⟨tr,0,none⟩),signV p] V fun e w'=>(∃(k:Int) (x:ByteArray) (a:Int),e=.returned (.tuple #[.agg #[.int .i64 k,.string x,.int .i64 a],.bool R]))∧RdAt en w' tr rs∧But tr V w':=fun V p hr hs=>by
  rw[jU] at hR
  cases hn:nxT (sgT [g]) ts with
  | none =>
   rw[hn] at hR
   have h1:=(Prod.mk.inj hR).1
   have h2:=(Prod.mk.inj hR).2
   have:R=false:=by cases R;rfl;simp at h1
   subst this h2
   exact (zam [g] p V tr ts hr hs hn).mono fun e w' hh=>⟨⟨_,_,_,hh.1⟩,hh.2.1,hh.2.2⟩
  | some q =>
   obtain⟨t,qs⟩:=q
   rw[hn] at hR
   have h1:=(Prod.mk.inj hR).1
   have h2:=(Prod.mk.inj hR).2
   have:R=true:=by cases R;simp at h1;rfl
   subst this h2
   exact (zan [g] p V tr t ts qs hr hs hn).mono fun e w' hh=>⟨⟨_,_,_,hh.1⟩,hh.2.1,hh.2.2⟩
 have cT1:∀(V:World) (p:Nat),Below W.heap.size W V→zdr V p [g]→Calls Tryz.prog 45 #[.pointer (some ⟨tr,0,none⟩),signV p] V fun e w'=>(∃(k:Int) (x:ByteArray) (a:Int),e=.returned (.tuple #[.agg #[.int .i64 k,.string x,.int .i64 a],.bool R]))∧RdAt en w' tr rs∧Fr tr (fun _=>False) W w'∧w'.cell? ⟨rb,0,none⟩=some (.pointer (some ⟨tr,0,none⟩)):=fun V p hb hs=>(cT V p (HH.out.rd.on hb) hs).mono fun e w' hh=>by
  have F:=(Fr.of_below (S:=fun _=>False) hb (tr:=tr) (by omega)).trans (Fr.of_but hh.2.2)
  exact⟨hh.1,hh.2.1,F,by rw[F.cell 0 hlt (by omega) (fun h=>h)];exact hp0⟩
 have cT2:∀(V:World) (p z:Nat),Below W.heap.size W V→zdr V p [g]→Box3 V z (.int .i64 0) (.string ⟨#[]⟩) (.int .i64 0)→W.heap.size≤z→Calls Tryz.prog 45 #[.pointer (some ⟨tr,0,none⟩),signV p] V fun e w'=>(∃(k:Int) (x:ByteArray) (a:Int),e=.returned (.tuple #[.agg #[.int .i64 k,.string x,.int .i64 a],.bool R]))∧RdAt en w' tr rs∧Fr tr (fun _=>False) W w'∧w'.cell? ⟨rb,0,none⟩=some (.pointer (some ⟨tr,0,none⟩))∧Box3 w' z (.int .i64 0) (.string ⟨#[]⟩) (.int .i64 0):=fun V p z hb hs hz hzW=>(cT V p (HH.out.rd.on hb) hs).mono fun e w' hh=>by
  have F:=(Fr.of_below (S:=fun _=>False) hb (tr:=tr) (by omega)).trans (Fr.of_but hh.2.2)
  exact⟨hh.1,hh.2.1,F,by rw[F.cell 0 hlt (by omega) (fun h=>h)];exact hp0,hz.but hh.2.2 (by omega)⟩
 have hsuf:rs <:+ ts:=by have:=zdt g ts;rw[hR] at this;exact this
 have fin:∀w3,Fr tr (fun _=>False) W w3→RdAt en w3 tr rs→Aside (QH WZ en w3 tr rb rs)∧Aside (Fr tr (fun _=>False) W w3):=fun w3 F hr=>⟨HH.out.fr F hr hsuf (fun h=>h),F⟩
 have n0:rb≠W.heap.size:=by omega
 have n0':W.heap.size≠rb:=by omega
 have n1':W.heap.size+1≠rb:=by omega
 have n1:rb≠W.heap.size+1:=by omega
 clear h hR cT
 go_enter Tryz.func21,Tryz.ntmps21
 go_wp2
 go_region_held3 (fun w'=>w'.cell? ⟨rb,0,none⟩=some (.pointer (some ⟨tr,0,none⟩))) (go_keep) (first
  | (go_at_call 46;refine (cO2 _ _ W.heap.size ?_ ?_ ?_ ?_ ?_).mono ?_;(repeat (first|exact Below.refl _ _|refine Below.drew ?_|refine zai ?_ (Nat.le_refl _) _));(first|exact Nat.le_refl _|exact Nat.le_succ _);(focus (simp;done));(focus (first|(simp;done)|(simp;omega)));(focus (refine⟨?_,?_,?_,?_,?_⟩;(focus (simp;done));(focus (simp;done));(focus (simp;done));(focus (intro o;simp;done));(first|(simp;done)|(simp;omega))));rintro e' w1 ⟨⟨p,rfl,hp⟩,BW1,q0,XX⟩)
  | (go_at_call 46;refine (cO2 _ _ (W.heap.size+1) ?_ ?_ ?_ ?_ ?_).mono ?_;(repeat (first|exact Below.refl _ _|refine Below.drew ?_|refine zai ?_ (Nat.le_refl _) _));(first|exact Nat.le_refl _|exact Nat.le_succ _);(focus (simp;done));(focus (first|(simp;done)|(simp;omega)));(focus (refine⟨?_,?_,?_,?_,?_⟩;(focus (simp;done));(focus (simp;done));(focus (simp;done));(focus (intro o;simp;done));(first|(simp;done)|(simp;omega))));rintro e' w1 ⟨⟨p,rfl,hp⟩,BW1,q0,XX⟩)
  | (go_at_call 46;refine (cO1 _ _ ?_ ?_ ?_ ?_).mono ?_;(repeat (first|exact Below.refl _ _|refine Below.drew ?_|refine zai ?_ (Nat.le_refl _) _));(first|exact Nat.le_refl _|exact Nat.le_succ _);(focus (simp;done));(focus (first|(simp;done)|(simp;omega)));rintro e' w1 ⟨⟨p,rfl,hp⟩,BW1,q0,nq,nq'⟩)
  | (go_at_call 45;refine (cT2 _ p _ ?_ ?_ XX ?_).mono ?_;(repeat (first|exact BW1|refine Below.drew ?_|refine zai ?_ (Nat.le_refl _) _));exact hp.sign;(first|exact Nat.le_refl _|exact Nat.le_succ _);rintro e' w2 ⟨⟨tk,tx,ta,rfl⟩,hr2,F2,q2,⟨x0,x1,x2,xf,xl⟩⟩)
  | (go_at_call 45;refine (cT2 _ p w1.heap.size ?_ ?_ ?_ ?_).mono ?_;(repeat (first|exact BW1|refine Below.drew ?_|refine zai ?_ (Nat.le_refl _) _));refine hp.sign.on ?_;(repeat (first|exact Below.refl _ _|refine Below.drew ?_|refine zai ?_ (Nat.le_refl _) _));(focus (refine⟨?_,?_,?_,?_,?_⟩;(focus (simp;done));(focus (simp;done));(focus (simp;done));(focus (intro o;simp;done));(first|(simp;done)|(simp;omega))));exact BW1.size;rintro e' w2 ⟨⟨tk,tx,ta,rfl⟩,hr2,F2,q2,⟨x0,x1,x2,xf,xl⟩⟩)
  | (go_at_call 45;refine (cT1 _ p ?_ ?_).mono ?_;(repeat (first|exact BW1|refine Below.drew ?_));exact hp.sign;rintro e' w2 ⟨⟨tk,tx,ta,rfl⟩,hr2,F2,q2⟩))
 all_goals
  go_wp2
  go_ret
  refine⟨rfl,?_⟩
  have sz:=F2.size
  have bz:=BW1.size
  first
   | exact fin _ (F2.on (al _ _) (by omega)) (hr2.on (al _ _))
   | exact fin _ (F2.set3 _ _ _ (by omega) (fun h=>by omega)) (hr2.set3 (by omega) _ _ _)
end
end Go.Proofs.YtbdnccnfidjiaaaGreatDoor
