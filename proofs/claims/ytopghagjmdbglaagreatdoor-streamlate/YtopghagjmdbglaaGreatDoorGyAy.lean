/-
  QyEnv, GwF, GmB, AdC.
-/
import Derived.Test.YtopghagjmdbglaaGreatDoorGyAg
import Derived.Test.YtopghagjmdbglaaGreatDoorGyAm
import Derived.Test.YtopghagjmdbglaaGreatDoorGyAl
import Derived.Test.YtopghagjmdbglaaGreatDoorGyAo
import Derived.LaidHandle
import Derived.LaidSub
import Derived.Test.YtopghagjmdbglaaGreatDoorGyAv
import Derived.Test.YtopghagjmdbglaaGreatDoorGyAp
import Derived.Test.YtopghagjmdbglaaGreatDoorGyAx
import Derived.Deep.RegionWith
import Derived.Deep.LoopGhost
import Derived.BigQuiet
namespace Go.Proofs.YtopghagjmdbglaaGreatDoor
open Go.RowKit
set_option linter.unusedVariables false
set_option linter.unusedSimpArgs false
set_option maxHeartbeats 8000000
section
open Go.ChangeShapes Go.WideShapes Go.ChangeAt Go.Joins
open Go.ChangeMaps (open_string shut_string)

namespace qyEnv
theorem et : Tryz.prog.globalNamed "errors.errorType" = some 4 := by kernel_rfl
theorem rt : (Tryz.prog.cutTypes.find? (·.1 == "internal/reflectlite.rtype")).map (·.2) = some 127 := by kernel_rfl
theorem zsG:((List.range 394).filter fun t=>Tryz.prog.rowNamed t [101,114,114,111,114])=[42]:=by kernel_rfl
theorem size:Tryz.prog.types.size=394:=by kernel_rfl
theorem handleStreamLate{W:World}(h:laidMetH Tryz.prog Rows.streamLateRow.laid W):W.cell? ⟨4,0,none⟩=some (.iface 127 (.agg #[.pointer (some ⟨12,42,none⟩)])):=by
 have h2:=(laidMetH_iff.1 h).2
 obtain⟨name,u,ty,e1,e2,e3,e4,e5⟩:=h2 _ (List.mem_singleton.2 rfl)
 have en:name=[101,114,114,111,114]:=(Option.some.inj e1).symm
 subst en
 obtain rfl:=Option.some.inj (rt.symm.trans e2)
 have hm:ty∈(List.range 394).filter fun t=>Tryz.prog.rowNamed t [101,114,114,111,114]:=List.mem_filter.2 ⟨List.mem_range.2 (by rw[←size];exact e3),e4⟩
 rw[zsG] at hm
 obtain rfl:=List.mem_singleton.1 hm
 have hh:typeHandle Tryz.prog 42=.pointer (some ⟨12,42,none⟩):=by kernel_rfl
 rw[hh] at e5
 simpa using World.var?_cell et e5 0
theorem g_rul : Tryz.prog.globalNamed "sluicebook/kind.rules" = some 8 := by kernel_rfl
theorem t_rul:(Tryz.prog.globals[8]?).map (·.type)=some 323:=by kernel_rfl
theorem g_ags : Tryz.prog.globalNamed "sluicebook/query.aggs" = some 2 := by kernel_rfl
theorem t_ags:(Tryz.prog.globals[2]?).map (·.type)=some 193:=by kernel_rfl
set_option maxRecDepth 100000 in
theorem zsQ {W : World} {rest : List (String × DataW Unit)} (h : laidMet Tryz.prog (("sluicebook/kind.rules", Rows.laid_sluicebook_kind_rules) :: rest) W) : REnv W :=
 zml zoG h g_rul t_rul Tryz.underlying323 (by kernel_rfl) (by kernel_rfl)
set_option maxRecDepth 100000 in
theorem zsi {W : World} {rest : List (String × DataW Unit)} (h : laidMet Tryz.prog (("sluicebook/query.aggs", Rows.laid_sluicebook_query_aggs) :: rest) W) : ∃ t fr, W.heap[2]? = some (.cells aggsC t fr) :=
 zml aggsC h g_ags t_ags Tryz.underlying193 (by kernel_rfl) (by kernel_rfl)
theorem zsk{W:World}(hsh:W.ShapedOpen Tryz.prog):12≤W.heap.size:=by
 obtain⟨o,o0,h,_⟩:=hsh.2 12 (Nat.le_of_eq (by kernel_rfl)) (of_decide_eq_true (by kernel_rfl))
 exact Nat.le_of_lt (Array.getElem?_eq_some_iff.1 h).1
open treeEnv in
theorem env {W : World} {r1 r2 : List (String × DataW Unit)} (h2 : laidMet Tryz.prog (("internal/strconv.uint64pow10", Rows.laid_internal_strconv_uint64pow10) :: r1) W) (h4 : laidMet Tryz.prog (("strconv.ErrRange", Rows.laid_strconv_ErrRange) :: ("strconv.ErrSyntax", Rows.laid_strconv_ErrSyntax) :: ("sluicebook/lex.signs", Rows.laid_sluicebook_lex_signs) :: ("sluicebook/row.typeWords", Rows.laid_sluicebook_row_typeWords) :: ("sluicebook/tree.words", Rows.laid_sluicebook_tree_words) :: ("sluicebook/tree.operations", Rows.laid_sluicebook_tree_operations) :: ("sluicebook/kind.rules", Rows.laid_sluicebook_kind_rules) :: ("sluicebook/query.aggs", Rows.laid_sluicebook_query_aggs) :: r2) W)
  (het:W.cell? ⟨4,0,none⟩=some (.iface 127 (.agg #[.pointer (some ⟨12,42,none⟩)])))(hsh:W.ShapedOpen Tryz.prog):KEnv W∧AEnv W∧SG W:=by
 have h5 : laidMet Tryz.prog (("strconv.ErrSyntax", Rows.laid_strconv_ErrSyntax) :: _) W := h4.tail
 have h6 : laidMet Tryz.prog (("sluicebook/lex.signs", Rows.laid_sluicebook_lex_signs) :: _) W := h5.tail
 have h7 : laidMet Tryz.prog (("sluicebook/row.typeWords", Rows.laid_sluicebook_row_typeWords) :: _) W := h6.tail
 have h8 : laidMet Tryz.prog (("sluicebook/tree.words", Rows.laid_sluicebook_tree_words) :: _) W := h7.tail
 have h9 : laidMet Tryz.prog (("sluicebook/tree.operations", Rows.laid_sluicebook_tree_operations) :: _) W := h8.tail
 have h10 : laidMet Tryz.prog (("sluicebook/kind.rules", Rows.laid_sluicebook_kind_rules) :: _) W := h9.tail
 have h11 : laidMet Tryz.prog (("sluicebook/query.aggs", Rows.laid_sluicebook_query_aggs) :: _) W := h10.tail
 obtain⟨a0,s0,hv0,_⟩:=laid_sentinel h4 g_ran tRan Tryz.underlying42 rowES Tryz.underlying304 Tryz.underlying306 rfl rfl Tryz.underlying9 zmr znt
 obtain⟨a1,s1,hv1,_⟩:=laid_sentinel h5 g_syn tSyn Tryz.underlying42 rowES Tryz.underlying304 Tryz.underlying306 rfl rfl Tryz.underlying9 zmr znt
 have htab : Lib.TabIs Tryz.prog W "internal/strconv.uint64pow10" .u64 Lib.pow10Tab := Lib.tabIs_of_head g_tab tTab Tryz.underlying346 Tryz.underlying267 zsm zsl h2
 have hbig:=zsk hsh
 have hT:TEnv W:=⟨⟨htab,⟨_,_,hv1⟩,⟨_,_,hv0⟩,by omega,by omega,by omega⟩,hbig,zsI h9,zsZ h8⟩
 exact⟨⟨hT,tw_of h7,het,zsQ h10⟩,⟨hbig,zsi h11⟩,sg_of h6⟩
def lay(w:World)(b:Nat):World :=
 treeEnv.layAt (treeEnv.layAt (treeEnv.layAt (treeEnv.layAt (treeEnv.lay w b) 7 (treeEnv.flat 5 Rows.laid_sluicebook_row_typeWords)) 8 (treeEnv.flat 5 Rows.laid_sluicebook_kind_rules)) 2 (treeEnv.flat 5 Rows.laid_sluicebook_query_aggs)) 4 [.iface 127 (.agg #[.pointer (some ⟨12,42,none⟩)])]
end qyEnv
end
def Gm.pl(g:Gm):PG:=(g.key,g.rs)
def Wm.pl(x:Wm):PW:=(x.fr,x.gs.map Gm.pl)
theorem OkK.len:∀{ts:List Int} {l:List V3},OkK ts l→l.length=ts.length
 | [],[],_=>rfl
 | t::ts,v::vs,h=>by rw[List.length_cons,List.length_cons,OkK.len h.2]
 | [],_::_,h=>h.elim
 | _::_,[],h=>h.elim
theorem OkK.small:∀{ts:List Int} {l:List V3},OkK ts l→∀v∈l,v.2.2.size≤40
 | [],[],_=>fun v h=>by cases h
 | t::ts,v::vs,h=>fun u hu=>by
  rcases List.mem_cons.1 hu with rfl|hu
  ·have:=zcJ h.1.2;simpa using this
  ·exact OkK.small h.2 u hu
 | [],_::_,h=>h.elim
 | _::_,[],h=>h.elim
def dgm:Gm:=⟨0,[],0,.nilIface,[]⟩
def hdZ(ls:List V3):List Gm→Bool
 | []=>false
 | g::_=>keyC g.key ls == 0
theorem zbc{α:Type}{l:List α}{d:α}{j:Nat}(h:j<l.length):l.getD j d=l[j]:=by rw[List.getD_eq_getElem?_getD,List.getElem?_eq_getElem h];rfl
theorem zbd{α:Type}{l:List α}{d:α}{j:Nat}(h:j<l.length):l.getD j d∈l:=by rw[zbc h];exact List.getElem_mem h
theorem WmAt.keys{w:World}{base:Nat}{ps0:List Pt}{x:Wm}(h:WmAt w base ps0 x){kt:List Int}(hk:∀g∈x.gs,OkK kt g.key)(hn:x.gs.length≤1000)(hm:kt.length≤1000){g c:Nat}(hg:x.gv=.slice (some ⟨g,0,none⟩) x.gs.length c):zkV w g x.gs.length kt.length (fun j=>(x.gs.getD j dgm).z) (fun j=>(x.gs.getD j dgm).key):=by
 have hrow:=h.row
 rw[hg] at hrow
 refine⟨(zds hrow g rfl).2,by omega,by omega,fun j hj=>?_,fun j hj=>?_,fun j hj v hv=>?_⟩
 ·have:=World.ownsRow.cells hrow (g:=g) rfl j (x.gs.getD j dgm).p (by rw[List.getElem?_map,List.getElem?_eq_getElem hj,zbc hj];rfl)
  rw[Go.WideShapes.add_plain,Nat.zero_add] at this
  exact this
 ·have hmem:=zbd (d:=dgm) hj
  generalize x.gs.getD j dgm=y at hmem ⊢
  obtain⟨kv,h1,h2⟩:=(h.gp y hmem).blk
  obtain⟨q,c,rfl⟩:=zaa h2
  have hl:=(hk y hmem).len
  refine⟨hl,q,c,?_,zdB rfl h2⟩
  have:=h1.cell 0
  rw[←hl]
  simpa using this
 ·have:=(hk _ (zbd (d:=dgm) hj)).small v hv
  unfold maxLen;omega
theorem zgG{l1 l2 gs:List Gm}{ls:List V3}(hs:gs=l1++l2)(h1:∀g∈l1,keyC g.key ls<0)(h2:∀g∈l2,0≤keyC g.key ls):(∀j,j<l1.length→keyC (gs.getD j dgm).key ls<0)∧(∀j,l1.length≤j→j<gs.length→0≤keyC (gs.getD j dgm).key ls)∧(decide (l1.length<gs.length)&&(keyC (gs.getD l1.length dgm).key ls == 0))=hdZ ls l2:=by
 subst hs
 refine⟨fun j hj=>?_,fun j h3 h4=>?_,?_⟩
 ·have e:(l1++l2).getD j dgm=l1[j]:=by rw[List.getD_eq_getElem?_getD,List.getElem?_append_left hj,List.getElem?_eq_getElem hj];rfl
  rw[e];exact h1 _ (List.getElem_mem _)
 ·have h5:j-l1.length<l2.length:=by rw[List.length_append] at h4;omega
  have e:(l1++l2).getD j dgm=l2[j-l1.length]:=by rw[List.getD_eq_getElem?_getD,List.getElem?_append_right h3,List.getElem?_eq_getElem h5];rfl
  rw[e];exact h2 _ (List.getElem_mem _)
 ·cases l2 with
  | nil=>simp[hdZ]
  | cons g t =>
   have e:(l1++g::t).getD l1.length dgm=g:=by rw[List.getD_eq_getElem?_getD,List.getElem?_append_right (Nat.le_refl _),Nat.sub_self];rfl
   rw[e]
   simp[hdZ]
theorem wfind{w:World}{base:Nat}{ps0:List Pt}{x:Wm}(h:WmAt w base ps0 x){kt:List Int}(hk:∀g∈x.gs,OkK kt g.key)(hn:x.gs.length≤1000)(hm:kt.length≤1000)(q2:Option Addr)(c2:Nat)(ls:List V3)(hl:OkK kt ls)(hv:zaf w q2 ls)(l1 l2:List Gm)(hs:x.gs=l1++l2)(h1:∀g∈l1,keyC g.key ls<0)(h2:∀g∈l2,0≤keyC g.key ls) :
  Calls Tryz.prog 175 #[.pointer (some ⟨x.z,0,none⟩),.slice q2 ls.length c2] w fun e w'=>e=.returned (.tuple #[.int .i64 (l1.length:Int),.bool (hdZ ls l2)])∧Below w.heap.size w w':=by
 obtain⟨q,c,hq⟩:=zaa h.row
 have hc:=h.blk.cell 1
 have hc1:w.cell? ⟨x.z,1,none⟩=some x.gv:=by simpa using hc
 obtain⟨b1,b2,b3⟩:=zgG hs h1 h2
 by_cases h0:x.gs.length=0
 ·have e1:l1=[]:=by rw[hs,List.length_append] at h0;exact List.length_eq_zero_iff.1 (by omega)
  have e2:l2=[]:=by rw[hs,List.length_append] at h0;exact List.length_eq_zero_iff.1 (by omega)
  subst e1 e2
  rw[hq,h0] at hc1
  refine (zmz x.z q c (.slice q2 ls.length c2) w hc1).mono ?_
  rintro e w' ⟨rfl,rfl⟩
  exact⟨rfl,Below.refl _ _⟩
 ·obtain⟨n,hn'⟩:∃n,x.gs.length=n+1:=⟨x.gs.length-1,by omega⟩
  have hrow:=h.row
  rw[hn'] at hrow
  obtain⟨g,cap,hg⟩:=zdb hrow
  rw[←hn'] at hg
  rw[hg] at hc1
  have hK:=h.keys hk hn hm hg
  have hl1:l1.length≤x.gs.length:=by rw[hs,List.length_append];omega
  have:=znN x.z g x.gs.length cap kt.length (fun j=>(x.gs.getD j dgm).z) (fun j=>(x.gs.getD j dgm).key) q2 c2 ls w hc1 hK hl.len hv (fun v hv=>by have:=hl.small v hv;unfold maxLen;omega) l1.length hl1 b1 b2
  rw[b3,←hl.len] at this
  exact this
theorem wroom{w:World}{base:Nat}{ps0:List Pt}{x:Wm}(h:WmAt w base ps0 x){kt:List Int}(hk:∀g∈x.gs,OkK kt g.key)(hr:x.gs.Pairwise fun g h=>keyC g.key h.key<0)(hn:x.gs.length≤1000)(hm:kt.length≤1000)(q2:Option Addr)(c2:Nat)(ls:List V3)(hl:OkK kt ls)(hv:zaf w q2 ls) :
  Calls Tryz.prog 146 #[.pointer (some ⟨x.z,0,none⟩),.slice q2 ls.length c2] w fun e w'=>e=.returned (.bool (gRoom ls (x.gs.map Gm.pl)))∧Below w.heap.size w w':=by
 obtain⟨l1,l2,hs,h1,h2,h3⟩:=zbS (·.key) kt ls hl x.gs hk hr
 obtain⟨q,c,hq⟩:=zaa h.row
 have hc:=h.blk.cell 1
 have hc1:w.cell? ⟨x.z,1,none⟩=some x.gv:=by simpa using hc
 obtain⟨b1,b2,b3⟩:=zgG hs h1 h2
 have hroom:gRoom ls (x.gs.map Gm.pl)=(hdZ ls l2||decide (x.gs.length<40)):=by
  rw[gRoom,List.length_map]
  congr 1
  rw[hs,List.map_append,List.any_append]
  have e1:(l1.map Gm.pl).any (fun g=>keyC g.1 ls == 0)=false:=by
   rw[List.any_eq_false]
   intro g hg
   obtain⟨y,hy,rfl⟩:=List.mem_map.1 hg
   have:=h1 y hy
   show ¬((keyC y.key ls == 0)=true)
   simp;omega
  rw[e1,Bool.false_or]
  cases l2 with
  | nil=>rfl
  | cons g t =>
   rw[List.map_cons,List.any_cons]
   have e2:(t.map Gm.pl).any (fun g=>keyC g.1 ls == 0)=false:=by
    rw[List.any_eq_false]
    intro g' hg
    obtain⟨y,hy,rfl⟩:=List.mem_map.1 hg
    have:=h3 y hy
    show ¬((keyC y.key ls == 0)=true)
    simp;omega
   rw[e2,Bool.or_false]
   rfl
 rw[hroom]
 by_cases h0:x.gs.length=0
 ·rw[hq,h0] at hc1
  refine (zjs x.z q c (.slice q2 ls.length c2) w hc1).mono ?_
  rintro e w' ⟨rfl,rfl⟩
  refine⟨by rw[h0];simp,Below.refl _ _⟩
 ·obtain⟨n,hn'⟩:∃n,x.gs.length=n+1:=⟨x.gs.length-1,by omega⟩
  have hrow:=h.row
  rw[hn'] at hrow
  obtain⟨g,cap,hg⟩:=zdb hrow
  rw[←hn'] at hg
  rw[hg] at hc1
  have hK:=h.keys hk hn hm hg
  have hl1:l1.length≤x.gs.length:=by rw[hs,List.length_append];omega
  have:=zls x.z g x.gs.length cap kt.length (fun j=>(x.gs.getD j dgm).z) (fun j=>(x.gs.getD j dgm).key) q2 c2 ls w hc1 hK hl.len hv (fun v hv=>by have:=hl.small v hv;unfold maxLen;omega) l1.length hl1 b1 b2
  rw[b3,←hl.len] at this
  exact this
structure zkU(w w':World)(base:Nat)(ps0:List Pt)(x:Wm)(ls:List V3)(l1:List Gm)(x':Wm)(g:Gm)(l2:List Gm):Prop where
 at_:WmAt w' base ps0 x'
 form:x'.z=x.z∧x'.fr=x.fr∧x'.gs=l1++g::l2
 key:g.key=ls
 add:∀vs,gAdd ls vs (x.gs.map Gm.pl)=l1.map Gm.pl++(ls,g.rs++[vs])::l2.map Gm.pl
 kp:Kp (fun k=>k=x.z∨x.gv.ownBlock=some k) w w'
 foot:∀k,x'.S k→x.S k∨w.heap.size≤k
 rows:g∈x.gs∨g.rs=[]
theorem zfm{l1 l2:List Gm}{gs:List Gm}(hs:gs=l1++l2):(gs.map Gm.p).take l1.length=l1.map Gm.p∧(gs.map Gm.p).drop l1.length=l2.map Gm.p:=by
 subst hs
 rw[List.map_append]
 exact⟨by rw[List.take_append_of_le_length (by simp),List.take_of_length_le (by simp)],by rw[List.drop_append_of_le_length (by simp),List.drop_of_length_le (by simp)];rfl⟩
theorem zhN{w:World}{base:Nat}{ps0:List Pt}{x:Wm}(h:WmAt w base ps0 x){kt:List Int}(hk:∀g∈x.gs,OkK kt g.key)(hr:x.gs.Pairwise fun g h=>keyC g.key h.key<0)(hn:x.gs.length≤1000)(hm:kt.length≤1000)(q2:Option Addr)(c2:Nat)(ls:List V3)(hl:OkK kt ls)(hv:zaf w q2 ls)(hbase:base≤w.heap.size)(av tv:Value)
  (hN:∀W,Below w.heap.size w W→Calls Tryz.prog 200 #[av,tv] W fun e w'=>∃a v,e=.returned (.tuple #[.pointer (some ⟨a,0,none⟩),.nilIface])∧Aside (AcAt w' a v ps0 []∧(∀k,accS a v k→W.heap.size≤k))∧Below W.heap.size W w') :
  Calls Tryz.prog 178 #[.pointer (some ⟨x.z,0,none⟩),.slice q2 ls.length c2,av,tv] w fun e w'=>∃gz,e=.returned (.tuple #[.pointer (some ⟨gz,0,none⟩),.nilIface])∧∃l1 x' g l2,g.z=gz∧zkU w w' base ps0 x ls l1 x' g l2:=by
 obtain⟨l1,l2,hs,h1,h2,h3⟩:=zbS (·.key) kt ls hl x.gs hk hr
 have hF:=wfind h hk hn hm q2 c2 ls hl hv l1 l2 hs h1 h2
 obtain⟨q,c,hq⟩:=zaa h.row
 have hc:=h.blk.cell 1
 have hc1:w.cell? ⟨x.z,1,none⟩=some x.gv:=by simpa using hc
 obtain⟨b1,b2,b3⟩:=zgG hs h1 h2
 have hpl1:∀g∈l1.map Gm.pl,keyC g.1 ls<0:=fun g hg=>by obtain⟨y,hy,rfl⟩:=List.mem_map.1 hg;exact h1 y hy
 have hl1:l1.length≤x.gs.length:=by rw[hs,List.length_append];omega
 by_cases hz:hdZ ls l2=true
 ·obtain⟨g,t,rfl⟩:∃g t,l2=g::t:=by
   cases l2 with
   | nil=>simp[hdZ] at hz
   | cons g t=>exact⟨g,t,rfl⟩
  have hz0:keyC g.key ls=0:=by simpa [hdZ] using hz
  obtain⟨n,hn'⟩:∃n,x.gs.length=n+1:=⟨x.gs.length-1,by rw[hs,List.length_append,List.length_cons];omega⟩
  have hrow:=h.row
  rw[hn'] at hrow
  obtain⟨gg,cap,hg⟩:=zdb hrow
  rw[←hn'] at hg
  rw[hg] at hc1
  have hK:=h.keys hk hn hm hg
  have hgm:g∈x.gs:=by rw[hs];exact List.mem_append_right _ (List.mem_cons_self ..)
  have hgl:x.gs.getD l1.length dgm=g:=by rw[hs,List.getD_eq_getElem?_getD,List.getElem?_append_right (Nat.le_refl _),Nat.sub_self];rfl
  have:=zfc x.z gg x.gs.length cap kt.length (fun j=>(x.gs.getD j dgm).z) (fun j=>(x.gs.getD j dgm).key) q2 c2 ls av tv w hc1 hK hl.len hv (fun v hv=>by have:=hl.small v hv;unfold maxLen;omega) l1.length (by rw[hs,List.length_append,List.length_cons];omega) b1 b2 (by rw[hgl];exact hz0)
  rw[hgl,←hl.len] at this
  refine this.mono ?_
  rintro e w' ⟨rfl,hB⟩
  have hke:g.key=ls:=zlE (hk g hgm) hl hz0
  refine⟨_,rfl,l1,x,g,t,rfl,⟨h.on hB,⟨rfl,rfl,hs⟩,hke,fun vs=>?_,Kp.of_below hB,fun k hk=>.inl hk,.inl hgm⟩⟩
  rw[hs,List.map_append,zcA _ _ _ _ hpl1,List.map_cons,zjm _ _ _ _ hz0,Gm.pl,hke]
 ·have hzf:hdZ ls l2=false:=by simpa using hz
  rw[hzf] at hF
  have hp2:∀g∈l2,0<keyC g.key ls:=fun g hg=>by
   cases l2 with
   | nil=>cases hg
   | cons y t =>
    rcases List.mem_cons.1 hg with rfl|hg
    ·have:=h2 g (List.mem_cons_self ..)
     have h5:keyC g.key ls≠0:=by simpa [hdZ] using hzf
     omega
    ·exact h3 g hg
  have hblk:=h.blk
  have hrow:=h.row
  rw[hq] at hblk hrow
  obtain⟨m1,m2⟩:=zfm hs
  have:=zhO x.z base x.fr q x.gs.length c l1.length (x.gs.map Gm.p) ps0 q2 c2 ls av tv w hblk hrow (fun u hu=>by obtain⟨y,_,rfl⟩:=List.mem_map.1 hu;rfl) hl1 hn hbase hv (by rw[hl.len];exact hm) (fun v hv=>by have:=hl.small v hv;omega) hF hN
  refine this.mono ?_
  rintro e w' ⟨gz,rfl,a,v,q',c',kv,hA,hKp,hB⟩
  obtain⟨e1,e2,e3,e4,e5,e6,e7⟩:=hA.out
  rw[m1,m2] at e2
  have hsz:=hKp.out.size
  have hM:MutS w (fun k=>k=x.z∨(Value.slice q x.gs.length c).ownBlock=some k):=(MutS.one h.blk (by decide)).or (zda hrow (by decide))
  have old:∀g∈x.gs,GmAt w' base ps0 g:=fun g hg=>(h.gp g hg).kp hKp.out hM (fun k hs hk=>by
   rcases hk with rfl|hk
   ·exact (h.gp g hg).acc.notblk h.blk (by decide) hs
   ·exact (h.gp g hg).acc.notown hrow (by decide) hk hs)
  have hnew:GmAt w' base ps0 ⟨gz,ls,a,v,[]⟩:=⟨⟨kv,e3,e4⟩,e5,fun k hk=>by have:=e6 k hk;omega⟩
  have hgs:∀g∈x.gs,∀k,g.S k→k<w.heap.size:=fun g hg k hk=>(h.gp g hg).acc.lt k hk
  have hdj:=h.dj
  rw[hs] at hdj
  obtain⟨p1,p2,p3⟩:=List.pairwise_append.1 hdj
  refine⟨gz,rfl,l1,⟨x.z,x.fr,.slice q' (x.gs.length+1) c',l1++⟨gz,ls,a,v,[]⟩::l2⟩,⟨gz,ls,a,v,[]⟩,l2,rfl,⟨⟨e1,?_,fun g hg=>?_,?_,h.low⟩,⟨rfl,rfl,rfl⟩,rfl,fun vs=>?_,by rw[hq];exact hKp.out,fun k hk=>?_,.inr rfl⟩⟩
  ·have hlen:(l1++(⟨gz,ls,a,v,[]⟩:Gm)::l2).length=x.gs.length+1:=by rw[hs];simp;omega
   rw[hlen,List.map_append,List.map_cons]
   exact e2
  ·rcases List.mem_append.1 hg with hg|hg
   ·exact old g (by rw[hs];exact List.mem_append_left _ hg)
   ·rcases List.mem_cons.1 hg with rfl|hg
    ·exact hnew
    ·exact old g (by rw[hs];exact List.mem_append_right _ hg)
  ·refine List.pairwise_append.2 ⟨p1,List.pairwise_cons.2 ⟨fun y hy k hk hk2=>?_,p2⟩,fun y hy z hz k hk hk2=>?_⟩
   ·have h6:=e6 k hk
    have h7:=hgs y (by rw[hs];exact List.mem_append_right _ hy) k hk2
    omega
   ·rcases List.mem_cons.1 hz with rfl|hz
    ·have h6:=e6 k hk2
     have h7:=hgs y (by rw[hs];exact List.mem_append_left _ hy) k hk
     omega
    ·exact p3 y hy z hz k hk hk2
  ·rw[hs,List.map_append,zcA _ _ _ _ hpl1,zjl _ _ _ (fun g hg=>by obtain⟨y,hy,rfl⟩:=List.mem_map.1 hg;exact hp2 y hy)]
   rfl
  ·rcases hk with hk|hk|⟨g,hg,hk⟩
   ·exact .inl (.inl hk)
   ·rcases hB.out with hb|⟨i,hb,hi⟩
    ·exact .inl (.inr (.inl (by rw[hq,←hb];exact hk)))
    ·right
     have hk:(Value.slice q' (x.gs.length+1) c').ownBlock=some k:=hk
     rw[hb] at hk
     injection hk with hk
     omega
   ·rcases List.mem_append.1 hg with hg|hg
    ·exact .inl (.inr (.inr ⟨g,by rw[hs];exact List.mem_append_left _ hg,hk⟩))
    ·rcases List.mem_cons.1 hg with rfl|hg
     ·exact .inr (e6 k hk)
     ·exact .inl (.inr (.inr ⟨g,by rw[hs];exact List.mem_append_right _ hg,hk⟩))
theorem WmAt.ty{w:World}{base:Nat}{ps0:List Pt}{x:Wm}(h:WmAt w base ps0 x){k:Nat}(hk:x.S k):∃cs t,Blk w k cs t∧(t=182∨t=254∨t=290∨t=298):=by
 rcases hk with rfl|hk|⟨g,hg,hs⟩
 ·exact⟨_,_,h.blk,.inl rfl⟩
 ·rcases h.row.2 with ⟨e1,-⟩|⟨g,cap,cur,e1,-,hg,-⟩
  ·rw[e1] at hk;simp[Value.ownBlock] at hk
  ·rw[e1] at hk
   have hk:g=k:=by simpa [Value.ownBlock] using hk
   subst hk
   exact⟨_,_,hg,.inr (.inl rfl)⟩
 ·obtain⟨cs,t,h1,h2⟩:=(h.gp g hg).acc.ty hs
  exact⟨cs,t,h1,.inr (.inr h2)⟩
theorem WmAt.notblk{w:World}{base:Nat}{ps0:List Pt}{x:Wm}(h:WmAt w base ps0 x){b:Nat}{cs:Array Value}{t:TypeId}(hb:Blk w b cs t)(ht:t≠182∧t≠254∧t≠290∧t≠298):¬x.S b:=fun hk=>by
 obtain⟨ds,u,h1,h2⟩:=h.ty hk
 exact zdQ hb h1 (by rcases h2 with rfl|rfl|rfl|rfl;exact ht.1;exact ht.2.1;exact ht.2.2.1;exact ht.2.2.2) rfl
theorem WmAt.notown{w:World}{base:Nat}{ps0:List Pt}{x:Wm}(h:WmAt w base ps0 x){B n size:Nat}{u:Value}{e:TypeId}{xs:List Value}(ho:w.ownsRow B e size u n xs)(ht:e≠182∧e≠254∧e≠290∧e≠298){k:Nat}(hu:u.ownBlock=some k):¬x.S k:=by
 rcases ho.2 with ⟨e1,-⟩|⟨g,cap,cur,e1,-,hg,-⟩
 ·rw[e1] at hu;simp[Value.ownBlock] at hu
 ·rw[e1] at hu
  have hk:g=k:=by simpa [Value.ownBlock] using hu
  subst hk
  exact h.notblk (show Blk w g cur e from hg) ht
theorem WmAt.upd{w w':World}{base:Nat}{ps0:List Pt}{x:Wm}{l1 l2:List Gm}{g:Gm}(h:WmAt w base ps0 x)(hs:x.gs=l1++g::l2){rs':List (List V3)}(ha:AcAt w' g.a g.v ps0 rs')(hk:Kp (accS g.a g.v) w w'):WmAt w' base ps0 { x with gs:=l1++{ g with rs:=rs' }::l2 }:=by
 have hg:g∈x.gs:=by rw[hs];exact List.mem_append_right _ (List.mem_cons_self ..)
 have hgm:=h.gp g hg
 have hm:MutS w (accS g.a g.v):=hgm.acc.mut
 have hdj:=h.dj
 rw[hs] at hdj
 obtain⟨p1,p2,p3⟩:=List.pairwise_append.1 hdj
 obtain⟨q1,q2⟩:=List.pairwise_cons.1 p2
 have hlen:(l1++({ g with rs:=rs' }:Gm)::l2).length=x.gs.length:=by rw[hs];simp
 have hmap:(l1++({ g with rs:=rs' }:Gm)::l2).map Gm.p=x.gs.map Gm.p:=by rw[hs,List.map_append,List.map_append,List.map_cons,List.map_cons];rfl
 refine⟨h.blk.kp hk (hgm.acc.notblk h.blk (by decide)),?_,fun y hy=>?_,?_,h.low⟩
 ·rw[hlen,hmap]
  exact zfu h.row hk (fun k e hs=>hgm.acc.notown h.row (by decide) e hs)
 ·rcases List.mem_append.1 hy with hy|hy
  ·exact (h.gp y (by rw[hs];exact List.mem_append_left _ hy)).kp hk hm (fun k k1 k2=>p3 y hy g (List.mem_cons_self ..) k k1 k2)
  ·rcases List.mem_cons.1 hy with rfl|hy
   ·obtain⟨kv,b1,b2⟩:=hgm.blk
    exact⟨⟨kv,b1.kp hk (hm.blk b1 (by decide)),zfu b2 hk (zmN b2 hm)⟩,ha,hgm.low⟩
   ·exact (h.gp y (by rw[hs];exact List.mem_append_right _ (List.mem_cons_of_mem _ hy))).kp hk hm (fun k k1 k2=>q1 y hy k k2 k1)
 ·refine List.pairwise_append.2 ⟨p1,List.pairwise_cons.2 ⟨fun y hy=>q1 y hy,q2⟩,fun y hy z hz=>?_⟩
  rcases List.mem_cons.1 hz with rfl|hz
  ·exact p3 y hy g (List.mem_cons_self ..)
  ·exact p3 y hy z (List.mem_cons_of_mem _ hz)
theorem GrAt.upd{w w':World}{base:Nat}{ps0:List Pt}{gb:Nat}{s:Gs}{last:Int}{ov:Value}{xs1 xs2:List Wm}{x x':Wm}{S:Nat→Prop}(h:GrAt w base ps0 gb s last ov (xs1++x::xs2))(hk:Kp S w w')(hm:MutS w S)(hS:∀k,S k→x.S k)(hx':WmAt w' base ps0 x')(hz:x'.z=x.z)(hf:∀k,x'.S k→x.S k∨w.heap.size≤k):GrAt w' base ps0 gb s last ov (xs1++x'::xs2):=by
 have hx:x∈xs1++x::xs2:=List.mem_append_right _ (List.mem_cons_self ..)
 have hxm:=h.wm x hx
 obtain⟨p1,p2,p3⟩:=List.pairwise_append.1 h.dj
 obtain⟨q1,q2⟩:=List.pairwise_cons.1 p2
 obtain⟨C,c1,c2⟩:=h.blk
 have hlen:(xs1++x'::xs2).length=(xs1++x::xs2).length:=by simp
 have hmap:(xs1++x'::xs2).map Wm.p=(xs1++x::xs2).map Wm.p:=by rw[List.map_append,List.map_append,List.map_cons,List.map_cons,Wm.p,Wm.p,hz]
 refine⟨⟨C,c1.kp hk (fun e=>hxm.notblk c1 (by decide) (hS _ e)),c2⟩,?_,fun y hy=>?_,?_,h.lt⟩
 ·rw[hlen,hmap]
  exact zfu h.row hk (fun k e hs=>hxm.notown h.row (by decide) e (hS k hs))
 ·rcases List.mem_append.1 hy with hy|hy
  ·exact (h.wm y (List.mem_append_left _ hy)).kp hk hm (fun k k1 k2=>p3 y hy x (List.mem_cons_self ..) k k1 (hS k k2))
  ·rcases List.mem_cons.1 hy with rfl|hy
   ·exact hx'
   ·exact (h.wm y (List.mem_append_right _ (List.mem_cons_of_mem _ hy))).kp hk hm (fun k k1 k2=>q1 y hy k (hS k k2) k1)
 ·refine List.pairwise_append.2 ⟨p1,List.pairwise_cons.2 ⟨fun y hy k k1 k2=>?_,q2⟩,fun y hy z hz k k1 k2=>?_⟩
  ·rcases hf k k1 with k1|k1
   ·exact q1 y hy k k1 k2
   ·have:=((h.wm y (List.mem_append_right _ (List.mem_cons_of_mem _ hy))).lt k k2).2;omega
  ·rcases List.mem_cons.1 hz with rfl|hz
   ·rcases hf k k2 with k2|k2
    ·exact p3 y hy x (List.mem_cons_self ..) k k1 k2
    ·have:=((h.wm y (List.mem_append_left _ hy)).lt k k1).2;omega
   ·exact p3 y hy z (List.mem_cons_of_mem _ hz) k k1 k2
def dwm:Wm:=⟨0,0,.nilIface,[]⟩
def hdF(fr:Int):List Wm→Bool
 | []=>false
 | x::_=>x.fr == fr
theorem zoQ{l1 l2 gs:List Wm}{fr:Int}(hs:gs=l1++l2)(h1:∀g∈l1,g.fr<fr)(h2:∀g∈l2,fr≤g.fr):(∀j,j<l1.length→(gs.getD j dwm).fr<fr)∧(∀j,l1.length≤j→j<gs.length→fr≤(gs.getD j dwm).fr)∧(decide (l1.length<gs.length)&&((gs.getD l1.length dwm).fr == fr))=hdF fr l2:=by
 subst hs
 refine⟨fun j hj=>?_,fun j h3 h4=>?_,?_⟩
 ·have e:(l1++l2).getD j dwm=l1[j]:=by rw[List.getD_eq_getElem?_getD,List.getElem?_append_left hj,List.getElem?_eq_getElem hj];rfl
  rw[e];exact h1 _ (List.getElem_mem _)
 ·have h5:j-l1.length<l2.length:=by rw[List.length_append] at h4;omega
  have e:(l1++l2).getD j dwm=l2[j-l1.length]:=by rw[List.getD_eq_getElem?_getD,List.getElem?_append_right h3,List.getElem?_eq_getElem h5];rfl
  rw[e];exact h2 _ (List.getElem_mem _)
 ·cases l2 with
  | nil=>simp[hdF]
  | cons g t =>
   have e:(l1++g::t).getD l1.length dwm=g:=by rw[List.getD_eq_getElem?_getD,List.getElem?_append_right (Nat.le_refl _),Nat.sub_self];rfl
   rw[e]
   simp[hdF]
theorem GrAt.ptr{w:World}{base:Nat}{ps0:List Pt}{gb:Nat}{s:Gs}{last:Int}{ov:Value}{xs:List Wm}(h:GrAt w base ps0 gb s last ov xs){g c:Nat}(hg:ov=.slice (some ⟨g,0,none⟩) xs.length c){j:Nat}(hj:j<xs.length):w.cell? ⟨g,j,none⟩=some (xs.getD j dwm).p:=by
 have hrow:=h.row
 rw[hg] at hrow
 have:=World.ownsRow.cells hrow (g:=g) rfl j (xs.getD j dwm).p (by rw[List.getElem?_map,List.getElem?_eq_getElem hj,zbc hj];rfl)
 rw[Go.WideShapes.add_plain,Nat.zero_add] at this
 exact this
theorem GrAt.row_some{w:World}{base:Nat}{ps0:List Pt}{gb:Nat}{s:Gs}{last:Int}{ov:Value}{xs:List Wm}(h:GrAt w base ps0 gb s last ov xs)(hn:0<xs.length):∃g c,ov=.slice (some ⟨g,0,none⟩) xs.length c∧g<w.heap.size∧base≤g:=by
 rcases h.row.2 with ⟨_,h0⟩|⟨g,cap,cur,e,hb,hg,-⟩
 ·omega
 ·exact⟨g,cap,e,(Array.getElem?_eq_some_iff.1 hg).1,hb⟩
theorem GrAt.c16{w:World}{base:Nat}{ps0:List Pt}{gb:Nat}{s:Gs}{last:Int}{ov:Value}{xs:List Wm}(h:GrAt w base ps0 gb s last ov xs):w.cell? ⟨gb,16,none⟩=some ov:=by
 obtain⟨C,c1,c2⟩:=h.blk
 rw[c1.cell];exact c2.c16
theorem gfind{w:World}{base:Nat}{ps0:List Pt}{gb:Nat}{s:Gs}{last:Int}{ov:Value}{xs:List Wm}(h:GrAt w base ps0 gb s last ov xs)(hn:xs.length≤1000)(fr:Int)(l1 l2:List Wm)(hs:xs=l1++l2)(h1:∀g∈l1,g.fr<fr)(h2:∀g∈l2,fr≤g.fr) :
  Calls Tryz.prog 145 #[.pointer (some ⟨gb,0,none⟩),.int .i64 fr] w fun e w'=>e=.returned (.tuple #[.int .i64 (l1.length:Int),.bool (hdF fr l2)])∧Below w.heap.size w w':=by
 have hc1:=h.c16
 obtain⟨b1,b2,b3⟩:=zoQ hs h1 h2
 by_cases h0:xs.length=0
 ·have e1:l1=[]:=by rw[hs,List.length_append] at h0;exact List.length_eq_zero_iff.1 (by omega)
  have e2:l2=[]:=by rw[hs,List.length_append] at h0;exact List.length_eq_zero_iff.1 (by omega)
  obtain⟨q,c,hq⟩:=zaa h.row
  subst e1 e2
  rw[hq,h0] at hc1
  refine (zqb gb q c fr w hc1).mono ?_
  rintro e w' ⟨rfl,rfl⟩
  exact⟨rfl,Below.refl _ _⟩
 ·obtain⟨g,c,hg,hgl,-⟩:=h.row_some (by omega)
  rw[hg] at hc1
  have:=zsv gb g xs.length c (fun j=>(xs.getD j dwm).z) (fun j=>(xs.getD j dwm).fr) fr w hc1 (by omega) hgl (fun j hj=>h.ptr hg hj) (fun j hj=>by
   have:=(h.wm _ (zbd (d:=dwm) hj)).blk.cell 0
   simpa using this) l1.length (by rw[hs,List.length_append];omega) b1 b2
  rw[b3] at this
  exact this
theorem zqA{w:World}{B size:Nat}{e:TypeId}:w.ownsRow B e size (.slice none 0 0) 0 []:=World.ownsRow_nil _ _ _ _
theorem GrAt.ins{w4 w5:World}{base:Nat}{ps0:List Pt}{gb:Nat}{s:Gs}{last fr:Int}{ov ov':Value}{xs1 xs2:List Wm}{zx:Nat}(h:GrAt w4 base ps0 gb s last ov (xs1++xs2))(hz:Blk w4 zx #[.int .i64 fr,.slice none 0 0] 182)(hzb:base≤zx)(hzn:∀k,GrS gb ov (xs1++xs2) k→k≠zx)
  (hk:Kp (fun k=>ov.ownBlock=some k) w4 w5)(hrow:w5.ownsRow base 152 1 ov' ((xs1++xs2).length+1) (xs1.map Wm.p++.pointer (some ⟨zx,0,none⟩)::xs2.map Wm.p))(hb:ov'.ownBlock=ov.ownBlock∨∃g,ov'.ownBlock=some g∧w4.heap.size≤g) :
  GrAt (w5.setCell ⟨gb,16,none⟩ ov') base ps0 gb s last ov' (xs1++⟨zx,fr,.slice none 0 0,[]⟩::xs2)∧Kp (GrS gb ov (xs1++xs2)) w4 (w5.setCell ⟨gb,16,none⟩ ov'):=by
 obtain⟨C,c1,c2⟩:=h.blk
 have hog:ov.ownBlock≠some gb:=fun e=>by
  rcases h.row.2 with ⟨e1,-⟩|⟨g,cap,cur,e1,-,hg,-⟩
  ·rw[e1] at e;simp[Value.ownBlock] at e
  ·rw[e1] at e
   have e:g=gb:=by simpa [Value.ownBlock] using e
   subst e
   exact zdQ (show Blk w4 g cur _ from hg) c1 (by decide) rfl
 have hog':ov'.ownBlock≠some gb:=fun e=>by
  rcases hb with hb|⟨g,hb,hg⟩
  ·exact hog (hb.symm.trans e)
  ·rw[hb] at e;injection e with e;have:=c1.lt;omega
 have K:Kp (fun k=>k=gb∨ov.ownBlock=some k) w4 (w5.setCell ⟨gb,16,none⟩ ov'):=(hk.mono (fun _ _ h=>.inr h)).set 16 _ (fun _=>.inl rfl)
 have hM:MutS w4 (fun k=>k=gb∨ov.ownBlock=some k):=(MutS.one c1 (by decide)).or (zda h.row (by decide))
 have hy:∀y∈xs1++xs2,WmAt (w5.setCell ⟨gb,16,none⟩ ov') base ps0 y:=fun y hy=>(h.wm y hy).kp K hM (fun k k1 k2=>by
  rcases k2 with rfl|k2
  ·exact (h.wm y hy).notblk c1 (by decide) k1
  ·exact (h.wm y hy).notown h.row (by decide) k2 k1)
 have hS0:∀k,(⟨zx,fr,.slice none 0 0,[]⟩:Wm).S k→k=zx:=fun k hk=>by
  rcases hk with hk|hk|⟨g,hg,_⟩
  ·exact hk
  ·have hk:(Value.slice none 0 0).ownBlock=some k:=hk
   simp[Value.ownBlock] at hk
  ·cases hg
 obtain⟨p1,p2,p3⟩:=List.pairwise_append.1 h.dj
 refine⟨⟨⟨_,(c1.kp hk hog).set 16 _,c2.opens⟩,?_,fun y hy'=>?_,?_,h.lt⟩,K.mono fun k _ hk=>?_⟩
 ·have hl:(xs1++(⟨zx,fr,.slice none 0 0,[]⟩:Wm)::xs2).length=(xs1++xs2).length+1:=by simp;omega
  rw[hl,List.map_append,List.map_cons]
  exact ownsRow_setCell_other hrow (a:=⟨gb,16,none⟩) hog' ov'
 ·rcases List.mem_append.1 hy' with hy'|hy'
  ·exact hy y (List.mem_append_left _ hy')
  ·rcases List.mem_cons.1 hy' with rfl|hy'
   ·exact⟨hz.kp K (fun e=>by
     rcases e with e|e
     ·exact hzn gb (.inl rfl) e.symm
     ·exact hzn zx (.inr (.inl e)) rfl),zqA,by simp,by simp,hzb⟩
   ·exact hy y (List.mem_append_right _ hy')
 ·refine List.pairwise_append.2 ⟨p1,List.pairwise_cons.2 ⟨fun y hy' k k1 k2=>?_,p2⟩,fun y hy' z hz' k k1 k2=>?_⟩
  ·rw[hS0 k k1] at k2
   exact hzn zx (.inr (.inr ⟨y,List.mem_append_right _ hy',k2⟩)) rfl
  ·rcases List.mem_cons.1 hz' with rfl|hz'
   ·rw[hS0 k k2] at k1
    exact hzn zx (.inr (.inr ⟨y,List.mem_append_left _ hy',k1⟩)) rfl
   ·exact p3 y hy' z hz' k k1 k2
 ·rcases hk with hk|hk
  ·exact .inl hk
  ·exact .inr (.inl hk)
theorem zqt{l1 l2:List Wm}:((l1++l2).map Wm.p).take l1.length=l1.map Wm.p∧((l1++l2).map Wm.p).drop l1.length=l2.map Wm.p:=by
 rw[List.map_append]
 exact⟨by rw[List.take_append_of_le_length (by simp),List.take_of_length_le (by simp)],by rw[List.drop_append_of_le_length (by simp),List.drop_of_length_le (by simp)];rfl⟩
structure PuMid(w wx:World)(base:Nat)(ps0:List Pt)(gb:Nat)(s:Gs)(last fr:Int)(kt:List Int)(ls:List V3)(ov:Value)(xs:List Wm)(xs1:List Wm)(ov4:Value)(x:Wm)(xs2:List Wm):Prop where
 at_:GrAt wx base ps0 gb s last ov4 (xs1++x::xs2)
 frm:x.fr=fr
 keys:(∀g∈x.gs,OkK kt g.key)∧(x.gs.Pairwise fun g h=>keyC g.key h.key<0)∧x.gs.length≤1000∧∀g∈x.gs,g.rs.length+1≤10000
 add:∀vs,wAdd ls vs fr (xs.map Wm.pl)=xs1.map Wm.pl++(fr,gAdd ls vs (x.gs.map Gm.pl))::xs2.map Wm.pl
 kp:Kp (GrS gb ov xs) w wx
 foot:∀k,GrS gb ov4 (xs1++x::xs2) k→GrS gb ov xs k∨w.heap.size≤k
 few:(xs1++x::xs2).length≤1001
theorem PuMid.on{w wx wy:World}{base:Nat}{ps0:List Pt}{gb:Nat}{s:Gs}{last fr:Int}{kt:List Int}{ls:List V3}{ov:Value}{xs xs1:List Wm}{ov4:Value}{x:Wm}{xs2:List Wm}(h:PuMid w wx base ps0 gb s last fr kt ls ov xs xs1 ov4 x xs2)(hb:Below wx.heap.size wx wy):PuMid w wy base ps0 gb s last fr kt ls ov xs xs1 ov4 x xs2 :=
 ⟨h.at_.on hb,h.frm,h.keys,h.add,h.kp.on hb,h.foot,h.few⟩
theorem zsM{w wc w5 w6:World}{base:Nat}{ps0:List Pt}{gb:Nat}{s:Gs}{last fr:Int}{kt:List Int}{ls:List V3}{ov:Value}{xs xs1:List Wm}{ov4:Value}{x x':Wm}{xs2:List Wm}{l1 l2:List Gm}{g:Gm}{vs:List V3}(P:PuMid w wc base ps0 gb s last fr kt ls ov xs xs1 ov4 x xs2)(GP:zkU wc w5 base ps0 x ls l1 x' g l2)(hA:AcAt w6 g.a g.v ps0 (g.rs++[vs]))(hK:Kp (accS g.a g.v) w5 w6) :
  ∃ov' xs',GrAt w6 base ps0 gb s last ov' xs'∧xs'.map Wm.pl=wAdd ls vs fr (xs.map Wm.pl)∧Kp (GrS gb ov xs) w w6∧(∀k,GrS gb ov' xs' k→GrS gb ov xs k∨w.heap.size≤k):=by
 obtain⟨f1,f2,f3⟩:=GP.form
 have hx:x∈xs1++x::xs2:=List.mem_append_right _ (List.mem_cons_self ..)
 have hxm:=P.at_.wm x hx
 have hS5:∀k,(k=x.z∨x.gv.ownBlock=some k)→x.S k:=fun k hk=>hk.imp id .inl
 have hM5:MutS wc (fun k=>k=x.z∨x.gv.ownBlock=some k):=hxm.mut.mono hS5
 have G5:=P.at_.upd GP.kp hM5 hS5 GP.at_ f1 GP.foot
 have hgm:g∈x'.gs:=by rw[f3];exact List.mem_append_right _ (List.mem_cons_self ..)
 have hx6:=GP.at_.upd f3 hA hK
 have hS6:∀k,accS g.a g.v k→x'.S k:=fun k hk=>.inr (.inr ⟨g,hgm,hk⟩)
 have hfx:∀k,({ x' with gs:=l1++{ g with rs:=g.rs++[vs] }::l2 }:Wm).S k→x'.S k:=fun k hk=>by
  rcases hk with hk|hk|⟨y,hy,hk⟩
  ·exact .inl hk
  ·exact .inr (.inl hk)
  ·rcases List.mem_append.1 hy with hy|hy
   ·exact .inr (.inr ⟨y,by rw[f3];exact List.mem_append_left _ hy,hk⟩)
   ·rcases List.mem_cons.1 hy with rfl|hy
    ·exact .inr (.inr ⟨g,hgm,hk⟩)
    ·exact .inr (.inr ⟨y,by rw[f3];exact List.mem_append_right _ (List.mem_cons_of_mem _ hy),hk⟩)
 have G6:=G5.upd (x':={ x' with gs:=l1++{ g with rs:=g.rs++[vs] }::l2 }) hK (hgm |> fun hm=>(GP.at_.gp g hm).acc.mut) hS6 hx6 rfl (fun k hk=>.inl (hfx k hk))
 have hs5:=GP.kp.size
 have hsc:=P.kp.size
 have hsub:∀k,x'.S k→GrS gb ov xs k∨w.heap.size≤k:=fun k hk=>by
  rcases GP.foot k hk with hk|hk
  ·exact P.foot k (.inr (.inr ⟨x,hx,hk⟩))
  ·exact .inr (by omega)
 have k5:Kp (GrS gb ov xs) w w5:=⟨P.kp.low.trans GP.kp.low,fun k hk hn=>by
  rw[GP.kp.kept k (by omega) (fun h=>(P.foot k (.inr (.inr ⟨x,hx,hS5 k h⟩))).elim hn (fun h=>by omega)),P.kp.kept k hk hn]⟩
 refine⟨ov4,_,G6,?_,⟨k5.low.trans hK.low,fun k hk hn=>by rw[hK.kept k (by omega) (fun h=>(hsub k (hS6 k h)).elim hn (fun h=>by omega)),k5.kept k hk hn]⟩,fun k hk=>?_⟩
 ·rw[P.add vs,GP.add vs,List.map_append,List.map_cons]
  congr 2
  rw[Wm.pl]
  simp only[f2,P.frm,List.map_append,List.map_cons]
  congr 2
  rw[Gm.pl]
  simp only[GP.key]
 ·rcases hk with hk|hk|⟨y,hy,hk⟩
  ·exact .inl (.inl hk)
  ·exact P.foot k (.inr (.inl hk))
  ·rcases List.mem_append.1 hy with hy|hy
   ·exact P.foot k (.inr (.inr ⟨y,List.mem_append_left _ hy,hk⟩))
   ·rcases List.mem_cons.1 hy with rfl|hy
    ·exact hsub k (hfx k hk)
    ·exact P.foot k (.inr (.inr ⟨y,List.mem_append_right _ (List.mem_cons_of_mem _ hy),hk⟩))
section
open Go.BigFrame
set_option maxRecDepth 20000 in
theorem znP{w:World}{base:Nat}{ps0:List Pt}{gb:Nat}{s:Gs}{last:Int}{ov:Value}{xs:List Wm}(h:GrAt w base ps0 gb s last ov xs){kt:List Int}{c:Nat}(hW:WOk kt c (xs.map Wm.pl))(hn:xs.length≤1000)(hm:kt.length≤1000)(fr:Int)(gB kB:Nat)(kq:Option Addr)(kc:Nat)(ls:List V3)(hl:OkK kt ls)(hv:zaf w kq ls)
  (hgB:w.cell? ⟨gB,0,none⟩=some (.pointer (some ⟨gb,0,none⟩)))(hkB:w.cell? ⟨kB,0,none⟩=some (.slice kq ls.length kc)) :
  Calls Tryz.prog 144 #[.int .i64 fr,.pointer (some ⟨gB,0,none⟩),.pointer (some ⟨kB,0,none⟩)] w fun e w'=>e=.returned (.bool (wFull ls (xs.map Wm.pl) fr))∧Below w.heap.size w w':=by
 have hr:xs.Pairwise fun a b=>a.fr<b.fr:=by
  have:=hW.rise
  rw[List.pairwise_map] at this
  exact this
 obtain⟨xs1,xs2,hs,h1,h2,h3⟩:=zcF (·.fr) fr xs hr
 have hF:=gfind h hn fr xs1 xs2 hs h1 h2
 have hw:=ziu (l1:=xs1.map Wm.pl) (l2:=xs2.map Wm.pl) (fr:=fr) ls (fun x hx=>by obtain⟨y,hy,rfl⟩:=List.mem_map.1 hx;exact h1 y hy) (fun x hx=>by
  rw[←List.map_tail] at hx
  obtain⟨y,hy,rfl⟩:=List.mem_map.1 hx
  exact h3 y hy)
 rw[←List.map_append,←hs] at hw
 have hgBl:gB<w.heap.size:=by
  rcases Nat.lt_or_ge gB w.heap.size with h|h
  ·exact h
  ·simp[World.cell?,Array.getElem?_eq_none h] at hgB
 have hkBl:kB<w.heap.size:=by
  rcases Nat.lt_or_ge kB w.heap.size with h|h
  ·exact h
  ·simp[World.cell?,Array.getElem?_eq_none h] at hkB
 have hgl:gb<w.heap.size:=by obtain⟨C,c1,-⟩:=h.blk;exact c1.lt
 have hc16:=h.c16
 have dd:∀W:World,Below W.heap.size W W.drew:=fun W=>(Below.refl _ _).drew
 by_cases hF0:hdF fr xs2=true
 ·obtain⟨x,t,rfl⟩:∃x t,xs2=x::t:=by
   cases xs2 with
   | nil=>simp[hdF] at hF0
   | cons y t=>exact⟨y,t,rfl⟩
  have hx0:x.fr=fr:=by simpa [hdF] using hF0
  have hxm:x∈xs:=by rw[hs];exact List.mem_append_right _ (List.mem_cons_self ..)
  have hg:=hW.ok _ (List.mem_map_of_mem hxm)
  have hwf:wFull ls (xs.map Wm.pl) fr=!gRoom ls (x.gs.map Gm.pl):=by
   rw[hw]
   show (x.fr == fr&&!gRoom ls (x.gs.map Gm.pl))=_
   simp[hx0]
  rw[hwf]
  obtain⟨g,cc,hov,hgl1,-⟩:=h.row_some (by rw[hs,List.length_append,List.length_cons];omega)
  have hK:xs1.length<xs.length:=by rw[hs,List.length_append,List.length_cons];omega
  have hpt:=h.ptr hov hK
  have hgx:xs.getD xs1.length dwm=x:=by rw[hs,List.getD_eq_getElem?_getD,List.getElem?_append_right (Nat.le_refl _),Nat.sub_self];rfl
  rw[hgx,Wm.p] at hpt
  rw[hov] at hc16
  have hkeys:(∀g∈x.gs,OkK kt g.key)∧(x.gs.Pairwise fun g h=>keyC g.key h.key<0)∧x.gs.length≤1000:=by
   refine⟨fun g hgm=>(hg.ok _ (List.mem_map_of_mem hgm)).1,?_,?_⟩
   ·have:=hg.rise
    rw[Wm.pl,List.pairwise_map] at this
    exact this
   ·have:=hg.few
    rw[Wm.pl,List.length_map] at this
    omega
  have cR:=fun W (hb:Below w.heap.size w W)=>wroom ((h.wm x hxm).on hb) hkeys.1 hkeys.2.1 hkeys.2.2 hm kq kc ls hl (hv.on hb)
  rw[hF0] at hF
  generalize gRoom ls (x.gs.map Gm.pl)=R at *
  obtain⟨K,hK0⟩:∃K,xs1.length=K:=⟨_,rfl⟩
  obtain⟨N,hN⟩:∃N,xs.length=N:=⟨_,rfl⟩
  rw[hK0] at hF hK hpt
  rw[hN] at hK hc16 hn
  have hKz:(K:Int)<(N:Int):=by omega
  have hK0z:(0:Int)≤(K:Int):=by omega
  have HX:∀W,Below w.heap.size w W→W.cell? ⟨gB,0,none⟩=some (.pointer (some ⟨gb,0,none⟩))∧W.cell? ⟨kB,0,none⟩=some (.slice kq ls.length kc)∧W.cell? ⟨gb,16,none⟩=some (.slice (some ⟨g,0,none⟩) N cc)∧W.cell? ⟨g,K,none⟩=some (.pointer (some ⟨x.z,0,none⟩)):=fun W hb =>
   ⟨by rw[hb.cell (p:=⟨gB,0,none⟩) hgBl];exact hgB,by rw[hb.cell (p:=⟨kB,0,none⟩) hkBl];exact hkB,by rw[hb.cell (p:=⟨gb,16,none⟩) hgl];exact hc16,by rw[hb.cell (p:=⟨g,K,none⟩) hgl1];exact hpt⟩
  have HXA:Aside _:=HX
  have HR:Aside _:=cR
  clear h hW hr hs h1 h2 h3 hw hwf hkeys hg hxm hov hgx hc16 hpt hF0 hkB cR HX hv hl hK0 hN hx0
  generalize ls.length=M at *
  go_enter Tryz.func144,Tryz.ntmps144
  go_wp2_with fail
  refine hF.mono ?_
  rintro e w1 ⟨rfl,b1⟩
  obtain⟨c1,c2,c3,c4⟩:=HXA.out w1 b1
  have hb1:b1.size=b1.size:=rfl
  have cR1:=HR.out _ (b1.trans ((dd w1).mono b1.size))
  have HB1:Aside _:=b1
  clear hF hgB b1 hb1
  go_wp2
  go_region_with (go_at_call 146;refine cR1.mono ?_;rintro e w2 ⟨rfl,b2⟩)
  all_goals
   have hB:Below w.heap.size w w2:=(HB1.out.trans ((dd w1).mono HB1.out.size)).trans (b2.mono (HB1.out.size))
   clear cR1 b2
   go_wp2
   go_ret
   exact⟨rfl,hB⟩
 ·have hF1:hdF fr xs2=false:=by simpa using hF0
  have hwf:wFull ls (xs.map Wm.pl) fr=false:=by
   rw[hw]
   cases xs2 with
   | nil=>rfl
   | cons x t =>
    show (x.fr == fr&&_)=false
    have:(x.fr == fr)=false:=hF1
    rw[this,Bool.false_and]
  rw[hwf,]
  rw[hF1] at hF
  clear h hW hr hs h1 h2 h3 hw hwf hc16 hF0 hF1 hv hl
  go_enter Tryz.func144,Tryz.ntmps144
  go_wp2_with fail
  refine hF.mono ?_
  rintro e w1 ⟨rfl,b1⟩
  have hgB1:w1.cell? ⟨gB,0,none⟩=some (.pointer (some ⟨gb,0,none⟩)):=by rw[b1.cell (p:=⟨gB,0,none⟩) hgBl];exact hgB
  clear hF
  have hB:Below w.heap.size w w1.drew:=b1.trans ((dd w1).mono b1.size)
  go_wp2
  go_region
  all_goals
   go_wp2
   go_ret
   exact⟨rfl,hB⟩
end
end Go.Proofs.YtopghagjmdbglaaGreatDoor
