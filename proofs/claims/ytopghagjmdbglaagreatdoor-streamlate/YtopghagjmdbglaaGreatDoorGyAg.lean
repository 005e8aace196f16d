/-
  VarOf, TreeEnv.
-/
import Derived.OpenShut
import Derived.ChangeSame
import Derived.MakeChecks
import Derived.RowKit
import Derived.Test.YtopghagjmdbglaaGreatDoorCards
import Derived.Test.YtopghagjmdbglaaGreatDoorTie
import Derived.Test.YtopghagjmdbglaaGreatDoorGyAe
import Derived.Test.YtopghagjmdbglaaGreatDoorGyAf
import Derived.ProofKit
import Derived.SizedLaws
import Derived.Stop.LaidErr
import Derived.Stop.Joined
import Derived.Lib.SmallJoins
import Derived.Deep.DeepHandedRow
namespace Go.Proofs.YtopghagjmdbglaaGreatDoor
open Go.RowKit
set_option linter.unusedVariables false
set_option linter.unusedSimpArgs false
set_option maxHeartbeats 8000000
def cellAt(P:Program):Nat→TypeId→DataW Unit→Nat→Option Value
 | 0,_,_,_=>none
 | f+1,t,d,i =>
  match P.underlying t,d with
  | some (.int k),.lit (.int _ n)=>if i=0 then some (.int k n) else none
  | some .string,.lit (.string l)=>if i=0 then some (.string ⟨l.toArray⟩) else none
  | some (.array n e),.agg l=>if i / P.cellsOf e<n∧i % P.cellsOf e<P.cellsOf e then (l[i / P.cellsOf e]?).bind fun d'=>cellAt P f e d' (i % P.cellsOf e) else none
  | some (.struct fs),.agg l =>
   (fs[(fs.toList.findIdx fun g=>decide (i<g.offset+P.cellsOf g.type))]?).bind fun g =>
    if g.offset≤i∧i<g.offset+P.cellsOf g.type then (l[(fs.toList.findIdx fun g=>decide (i<g.offset+P.cellsOf g.type))]?).bind fun d'=>cellAt P f g.type d' (i-g.offset) else none
  | _,_=>none
theorem ziQ{cs:List Value}{o k i:Nat}{v:Value}(hk:i<k)(h:((cs.drop o).take k)[i]?=some v):cs[o+i]?=some v:=by
 rw[List.getElem?_take,if_pos hk,List.getElem?_drop] at h
 exact h
theorem zca{P:Program}{W:World}{enc:TypeId×Value→Unit}{base:Nat}{spare:Nat→Bool}{held:Bool}:∀(f:Nat) (t:TypeId) (d:DataW Unit) (i:Nat) (v:Value) (fuel:Nat) (cs:List Value) (ps:List MemPlace),
  DataW.trod enc P W base spare held fuel t cs=some (d,ps)→cellAt P f t d i=some v→cs[i]?=some v
 | 0,_,_,_,_,_,_,_,_,h=>by simp[cellAt] at h
 | f+1,t,d,i,v,fuel,cs,ps,ht,h=>by
  unfold cellAt at h
  split at h
  ·rename_i k _ n hu
   split at h
   ·rename_i hi
    subst hi
    cases fuel with
    | zero=>simp[DataW.trod] at ht
    | succ m =>
     unfold DataW.trod at ht
     rw[hu] at ht
     split at ht<;>simp_all
   ·simp at h
  ·rename_i l hu
   split at h
   ·rename_i hi
    subst hi
    obtain⟨s,rfl,hx,_⟩:=DataW.trod_string hu ht
    simp at hx h ⊢
    rw[←h,hx.1]
   ·simp at h
  ·rename_i n e l hu
   split at h
   ·rename_i hi
    obtain⟨xs,m,_,hx,_,hl,hel⟩:=DataW.trod_array hu ht
    simp only[Prod.mk.injEq,DataW.agg.injEq] at hx
    obtain⟨rfl,rfl⟩:=hx
    rw[Option.bind_eq_some_iff] at h
    obtain⟨d',hd,h⟩:=h
    have hlt:i / P.cellsOf e<xs.length:=by omega
    rw[List.getElem?_map,List.getElem?_eq_getElem hlt] at hd
    have h2:=hel _ hi.1
    rw[List.getElem?_eq_getElem hlt] at h2
    simp only[Option.map_some,Option.some.injEq] at hd
    subst hd
    have h3:=zca f e _ _ v _ _ _ h2 h
    have h4:=ziQ hi.2 h3
    rwa [Nat.mul_comm,Nat.div_add_mod] at h4
   ·simp at h
  ·rename_i fs l hu
   rw[Option.bind_eq_some_iff] at h
   obtain⟨g,hg,h⟩:=h
   split at h
   ·rename_i hi
    obtain⟨xs,m,_,hx,_,hl,hel⟩:=DataW.trod_struct hu ht
    simp only[Prod.mk.injEq,DataW.agg.injEq] at hx
    obtain⟨rfl,rfl⟩:=hx
    rw[Option.bind_eq_some_iff] at h
    obtain⟨d',hd,h⟩:=h
    have h2:=hel _ g hg
    rw[List.getElem?_map,Option.map_eq_some_iff] at hd
    obtain⟨y,hy,rfl⟩:=hd
    rw[hy] at h2
    have h3:=zca f g.type _ _ v _ _ _ h2 h
    have h4:=ziQ (by omega) h3
    rwa [show g.offset+(i-g.offset)=i by omega] at h4
   ·simp at h
  ·simp at h
theorem zrV{P:Program}{W:World}{n:String}{cs:Array Value}{g:Nat}(h:W.var? P n=some cs)(hg:P.globalNamed n=some g):∃t fr,W.heap[g]?=some (.cells cs t fr):=by
 unfold World.var? at h
 simp only[hg,Option.bind_some] at h
 split at h
 ·rename_i c t fr he
  obtain rfl:=Option.some.inj h
  exact⟨t,fr,he⟩
 ·simp at h
theorem zml{P:Program}{W:World}{nm:String}{d:DataW Unit}{rest:List (String×DataW Unit)}{g:Nat}{t e:TypeId}{n:Nat}(C:Array Value)
  (h:laidMet P ((nm,d)::rest) W)(hg:P.globalNamed nm=some g)(ht:(P.globals[g]?).map (·.type)=some t)(hu:P.underlying t=some (.array n e))(hc:P.cellsOf t=C.size)
  (hC:(List.range C.size).map (cellAt P 8 t d)=C.toList.map some):∃tt fr,W.heap[g]?=some (.cells C tt fr):=by
 obtain⟨ps,⟨g',t',cs,fuel,p,q,hg',ht',hvar,hd,_,_⟩,_⟩:=h
 obtain rfl:=Option.some.inj (hg.symm.trans hg')
 obtain rfl:=Option.some.inj (ht.symm.trans ht')
 obtain⟨_,_,_,_,hl,_,_⟩:=DataW.trod_array hu hd
 have hcs:cs=C:=by
  apply Array.ext'
  apply List.ext_getElem?
  intro i
  by_cases hi:i<C.size
  ·have h1:((List.range C.size).map (cellAt P 8 t d))[i]?=(C.toList.map some)[i]?:=by rw[hC]
   rw[List.getElem?_map,List.getElem?_range hi,List.getElem?_map,Array.getElem?_toList,Array.getElem?_eq_getElem hi] at h1
   simp only[Option.map_some,Option.some.injEq] at h1
   rw[zca 8 t d i _ _ _ _ hd h1,Array.getElem?_toList,Array.getElem?_eq_getElem hi]
  ·rw[List.getElem?_eq_none (by omega),List.getElem?_eq_none (by simpa using hi)]
 subst hcs
 exact zrV hvar hg
section
open Go.ChangeShapes Go.WideShapes Go.ChangeAt Go.Joins
open Go.ChangeMaps (open_string shut_string)

namespace treeEnv
theorem own:ownKnob Tryz.prog.godebug=none:=by kernel_rfl
theorem tSyn:(Tryz.prog.globals[5]?).map (·.type)=some 42:=by kernel_rfl
theorem tRan:(Tryz.prog.globals[6]?).map (·.type)=some 42:=by kernel_rfl
theorem tTab:(Tryz.prog.globals[9]?).map (·.type)=some 346:=by kernel_rfl
theorem g_sg : Tryz.prog.globalNamed "sluicebook/lex.signs" = some 1 := by kernel_rfl
theorem t_sg:(Tryz.prog.globals[1]?).map (·.type)=some 188:=by kernel_rfl
theorem zmr:Tryz.prog.cellsOf 306=1:=by kernel_rfl
theorem znt:Tryz.prog.cellsOf 9=1:=by kernel_rfl
theorem zpy:Tryz.prog.cellsOf 188=14:=by kernel_rfl
theorem zsm:Tryz.prog.cellsOf 267=1:=by kernel_rfl
theorem zsl:Tryz.prog.cellsOf 346=20:=by kernel_rfl
theorem star : "*" ++ "errors.errorString" = "*errors.errorString" := by decide
theorem rowES (u : TypeId) (h : Tryz.prog.typeName? 3 u = some "*errors.errorString") : u = 304 :=
 typeName_ptr_named (nm := "errors.errorString") (by rw [star]; kernel_rfl) (by kernel_rfl) (by decide) u (by rw [star]; exact h)
theorem zaN{W:World}{m:Nat}{x:Value}{l:List UInt8}{ps:List MemPlace}(h:DataW.trod (fun _=>()) Tryz.prog W 0 (fun _=>true) false m 9 [x]=some (.lit (.string l),ps)):x=.string ⟨l.toArray⟩:=by
 obtain⟨s,e1,r1,_⟩:=DataW.trod_string Tryz.underlying9 h
 simp at e1 r1
 subst e1
 obtain⟨rfl,_⟩:=r1
 simp
set_option maxRecDepth 100000 in
theorem sg_of {W : World} {rest : List (String × DataW Unit)} (h : laidMet Tryz.prog (("sluicebook/lex.signs", Rows.laid_sluicebook_lex_signs) :: rest) W) : SG W := by
 obtain⟨ps,⟨g',t',cs,fuel,p,q,hg',ht',hvar,hd,_,_⟩,_⟩:=h
 obtain rfl:=Option.some.inj (g_sg.symm.trans hg')
 obtain rfl:=Option.some.inj (t_sg.symm.trans ht')
 obtain⟨xs,m,_,hx,hl,hlen,hel⟩:=DataW.trod_array Tryz.underlying188 hd
 rw[zpy] at hl
 rw[znt] at hel
 have hcs:∃c0 c1 c2 c3 c4 c5 c6 c7 c8 c9 c10 c11 c12 c13,cs=#[c0,c1,c2,c3,c4,c5,c6,c7,c8,c9,c10,c11,c12,c13]:=by
  obtain⟨l⟩:=cs
  match l,hl with
  | [c0,c1,c2,c3,c4,c5,c6,c7,c8,c9,c10,c11,c12,c13],_=>exact⟨_,_,_,_,_,_,_,_,_,_,_,_,_,_,rfl⟩
 obtain⟨c0,c1,c2,c3,c4,c5,c6,c7,c8,c9,c10,c11,c12,c13,rfl⟩:=hcs
 match xs,hlen with
 | [x0,x1,x2,x3,x4,x5,x6,x7,x8,x9,x10,x11,x12,x13],_ =>
  obtain⟨d0,q0⟩:=x0
  obtain⟨d1,q1⟩:=x1
  obtain⟨d2,q2⟩:=x2
  obtain⟨d3,q3⟩:=x3
  obtain⟨d4,q4⟩:=x4
  obtain⟨d5,q5⟩:=x5
  obtain⟨d6,q6⟩:=x6
  obtain⟨d7,q7⟩:=x7
  obtain⟨d8,q8⟩:=x8
  obtain⟨d9,q9⟩:=x9
  obtain⟨d10,q10⟩:=x10
  obtain⟨d11,q11⟩:=x11
  obtain⟨d12,q12⟩:=x12
  obtain⟨d13,q13⟩:=x13
  have hx2:=congrArg Prod.fst hx
  simp[Rows.laid_sluicebook_lex_signs] at hx2
  obtain⟨r0,r1,r2,r3,r4,r5,r6,r7,r8,r9,r10,r11,r12,r13⟩:=hx2
  subst r0 r1 r2 r3 r4 r5 r6 r7 r8 r9 r10 r11 r12 r13
  have e0:=zaN (by simpa using hel 0 (by decide))
  have e1:=zaN (by simpa using hel 1 (by decide))
  have e2:=zaN (by simpa using hel 2 (by decide))
  have e3:=zaN (by simpa using hel 3 (by decide))
  have e4:=zaN (by simpa using hel 4 (by decide))
  have e5:=zaN (by simpa using hel 5 (by decide))
  have e6:=zaN (by simpa using hel 6 (by decide))
  have e7:=zaN (by simpa using hel 7 (by decide))
  have e8:=zaN (by simpa using hel 8 (by decide))
  have e9:=zaN (by simpa using hel 9 (by decide))
  have e10:=zaN (by simpa using hel 10 (by decide))
  have e11:=zaN (by simpa using hel 11 (by decide))
  have e12:=zaN (by simpa using hel 12 (by decide))
  have e13:=zaN (by simpa using hel 13 (by decide))
  subst e0 e1 e2 e3 e4 e5 e6 e7 e8 e9 e10 e11 e12 e13
  have hc:=fun i=>World.var?_cell g_sg hvar i
  exact⟨by simpa using hc 0,by simpa using hc 1,by simpa using hc 2,by simpa using hc 3,by simpa using hc 4,by simpa using hc 5,by simpa using hc 6,by simpa using hc 7,by simpa using hc 8,by simpa using hc 9,by simpa using hc 10,by simpa using hc 11,by simpa using hc 12,by simpa using hc 13,zns (o:=0) (by simpa using hc 0)⟩
theorem g_ops : Tryz.prog.globalNamed "sluicebook/tree.operations" = some 0 := by kernel_rfl
theorem t_ops:(Tryz.prog.globals[0]?).map (·.type)=some 162:=by kernel_rfl
theorem g_wds : Tryz.prog.globalNamed "sluicebook/tree.words" = some 3 := by kernel_rfl
theorem t_wds:(Tryz.prog.globals[3]?).map (·.type)=some 196:=by kernel_rfl
set_option maxRecDepth 100000 in
theorem zsI {W : World} {rest : List (String × DataW Unit)} (h : laidMet Tryz.prog (("sluicebook/tree.operations", Rows.laid_sluicebook_tree_operations) :: rest) W) : ∃ t fr, W.heap[0]? = some (.cells opsC t fr) :=
 zml opsC h g_ops t_ops Tryz.underlying162 (by kernel_rfl) (by kernel_rfl)
set_option maxRecDepth 100000 in
theorem zsZ {W : World} {rest : List (String × DataW Unit)} (h : laidMet Tryz.prog (("sluicebook/tree.words", Rows.laid_sluicebook_tree_words) :: rest) W) : ∃ t fr, W.heap[3]? = some (.cells zkT t fr) :=
 zml zkT h g_wds t_wds Tryz.underlying196 (by kernel_rfl) (by kernel_rfl)
def flat:Nat→DataW Unit→List Value
 | 0,_=>[]
 | _+1,.lit (.int k n)=>[.int k n]
 | _+1,.lit (.string l)=>[.string ⟨l.toArray⟩]
 | f+1,.agg l=>l.flatMap (flat f)
 | _+1,_=>[]
def layAt(w:World)(g:Nat)(cs:List Value):World :=
 { w with heap:=w.heap.modify g fun
   | .cells _ t frozen=>.cells cs.toArray t frozen
   | o=>o }
def lay(w:World)(b:Nat):World :=
 layAt (layAt (layAt (layAt (layAt (layAt (layAt (layAt w 3 (flat 3 Rows.laid_sluicebook_tree_words)) 0 (flat 3 Rows.laid_sluicebook_tree_operations)) 10 (flat 3 Rows.laid_math_bits_deBruijn32tab)) 11 (flat 3 Rows.laid_math_bits_deBruijn64tab))
  9 (flat 3 Rows.laid_internal_strconv_uint64pow10))
  6 [.iface 304 (.pointer (some ⟨b,0,none⟩))]) 5 [.iface 304 (.pointer (some ⟨b+1,0,none⟩))])
  1 (flat 3 Rows.laid_sluicebook_lex_signs)
end treeEnv
end
end Go.Proofs.YtopghagjmdbglaaGreatDoor
