/-
  VarOf, TreeEnv, TreeR8, TreeAp, TreeR9, TreeOn, ArO, ApR.
-/
import Derived.OpenShut
import Derived.ChangeSame
import Derived.MakeChecks
import Derived.RowKit
import Derived.Test.YtbdnccnfidjiaaaGreatDoorCards
import Derived.Test.YtbdnccnfidjiaaaGreatDoorTie
import Derived.Test.YtbdnccnfidjiaaaGreatDoorGyAd
import Derived.Test.YtbdnccnfidjiaaaGreatDoorGyAe
import Derived.ProofKit
import Derived.SizedLaws
import Derived.Stop.LaidErr
import Derived.Stop.Joined
import Derived.Lib.SmallJoins
import Derived.Deep.DeepHandedRow
import Derived.Test.YtbdnccnfidjiaaaGreatDoorGyAf
import Derived.Test.YtbdnccnfidjiaaaGreatDoorGyAg
import Derived.Laws.Rows
import Derived.Laws.AppendOwn
import Derived.Test.YtbdnccnfidjiaaaGreatDoorGyAc
import Derived.Test.YtbdnccnfidjiaaaGreatDoorGyAi
import Derived.Laws.AppendOwnNone
namespace Go.Proofs.YtbdnccnfidjiaaaGreatDoor
open Go.RowKit
set_option linter.unusedVariables false
set_option linter.unusedSimpArgs false
set_option maxHeartbeats 8000000
def cellAt(P:Program):Nat→TypeId→DataW Unit→Nat→Option Value
 | 0,_,_,_=>none
 | f+1,t,d,i =>
  match P.underlying t,d with
  | some (.int k),.lit (.int _ n)=>if i=0 then some (.int k n) else none
  | some .string,.lit (.string l)=>if i=0 then some (.string ⟨l.toArray⟩) else none
  | some (.array n e),.agg l=>if i / P.cellsOf e<n∧i % P.cellsOf e<P.cellsOf e then (l[i / P.cellsOf e]?).bind fun d'=>cellAt P f e d' (i % P.cellsOf e) else none
  | some (.struct fs),.agg l =>
   (fs[(fs.toList.findIdx fun g=>decide (i<g.offset+P.cellsOf g.type))]?).bind fun g =>
    if g.offset≤i∧i<g.offset+P.cellsOf g.type then (l[(fs.toList.findIdx fun g=>decide (i<g.offset+P.cellsOf g.type))]?).bind fun d'=>cellAt P f g.type d' (i-g.offset) else none
  | _,_=>none
theorem zjm{cs:List Value}{o k i:Nat}{v:Value}(hk:i<k)(h:((cs.drop o).take k)[i]?=some v):cs[o+i]?=some v:=by
 rw[List.getElem?_take,if_pos hk,List.getElem?_drop] at h
 exact h
theorem zce{P:Program}{W:World}{enc:TypeId×Value→Unit}{base:Nat}{spare:Nat→Bool}{held:Bool}:∀(f:Nat) (t:TypeId) (d:DataW Unit) (i:Nat) (v:Value) (fuel:Nat) (cs:List Value) (ps:List MemPlace),
  DataW.trod enc P W base spare held fuel t cs=some (d,ps)→cellAt P f t d i=some v→cs[i]?=some v
 | 0,_,_,_,_,_,_,_,_,h=>by simp[cellAt] at h
 | f+1,t,d,i,v,fuel,cs,ps,ht,h=>by
  unfold cellAt at h
  split at h
  ·rename_i k _ n hu
   split at h
   ·rename_i hi
    subst hi
    cases fuel with
    | zero=>simp[DataW.trod] at ht
    | succ m =>
     unfold DataW.trod at ht
     rw[hu] at ht
     split at ht<;>simp_all
   ·simp at h
  ·rename_i l hu
   split at h
   ·rename_i hi
    subst hi
    obtain⟨s,rfl,hx,_⟩:=DataW.trod_string hu ht
    simp at hx h ⊢
    rw[←h,hx.1]
   ·simp at h
  ·rename_i n e l hu
   split at h
   ·rename_i hi
    obtain⟨xs,m,_,hx,_,hl,hel⟩:=DataW.trod_array hu ht
    simp only[Prod.mk.injEq,DataW.agg.injEq] at hx
    obtain⟨rfl,rfl⟩:=hx
    rw[Option.bind_eq_some_iff] at h
    obtain⟨d',hd,h⟩:=h
    have hlt:i / P.cellsOf e<xs.length:=by omega
    rw[List.getElem?_map,List.getElem?_eq_getElem hlt] at hd
    have h2:=hel _ hi.1
    rw[List.getElem?_eq_getElem hlt] at h2
    simp only[Option.map_some,Option.some.injEq] at hd
    subst hd
    have h3:=zce f e _ _ v _ _ _ h2 h
    have h4:=zjm hi.2 h3
    rwa [Nat.mul_comm,Nat.div_add_mod] at h4
   ·simp at h
  ·rename_i fs l hu
   rw[Option.bind_eq_some_iff] at h
   obtain⟨g,hg,h⟩:=h
   split at h
   ·rename_i hi
    obtain⟨xs,m,_,hx,_,hl,hel⟩:=DataW.trod_struct hu ht
    simp only[Prod.mk.injEq,DataW.agg.injEq] at hx
    obtain⟨rfl,rfl⟩:=hx
    rw[Option.bind_eq_some_iff] at h
    obtain⟨d',hd,h⟩:=h
    have h2:=hel _ g hg
    rw[List.getElem?_map,Option.map_eq_some_iff] at hd
    obtain⟨y,hy,rfl⟩:=hd
    rw[hy] at h2
    have h3:=zce f g.type _ _ v _ _ _ h2 h
    have h4:=zjm (by omega) h3
    rwa [show g.offset+(i-g.offset)=i by omega] at h4
   ·simp at h
  ·simp at h
theorem zsy{P:Program}{W:World}{n:String}{cs:Array Value}{g:Nat}(h:W.var? P n=some cs)(hg:P.globalNamed n=some g):∃t fr,W.heap[g]?=some (.cells cs t fr):=by
 unfold World.var? at h
 simp only[hg,Option.bind_some] at h
 split at h
 ·rename_i c t fr he
  obtain rfl:=Option.some.inj h
  exact⟨t,fr,he⟩
 ·simp at h
theorem zmK{P:Program}{W:World}{nm:String}{d:DataW Unit}{rest:List (String×DataW Unit)}{g:Nat}{t e:TypeId}{n:Nat}(C:Array Value)
  (h:laidMet P ((nm,d)::rest) W)(hg:P.globalNamed nm=some g)(ht:(P.globals[g]?).map (·.type)=some t)(hu:P.underlying t=some (.array n e))(hc:P.cellsOf t=C.size)
  (hC:(List.range C.size).map (cellAt P 8 t d)=C.toList.map some):∃tt fr,W.heap[g]?=some (.cells C tt fr):=by
 obtain⟨ps,⟨g',t',cs,fuel,p,q,hg',ht',hvar,hd,_,_⟩,_⟩:=h
 obtain rfl:=Option.some.inj (hg.symm.trans hg')
 obtain rfl:=Option.some.inj (ht.symm.trans ht')
 obtain⟨_,_,_,_,hl,_,_⟩:=DataW.trod_array hu hd
 have hcs:cs=C:=by
  apply Array.ext'
  apply List.ext_getElem?
  intro i
  by_cases hi:i<C.size
  ·have h1:((List.range C.size).map (cellAt P 8 t d))[i]?=(C.toList.map some)[i]?:=by rw[hC]
   rw[List.getElem?_map,List.getElem?_range hi,List.getElem?_map,Array.getElem?_toList,Array.getElem?_eq_getElem hi] at h1
   simp only[Option.map_some,Option.some.injEq] at h1
   rw[zce 8 t d i _ _ _ _ hd h1,Array.getElem?_toList,Array.getElem?_eq_getElem hi]
  ·rw[List.getElem?_eq_none (by omega),List.getElem?_eq_none (by simpa using hi)]
 subst hcs
 exact zsy hvar hg
section
open Go.ChangeShapes Go.WideShapes Go.ChangeAt Go.Joins
open Go.ChangeMaps (open_string shut_string)

namespace treeEnv
theorem own:ownKnob Tryz.prog.godebug=none:=by kernel_rfl
theorem tSyn:(Tryz.prog.globals[5]?).map (·.type)=some 45:=by kernel_rfl
theorem tRan:(Tryz.prog.globals[6]?).map (·.type)=some 45:=by kernel_rfl
theorem tTab:(Tryz.prog.globals[9]?).map (·.type)=some 340:=by kernel_rfl
theorem g_sg : Tryz.prog.globalNamed "sluicebook/lex.signs" = some 1 := by kernel_rfl
theorem t_sg:(Tryz.prog.globals[1]?).map (·.type)=some 183:=by kernel_rfl
theorem zmU:Tryz.prog.cellsOf 300=1:=by kernel_rfl
theorem zob:Tryz.prog.cellsOf 9=1:=by kernel_rfl
theorem zqi:Tryz.prog.cellsOf 183=14:=by kernel_rfl
theorem zsU:Tryz.prog.cellsOf 262=1:=by kernel_rfl
theorem zsT:Tryz.prog.cellsOf 340=20:=by kernel_rfl
theorem star : "*" ++ "errors.errorString" = "*errors.errorString" := by decide
theorem rowES (u : TypeId) (h : Tryz.prog.typeName? 3 u = some "*errors.errorString") : u = 298 :=
 typeName_ptr_named (nm := "errors.errorString") (by rw [star]; kernel_rfl) (by kernel_rfl) (by decide) u (by rw [star]; exact h)
theorem zaP{W:World}{m:Nat}{x:Value}{l:List UInt8}{ps:List MemPlace}(h:DataW.trod (fun _=>()) Tryz.prog W 0 (fun _=>true) false m 9 [x]=some (.lit (.string l),ps)):x=.string ⟨l.toArray⟩:=by
 obtain⟨s,e1,r1,_⟩:=DataW.trod_string Tryz.underlying9 h
 simp at e1 r1
 subst e1
 obtain⟨rfl,_⟩:=r1
 simp
set_option maxRecDepth 100000 in
theorem sg_of {W : World} {rest : List (String × DataW Unit)} (h : laidMet Tryz.prog (("sluicebook/lex.signs", Rows.laid_sluicebook_lex_signs) :: rest) W) : SG W := by
 obtain⟨ps,⟨g',t',cs,fuel,p,q,hg',ht',hvar,hd,_,_⟩,_⟩:=h
 obtain rfl:=Option.some.inj (g_sg.symm.trans hg')
 obtain rfl:=Option.some.inj (t_sg.symm.trans ht')
 obtain⟨xs,m,_,hx,hl,hlen,hel⟩:=DataW.trod_array Tryz.underlying183 hd
 rw[zqi] at hl
 rw[zob] at hel
 have hcs:∃c0 c1 c2 c3 c4 c5 c6 c7 c8 c9 c10 c11 c12 c13,cs=#[c0,c1,c2,c3,c4,c5,c6,c7,c8,c9,c10,c11,c12,c13]:=by
  obtain⟨l⟩:=cs
  match l,hl with
  | [c0,c1,c2,c3,c4,c5,c6,c7,c8,c9,c10,c11,c12,c13],_=>exact⟨_,_,_,_,_,_,_,_,_,_,_,_,_,_,rfl⟩
 obtain⟨c0,c1,c2,c3,c4,c5,c6,c7,c8,c9,c10,c11,c12,c13,rfl⟩:=hcs
 match xs,hlen with
 | [x0,x1,x2,x3,x4,x5,x6,x7,x8,x9,x10,x11,x12,x13],_ =>
  obtain⟨d0,q0⟩:=x0
  obtain⟨d1,q1⟩:=x1
  obtain⟨d2,q2⟩:=x2
  obtain⟨d3,q3⟩:=x3
  obtain⟨d4,q4⟩:=x4
  obtain⟨d5,q5⟩:=x5
  obtain⟨d6,q6⟩:=x6
  obtain⟨d7,q7⟩:=x7
  obtain⟨d8,q8⟩:=x8
  obtain⟨d9,q9⟩:=x9
  obtain⟨d10,q10⟩:=x10
  obtain⟨d11,q11⟩:=x11
  obtain⟨d12,q12⟩:=x12
  obtain⟨d13,q13⟩:=x13
  have hx2:=congrArg Prod.fst hx
  simp[Rows.laid_sluicebook_lex_signs] at hx2
  obtain⟨r0,r1,r2,r3,r4,r5,r6,r7,r8,r9,r10,r11,r12,r13⟩:=hx2
  subst r0 r1 r2 r3 r4 r5 r6 r7 r8 r9 r10 r11 r12 r13
  have e0:=zaP (by simpa using hel 0 (by decide))
  have e1:=zaP (by simpa using hel 1 (by decide))
  have e2:=zaP (by simpa using hel 2 (by decide))
  have e3:=zaP (by simpa using hel 3 (by decide))
  have e4:=zaP (by simpa using hel 4 (by decide))
  have e5:=zaP (by simpa using hel 5 (by decide))
  have e6:=zaP (by simpa using hel 6 (by decide))
  have e7:=zaP (by simpa using hel 7 (by decide))
  have e8:=zaP (by simpa using hel 8 (by decide))
  have e9:=zaP (by simpa using hel 9 (by decide))
  have e10:=zaP (by simpa using hel 10 (by decide))
  have e11:=zaP (by simpa using hel 11 (by decide))
  have e12:=zaP (by simpa using hel 12 (by decide))
  have e13:=zaP (by simpa using hel 13 (by decide))
  subst e0 e1 e2 e3 e4 e5 e6 e7 e8 e9 e10 e11 e12 e13
  have hc:=fun i=>World.var?_cell g_sg hvar i
  exact⟨by simpa using hc 0,by simpa using hc 1,by simpa using hc 2,by simpa using hc 3,by simpa using hc 4,by simpa using hc 5,by simpa using hc 6,by simpa using hc 7,by simpa using hc 8,by simpa using hc 9,by simpa using hc 10,by simpa using hc 11,by simpa using hc 12,by simpa using hc 13,zoa (o:=0) (by simpa using hc 0)⟩
theorem g_ops : Tryz.prog.globalNamed "sluicebook/tree.operations" = some 0 := by kernel_rfl
theorem t_ops:(Tryz.prog.globals[0]?).map (·.type)=some 157:=by kernel_rfl
theorem g_wds : Tryz.prog.globalNamed "sluicebook/tree.words" = some 3 := by kernel_rfl
theorem t_wds:(Tryz.prog.globals[3]?).map (·.type)=some 191:=by kernel_rfl
set_option maxRecDepth 100000 in
theorem ztq {W : World} {rest : List (String × DataW Unit)} (h : laidMet Tryz.prog (("sluicebook/tree.operations", Rows.laid_sluicebook_tree_operations) :: rest) W) : ∃ t fr, W.heap[0]? = some (.cells opsC t fr) :=
 zmK opsC h g_ops t_ops Tryz.underlying157 (by kernel_rfl) (by kernel_rfl)
set_option maxRecDepth 100000 in
theorem ztG {W : World} {rest : List (String × DataW Unit)} (h : laidMet Tryz.prog (("sluicebook/tree.words", Rows.laid_sluicebook_tree_words) :: rest) W) : ∃ t fr, W.heap[3]? = some (.cells zlt t fr) :=
 zmK zlt h g_wds t_wds Tryz.underlying191 (by kernel_rfl) (by kernel_rfl)
def flat:Nat→DataW Unit→List Value
 | 0,_=>[]
 | _+1,.lit (.int k n)=>[.int k n]
 | _+1,.lit (.string l)=>[.string ⟨l.toArray⟩]
 | f+1,.agg l=>l.flatMap (flat f)
 | _+1,_=>[]
def layAt(w:World)(g:Nat)(cs:List Value):World :=
 { w with heap:=w.heap.modify g fun
   | .cells _ t frozen=>.cells cs.toArray t frozen
   | o=>o }
def lay(w:World)(b:Nat):World :=
 layAt (layAt (layAt (layAt (layAt (layAt (layAt (layAt w 3 (flat 3 Rows.laid_sluicebook_tree_words)) 0 (flat 3 Rows.laid_sluicebook_tree_operations)) 10 (flat 3 Rows.laid_math_bits_deBruijn32tab)) 11 (flat 3 Rows.laid_math_bits_deBruijn64tab))
  9 (flat 3 Rows.laid_internal_strconv_uint64pow10))
  6 [.iface 298 (.pointer (some ⟨b,0,none⟩))]) 5 [.iface 298 (.pointer (some ⟨b+1,0,none⟩))])
  1 (flat 3 Rows.laid_sluicebook_lex_signs)
end treeEnv
end
section
open Go.BigFrame
theorem zsG(k:Nat)(hk:k<19):∃S:ByteArray,(∀W:World,Sem.run Tryz.prog (Instr.index 191 (.agg zlt) (.int .i64 (k:Int))) W=.ok (.string S) W)∧zcr[k]'hk=S.data.toList:=by
 have h:k=0∨k=1∨k=2∨k=3∨k=4∨k=5∨k=6∨k=7∨k=8∨k=9∨k=10∨k=11∨k=12∨k=13∨k=14∨k=15∨k=16∨k=17∨k=18:=by omega
 rcases h with rfl|rfl|rfl|rfl|rfl|rfl|rfl|rfl|rfl|rfl|rfl|rfl|rfl|rfl|rfl|rfl|rfl|rfl|rfl
 ·exact⟨⟨#[111,114]⟩,fun W=>by kernel_rfl,rfl⟩
 ·exact⟨⟨#[97,110,100]⟩,fun W=>by kernel_rfl,rfl⟩
 ·exact⟨⟨#[110,111,116]⟩,fun W=>by kernel_rfl,rfl⟩
 ·exact⟨⟨#[116,114,117,101]⟩,fun W=>by kernel_rfl,rfl⟩
 ·exact⟨⟨#[102,97,108,115,101]⟩,fun W=>by kernel_rfl,rfl⟩
 ·exact⟨⟨#[108,101,110]⟩,fun W=>by kernel_rfl,rfl⟩
 ·exact⟨⟨#[105,102]⟩,fun W=>by kernel_rfl,rfl⟩
 ·exact⟨⟨#[115,101,108,101,99,116]⟩,fun W=>by kernel_rfl,rfl⟩
 ·exact⟨⟨#[97,115]⟩,fun W=>by kernel_rfl,rfl⟩
 ·exact⟨⟨#[102,114,111,109]⟩,fun W=>by kernel_rfl,rfl⟩
 ·exact⟨⟨#[119,104,101,114,101]⟩,fun W=>by kernel_rfl,rfl⟩
 ·exact⟨⟨#[103,114,111,117,112]⟩,fun W=>by kernel_rfl,rfl⟩
 ·exact⟨⟨#[98,121]⟩,fun W=>by kernel_rfl,rfl⟩
 ·exact⟨⟨#[119,105,110,100,111,119]⟩,fun W=>by kernel_rfl,rfl⟩
 ·exact⟨⟨#[115,108,105,100,101]⟩,fun W=>by kernel_rfl,rfl⟩
 ·exact⟨⟨#[99,111,117,110,116]⟩,fun W=>by kernel_rfl,rfl⟩
 ·exact⟨⟨#[115,117,109]⟩,fun W=>by kernel_rfl,rfl⟩
 ·exact⟨⟨#[108,101,97,115,116]⟩,fun W=>by kernel_rfl,rfl⟩
 ·exact⟨⟨#[109,111,115,116]⟩,fun W=>by kernel_rfl,rfl⟩
theorem zrp(k:Nat)(hk:k<19):∃(S:ByteArray) (n:Int),(∀W:World,Sem.run Tryz.prog (Instr.index 157 (.agg opsC) (.int .i64 (k:Int))) W=.ok (.agg #[.string S,.int .i64 n]) W)∧(opsL[k]'hk).1=S.data.toList∧(opsL[k]'hk).2=n:=by
 have h:k=0∨k=1∨k=2∨k=3∨k=4∨k=5∨k=6∨k=7∨k=8∨k=9∨k=10∨k=11∨k=12∨k=13∨k=14∨k=15∨k=16∨k=17∨k=18:=by omega
 rcases h with rfl|rfl|rfl|rfl|rfl|rfl|rfl|rfl|rfl|rfl|rfl|rfl|rfl|rfl|rfl|rfl|rfl|rfl|rfl
 ·exact⟨⟨#[118,97,108]⟩,0,fun W=>by kernel_rfl,rfl,rfl⟩
 ·exact⟨⟨#[99,111,108]⟩,0,fun W=>by kernel_rfl,rfl,rfl⟩
 ·exact⟨⟨#[111,114]⟩,2,fun W=>by kernel_rfl,rfl,rfl⟩
 ·exact⟨⟨#[97,110,100]⟩,2,fun W=>by kernel_rfl,rfl,rfl⟩
 ·exact⟨⟨#[110,111,116]⟩,1,fun W=>by kernel_rfl,rfl,rfl⟩
 ·exact⟨⟨#[61]⟩,2,fun W=>by kernel_rfl,rfl,rfl⟩
 ·exact⟨⟨#[60,62]⟩,2,fun W=>by kernel_rfl,rfl,rfl⟩
 ·exact⟨⟨#[60]⟩,2,fun W=>by kernel_rfl,rfl,rfl⟩
 ·exact⟨⟨#[60,61]⟩,2,fun W=>by kernel_rfl,rfl,rfl⟩
 ·exact⟨⟨#[62]⟩,2,fun W=>by kernel_rfl,rfl,rfl⟩
 ·exact⟨⟨#[62,61]⟩,2,fun W=>by kernel_rfl,rfl,rfl⟩
 ·exact⟨⟨#[43]⟩,2,fun W=>by kernel_rfl,rfl,rfl⟩
 ·exact⟨⟨#[45]⟩,2,fun W=>by kernel_rfl,rfl,rfl⟩
 ·exact⟨⟨#[42]⟩,2,fun W=>by kernel_rfl,rfl,rfl⟩
 ·exact⟨⟨#[47]⟩,2,fun W=>by kernel_rfl,rfl,rfl⟩
 ·exact⟨⟨#[37]⟩,2,fun W=>by kernel_rfl,rfl,rfl⟩
 ·exact⟨⟨#[110,101,103]⟩,1,fun W=>by kernel_rfl,rfl,rfl⟩
 ·exact⟨⟨#[108,101,110]⟩,1,fun W=>by kernel_rfl,rfl,rfl⟩
 ·exact⟨⟨#[105,102]⟩,3,fun W=>by kernel_rfl,rfl,rfl⟩
set_option maxRecDepth 20000 in
theorem zjZ(x:ByteArray)(w:World)(henv:TEnv w) :
  Calls Tryz.prog 89 #[.string x] w fun e w'=>e=.returned (.bool (zcr.any (· == x.data.toList)))∧w'=w:=by
 obtain⟨tt,fr,hgl⟩:=henv.wds
 obtain⟨R,hR⟩:∃R,zcr.any (· == x.data.toList)=R:=⟨_,rfl⟩
 have HR:Hid (zcr.any (· == x.data.toList)=R):=hR
 rw[hR]
 clear hR
 go_enter Tryz.func89,Tryz.ntmps89
 go_wp2_with (refine wpList_load_row rfl 191 _ rfl 3 rfl tt _ fr _ hgl Tryz.underlying191 rfl (by kernel_rfl) ?_)
 have hat:=zsG
 generalize Value.agg zlt=AR at hat ⊢
 clear hgl
 go_loopg [4,6] 19 (fun gg _ s6 wr=>∃kk:Nat,kk≤19∧19-kk≤gg∧s6=.int .i64 kk∧wr=w∧Hid ((zcr.drop kk).any (· == x.data.toList)=R))
 case atStart=>exact⟨0,Nat.zero_le _,by omega,rfl,rfl,HR⟩
 case round =>
  obtain⟨kk,hkk,hg,rfl,rfl,HE⟩:=hrel
  clear HR
  by_cases hlt:kk<19
  ·have hltz:(kk:Int)<19:=by omega
   obtain⟨S,hS,hS1⟩:=hat kk hlt
   clear hat
   have hd:zcr.drop kk=S.data.toList::zcr.drop (kk+1):=by
    rw[List.drop_eq_getElem_cons (show kk<zcr.length from hlt)]
    exact congrArg (·::_) hS1
   have HS:Hid ((S.data.toList::zcr.drop (kk+1)).any (· == x.data.toList)=R):=by show _=_;rw[←hd];exact HE.out
   clear hd hS1 HE
   by_cases he:S.data.toList=x.data.toList
   ·have hq:(S.toList == x.toList)=true:=by rw[Lib.toList_data,Lib.toList_data];simpa using he
    have hR2:true=R:=by
     have hb:(S.data.toList == x.data.toList)=true:=by simpa using he
     rw[←HS.out,List.any_cons,hb];rfl
    subst hR2
    clear HS
    go_wp2
    go_ret
    exact⟨rfl,rfl⟩
   ·have hq:(S.toList == x.toList)=false:=by rw[Lib.toList_data,Lib.toList_data];simpa using he
    have HS2:Hid ((zcr.drop (kk+1)).any (· == x.data.toList)=R):=by
     show _=_
     have hb:(S.data.toList == x.data.toList)=false:=by simpa using he
     rw[←HS.out,List.any_cons,hb,Bool.false_or]
    clear HS
    go_wp2
    go_roundg (19-(kk+1))
    case measure=>omega
    case rel=>exact⟨kk+1,by omega,by omega,by go_num,rfl,HS2⟩
  ·have hltz:¬(kk:Int)<19:=by omega
   have hR2:false=R:=by rw[←HE.out,List.drop_eq_nil_of_le (by show 19≤kk;omega)];rfl
   subst hR2
   clear HE
   go_wp2
   go_ret
   exact⟨rfl,rfl⟩
def apL(x:List UInt8):List (List UInt8×Int)→Int×Bool
 | []=>(0,false)
 | o::os=>if o.1=x then (o.2,true) else apL x os
set_option maxRecDepth 20000 in
theorem zeX(x:ByteArray)(w:World)(henv:TEnv w)(n:Int)(ok:Bool)(hx:apL x.data.toList opsL=(n,ok)) :
  Calls Tryz.prog 59 #[.string x] w fun e w'=>e=.returned (.tuple #[.int .i64 n,.bool ok])∧Below w.heap.size w w':=by
 obtain⟨tt,fr,hgl⟩:=henv.ops
 have HX:Hid (apL x.data.toList opsL=(n,ok)):=hx
 clear hx
 go_enter Tryz.func59,Tryz.ntmps59
 go_wp2_with (refine wpList_load_row rfl 157 _ rfl 0 rfl tt _ fr _ hgl Tryz.underlying157 rfl (by kernel_rfl) ?_)
 have hat:=zrp
 generalize Value.agg opsC=AR at hat ⊢
 clear hgl
 go_loopg [5,7] 19 (fun gg _ s7 wr=>∃kk:Nat,kk≤19∧19-kk≤gg∧s7=.int .i64 kk∧Aside (Below w.heap.size w wr)∧Hid (apL x.data.toList (opsL.drop kk)=(n,ok)))
 case atStart=>exact⟨0,Nat.zero_le _,by omega,rfl,(show Aside _ from Below.refl _ _),HX⟩
 case round =>
  obtain⟨kk,hkk,hg,rfl,BW,HE⟩:=hrel
  clear HX
  by_cases hlt:kk<19
  ·have hltz:(kk:Int)<19:=by omega
   obtain⟨S,m,hS,hS1,hS2⟩:=hat kk hlt
   clear hat
   have hd:opsL.drop kk=(S.data.toList,m)::opsL.drop (kk+1):=by
    rw[List.drop_eq_getElem_cons (show kk<opsL.length from hlt)]
    congr 1
    exact Prod.ext hS1 hS2
   have HS:Hid (apL x.data.toList ((S.data.toList,m)::opsL.drop (kk+1))=(n,ok)):=by show _=_;rw[←hd];exact HE.out
   clear hd hS1 hS2 HE
   by_cases he:S.data.toList=x.data.toList
   ·have hq:(S.toList == x.toList)=true:=by rw[Lib.toList_data,Lib.toList_data];simpa using he
    have hR2:(m,true)=(n,ok):=by rw[←HS.out,apL,if_pos he]
    obtain⟨rfl,rfl⟩:=Prod.mk.inj hR2
    clear HS
    go_wp2
    go_ret2
    exact⟨rfl,BW.out.alloc (by have:=BW.out.size;omega) _⟩
   ·have hq:(S.toList == x.toList)=false:=by rw[Lib.toList_data,Lib.toList_data];simpa using he
    have HS2:Hid (apL x.data.toList (opsL.drop (kk+1))=(n,ok)):=by
     show _=_
     rw[←HS.out,apL,if_neg he]
    clear HS
    go_wp2
    go_roundg (19-(kk+1))
    case measure=>omega
    case rel=>exact⟨kk+1,by omega,by omega,by go_num,(show Aside _ from BW.out.alloc (by have:=BW.out.size;omega) _),HS2⟩
  ·have hltz:¬(kk:Int)<19:=by omega
   have hR2:((0:Int),false)=(n,ok):=by rw[←HE.out,List.drop_eq_nil_of_le (by show 19≤kk;omega)];rfl
   obtain⟨rfl,rfl⟩:=Prod.mk.inj hR2
   clear HE
   go_wp2
   go_ret2
   exact⟨rfl,BW.out⟩
theorem zrh(l:List UInt8):nameB l=zgC l:=by
 have hl:∀c:UInt8,letN c=letB c:=fun c=>by
  rw[letN,letB]
  congr 1<;>exact decide_eq_decide.2 (by omega)
 rw[nameB,zgC,show (letN:UInt8→Bool)=letB from funext hl]
 cases l with
 | nil=>simp
 | cons c r=>simp
theorem zbz(x:ByteArray)(w:World)(henv:TEnv w)(hs:x.size≤maxLen) :
  Calls Tryz.prog 53 #[.string x] w fun e w'=>e=.returned (.bool (nameT x.data.toList))∧Below w.heap.size w w':=by
 have cN:=zcZ x w hs
 have cW:=fun W (hb:Below w.heap.size w W)=>zjZ x W (henv.on hb)
 have HT:Hid (nameT x.data.toList=(nameB x.data.toList&&!(zcr.any (· == x.data.toList)))):=by show _=_;rw[nameT,zrh]
 obtain⟨R,hR⟩:∃R,nameT x.data.toList=R:=⟨_,rfl⟩
 rw[hR] at HT ⊢
 clear hR
 generalize nameB x.data.toList=A at cN HT
 generalize zcr.any (· == x.data.toList)=B at cW HT
 cases A
 ·obtain rfl:R=false:=HT.out
  clear HT cW
  go_enter Tryz.func53,Tryz.ntmps53
  go_wp2_with fail
  refine cN.mono ?_
  rintro e w1 ⟨rfl,b1⟩
  go_wp2
  go_ret
  exact⟨rfl,b1⟩
 ·cases B
  ·obtain rfl:R=true:=HT.out
   clear HT
   go_enter Tryz.func53,Tryz.ntmps53
   go_wp2_with fail
   refine cN.mono ?_
   rintro e w1 ⟨rfl,b1⟩
   go_wp2_with fail
   refine (cW _ b1).mono ?_
   rintro e w2 ⟨rfl,rfl⟩
   go_wp2
   go_ret
   exact⟨rfl,b1⟩
  ·obtain rfl:R=false:=HT.out
   clear HT
   go_enter Tryz.func53,Tryz.ntmps53
   go_wp2_with fail
   refine cN.mono ?_
   rintro e w1 ⟨rfl,b1⟩
   go_wp2_with fail
   refine (cW _ b1).mono ?_
   rintro e w2 ⟨rfl,rfl⟩
   go_wp2
   go_ret
   exact⟨rfl,b1⟩
theorem zdf(t:Tok)(w:World)(henv:TEnv w)(hs:t.2.1.size≤maxLen) :
  Calls Tryz.prog 265 #[tokV t] w fun e w'=>e=.returned (.bool (nmT t))∧Below w.heap.size w w':=by
 obtain⟨tk,tx,ta⟩:=t
 rw[tokV,nmT]
 simp only at hs ⊢
 have cC:=fun W (hb:Below w.heap.size w W)=>zbz tx W (henv.on hb) hs
 generalize nameT tx.data.toList=R at cC
 go_enter Tryz.func265,Tryz.ntmps265
 go_wp2_with fail
 refine (cC _ (al _ _)).mono ?_
 rintro e w1 ⟨rfl,b1⟩
 go_wp2
 go_ret
 exact⟨rfl,(al _ _).trans (b1.mono (by simp))⟩
theorem zdK(t:Tok)(w:World)(henv:TEnv w)(hs:t.2.1.size≤400) :
  Calls Tryz.prog 264 #[tokV t] w fun e w'=>e=.returned (.bool (vlT t))∧Below w.heap.size w w':=by
 obtain⟨tk,tx,ta⟩:=t
 rw[tokV,vlT]
 simp only at hs ⊢
 have cC:=fun W (hb:Below w.heap.size w W)=>zey tx W (by omega) (henv.env.on hb)
 obtain⟨vt,vn,vl,er,hv⟩:∃vt vn vl er,readV tx=(vt,vn,vl,er):=⟨_,_,_,_,rfl⟩
 rw[hv] at cC ⊢
 rw[readR] at cC
 simp only at cC ⊢
 by_cases he:er=0
 ·subst he
  rw[errV,if_pos rfl] at cC
  go_enter Tryz.func264,Tryz.ntmps264
  go_wp2_with fail
  refine (cC _ (al _ _)).mono ?_
  rintro e w1 ⟨rfl,b1⟩
  go_wp2
  go_ret
  exact⟨rfl,((al _ _).trans (b1.mono (by simp))).alloc (by have:=b1.size;simp at this;omega) _⟩
 ·rw[errV,if_neg he] at cC
  have hd:decide (er=0)=false:=by simpa using he
  rw[hd]
  go_enter Tryz.func264,Tryz.ntmps264
  go_wp2_with fail
  refine (cC _ (al _ _)).mono ?_
  rintro e w1 ⟨rfl,b1⟩
  go_wp2
  go_ret
  exact⟨rfl,((al _ _).trans (b1.mono (by simp))).alloc (by have:=b1.size;simp at this;omega) _⟩
end
theorem zcN{P:Program}(w:World)(base:Nat)(t ty e:TypeId)(i:TypeInfo)(z:Value)(ht:P.underlying t=some (.slice e))(hi:P.info? e=some i)(hz:i.zero=some z)
  (v:Value)(n:Nat)(xs:List Value)(hown:w.ownsRow base e i.size v n xs)
  (a:Addr)(m c:Nat)(news:List Value)(hl:news.length=m*i.size)(hnews:∀j u,news[j]?=some u→w.cell? (a.add j)=some u)(h1:∀u∈news,u.oneCell'=true)(hm:0<m)
  (h63:n+m≤maxLen)(hbytes:(n+m)*i.bytes≤140737488355328){v':Value}{w':World}(hr:(Builtin.append_ #[t,t] ty #[v,.slice (some a) m c]).run P w=.ok v' w'):v'.ownBlock=v.ownBlock∨v'.ownBlock=some w.heap.size:=by
 have hsmall:n+m≤9223372036854775807:=by simp only[maxLen] at h63;omega
 rcases hown.2 with ⟨rfl,rfl⟩|⟨g,cap,cur,rfl,hbg,hg,hnc,hcm,hcs,htake⟩
 ·have h2:=run_append_nil (P:=P) w t ty e i z ht hi hz a m c news hl hnews (by omega) (by omega) (by have hb:=hbytes;simp only[Nat.zero_add] at hb;omega)
  rw[h2] at hr
  injection hr with hv _
  rw[←hv]
  exact .inr rfl
 ·by_cases hroom:n+m≤cap
  ·have hfit:n*i.size+news.length≤cur.size:=by rw[hl,hcs,←Nat.add_mul];exact Nat.mul_le_mul_right _ hroom
   have h2:=run_append_room (P:=P) w t ty e i ht hi g n cap cur hg a m c news hl hnews h1 hroom hfit
   rw[h2] at hr
   injection hr with hv _
   rw[←hv]
   exact .inl rfl
  ·have holds:∀j u,xs[j]?=some u→w.cell? ((⟨g,0,none⟩:Addr).add j)=some u:=hown.cells (g:=g) rfl
   have h2:=run_append_grow (P:=P) w t ty e i z ht hi hz ⟨g,0,none⟩ n cap xs hown.1 holds a m c news hl hnews (by omega) (by omega) (growslice_fits (by omega) hbytes)
   rw[h2] at hr
   injection hr with hv _
   rw[←hv]
   exact .inr rfl
theorem zad{P:Program}{w:World}{ops:Array Oper}{rest:List Oper}{o:Oper}{a:Act}{Q:Exit→Act→World→Prop}(hgd:o.guard=none)(s x:Operand)(t:TypeId)
  (ho:o.op=.call { callee:=.builtin .append,args:=#[s,x],argTypes:=#[t,t] })
  (base:Nat)(e:TypeId)(i:TypeInfo)(z:Value)(size bytes:Nat)(ht:P.underlying t=some (.slice e))(hi:P.info? e=some i)(hz:i.zero=some z)
  (hsize:i.size=size)(hby:i.bytes=bytes)(hzs:z.cells.size=size)(hsz:0<size)
  (v:Value)(n:Nat)(xs:List Value)(hs:a.eval s=v)(hown:w.ownsRow base e size v n xs)
  (ad:Addr)(m c:Nat)(news:List Value)(hx:a.eval x=.slice (some ad) m c)(hl:news.length=m*size)(hnews:∀j u,news[j]?=some u→w.cell? (ad.add j)=some u)(h1:∀u∈news,u.oneCell'=true)(hm:0<m)
  (h63:n+m≤maxLen)(hbytes:(n+m)*bytes≤140737488355328)(hbase:base≤w.heap.size)
  (h:∀v' w',w'.ownsRow base e size v' (n+m) (xs++news)→w.grownBy w' v.ownBlock→(v'.ownBlock=v.ownBlock∨v'.ownBlock=some w.heap.size)→wpList P ops Q rest (a.put o.dst v') w'):wpList P ops Q (o::rest) a w :=
 wpList_plain hgd fun _ hK=>by
  obtain⟨v',w',hr,h2,h3,_⟩:=run_append_own (P:=P) w base t o.type e i z size bytes ht hi hz hsize hby hzs hsz v n xs hown ad m c news hl hnews h1 h63 hbytes hbase
  have h5:v'.ownBlock=v.ownBlock∨v'.ownBlock=some w.heap.size:=by
   subst hsize
   subst hby
   exact zcN w base t o.type e i z ht hi hz v n xs hown ad m c news hl hnews h1 hm h63 hbytes hr
  unfold Oper.wp execOp
  simp only[ho,resolve,invoke,builtin,Sem.run_bind,Sem.run_pure,Result.andThen_ok,List.map_toArray,List.map_cons,List.map_nil,hs,hx,hr]
  exact hK _ _ (h v' w' h2 h3 h5)
section
open Go.BigFrame
variable {en : Nat}

def zax(w:World)(B:Nat)(v:Value)(xs:List Ex):Prop:=∃cs:List Value,w.ownsRow B 31 7 v xs.length cs ∧
 ∀j (h:j<xs.length),∃a0 a1 a2 a3 a4 a5 a6,cs[j*7]?=some a0∧cs[j*7+1]?=some a1∧cs[j*7+2]?=some a2∧cs[j*7+3]?=some a3∧cs[j*7+4]?=some a4∧cs[j*7+5]?=some a5∧cs[j*7+6]?=some a6∧ExIn w (fun b=>B≤b∧some b≠v.ownBlock) (.agg #[a0,a1,a2,a3,a4,a5,a6]) xs[j]
theorem zdB(w:World)(B:Nat):zax w B (.slice none 0 0) []:=⟨[],World.ownsRow_nil _ _ _ _,fun j h=>absurd h (Nat.not_lt_zero _)⟩
theorem zdM{W W':World}{r base:Nat}{e:TypeId}{size:Nat}{v:Value}{n:Nat}{xs:List Value}(h:W.ownsRow base e size v n xs)(hb:But r W W')(hr:r<base):W'.ownsRow base e size v n xs:=by
 refine⟨h.1,?_⟩
 rcases h.2 with hn|⟨g,cap,cur,rfl,h1,hgg,rest⟩
 ·exact .inl hn
 ·exact .inr ⟨g,cap,cur,rfl,h1,by rw[hb.kept g (Array.getElem?_eq_some_iff.1 hgg).1 (by omega)];exact hgg,rest⟩
theorem zax.but{w w':World}{r B:Nat}{v:Value}{xs:List Ex}(h:zax w B v xs)(hb:But r w w')(hr:r<B):zax w' B v xs:=by
 obtain⟨cs,h1,h2⟩:=h
 refine⟨cs,zdM h1 hb hr,fun j hj=>?_⟩
 obtain⟨a0,a1,a2,a3,a4,a5,a6,e0,e1,e2,e3,e4,e5,e6,hx⟩:=h2 j hj
 exact⟨a0,a1,a2,a3,a4,a5,a6,e0,e1,e2,e3,e4,e5,e6,hx.but hb (fun b hb=>by have:=hb.1;omega)⟩
theorem zax.on{w w':World}{B:Nat}{v:Value}{xs:List Ex}(h:zax w B v xs)(hb:Below w.heap.size w w'):zax w' B v xs:=by
 obtain⟨cs,h1,h2⟩:=h
 refine⟨cs,zac h1 hb,fun j hj=>?_⟩
 obtain⟨a0,a1,a2,a3,a4,a5,a6,e0,e1,e2,e3,e4,e5,e6,hx⟩:=h2 j hj
 exact⟨a0,a1,a2,a3,a4,a5,a6,e0,e1,e2,e3,e4,e5,e6,hx.on hb⟩
theorem zax.push{w w':World}{B:Nat}{v v':Value}{xs:List Ex}{cs:List Value}{a0 a1 a2 a3 a4 a5 a6:Value}{x:Ex}(h1:w.ownsRow B 31 7 v xs.length cs)(h2:∀j (h:j<xs.length),∃a0 a1 a2 a3 a4 a5 a6,cs[j*7]?=some a0∧cs[j*7+1]?=some a1∧cs[j*7+2]?=some a2∧cs[j*7+3]?=some a3∧cs[j*7+4]?=some a4∧cs[j*7+5]?=some a5∧cs[j*7+6]?=some a6∧ExIn w (fun b=>B≤b∧some b≠v.ownBlock) (.agg #[a0,a1,a2,a3,a4,a5,a6]) xs[j])
  (hx:ExIn w (fun b=>B≤b∧some b≠v.ownBlock) (.agg #[a0,a1,a2,a3,a4,a5,a6]) x)(hown':w'.ownsRow B 31 7 v' (xs.length+1) (cs++[a0,a1,a2,a3,a4,a5,a6]))(hg:w.grownBy w' v.ownBlock)(hf:v'.ownBlock=v.ownBlock∨v'.ownBlock=some w.heap.size):zax w' B v' (xs++[x]):=by
 have key:∀(y:Ex) (u:Value),ExIn w (fun b=>B≤b∧some b≠v.ownBlock) u y→ExIn w' (fun b=>B≤b∧some b≠v'.ownBlock) u y:=fun y u hy=>by
  have h3:=ExIn.low (lo':=fun b=>(B≤b∧some b≠v.ownBlock)∧b<w.heap.size) (fun b hb hb2=>⟨hb2,hb⟩) _ _ hy
  have h4:=ExIn.keep (w':=w') hg.size (fun b o hb _=>by simp only[World.cell?,hg.block b hb.2 hb.1.2]) _ _ h3
  refine ExIn.low (fun b _ hb=>⟨hb.1.1,?_⟩) _ _ h4
  rcases hf with hf|hf
  ·rw[hf];exact hb.1.2
  ·rw[hf];intro e;injection e with e;have:=hb.2;omega
 have hlen:=h1.1
 refine⟨cs++[a0,a1,a2,a3,a4,a5,a6],by rw[List.length_append,List.length_singleton];exact hown',fun j hj=>?_⟩
 rw[List.length_append,List.length_singleton] at hj
 by_cases hj2:j<xs.length
 ·obtain⟨b0,b1,b2,b3,b4,b5,b6,e0,e1,e2,e3,e4,e5,e6,hy⟩:=h2 j hj2
  refine⟨b0,b1,b2,b3,b4,b5,b6,?_,?_,?_,?_,?_,?_,?_,?_⟩
  ·rw[List.getElem?_append_left (by omega)];exact e0
  ·rw[List.getElem?_append_left (by omega)];exact e1
  ·rw[List.getElem?_append_left (by omega)];exact e2
  ·rw[List.getElem?_append_left (by omega)];exact e3
  ·rw[List.getElem?_append_left (by omega)];exact e4
  ·rw[List.getElem?_append_left (by omega)];exact e5
  ·rw[List.getElem?_append_left (by omega)];exact e6
  ·rw[List.getElem_append_left hj2];exact key _ _ hy
 ·obtain rfl:j=xs.length:=by omega
  refine⟨a0,a1,a2,a3,a4,a5,a6,?_,?_,?_,?_,?_,?_,?_,?_⟩
  ·rw[List.getElem?_append_right (by omega),show xs.length*7-cs.length=0 by omega];rfl
  ·rw[List.getElem?_append_right (by omega),show xs.length*7+1-cs.length=1 by omega];rfl
  ·rw[List.getElem?_append_right (by omega),show xs.length*7+2-cs.length=2 by omega];rfl
  ·rw[List.getElem?_append_right (by omega),show xs.length*7+3-cs.length=3 by omega];rfl
  ·rw[List.getElem?_append_right (by omega),show xs.length*7+4-cs.length=4 by omega];rfl
  ·rw[List.getElem?_append_right (by omega),show xs.length*7+5-cs.length=5 by omega];rfl
  ·rw[List.getElem?_append_right (by omega),show xs.length*7+6-cs.length=6 by omega];rfl
  ·rw[List.getElem_append_right (Nat.le_refl _)];simp only[Nat.sub_self,List.getElem_cons_zero];exact key _ _ hx
def zaq(w:World)(lo:Nat→Prop)(v:Value)(xs:List Ex):Prop:=∃p c,v=.slice p xs.length c∧(xs.length≤maxLen∧xs.length≤c)∧(xs.length=0∨∃b off,p=some ⟨b,off,none⟩∧b<w.heap.size∧lo b∧ExsIn w lo b off xs)
theorem zax.is{w:World}{B:Nat}{v:Value}{xs:List Ex}(h:zax w B v xs):zaq w (B≤·) v xs:=by
 obtain⟨cs,h1,h2⟩:=h
 rcases h1.2 with ⟨e,h0⟩|⟨g,cap,cur,e,hB,hgg,hcap,hmx,_,_⟩
 ·exact⟨none,0,by rw[e,h0],⟨by omega,by omega⟩,.inl h0⟩
 ·refine⟨_,cap,e,⟨by omega,hcap⟩,.inr ⟨g,0,rfl,(Array.getElem?_eq_some_iff.1 hgg).1,hB,zby _ _ _ _ _ fun j hj=>?_⟩⟩
  obtain⟨b0,b1,b2,b3,b4,b5,b6,e0,e1,e2,e3,e4,e5,e6,hy⟩:=h2 j hj
  have hc:=fun k u hu=>h1.cells (g:=g) (by rw[e];rfl) k u hu
  simp only[Go.WideShapes.add_plain] at hc
  refine⟨b0,b1,b2,b3,b4,b5,b6,?_,?_,?_,?_,?_,?_,?_,ExIn.low (fun b _ hb=>hb.1) _ _ hy⟩
  ·have:=hc _ _ e0;simpa using this
  ·have:=hc _ _ e1;simpa [Nat.add_assoc] using this
  ·have:=hc _ _ e2;simpa [Nat.add_assoc] using this
  ·have:=hc _ _ e3;simpa [Nat.add_assoc] using this
  ·have:=hc _ _ e4;simpa [Nat.add_assoc] using this
  ·have:=hc _ _ e5;simpa [Nat.add_assoc] using this
  ·have:=hc _ _ e6;simpa [Nat.add_assoc] using this
theorem zqX:(Tryz.prog.info? 31).map (fun i=>(i.zero,i.size,i.bytes))=some (some (.agg #[.string ⟨#[]⟩,.string ⟨#[]⟩,.int .i64 0,.int .i64 0,.string ⟨#[]⟩,.slice none 0 0,.int .i64 0]),7,96):=by kernel_rfl
theorem zba(w:World)(lo:Nat→Prop):zaq w lo (.slice none 0 0) []:=⟨none,0,rfl,⟨Nat.zero_le _,Nat.zero_le _⟩,.inl rfl⟩
theorem zle{sub:List Tok→Option Ex×List Tok}{k:Nat}{acc:List Ex}{ts:List Tok}(h:nxT (sgT [if acc.length=0 then [40] else [44]]) ts=none):uBr sub (k+1) acc ts=(none,ts):=by rw[uBr,h]
theorem zny{sub:List Tok→Option Ex×List Tok}{k:Nat}{acc:List Ex}{ts rs:List Tok}{t:Tok}(h:nxT (sgT [if acc.length=0 then [40] else [44]]) ts=some (t,rs))(hs:(sub rs).1=none):uBr sub (k+1) acc ts=(none,(sub rs).2):=by
 rw[uBr,h]
 cases h3:sub rs with
 | mk o r=>rw[h3] at hs;simp only at hs;subst hs;simp only[h3]
theorem zlf{sub:List Tok→Option Ex×List Tok}{k:Nat}{acc:List Ex}{ts rs:List Tok}{t:Tok}{x:Ex}(h:nxT (sgT [if acc.length=0 then [40] else [44]]) ts=some (t,rs))(hs:(sub rs).1=some x):uBr sub (k+1) acc ts=uBr sub k (acc++[x]) (sub rs).2:=by
 rw[uBr,h]
 cases h3:sub rs with
 | mk o r=>rw[h3] at hs;simp only at hs;subst hs;simp only[h3]
set_option maxRecDepth 20000 in
theorem zct(sub:List Tok→Option Ex×List Tok)(n:Nat)(hn3:n≤3)(ts:List Tok)(hsuf:Suf sub)(hg:Fit ts)(hsub:∀ts',ts' <:+ ts→ts'.length<ts.length→Reads 90 sub ts')(w:World)(r:Nat)(h:RdAt en w r ts)(henv:TEnv w)(hr:12≤r) :
  Calls Tryz.prog 263 #[.pointer (some ⟨r,0,none⟩),.int .i64 (n:Int)] w fun e w'=>∃v ok xs,e=.returned (.tuple #[v,.bool ok])∧Aside (zaq w' (w.heap.size≤·) v xs)∧Aside (RdAt en w' r (uBr sub n [] ts).2)∧Aside (But r w w')∧Hid ((uBr sub n [] ts).1=if ok=true then some xs else none):=by
 have HR:Aside (RdAt en w r ts):=h
 have HE:Aside (TEnv w):=henv
 have HG:Aside (Fit ts):=hg
 have HC:Aside (∀ts',ts' <:+ ts→ts'.length<ts.length→Reads 90 sub ts'):=hsub
 have hl:=h.lt
 clear h henv hg hsub
 go_enter Tryz.func263,Tryz.ntmps263
 obtain⟨i0,hi,hz0,hz1,hzz⟩:=info_parts zqX
 go_wp2
 go_loopg [6,7,8,9,10,11,12,16] n (fun gg s6 _ _ _ _ _ _ s16 wr=>∃(kk:Nat) (acc:List Ex) (ts':List Tok) (q:Option Addr) (c:Nat),kk≤n∧n-kk≤gg∧s16=.int .i64 kk∧acc.length≤kk∧kk≤acc.length∧s6=.slice q acc.length c∧Aside (zax wr w.heap.size (.slice q acc.length c) acc)∧Aside (RdAt en wr r ts')∧Aside (But r w wr)∧Hid (ts' <:+ ts∧uBr sub n [] ts=uBr sub (n-kk) acc ts'))
 case atStart=>exact⟨0,[],ts,none,0,Nat.zero_le _,by omega,rfl,Nat.le_refl _,Nat.le_refl _,rfl,(show Aside _ from zdB _ _),HR,(show Aside _ from But.refl _ _),(show Hid _ from ⟨List.suffix_rfl,rfl⟩)⟩
 case round =>
  obtain⟨kk,acc,ts',q,c,hkk,hg,rfl,ha1,ha2,rfl,AO,RD,BW,HU⟩:=hrel
  have hzr:=BW.out.size
  by_cases hlt:kk<n
  ·have hltz:(kk:Int)<(n:Int):=by omega
   obtain⟨k1,hk1⟩:∃k1,n-kk=k1+1:=⟨n-kk-1,by omega⟩
   by_cases hk0:0<kk
   ·have hkz:(0:Int)<(kk:Int):=by omega
    have cO:=zaw wr.heap.size 1 r [[44]] (wr.alloc (.cells #[.string ⟨#[44]⟩] 9)) (by decide) (zau _ _ rfl _ _ _ (fun j hj=>match j,hj with
     | 0,_=>rfl)) (by omega) (by simp;omega)
    have hif:(if acc.length=0 then [40] else [44]:List UInt8)=[44]:=if_neg (by omega)
    go_wp2_with fail
    refine cO.mono ?_
    rintro e w2 ⟨⟨p,rfl,hp⟩,b3⟩
    have B2:Below wr.heap.size wr w2:=(al _ _).trans (b3.mono (by simp))
    have hz2:wr.heap.size+1≤w2.heap.size:=by have:=b3.size;simpa using this
    have rd2:=RD.out.on B2
    have BB2:=BW.out.on B2 hl
    have AO2:=AO.out.on B2
    clear b3 cO
    cases hn:nxT (sgT [[44]]) ts' with
    | none =>
     have cT:=zam [[44]] p w2 r ts' rd2 hp.sign hn
     have hU:uBr sub n [] ts=(none,ts'):=by rw[HU.out.2,hk1];exact zle (by rw[hif];exact hn)
     rw[noTok] at cT
     clear hn
     go_wp2_with fail
     refine cT.mono ?_
     rintro e w3 ⟨rfl,rd3,b3⟩
     go_wp2
     go_ret2
     refine⟨_,false,[],rfl,zba _ _,?_,?_,?_⟩
     ·rw[hU];exact rd3.on (al _ _)
     ·exact (BB2.trans b3).on (al _ _) hl
     ·rw[hU];exact rfl
    | some y =>
     obtain⟨tt,rs⟩:=y
     have cT:=zan [[44]] p w2 r tt ts' rs rd2 hp.sign hn
     have hsf:rs <:+ ts∧rs.length<ts.length:=by
      have h1:=(zal hn).1
      have h2:=HU.out.1
      rw[h1] at h2
      have h3:=h2.length_le
      simp only[List.length_cons] at h3
      exact⟨(List.suffix_cons tt rs).trans h2,by omega⟩
     have cP:=HC.out rs hsf.1 hsf.2
     have HN:Hid (nxT (sgT [if acc.length=0 then [40] else [44]]) ts'=some (tt,rs)):=by show _=_;rw[hif];exact hn
     obtain⟨tk,tx,ta⟩:=tt
     rw[tokV] at cT
     simp only at cT
     clear hn hif
     go_wp2_with fail
     refine cT.mono ?_
     rintro e w3 ⟨rfl,rd3,b3⟩
     have hz3:=b3.size
     have bb:=al w3 (.cells #[.int .i64 tk,.string tx,.int .i64 (ta:Int)] 78)
     have BB3:=(BB2.trans b3).on bb hl
     have AO3:=(AO2.but b3 (by omega)).on bb
     go_wp2_with fail
     refine (cP _ r (rd3.on bb) (HE.out.but BB3 hr) hr).mono ?_
     rintro e w4 ⟨v,ok,x,rfl,hx,hrd,hbt,hres⟩
     obtain⟨u0,u1,u2,u3,u4,u5,u6,u7,u8,rfl⟩:=hx.out.agg
     have hz4:w3.heap.size+1≤w4.heap.size:=by have:=hbt.out.size;simpa using this
     have BB4:=BB3.trans hbt.out
     have AO4:=AO3.but hbt.out (by omega)
     have hob:∀j,(Value.slice q acc.length c).ownBlock=some j→w.heap.size≤j∧j<w3.heap.size+1:=fun j hj=>by
      obtain⟨cs3,o3,_⟩:=AO3
      have:=o3.lt j hj
      simpa using this
     clear cT cP AO2 AO3 BB2 BB3
     cases ok
     ·have hU:uBr sub n [] ts=(none,(sub rs).2):=by rw[HU.out.2,hk1];exact zny HN.out hres.out
      go_wp2
      go_ret2
      refine⟨_,false,[],rfl,zba _ _,?_,?_,?_⟩
      ·rw[hU];exact hrd.out.on (al _ _)
      ·exact BB4.on (al _ _) hl
      ·rw[hU];exact rfl
     ·have hU:uBr sub n [] ts=uBr sub k1 (acc++[x]) (sub rs).2:=by rw[HU.out.2,hk1];exact zlf HN.out hres.out
      have hsf2:(sub rs).2 <:+ ts:=(hsuf rs).trans hsf.1
      have HU2:Hid ((sub rs).2 <:+ ts∧uBr sub n [] ts=uBr sub (n-(kk+1)) (acc++[x]) (sub rs).2):=⟨hsf2,by rw[hU,show n-(kk+1)=k1 by omega]⟩
      have b5:=(al w4 (.cells #[.string u0,.string u1,.int .i64 u2,.int .i64 u3,.string u4,.slice u5 u6 u7,.int .i64 u8] 31)).trans ((al _ (.cells #[.string u0,.string u1,.int .i64 u2,.int .i64 u3,.string u4,.slice u5 u6 u7,.int .i64 u8] 31)).mono (by simp))
      obtain⟨cs,ao1,ao2⟩:=AO4.on b5
      have hx2:=ExIn.low (lo':=fun b=>w.heap.size≤b∧some b≠(Value.slice q acc.length c).ownBlock) (fun b _ hb=>⟨by simp at hb;omega,fun e=>by have:=hob b e.symm;simp at hb;omega⟩) _ _ (hx.out.on b5)
      clear hU hsf2 hres HN
      go_wp2_with (at_builtin;refine zad rfl _ _ 29 rfl w.heap.size 31 i0 (.agg #[.string ⟨#[]⟩,.string ⟨#[]⟩,.int .i64 0,.int .i64 0,.string ⟨#[]⟩,.slice none 0 0,.int .i64 0]) 7 96 Tryz.underlying29 hi hz0 hz1 hzz rfl (by decide) _ _ _ rfl ao1 ⟨w4.heap.size+1,0,none⟩ 1 1 [.string u0,.string u1,.int .i64 u2,.int .i64 u3,.string u4,.slice u5 u6 u7,.int .i64 u8] rfl rfl ?c1 ?c2 (by decide) ?c3 ?c4 ?c5 ?_)
      case c1 =>
       intro i u hu
       rw[Go.WideShapes.add_plain,World.cell?_alloc_at _ _ _ _ (by simp)]
       simpa using hu
      case c2 =>
       intro u hu
       simp at hu
       rcases hu with rfl|rfl|rfl|rfl|rfl|rfl|rfl<;>rfl
      case c3=>unfold maxLen;omega
      case c4=>omega
      case c5=>have:=BB4.size;simp;omega
      ·intro v' w5 hown' hgrow hfr
       have AO5:=zax.push ao1 ao2 hx2 hown' hgrow (hfr.imp id (fun h=>by rw[h];simp))
       have W5:=BB4.on b5 hl
       have rd5:=(hrd.out.on b5).onB ((Below.refl (r+1) _).grown hgrow (by simp;omega) (fun j hj=>by have:=(hob j hj).1;omega)) hgrow.size
       have BB5:But r w w5:=⟨W5.below.grown hgrow (by simp;omega) (fun j hj=>by have:=(hob j hj).1;omega),Nat.le_trans W5.size hgrow.size,fun j hj hjr=>by rw[hgrow.block j (by have:=W5.size;omega) (fun e=>by have:=(hob j e.symm).1;omega)];exact W5.kept j hj hjr⟩
       obtain⟨cs5,o5,_⟩:=id AO5
       obtain⟨q5,c5,rfl⟩:=zaa o5
       clear o5 hown' hgrow hfr
       go_wp2
       go_roundg (n-(kk+1))
       case measure=>omega
       case rel=>exact⟨kk+1,acc++[x],(sub rs).2,q5,c5,by omega,by omega,by go_num,by rw[List.length_append,List.length_singleton];omega,by rw[List.length_append,List.length_singleton];omega,rfl,(show Aside _ from AO5),(show Aside _ from rd5),(show Aside _ from BB5),HU2⟩
   ·have hkz:¬(0:Int)<(kk:Int):=by omega
    have cO:=zaw wr.heap.size 1 r [[40]] (wr.alloc (.cells #[.string ⟨#[40]⟩] 9)) (by decide) (zau _ _ rfl _ _ _ (fun j hj=>match j,hj with
     | 0,_=>rfl)) (by omega) (by simp;omega)
    have hif:(if acc.length=0 then [40] else [44]:List UInt8)=[40]:=if_pos (by omega)
    go_wp2_with fail
    refine cO.mono ?_
    rintro e w2 ⟨⟨p,rfl,hp⟩,b3⟩
    have B2:Below wr.heap.size wr w2:=(al _ _).trans (b3.mono (by simp))
    have hz2:wr.heap.size+1≤w2.heap.size:=by have:=b3.size;simpa using this
    have rd2:=RD.out.on B2
    have BB2:=BW.out.on B2 hl
    have AO2:=AO.out.on B2
    clear b3 cO
    cases hn:nxT (sgT [[40]]) ts' with
    | none =>
     have cT:=zam [[40]] p w2 r ts' rd2 hp.sign hn
     have hU:uBr sub n [] ts=(none,ts'):=by rw[HU.out.2,hk1];exact zle (by rw[hif];exact hn)
     rw[noTok] at cT
     clear hn
     go_wp2_with fail
     refine cT.mono ?_
     rintro e w3 ⟨rfl,rd3,b3⟩
     go_wp2
     go_ret2
     refine⟨_,false,[],rfl,zba _ _,?_,?_,?_⟩
     ·rw[hU];exact rd3.on (al _ _)
     ·exact (BB2.trans b3).on (al _ _) hl
     ·rw[hU];exact rfl
    | some y =>
     obtain⟨tt,rs⟩:=y
     have cT:=zan [[40]] p w2 r tt ts' rs rd2 hp.sign hn
     have hsf:rs <:+ ts∧rs.length<ts.length:=by
      have h1:=(zal hn).1
      have h2:=HU.out.1
      rw[h1] at h2
      have h3:=h2.length_le
      simp only[List.length_cons] at h3
      exact⟨(List.suffix_cons tt rs).trans h2,by omega⟩
     have cP:=HC.out rs hsf.1 hsf.2
     have HN:Hid (nxT (sgT [if acc.length=0 then [40] else [44]]) ts'=some (tt,rs)):=by show _=_;rw[hif];exact hn
     obtain⟨tk,tx,ta⟩:=tt
     rw[tokV] at cT
     simp only at cT
     clear hn hif
     go_wp2_with fail
     refine cT.mono ?_
     rintro e w3 ⟨rfl,rd3,b3⟩
     have hz3:=b3.size
     have bb:=al w3 (.cells #[.int .i64 tk,.string tx,.int .i64 (ta:Int)] 78)
     have BB3:=(BB2.trans b3).on bb hl
     have AO3:=(AO2.but b3 (by omega)).on bb
     go_wp2_with fail
     refine (cP _ r (rd3.on bb) (HE.out.but BB3 hr) hr).mono ?_
     rintro e w4 ⟨v,ok,x,rfl,hx,hrd,hbt,hres⟩
     obtain⟨u0,u1,u2,u3,u4,u5,u6,u7,u8,rfl⟩:=hx.out.agg
     have hz4:w3.heap.size+1≤w4.heap.size:=by have:=hbt.out.size;simpa using this
     have BB4:=BB3.trans hbt.out
     have AO4:=AO3.but hbt.out (by omega)
     have hob:∀j,(Value.slice q acc.length c).ownBlock=some j→w.heap.size≤j∧j<w3.heap.size+1:=fun j hj=>by
      obtain⟨cs3,o3,_⟩:=AO3
      have:=o3.lt j hj
      simpa using this
     clear cT cP AO2 AO3 BB2 BB3
     cases ok
     ·have hU:uBr sub n [] ts=(none,(sub rs).2):=by rw[HU.out.2,hk1];exact zny HN.out hres.out
      go_wp2
      go_ret2
      refine⟨_,false,[],rfl,zba _ _,?_,?_,?_⟩
      ·rw[hU];exact hrd.out.on (al _ _)
      ·exact BB4.on (al _ _) hl
      ·rw[hU];exact rfl
     ·have hU:uBr sub n [] ts=uBr sub k1 (acc++[x]) (sub rs).2:=by rw[HU.out.2,hk1];exact zlf HN.out hres.out
      have hsf2:(sub rs).2 <:+ ts:=(hsuf rs).trans hsf.1
      have HU2:Hid ((sub rs).2 <:+ ts∧uBr sub n [] ts=uBr sub (n-(kk+1)) (acc++[x]) (sub rs).2):=⟨hsf2,by rw[hU,show n-(kk+1)=k1 by omega]⟩
      have b5:=(al w4 (.cells #[.string u0,.string u1,.int .i64 u2,.int .i64 u3,.string u4,.slice u5 u6 u7,.int .i64 u8] 31)).trans ((al _ (.cells #[.string u0,.string u1,.int .i64 u2,.int .i64 u3,.string u4,.slice u5 u6 u7,.int .i64 u8] 31)).mono (by simp))
      obtain⟨cs,ao1,ao2⟩:=AO4.on b5
      have hx2:=ExIn.low (lo':=fun b=>w.heap.size≤b∧some b≠(Value.slice q acc.length c).ownBlock) (fun b _ hb=>⟨by simp at hb;omega,fun e=>by have:=hob b e.symm;simp at hb;omega⟩) _ _ (hx.out.on b5)
      clear hU hsf2 hres HN
      go_wp2_with (at_builtin;refine zad rfl _ _ 29 rfl w.heap.size 31 i0 (.agg #[.string ⟨#[]⟩,.string ⟨#[]⟩,.int .i64 0,.int .i64 0,.string ⟨#[]⟩,.slice none 0 0,.int .i64 0]) 7 96 Tryz.underlying29 hi hz0 hz1 hzz rfl (by decide) _ _ _ rfl ao1 ⟨w4.heap.size+1,0,none⟩ 1 1 [.string u0,.string u1,.int .i64 u2,.int .i64 u3,.string u4,.slice u5 u6 u7,.int .i64 u8] rfl rfl ?c1 ?c2 (by decide) ?c3 ?c4 ?c5 ?_)
      case c1 =>
       intro i u hu
       rw[Go.WideShapes.add_plain,World.cell?_alloc_at _ _ _ _ (by simp)]
       simpa using hu
      case c2 =>
       intro u hu
       simp at hu
       rcases hu with rfl|rfl|rfl|rfl|rfl|rfl|rfl<;>rfl
      case c3=>unfold maxLen;omega
      case c4=>omega
      case c5=>have:=BB4.size;simp;omega
      ·intro v' w5 hown' hgrow hfr
       have AO5:=zax.push ao1 ao2 hx2 hown' hgrow (hfr.imp id (fun h=>by rw[h];simp))
       have W5:=BB4.on b5 hl
       have rd5:=(hrd.out.on b5).onB ((Below.refl (r+1) _).grown hgrow (by simp;omega) (fun j hj=>by have:=(hob j hj).1;omega)) hgrow.size
       have BB5:But r w w5:=⟨W5.below.grown hgrow (by simp;omega) (fun j hj=>by have:=(hob j hj).1;omega),Nat.le_trans W5.size hgrow.size,fun j hj hjr=>by rw[hgrow.block j (by have:=W5.size;omega) (fun e=>by have:=(hob j e.symm).1;omega)];exact W5.kept j hj hjr⟩
       obtain⟨cs5,o5,_⟩:=id AO5
       obtain⟨q5,c5,rfl⟩:=zaa o5
       clear o5 hown' hgrow hfr
       go_wp2
       go_roundg (n-(kk+1))
       case measure=>omega
       case rel=>exact⟨kk+1,acc++[x],(sub rs).2,q5,c5,by omega,by omega,by go_num,by rw[List.length_append,List.length_singleton];omega,by rw[List.length_append,List.length_singleton];omega,rfl,(show Aside _ from AO5),(show Aside _ from rd5),(show Aside _ from BB5),HU2⟩
  ·have hltz:¬(kk:Int)<(n:Int):=by omega
   have hU0:uBr sub n [] ts=uBr sub 0 acc ts':=by rw[HU.out.2,show n-kk=0 by omega]
   have cO:=zaw wr.heap.size 1 r [[41]] (wr.alloc (.cells #[.string ⟨#[41]⟩] 9)) (by decide) (zau _ _ rfl _ _ _ (fun j hj=>match j,hj with
    | 0,_=>rfl)) (by omega) (by simp;omega)
   go_wp2_with fail
   refine cO.mono ?_
   rintro e w2 ⟨⟨p,rfl,hp⟩,b3⟩
   have B2:Below wr.heap.size wr w2:=(al _ _).trans (b3.mono (by simp))
   have rd2:=RD.out.on B2
   have BB2:=BW.out.on B2 hl
   have AO2:=AO.out.on B2
   clear b3 cO
   cases hn:nxT (sgT [[41]]) ts' with
   | none =>
    have cT:=zam [[41]] p w2 r ts' rd2 hp.sign hn
    have hU:uBr sub n [] ts=(none,ts'):=by rw[hU0,uBr,hn]
    rw[noTok] at cT
    clear hn
    go_wp2_with fail
    refine cT.mono ?_
    rintro e w3 ⟨rfl,rd3,b3⟩
    go_wp2
    go_ret2
    refine⟨_,false,acc,rfl,(show Aside _ from ((AO2.but b3 (by omega)).on (al _ _)).is),?_,?_,?_⟩
    ·rw[hU];exact rd3.on (al _ _)
    ·exact (BB2.trans b3).on (al _ _) hl
    ·rw[hU];exact rfl
   | some y =>
    obtain⟨tt,rs⟩:=y
    have cT:=zan [[41]] p w2 r tt ts' rs rd2 hp.sign hn
    have hU:uBr sub n [] ts=(some acc,rs):=by rw[hU0,uBr,hn]
    obtain⟨tk,tx,ta⟩:=tt
    rw[tokV] at cT
    simp only at cT
    clear hn
    go_wp2_with fail
    refine cT.mono ?_
    rintro e w3 ⟨rfl,rd3,b3⟩
    go_wp2
    go_ret2
    refine⟨_,true,acc,rfl,(show Aside _ from ((AO2.but b3 (by omega)).on (al _ _)).is),?_,?_,?_⟩
    ·rw[hU];exact rd3.on (al _ _)
    ·exact (BB2.trans b3).on (al _ _) hl
    ·rw[hU];exact rfl
end
abbrev lenIf:List (List UInt8):=[[108,101,110],[105,102]]
def manyT(t:Tok):Nat:=if t.2.1.data.toList=[108,101,110] then 1 else 3
theorem zmI{sub:List Tok→Option Ex×List Tok}{ts rs:List Tok}{t:Tok}(h:nxT (sgT lenIf) ts=some (t,rs)):uOne sub ts=((uBr sub (manyT t) [] rs).1.map fun l=>.node t.2.1 ⟨#[]⟩ 0 0 ⟨#[]⟩ (t.2.2:Int) l,(uBr sub (manyT t) [] rs).2):=by
 rw[uOne,h,manyT]
 simp only
 cases uBr sub (if t.2.1.data.toList=[108,101,110] then 1 else 3) [] rs with
 | mk o r=>cases o<;>rfl
theorem zpH{sub:List Tok→Option Ex×List Tok}{ts rs:List Tok}{t:Tok}(h:nxT (sgT lenIf) ts=none)(h2:nxT vlT ts=some (t,rs)):uOne sub ts=(some (valE t),rs):=by
 rw[uOne,h];simp only[h2]
theorem zpF{sub:List Tok→Option Ex×List Tok}{ts rs:List Tok}{t:Tok}(h:nxT (sgT lenIf) ts=none)(h2:nxT vlT ts=none)(h3:nxT nmT ts=some (t,rs)):uOne sub ts=(some (colE1 t),rs):=by
 rw[uOne,h];simp only[h2,h3]
theorem zsw{sub:List Tok→Option Ex×List Tok}{ts:List Tok}(h:nxT (sgT lenIf) ts=none)(h2:nxT vlT ts=none)(h3:nxT nmT ts=none):uOne sub ts=((uBr sub 1 [] ts).1.bind List.head?,(uBr sub 1 [] ts).2):=by
 rw[uOne,h];simp only[h2,h3]
 cases uBr sub 1 [] ts with
 | mk o r=>cases o<;>rfl
theorem znz{sub:List Tok→Option Ex×List Tok}:∀(k:Nat) (acc:List Ex) (ts:List Tok) (l:List Ex),(uBr sub k acc ts).1=some l→l.length=acc.length+k
 | 0,acc,ts,l,h=>by
  rw[uBr] at h
  cases hn:nxT (sgT [[41]]) ts with
  | none=>rw[hn] at h;exact absurd h (by simp)
  | some q =>
   obtain⟨t,r⟩:=q
   rw[hn] at h
   simp only[Option.some.injEq] at h
   subst h;rfl
 | k+1,acc,ts,l,h=>by
  rw[uBr] at h
  cases hn:nxT (sgT [if acc.length=0 then [40] else [44]]) ts with
  | none=>rw[hn] at h;exact absurd h (by simp)
  | some q =>
   obtain⟨t,r⟩:=q
   rw[hn] at h
   simp only at h
   cases h3:sub r with
   | mk o r2 =>
    rw[h3] at h
    cases o with
    | none=>exact absurd h (by simp)
    | some e =>
     have:=znz k (acc++[e]) r2 l h
     rw[this,List.length_append,List.length_singleton];omega
theorem zoT{t:Tok}(h:sgT lenIf t=true):apL t.2.1.data.toList opsL=((manyT t:Int),true):=by
 rw[sgT,List.any_eq_true] at h
 obtain⟨g,hg,he⟩:=h
 have he:g=t.2.1.data.toList:=by simpa using he
 rw[manyT,←he]
 simp only[List.mem_cons,List.not_mem_nil,or_false] at hg
 rcases hg with rfl|rfl<;>decide
theorem zeu{w w':World}{B B':Nat}{e e':TypeId}{size size' n m:Nat}{u v:Value}{xs ys:List Value}(h:w.ownsRow B e size u n xs)(h':w.ownsRow B' e' size' v m ys)(hne:e≠e')(hg:w.grownBy w' v.ownBlock):w'.ownsRow B e size u n xs:=by
 refine⟨h.1,?_⟩
 rcases h.2 with hn|⟨g,cap,cur,rfl,h1,hgg,rest⟩
 ·exact .inl hn
 ·refine .inr ⟨g,cap,cur,rfl,h1,?_,rest⟩
  rw[hg.block g (Array.getElem?_eq_some_iff.1 hgg).1 (fun hb=>?_)]
  ·exact hgg
  ·rcases h'.2 with ⟨rfl,_⟩|⟨g',cap',cur',rfl,_,hgg',_⟩
   ·simp[Value.ownBlock] at hb
   ·have:g=g':=by simpa [Value.ownBlock] using hb
    subst this
    rw[hgg] at hgg'
    injection hgg' with hgg'
    injection hgg' with _ h2 _
    exact hne h2
theorem zmc:(Tryz.prog.info? 42).map (fun i=>(i.zero,i.size,i.bytes))=some (some (.slice none 0 0),1,24):=by kernel_rfl
theorem zcB{w:World}{ops:Array Oper}{rest:List Oper}{o:Oper}{a:Act}{Q:Exit→Act→World→Prop}(hgd:o.guard=none)(s x:Operand)
  (ho:o.op=.call { callee:=.builtin .append,args:=#[s,x],argTypes:=#[40,40] })
  (base:Nat)(v:Value)(n:Nat)(cs:List Value)(hs:a.eval s=v)(hown:w.ownsRow base 42 1 v n cs)
  (g c:Nat)(q:Option Addr)(m k:Nat)(hx:a.eval x=.slice (some ⟨g,0,none⟩) 1 c)(hc:∀j u,([.slice q m k]:List Value)[j]?=some u→w.cell? ((⟨g,0,none⟩:Addr).add j)=some u)
  (hsm:n≤1000000)(hbase:base≤w.heap.size)
  (h:∀q' c' w',w'.ownsRow base 42 1 (.slice q' (n+1) c') (n+1) (cs++[.slice q m k])→w.grownBy w' v.ownBlock→wpList Tryz.prog ops Q rest (a.put o.dst (.slice q' (n+1) c')) w'):wpList Tryz.prog ops Q (o::rest) a w:=by
 obtain⟨i0,hi,hz0,hz1,hzz⟩:=info_parts zmc
 refine wpList_append_own w hgd s x 40 ho base 42 i0 _ 1 24 Tryz.underlying40 hi hz0 hz1 hzz rfl (by decide) v n cs hs hown ⟨g,0,none⟩ 1 c [.slice q m k] hx rfl hc (by intro u hu;simp at hu;subst hu;rfl) (by unfold maxLen;omega) (by omega) hbase (fun v' w' o1 o2 _=>?_)
 obtain⟨q',c',rfl⟩:∃q' c',v'=.slice q' (n+1) c':=by
  rcases o1.2 with ⟨_,h0⟩|⟨g',cap,cur,e,_⟩
  ·omega
  ·exact⟨_,_,e⟩
 exact h q' c' w' o1 o2
end Go.Proofs.YtbdnccnfidjiaaaGreatDoor
