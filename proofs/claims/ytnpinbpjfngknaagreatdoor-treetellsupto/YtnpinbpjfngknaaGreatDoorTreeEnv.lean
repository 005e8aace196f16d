/-
  What the rows' lists of the package-level variables give, for package tree: the library's tables and errors, the signs, the words and the operations; and a world that meets them.
-/
import Derived.Test.YtnpinbpjfngknaaGreatDoorCards
import Derived.Test.YtnpinbpjfngknaaGreatDoorTie
import Derived.Test.YtnpinbpjfngknaaGreatDoorLoL
import Derived.Test.YtnpinbpjfngknaaGreatDoorLo3
import Derived.Test.YtnpinbpjfngknaaGreatDoorVarOf
import Derived.ProofKit
import Derived.OpenShut
import Derived.SizedLaws
import Derived.Stop.LaidErr
import Derived.Stop.Joined
import Derived.MakeChecks
import Derived.Lib.SmallJoins
import Derived.Deep.DeepHandedRow
namespace Go.Proofs.YtnpinbpjfngknaaGreatDoor
open Go.ChangeShapes Go.WideShapes Go.ChangeAt Go.RowKit Go.Joins
open Go.ChangeMaps (open_string shut_string)

namespace treeEnv
theorem own : ownKnob Tryz.prog.godebug = none := by kernel_rfl
theorem tSyn : (Tryz.prog.globals[4]?).map (·.type) = some 38 := by kernel_rfl
theorem tRan : (Tryz.prog.globals[5]?).map (·.type) = some 38 := by kernel_rfl
theorem tTab : (Tryz.prog.globals[6]?).map (·.type) = some 194 := by kernel_rfl
theorem g_sg : Tryz.prog.globalNamed "sluicebook/lex.signs" = some 2 := by kernel_rfl
theorem t_sg : (Tryz.prog.globals[2]?).map (·.type) = some 137 := by kernel_rfl
theorem cellsES : Tryz.prog.cellsOf 206 = 1 := by kernel_rfl
theorem cellsS : Tryz.prog.cellsOf 9 = 1 := by kernel_rfl
theorem cellsSG : Tryz.prog.cellsOf 137 = 14 := by kernel_rfl
theorem cellsU : Tryz.prog.cellsOf 106 = 1 := by kernel_rfl
theorem cellsT : Tryz.prog.cellsOf 194 = 20 := by kernel_rfl
theorem star : "*" ++ "errors.errorString" = "*errors.errorString" := by decide
theorem rowES (u : TypeId) (h : Tryz.prog.typeName? 3 u = some "*errors.errorString") : u = 204 :=
  typeName_ptr_named (nm := "errors.errorString") (by rw [star]; kernel_rfl) (by kernel_rfl) (by decide) u (by rw [star]; exact h)
theorem var_lt {P : Program} {W : World} {n : String} {cs : Array Value} {g : Nat} (h : W.var? P n = some cs) (hg : P.globalNamed n = some g) : g < W.heap.size := by
  unfold World.var? at h
  simp only [hg, Option.bind_some] at h
  rcases Nat.lt_or_ge g W.heap.size with h' | h'
  · exact h'
  · simp [Array.getElem?_eq_none h'] at h
theorem sg_open {W : World} {m : Nat} {x : Value} {l : List UInt8} {ps : List MemPlace} (h : DataW.trod (fun _ => ()) Tryz.prog W 0 (fun _ => true) false m 9 [x] = some (.lit (.string l), ps)) : x = .string ⟨l.toArray⟩ := by
  obtain ⟨s, e1, r1, _⟩ := DataW.trod_string Tryz.underlying9 h
  simp at e1 r1
  subst e1
  obtain ⟨rfl, _⟩ := r1
  simp
set_option maxRecDepth 100000 in
set_option maxHeartbeats 4000000 in
theorem sg_of {W : World} {rest : List (String × DataW Unit)} (h : laidMet Tryz.prog (("sluicebook/lex.signs", Rows.laid_sluicebook_lex_signs) :: rest) W) : SG W := by
  obtain ⟨ps, ⟨g', t', cs, fuel, p, q, hg', ht', hvar, hd, _, _⟩, _⟩ := h
  obtain rfl := Option.some.inj (g_sg.symm.trans hg')
  obtain rfl := Option.some.inj (t_sg.symm.trans ht')
  obtain ⟨xs, m, _, hx, hl, hlen, hel⟩ := DataW.trod_array Tryz.underlying137 hd
  rw [cellsSG] at hl
  rw [cellsS] at hel
  have hcs : ∃ c0 c1 c2 c3 c4 c5 c6 c7 c8 c9 c10 c11 c12 c13, cs = #[c0, c1, c2, c3, c4, c5, c6, c7, c8, c9, c10, c11, c12, c13] := by
    obtain ⟨l⟩ := cs
    match l, hl with
    | [c0, c1, c2, c3, c4, c5, c6, c7, c8, c9, c10, c11, c12, c13], _ => exact ⟨_, _, _, _, _, _, _, _, _, _, _, _, _, _, rfl⟩
  obtain ⟨c0, c1, c2, c3, c4, c5, c6, c7, c8, c9, c10, c11, c12, c13, rfl⟩ := hcs
  match xs, hlen with
  | [x0, x1, x2, x3, x4, x5, x6, x7, x8, x9, x10, x11, x12, x13], _ =>
    obtain ⟨d0, q0⟩ := x0
    obtain ⟨d1, q1⟩ := x1
    obtain ⟨d2, q2⟩ := x2
    obtain ⟨d3, q3⟩ := x3
    obtain ⟨d4, q4⟩ := x4
    obtain ⟨d5, q5⟩ := x5
    obtain ⟨d6, q6⟩ := x6
    obtain ⟨d7, q7⟩ := x7
    obtain ⟨d8, q8⟩ := x8
    obtain ⟨d9, q9⟩ := x9
    obtain ⟨d10, q10⟩ := x10
    obtain ⟨d11, q11⟩ := x11
    obtain ⟨d12, q12⟩ := x12
    obtain ⟨d13, q13⟩ := x13
    have hx2 := congrArg Prod.fst hx
    simp [Rows.laid_sluicebook_lex_signs] at hx2
    obtain ⟨r0, r1, r2, r3, r4, r5, r6, r7, r8, r9, r10, r11, r12, r13⟩ := hx2
    subst r0 r1 r2 r3 r4 r5 r6 r7 r8 r9 r10 r11 r12 r13
    have e0 := sg_open (by simpa using hel 0 (by decide))
    have e1 := sg_open (by simpa using hel 1 (by decide))
    have e2 := sg_open (by simpa using hel 2 (by decide))
    have e3 := sg_open (by simpa using hel 3 (by decide))
    have e4 := sg_open (by simpa using hel 4 (by decide))
    have e5 := sg_open (by simpa using hel 5 (by decide))
    have e6 := sg_open (by simpa using hel 6 (by decide))
    have e7 := sg_open (by simpa using hel 7 (by decide))
    have e8 := sg_open (by simpa using hel 8 (by decide))
    have e9 := sg_open (by simpa using hel 9 (by decide))
    have e10 := sg_open (by simpa using hel 10 (by decide))
    have e11 := sg_open (by simpa using hel 11 (by decide))
    have e12 := sg_open (by simpa using hel 12 (by decide))
    have e13 := sg_open (by simpa using hel 13 (by decide))
    subst e0 e1 e2 e3 e4 e5 e6 e7 e8 e9 e10 e11 e12 e13
    have hc := fun i => World.var?_cell g_sg hvar i
    exact ⟨by simpa using hc 0, by simpa using hc 1, by simpa using hc 2, by simpa using hc 3, by simpa using hc 4, by simpa using hc 5, by simpa using hc 6, by simpa using hc 7, by simpa using hc 8, by simpa using hc 9, by simpa using hc 10, by simpa using hc 11, by simpa using hc 12, by simpa using hc 13, cell_lt4 (o := 0) (by simpa using hc 0)⟩
theorem g_ops : Tryz.prog.globalNamed "sluicebook/tree.operations" = some 1 := by kernel_rfl
theorem t_ops : (Tryz.prog.globals[1]?).map (·.type) = some 129 := by kernel_rfl
theorem g_wds : Tryz.prog.globalNamed "sluicebook/tree.words" = some 3 := by kernel_rfl
theorem t_wds : (Tryz.prog.globals[3]?).map (·.type) = some 157 := by kernel_rfl
set_option maxRecDepth 100000 in
theorem ops_of {W : World} {rest : List (String × DataW Unit)} (h : laidMet Tryz.prog (("sluicebook/tree.operations", Rows.laid_sluicebook_tree_operations) :: rest) W) : ∃ t fr, W.heap[1]? = some (.cells opsC t fr) :=
  var_of opsC h g_ops t_ops Tryz.underlying129 (by kernel_rfl) (by kernel_rfl)
set_option maxRecDepth 100000 in
theorem wds_of {W : World} {rest : List (String × DataW Unit)} (h : laidMet Tryz.prog (("sluicebook/tree.words", Rows.laid_sluicebook_tree_words) :: rest) W) : ∃ t fr, W.heap[3]? = some (.cells wordsC t fr) :=
  var_of wordsC h g_wds t_wds Tryz.underlying157 (by kernel_rfl) (by kernel_rfl)
theorem env {W : World} (hM : laidMet Tryz.prog (("math/bits.deBruijn32tab", Rows.laid_math_bits_deBruijn32tab) :: ("math/bits.deBruijn64tab", Rows.laid_math_bits_deBruijn64tab) :: ("internal/strconv.uint64pow10", Rows.laid_internal_strconv_uint64pow10) :: ("strconv.ErrRange", Rows.laid_strconv_ErrRange) :: ("strconv.ErrSyntax", Rows.laid_strconv_ErrSyntax) :: ("sluicebook/lex.signs", Rows.laid_sluicebook_lex_signs) :: ("sluicebook/tree.words", Rows.laid_sluicebook_tree_words) :: ("sluicebook/tree.operations", Rows.laid_sluicebook_tree_operations) :: []) W) (hsh : W.ShapedOpen Tryz.prog) : TEnv W ∧ SG W := by
  have h2 : laidMet Tryz.prog (("internal/strconv.uint64pow10", Rows.laid_internal_strconv_uint64pow10) :: _) W := hM.tail.tail
  have h4 : laidMet Tryz.prog (("strconv.ErrRange", Rows.laid_strconv_ErrRange) :: _) W := h2.tail
  have h5 : laidMet Tryz.prog (("strconv.ErrSyntax", Rows.laid_strconv_ErrSyntax) :: _) W := h4.tail
  have h6 : laidMet Tryz.prog (("sluicebook/lex.signs", Rows.laid_sluicebook_lex_signs) :: _) W := h5.tail
  have h7 : laidMet Tryz.prog (("sluicebook/tree.words", Rows.laid_sluicebook_tree_words) :: _) W := h6.tail
  have h8 : laidMet Tryz.prog (("sluicebook/tree.operations", Rows.laid_sluicebook_tree_operations) :: _) W := h7.tail
  obtain ⟨a0, s0, hv0, _⟩ := laid_sentinel h4 g_ran tRan Tryz.underlying38 rowES Tryz.underlying204 Tryz.underlying206 rfl rfl Tryz.underlying9 cellsES cellsS
  obtain ⟨a1, s1, hv1, _⟩ := laid_sentinel h5 g_syn tSyn Tryz.underlying38 rowES Tryz.underlying204 Tryz.underlying206 rfl rfl Tryz.underlying9 cellsES cellsS
  have htab : Lib.TabIs Tryz.prog W "internal/strconv.uint64pow10" .u64 Lib.pow10Tab := Lib.tabIs_of_head g_tab tTab Tryz.underlying194 Tryz.underlying106 cellsU cellsT h2
  have hmx : ∃ m : Int, W.cell? ⟨7, 0, none⟩ = some (.int .i64 m) := cell_of_shapedOpen_int (zero := #[.int .i64 0]) (t := 3) hsh (of_decide_eq_true (by kernel_rfl)) (by kernel_rfl) rfl (by kernel_rfl) (by kernel_rfl) Tryz.underlying3
  have h1 : laidMet Tryz.prog (("math/bits.deBruijn64tab", Rows.laid_math_bits_deBruijn64tab) :: _) W := hM.tail
  obtain ⟨_, ⟨g', t', cs, fuel, p, q, hg', ht', hvar, hd, _, _⟩, _⟩ := h1
  have hbig : 12 ≤ W.heap.size := var_lt hvar (g := 11) (by kernel_rfl)
  exact ⟨⟨⟨htab, ⟨_, _, hv1⟩, ⟨_, _, hv0⟩, hmx, by omega, by omega, by omega, by omega⟩, hbig, ops_of h8, wds_of h7⟩, sg_of h6⟩
/-- The cells of a datum of numbers and texts. -/
def flat : Nat → DataW Unit → List Value
  | 0, _ => []
  | _ + 1, .lit (.int k n) => [.int k n]
  | _ + 1, .lit (.string l) => [.string ⟨l.toArray⟩]
  | f + 1, .agg l => l.flatMap (flat f)
  | _ + 1, _ => []
def layAt (w : World) (g : Nat) (cs : List Value) : World :=
  { w with heap := w.heap.modify g fun
      | .cells _ t frozen => .cells cs.toArray t frozen
      | o => o }
/-- A world with the variables' cells laid; the two errors' texts lie in the blocks b and b + 1. -/
def lay (w : World) (b : Nat) : World :=
  layAt (layAt (layAt (layAt (layAt (layAt (layAt (layAt w 3 (flat 3 Rows.laid_sluicebook_tree_words)) 1 (flat 3 Rows.laid_sluicebook_tree_operations)) 10 (flat 3 Rows.laid_math_bits_deBruijn32tab)) 11 (flat 3 Rows.laid_math_bits_deBruijn64tab))
    6 (flat 3 Rows.laid_internal_strconv_uint64pow10))
    5 [.iface 204 (.pointer (some ⟨b, 0, none⟩))]) 4 [.iface 204 (.pointer (some ⟨b + 1, 0, none⟩))])
    2 (flat 3 Rows.laid_sluicebook_lex_signs)
end treeEnv
end Go.Proofs.YtnpinbpjfngknaaGreatDoor
