/-
  What the rows' lists of the package-level variables give, for package query: the library's tables and errors, the handle of the type error, the signs, the types' words, tree's words and operations, the rules and the aggregates; and a world that meets them.
-/
import Derived.Test.YtkbhmghdonomnaaGreatDoorGzAf
import Derived.Test.YtkbhmghdonomnaaGreatDoorGzAk
import Derived.Test.YtkbhmghdonomnaaGreatDoorGzAn
import Derived.LaidHandle
import Derived.LaidSub
namespace Go.Proofs.YtkbhmghdonomnaaGreatDoor
open Go.ChangeShapes Go.WideShapes Go.ChangeAt Go.RowKit Go.Joins
open Go.ChangeMaps (open_string shut_string)

namespace qyEnv
theorem et : Tryz.prog.globalNamed "errors.errorType" = some 5 := by kernel_rfl
theorem rt : (Tryz.prog.cutTypes.find? (·.1 == "internal/reflectlite.rtype")).map (·.2) = some 133 := by kernel_rfl
theorem oneRow : ((List.range 304).filter fun t => Tryz.prog.rowNamed t [101, 114, 114, 111, 114]) = [38] := by kernel_rfl
theorem size : Tryz.prog.types.size = 304 := by kernel_rfl
/-- What the row's list gives: the handle's one cell. -/
theorem handleQueryBack {W : World} (h : laidMetH Tryz.prog Rows.queryBackUptoRow.laid W) : W.cell? ⟨5, 0, none⟩ = some (.iface 133 (.agg #[.pointer (some ⟨15, 38, none⟩)])) := by
  have h2 := (laidMetH_iff.1 h).2
  obtain ⟨name, u, ty, e1, e2, e3, e4, e5⟩ := h2 _ (List.mem_singleton.2 rfl)
  have en : name = [101, 114, 114, 111, 114] := (Option.some.inj e1).symm
  subst en
  obtain rfl := Option.some.inj (rt.symm.trans e2)
  have hm : ty ∈ (List.range 304).filter fun t => Tryz.prog.rowNamed t [101, 114, 114, 111, 114] := List.mem_filter.2 ⟨List.mem_range.2 (by rw [← size]; exact e3), e4⟩
  rw [oneRow] at hm
  obtain rfl := List.mem_singleton.1 hm
  have hh : typeHandle Tryz.prog 38 = .pointer (some ⟨15, 38, none⟩) := by kernel_rfl
  rw [hh] at e5
  simpa using World.var?_cell et e5 0
theorem g_rul : Tryz.prog.globalNamed "sluicebook/kind.rules" = some 9 := by kernel_rfl
theorem t_rul : (Tryz.prog.globals[9]?).map (·.type) = some 255 := by kernel_rfl
theorem g_ags : Tryz.prog.globalNamed "sluicebook/query.aggs" = some 3 := by kernel_rfl
theorem t_ags : (Tryz.prog.globals[3]?).map (·.type) = some 187 := by kernel_rfl
set_option maxRecDepth 100000 in
theorem rul_of {W : World} {rest : List (String × DataW Unit)} (h : laidMet Tryz.prog (("sluicebook/kind.rules", Rows.laid_sluicebook_kind_rules) :: rest) W) : REnv W :=
  var_of rulesC h g_rul t_rul Tryz.underlying255 (by kernel_rfl) (by kernel_rfl)
set_option maxRecDepth 100000 in
theorem ags_of {W : World} {rest : List (String × DataW Unit)} (h : laidMet Tryz.prog (("sluicebook/query.aggs", Rows.laid_sluicebook_query_aggs) :: rest) W) : ∃ t fr, W.heap[3]? = some (.cells aggsC t fr) :=
  var_of aggsC h g_ags t_ags Tryz.underlying187 (by kernel_rfl) (by kernel_rfl)
theorem big_of {W : World} (hsh : W.ShapedOpen Tryz.prog) : 15 ≤ W.heap.size := by
  obtain ⟨o, o0, h, _⟩ := hsh.2 15 (Nat.le_of_eq (by kernel_rfl)) (of_decide_eq_true (by kernel_rfl))
  exact Nat.le_of_lt (Array.getElem?_eq_some_iff.1 h).1
open treeEnv in
/-- What package query asks of the variables. -/
theorem env {W : World} {r1 r2 : List (String × DataW Unit)} (h2 : laidMet Tryz.prog (("internal/strconv.uint64pow10", Rows.laid_internal_strconv_uint64pow10) :: r1) W) (h4 : laidMet Tryz.prog (("strconv.ErrRange", Rows.laid_strconv_ErrRange) :: ("strconv.ErrSyntax", Rows.laid_strconv_ErrSyntax) :: ("sluicebook/lex.signs", Rows.laid_sluicebook_lex_signs) :: ("sluicebook/row.typeWords", Rows.laid_sluicebook_row_typeWords) :: ("sluicebook/tree.words", Rows.laid_sluicebook_tree_words) :: ("sluicebook/tree.operations", Rows.laid_sluicebook_tree_operations) :: ("sluicebook/kind.rules", Rows.laid_sluicebook_kind_rules) :: ("sluicebook/query.aggs", Rows.laid_sluicebook_query_aggs) :: r2) W)
    (het : W.cell? ⟨5, 0, none⟩ = some (.iface 133 (.agg #[.pointer (some ⟨15, 38, none⟩)]))) (hsh : W.ShapedOpen Tryz.prog) : KEnv W ∧ AEnv W ∧ SG W := by
  have h5 : laidMet Tryz.prog (("strconv.ErrSyntax", Rows.laid_strconv_ErrSyntax) :: _) W := h4.tail
  have h6 : laidMet Tryz.prog (("sluicebook/lex.signs", Rows.laid_sluicebook_lex_signs) :: _) W := h5.tail
  have h7 : laidMet Tryz.prog (("sluicebook/row.typeWords", Rows.laid_sluicebook_row_typeWords) :: _) W := h6.tail
  have h8 : laidMet Tryz.prog (("sluicebook/tree.words", Rows.laid_sluicebook_tree_words) :: _) W := h7.tail
  have h9 : laidMet Tryz.prog (("sluicebook/tree.operations", Rows.laid_sluicebook_tree_operations) :: _) W := h8.tail
  have h10 : laidMet Tryz.prog (("sluicebook/kind.rules", Rows.laid_sluicebook_kind_rules) :: _) W := h9.tail
  have h11 : laidMet Tryz.prog (("sluicebook/query.aggs", Rows.laid_sluicebook_query_aggs) :: _) W := h10.tail
  obtain ⟨a0, s0, hv0, _⟩ := laid_sentinel h4 g_ran tRan Tryz.underlying38 rowES Tryz.underlying258 Tryz.underlying260 rfl rfl Tryz.underlying9 cellsES cellsS
  obtain ⟨a1, s1, hv1, _⟩ := laid_sentinel h5 g_syn tSyn Tryz.underlying38 rowES Tryz.underlying258 Tryz.underlying260 rfl rfl Tryz.underlying9 cellsES cellsS
  have htab : Lib.TabIs Tryz.prog W "internal/strconv.uint64pow10" .u64 Lib.pow10Tab := Lib.tabIs_of_head g_tab tTab Tryz.underlying246 Tryz.underlying214 cellsU cellsT h2
  have hmx : ∃ m : Int, W.cell? ⟨12, 0, none⟩ = some (.int .i64 m) := cell_of_shapedOpen_int (zero := #[.int .i64 0]) (t := 3) hsh (of_decide_eq_true (by kernel_rfl)) (by kernel_rfl) rfl (by kernel_rfl) (by kernel_rfl) Tryz.underlying3
  have hbig := big_of hsh
  have hT : TEnv W := ⟨⟨htab, ⟨_, _, hv1⟩, ⟨_, _, hv0⟩, hmx, by omega, by omega, by omega, by omega⟩, hbig, ops_of h9, wds_of h8⟩
  exact ⟨⟨hT, tw_of h7, het, rul_of h10⟩, ⟨hbig, ags_of h11⟩, sg_of h6⟩
/-- A world with the variables' cells laid; the two errors' texts lie in the blocks b and b + 1. -/
def lay (w : World) (b : Nat) : World :=
  treeEnv.layAt (treeEnv.layAt (treeEnv.layAt (treeEnv.layAt (treeEnv.lay w b) 1 (treeEnv.flat 5 Rows.laid_sluicebook_row_typeWords)) 9 (treeEnv.flat 5 Rows.laid_sluicebook_kind_rules)) 3 (treeEnv.flat 5 Rows.laid_sluicebook_query_aggs)) 5 [.iface 133 (.agg #[.pointer (some ⟨15, 38, none⟩)])]
end qyEnv
end Go.Proofs.YtkbhmghdonomnaaGreatDoor
