/-
  What the rows' lists of the package-level variables give, for package kind: the handle of the type error, the types' words, tree's words and operations, and the rules; and a world that meets them.
-/
import Derived.Test.YticdcnbeemkapaaGreatDoorCards
import Derived.Test.YticdcnbeemkapaaGreatDoorTie
import Derived.Test.YticdcnbeemkapaaGreatDoorGrAh
import Derived.LaidHandle
import Derived.LaidSub
import Derived.ProofKit
import Derived.OpenShut
import Derived.SizedLaws
import Derived.Stop.LaidErr
import Derived.Stop.Joined
import Derived.MakeChecks
import Derived.Lib.SmallJoins
import Derived.Deep.DeepHandedRow
namespace Go.Proofs.YticdcnbeemkapaaGreatDoor
open Go.ChangeShapes Go.WideShapes Go.ChangeAt Go.RowKit Go.Joins
open Go.ChangeMaps (open_string shut_string)

namespace kindEnv
/-- The row whose list is read; those of the other rows are the same. -/
abbrev kRow := Rows.batchFiltersUptoRow
theorem own : ownKnob Tryz.prog.godebug = none := by kernel_rfl
theorem var_lt {P : Program} {W : World} {n : String} {cs : Array Value} {g : Nat} (h : W.var? P n = some cs) (hg : P.globalNamed n = some g) : g < W.heap.size := by
  unfold World.var? at h
  simp only [hg, Option.bind_some] at h
  rcases Nat.lt_or_ge g W.heap.size with h' | h'
  · exact h'
  · simp [Array.getElem?_eq_none h'] at h
theorem et : Tryz.prog.globalNamed "errors.errorType" = some 0 := by kernel_rfl
theorem rt : (Tryz.prog.cutTypes.find? (·.1 == "internal/reflectlite.rtype")).map (·.2) = some 158 := by kernel_rfl
theorem oneRow : ((List.range 285).filter fun t => Tryz.prog.rowNamed t [101, 114, 114, 111, 114]) = [33] := by kernel_rfl
theorem size : Tryz.prog.types.size = 285 := by kernel_rfl
/-- What the row's list gives: the handle's one cell. -/
theorem handle {W : World} (h : laidMetH Tryz.prog kRow.laid W) : W.cell? ⟨0, 0, none⟩ = some (.iface 158 (.agg #[.pointer (some ⟨6, 33, none⟩)])) ∧ 0 < W.heap.size := by
  have h2 := (laidMetH_iff.1 h).2
  obtain ⟨name, u, ty, e1, e2, e3, e4, e5⟩ := h2 _ (List.mem_singleton.2 rfl)
  have en : name = [101, 114, 114, 111, 114] := (Option.some.inj e1).symm
  subst en
  obtain rfl := Option.some.inj (rt.symm.trans e2)
  have hm : ty ∈ (List.range 285).filter fun t => Tryz.prog.rowNamed t [101, 114, 114, 111, 114] := List.mem_filter.2 ⟨List.mem_range.2 (by rw [← size]; exact e3), e4⟩
  rw [oneRow] at hm
  obtain rfl := List.mem_singleton.1 hm
  have hh : typeHandle Tryz.prog 33 = .pointer (some ⟨6, 33, none⟩) := by kernel_rfl
  rw [hh] at e5
  exact ⟨by simpa using World.var?_cell et e5 0, var_lt e5 et⟩
theorem g_ops : Tryz.prog.globalNamed "sluicebook/tree.operations" = some 1 := by kernel_rfl
theorem t_ops : (Tryz.prog.globals[1]?).map (·.type) = some 140 := by kernel_rfl
theorem g_wds : Tryz.prog.globalNamed "sluicebook/tree.words" = some 3 := by kernel_rfl
theorem t_wds : (Tryz.prog.globals[3]?).map (·.type) = some 179 := by kernel_rfl
theorem g_rul : Tryz.prog.globalNamed "sluicebook/kind.rules" = some 2 := by kernel_rfl
theorem t_rul : (Tryz.prog.globals[2]?).map (·.type) = some 177 := by kernel_rfl
set_option maxRecDepth 100000 in
theorem ops_of {W : World} {rest : List (String × DataW Unit)} (h : laidMet Tryz.prog (("sluicebook/tree.operations", Rows.laid_sluicebook_tree_operations) :: rest) W) : ∃ t fr, W.heap[1]? = some (.cells opsC t fr) :=
  var_of opsC h g_ops t_ops Tryz.underlying140 (by kernel_rfl) (by kernel_rfl)
set_option maxRecDepth 100000 in
theorem wds_of {W : World} {rest : List (String × DataW Unit)} (h : laidMet Tryz.prog (("sluicebook/tree.words", Rows.laid_sluicebook_tree_words) :: rest) W) : ∃ t fr, W.heap[3]? = some (.cells wordsC t fr) :=
  var_of wordsC h g_wds t_wds Tryz.underlying179 (by kernel_rfl) (by kernel_rfl)
set_option maxRecDepth 100000 in
theorem rul_of {W : World} {rest : List (String × DataW Unit)} (h : laidMet Tryz.prog (("sluicebook/kind.rules", Rows.laid_sluicebook_kind_rules) :: rest) W) : REnv W :=
  var_of rulesC h g_rul t_rul Tryz.underlying177 (by kernel_rfl) (by kernel_rfl)
theorem lt_of {W : World} {g : Nat} {C : Array Value} (h : ∃ t fr, W.heap[g]? = some (.cells C t fr)) : g < W.heap.size := by
  obtain ⟨t, fr, h⟩ := h
  exact (Array.getElem?_eq_some_iff.1 h).1
theorem tw_lt {W : World} (h : TW W) : 4 < W.heap.size := h.lt
theorem envB {W : World} (hL : laidMetH Tryz.prog kRow.laid W) (hbig : 6 ≤ W.heap.size) : KEnv W := by
  obtain ⟨h0, z0⟩ := handle hL
  have hM : laidMet Tryz.prog (("sluicebook/row.typeWords", Rows.laid_sluicebook_row_typeWords) :: ("sluicebook/tree.words", Rows.laid_sluicebook_tree_words) :: ("sluicebook/tree.operations", Rows.laid_sluicebook_tree_operations) :: ("sluicebook/kind.rules", Rows.laid_sluicebook_kind_rules) :: _) W := (laidMetH_iff.1 hL).1
  exact ⟨⟨hbig, ops_of hM.tail.tail, wds_of hM.tail⟩, tw_of hM, h0, rul_of hM.tail.tail.tail⟩
theorem big_of {W : World} (hsh : W.ShapedOpen Tryz.prog) : 6 ≤ W.heap.size := by
  obtain ⟨o, o0, h, _⟩ := hsh.2 6 (Nat.le_of_eq (by kernel_rfl)) (of_decide_eq_true (by kernel_rfl))
  exact Nat.le_of_lt (Array.getElem?_eq_some_iff.1 h).1
/-- The cells of a datum of numbers and texts. -/
def flat : Nat → DataW Unit → List Value
  | 0, _ => []
  | _ + 1, .lit (.int k n) => [.int k n]
  | _ + 1, .lit (.string l) => [.string ⟨l.toArray⟩]
  | f + 1, .agg l => l.flatMap (flat f)
  | _ + 1, _ => []
def layAt (w : World) (g : Nat) (cs : List Value) : World :=
  { w with heap := w.heap.modify g fun
      | .cells _ t frozen => .cells cs.toArray t frozen
      | o => o }
/-- A world with the variables' cells laid. -/
def lay (w : World) : World :=
  layAt (layAt (layAt (layAt (layAt w 3 (flat 5 Rows.laid_sluicebook_tree_words)) 1 (flat 5 Rows.laid_sluicebook_tree_operations)) 2 (flat 5 Rows.laid_sluicebook_kind_rules))
    4 (flat 5 Rows.laid_sluicebook_row_typeWords)) 0 [.iface 158 (.agg #[.pointer (some ⟨6, 33, none⟩)])]
end kindEnv
end Go.Proofs.YticdcnbeemkapaaGreatDoor
