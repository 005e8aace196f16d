/-
  NARROWER THAN 'FOR EVERY INPUT', by the rows' own cells (each row's printed sentence says how): BatchFilters: loops, laid.
  DERIVED. THE GIVEN ROWS OF THIS SEAT. 1 by the template 'for every input the law returns true; each argument reads behind the call as it read before'; 0 by the template 'total and deterministic' (their statements: YticdcnbeemkapaaGreatDoorTotals.lean).
  GIVEN WITH THE SEED: the statements are not yours to turn. If you find one false, say at which input.
  Laid BY PROGRAM, IN A SANDBOX (cutbox-rows.mjs): the forced cells as the released guide's own fill.sh prints them over the translation 9fe2a014f10cc031… (all of the seat's roots in one cut). By AI agents, Wed Nov 11 2026. No macro, syntax, notation, axiom, sorry.
-/
import Derived.Test.YticdcnbeemkapaaGreatDoorChecked
import GoSem.Claim
import GoSem.ClaimJoined
import GoSem.ClaimMapViews
import Derived.JoinedTies
import Derived.KernelRfl
namespace Go.Proofs.YticdcnbeemkapaaGreatDoor
/- THE CELL 'sum', in the pinned program and in every row, IS THE sha256 OF THE DUMP (.gsa) THAT YticdcnbeemkapaaGreatDoorProg.lean LOADS. Nothing in Lean hashes anything: it is a label: what it is worth is what the hold of that sum in a sandbox is worth. -/
noncomputable def Tryz.pinned : Pinned := { name := "yticdcnbeemkapaagreatdoor", sum := "9fe2a014f10cc0317c41b79861506fc144d7d6c4a8993b59d4fa24e92fd7936b", checked := Tryz.checked }
namespace Rows
def none {H : Type} : Left H := { results := [], args := [] }

/- WHAT THE LISTED PACKAGE-LEVEL VARIABLES READ AS WHEN THE CALL BEGINS. Each datum BY PROGRAM (the guide's laid-datum.mjs) off the statement by which the dump's own 'gosem.cut.vars' lays the variable. In a bare row this is a premise. The card (YticdcnbeemkapaaGreatDoorCards.lean) ties it to the program's text. -/
def laid_errors_errorType {H : Type} : DataW H := .iface "internal/reflectlite.rtype" (.agg [.ptr (.lit (.string [101, 114, 114, 111, 114]))])
def laid_sluicebook_row_typeWords {H : Type} : DataW H := .agg [.agg [.lit (.int .i64 1), .lit (.string [105, 110, 116])], .agg [.lit (.int .i64 2), .lit (.string [98, 111, 111, 108])], .agg [.lit (.int .i64 3), .lit (.string [116, 101, 120, 116])]]
def laid_sluicebook_tree_words {H : Type} : DataW H := .agg [.lit (.string [111, 114]), .lit (.string [97, 110, 100]), .lit (.string [110, 111, 116]), .lit (.string [116, 114, 117, 101]), .lit (.string [102, 97, 108, 115, 101]), .lit (.string [108, 101, 110]), .lit (.string [105, 102]), .lit (.string [115, 101, 108, 101, 99, 116]), .lit (.string [97, 115]), .lit (.string [102, 114, 111, 109]), .lit (.string [119, 104, 101, 114, 101]), .lit (.string [103, 114, 111, 117, 112]), .lit (.string [98, 121]), .lit (.string [119, 105, 110, 100, 111, 119]), .lit (.string [115, 108, 105, 100, 101]), .lit (.string [99, 111, 117, 110, 116]), .lit (.string [115, 117, 109]), .lit (.string [108, 101, 97, 115, 116]), .lit (.string [109, 111, 115, 116])]
def laid_sluicebook_tree_operations {H : Type} : DataW H := .agg [.agg [.lit (.string [118, 97, 108]), .lit (.int .i64 0)], .agg [.lit (.string [99, 111, 108]), .lit (.int .i64 0)], .agg [.lit (.string [111, 114]), .lit (.int .i64 2)], .agg [.lit (.string [97, 110, 100]), .lit (.int .i64 2)], .agg [.lit (.string [110, 111, 116]), .lit (.int .i64 1)], .agg [.lit (.string [61]), .lit (.int .i64 2)], .agg [.lit (.string [60, 62]), .lit (.int .i64 2)], .agg [.lit (.string [60]), .lit (.int .i64 2)], .agg [.lit (.string [60, 61]), .lit (.int .i64 2)], .agg [.lit (.string [62]), .lit (.int .i64 2)], .agg [.lit (.string [62, 61]), .lit (.int .i64 2)], .agg [.lit (.string [43]), .lit (.int .i64 2)], .agg [.lit (.string [45]), .lit (.int .i64 2)], .agg [.lit (.string [42]), .lit (.int .i64 2)], .agg [.lit (.string [47]), .lit (.int .i64 2)], .agg [.lit (.string [37]), .lit (.int .i64 2)], .agg [.lit (.string [110, 101, 103]), .lit (.int .i64 1)], .agg [.lit (.string [108, 101, 110]), .lit (.int .i64 1)], .agg [.lit (.string [105, 102]), .lit (.int .i64 3)]]
def laid_sluicebook_kind_rules {H : Type} : DataW H := .agg [.agg [.lit (.string [111, 114]), .agg [.lit (.int .i64 2), .lit (.int .i64 2), .lit (.int .i64 0)], .lit (.int .i64 2)], .agg [.lit (.string [97, 110, 100]), .agg [.lit (.int .i64 2), .lit (.int .i64 2), .lit (.int .i64 0)], .lit (.int .i64 2)], .agg [.lit (.string [110, 111, 116]), .agg [.lit (.int .i64 2), .lit (.int .i64 0), .lit (.int .i64 0)], .lit (.int .i64 2)], .agg [.lit (.string [61]), .agg [.lit (.int .i64 (-1)), .lit (.int .i64 (-1)), .lit (.int .i64 0)], .lit (.int .i64 2)], .agg [.lit (.string [60, 62]), .agg [.lit (.int .i64 (-1)), .lit (.int .i64 (-1)), .lit (.int .i64 0)], .lit (.int .i64 2)], .agg [.lit (.string [60]), .agg [.lit (.int .i64 (-1)), .lit (.int .i64 (-1)), .lit (.int .i64 0)], .lit (.int .i64 2)], .agg [.lit (.string [60, 61]), .agg [.lit (.int .i64 (-1)), .lit (.int .i64 (-1)), .lit (.int .i64 0)], .lit (.int .i64 2)], .agg [.lit (.string [62]), .agg [.lit (.int .i64 (-1)), .lit (.int .i64 (-1)), .lit (.int .i64 0)], .lit (.int .i64 2)], .agg [.lit (.string [62, 61]), .agg [.lit (.int .i64 (-1)), .lit (.int .i64 (-1)), .lit (.int .i64 0)], .lit (.int .i64 2)], .agg [.lit (.string [43]), .agg [.lit (.int .i64 1), .lit (.int .i64 1), .lit (.int .i64 0)], .lit (.int .i64 1)], .agg [.lit (.string [45]), .agg [.lit (.int .i64 1), .lit (.int .i64 1), .lit (.int .i64 0)], .lit (.int .i64 1)], .agg [.lit (.string [42]), .agg [.lit (.int .i64 1), .lit (.int .i64 1), .lit (.int .i64 0)], .lit (.int .i64 1)], .agg [.lit (.string [47]), .agg [.lit (.int .i64 1), .lit (.int .i64 1), .lit (.int .i64 0)], .lit (.int .i64 1)], .agg [.lit (.string [37]), .agg [.lit (.int .i64 1), .lit (.int .i64 1), .lit (.int .i64 0)], .lit (.int .i64 1)], .agg [.lit (.string [110, 101, 103]), .agg [.lit (.int .i64 1), .lit (.int .i64 0), .lit (.int .i64 0)], .lit (.int .i64 1)], .agg [.lit (.string [108, 101, 110]), .agg [.lit (.int .i64 3), .lit (.int .i64 0), .lit (.int .i64 0)], .lit (.int .i64 1)], .agg [.lit (.string [105, 102]), .agg [.lit (.int .i64 2), .lit (.int .i64 (-1)), .lit (.int .i64 (-1))], .lit (.int .i64 (-1))]]
def laid_sluicebook_query_aggs {H : Type} : DataW H := .agg [.lit (.string [99, 111, 117, 110, 116]), .lit (.string [115, 117, 109]), .lit (.string [108, 101, 97, 115, 116]), .lit (.string [109, 111, 115, 116])]

/-- 'sluicelaw4.BatchFilters': WHATEVER THE INPUT: true; the input reads as it did. -/
def batchFiltersSpec : ChangeSpec := { name := "batchFilters", fn := fun _ => fun
  | [d1, d2, d3] => { results := [.lit (.bool true)], args := [d1, d2, d3] }
  | _ => none }
def batchFiltersRow : OpenClaim := { program := "yticdcnbeemkapaagreatdoor", sum := "9fe2a014f10cc0317c41b79861506fc144d7d6c4a8993b59d4fa24e92fd7936b", func := "sluicebook/sluicelaw4.BatchFilters", spec := "batchFilters", inPlace := ["internal/reflectlite.ValueOf", "(internal/reflectlite.Value).Type", "(internal/reflectlite.Value).IsNil", "internal/reflectlite.TypeOf", "(internal/reflectlite.Value).Elem", "(internal/reflectlite.Value).Set", "slices.overlaps[*sluicebook/batch.span]", "slices.overlaps[*sluicebook/batch.group]", "math/bits.Add64"], unfollowed := true, recurses := true, named := ["sluicebook/row.typeWords", "sluicebook/tree.operations", "sluicebook/tree.words", "errors.errorType", "sluicebook/kind.rules", "sluicebook/query.aggs"], loops := true, apart := false, laid := [("errors.errorType", laid_errors_errorType), ("sluicebook/row.typeWords", laid_sluicebook_row_typeWords), ("sluicebook/tree.words", laid_sluicebook_tree_words), ("sluicebook/tree.operations", laid_sluicebook_tree_operations), ("sluicebook/kind.rules", laid_sluicebook_kind_rules), ("sluicebook/query.aggs", laid_sluicebook_query_aggs)] }
def BatchFiltersSaid : Prop := batchFiltersRow.holds Tryz.pinned (OpenSpec.ofChange batchFiltersSpec)

/-- ITS FALSE NEIGHBOUR: 'it returns false'. Refute it at one input. -/
def batchFiltersWrong : ChangeSpec := { name := "batchFilters", fn := fun _ => fun
  | [d1, d2, d3] => { results := [.lit (.bool false)], args := [d1, d2, d3] }
  | _ => none }
def BatchFiltersWrongFalsely : Prop := batchFiltersRow.holds Tryz.pinned (OpenSpec.ofChange batchFiltersWrong)

/- THE SECOND FORM. 'bulk': how many values and letters a reading holds, each counted each time it is reached (what is shared counts as often as it is met; a slice's spare places count too). A statement '..UptoSaid' is the law's where the arguments, and the package variables that the reading takes, are together of bulk at most 1048576: NARROWER than '..Said'. Prove '..Said' where nothing that the law and all that it calls make is longer than what came in: it says more and counts as full. Else prove '..UptoSaid'. A law counts once. -/
mutual
def uptoBulk {H : Type} : DataW H → Nat
  | .lit (.string bytes) => bytes.length + 1
  | .lit _ => 1
  | .nil => 1
  | .ptr d => uptoBulk d + 1
  | .slice elems spare => uptoBulkAll elems + uptoBulkAll spare + 1
  | .agg parts => uptoBulkAll parts + 1
  | .iface _ d => uptoBulk d + 1
  | .map entries => uptoBulkEntries entries + 1
  | .held _ => 1
def uptoBulkAll {H : Type} : List (DataW H) → Nat
  | [] => 0
  | d :: r => uptoBulk d + uptoBulkAll r
def uptoBulkEntries {H : Type} : List (Lit × DataW H) → Nat
  | [] => 0
  | x :: r => uptoBulkEntry x + uptoBulkEntries r
def uptoBulkEntry {H : Type} : Lit × DataW H → Nat
  | (.string bytes, d) => bytes.length + uptoBulk d + 1
  | (_, d) => uptoBulk d + 1
 end
def uptoSmall : (H : Type) → List (DataW H) → Bool := fun _ ds => decide (uptoBulkAll ds ≤ 1048576)
def OpenSpec.upto (s : _root_.Go.ChangeSpec) : _root_.Go.OpenSpec := { _root_.Go.OpenSpec.ofChange s with cond := some uptoSmall }

/-- 'sluicelaw4.BatchFilters', WHERE WHAT IT READS IS OF BULK AT MOST 1048576: true; the input reads as it did. -/
def batchFiltersUptoRow : OpenClaim := { program := "yticdcnbeemkapaagreatdoor", sum := "9fe2a014f10cc0317c41b79861506fc144d7d6c4a8993b59d4fa24e92fd7936b", func := "sluicebook/sluicelaw4.BatchFilters", spec := "batchFilters", inPlace := ["internal/reflectlite.ValueOf", "(internal/reflectlite.Value).Type", "(internal/reflectlite.Value).IsNil", "internal/reflectlite.TypeOf", "(internal/reflectlite.Value).Elem", "(internal/reflectlite.Value).Set", "slices.overlaps[*sluicebook/batch.span]", "slices.overlaps[*sluicebook/batch.group]", "math/bits.Add64"], unfollowed := true, recurses := true, named := ["sluicebook/row.typeWords", "sluicebook/tree.operations", "sluicebook/tree.words", "errors.errorType", "sluicebook/kind.rules", "sluicebook/query.aggs"], loops := true, apart := false, laid := [("errors.errorType", laid_errors_errorType), ("sluicebook/row.typeWords", laid_sluicebook_row_typeWords), ("sluicebook/tree.words", laid_sluicebook_tree_words), ("sluicebook/tree.operations", laid_sluicebook_tree_operations), ("sluicebook/kind.rules", laid_sluicebook_kind_rules), ("sluicebook/query.aggs", laid_sluicebook_query_aggs)], narrowed := true }
def BatchFiltersUptoSaid : Prop := batchFiltersUptoRow.holds Tryz.pinned (OpenSpec.upto batchFiltersSpec)

end Rows
end Go.Proofs.YticdcnbeemkapaaGreatDoor
