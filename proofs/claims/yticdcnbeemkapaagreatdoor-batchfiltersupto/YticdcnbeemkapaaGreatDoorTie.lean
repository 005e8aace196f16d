/-
  DERIVED. GIVEN WITH THE SEED: THE PROGRAM's TIES (one call each: nine closed facts by the kernel) AND EACH ROW's TIE, after the 31st guide's Derived/Test/Toyas{Tie, Card}.lean. No idea stands in it: it is a product of the set-up. Laid BY PROGRAM, IN A SANDBOX (cutbox-door.mjs). By AI agents, Wed Nov 11 2026. No macro, syntax, notation, axiom, sorry.
-/
import Derived.Test.YticdcnbeemkapaaGreatDoorRows
import Derived.LaidByTextLater
import Derived.SevenTiedAt
import Derived.LaidSub
import Derived.LaidOnce
namespace Go.Proofs.YticdcnbeemkapaaGreatDoor
open Go
set_option maxRecDepth 100000
theorem seatTie1 : Tryz.prog.laidByTextLater [("errors.errorType", Rows.laid_errors_errorType), ("sluicebook/row.typeWords", Rows.laid_sluicebook_row_typeWords), ("sluicebook/tree.words", Rows.laid_sluicebook_tree_words), ("sluicebook/tree.operations", Rows.laid_sluicebook_tree_operations), ("sluicebook/kind.rules", Rows.laid_sluicebook_kind_rules), ("sluicebook/query.aggs", Rows.laid_sluicebook_query_aggs)] [.handle, .data, .data, .data, .data, .data] true :=
  Program.laidByTextLater_by_one 97 8 86 (by kernel_rfl) (by kernel_rfl) (by kernel_rfl) (by kernel_rfl) (by kernel_rfl) (by kernel_rfl) (fun _ _ => by kernel_rfl)
theorem noOwnUnsafe : Tryz.pinned.checked.prog.headLifts.contains "ownunsafe" = false := by kernel_rfl
theorem tie : Tryz.prog.laidByTextLater [("errors.errorType", Rows.laid_errors_errorType), ("sluicebook/row.typeWords", Rows.laid_sluicebook_row_typeWords), ("sluicebook/tree.words", Rows.laid_sluicebook_tree_words), ("sluicebook/tree.operations", Rows.laid_sluicebook_tree_operations), ("sluicebook/kind.rules", Rows.laid_sluicebook_kind_rules), ("sluicebook/query.aggs", Rows.laid_sluicebook_query_aggs)] [.handle, .data, .data, .data, .data, .data] true :=
  Program.laidByTextLater.sub seatTie1 ["errors.errorType", "sluicebook/row.typeWords", "sluicebook/tree.words", "sluicebook/tree.operations", "sluicebook/kind.rules", "sluicebook/query.aggs"] (by kernel_rfl) (by kernel_rfl)
theorem batchFilters_row_tie : Rows.batchFiltersRow.laidByTextAt .later Tryz.pinned [.handle, .data, .data, .data, .data, .data] true :=
  OpenClaim.laidByTextAt_later rfl rfl tie noOwnUnsafe
theorem batchFiltersUpto_row_tie : Rows.batchFiltersUptoRow.laidByTextAt .later Tryz.pinned [.handle, .data, .data, .data, .data, .data] true :=
  OpenClaim.laidByTextAt_later rfl rfl tie noOwnUnsafe
end Go.Proofs.YticdcnbeemkapaaGreatDoor
