/-
  DERIVED. GIVEN WITH THE SEED: THE CARDS: each row of YticdcnbeemkapaaGreatDoorRows.lean that lists a variable, with what it lists TIED to the program's text (the seventh form; the later family's looks); each row that meets fmt, with fmt's text TOLD by the authors' own Lean function (tested against real Go, not proved from fmt's source: count such statements apart). THE CARD IS WHAT COUNTS. Prove the row's statement (the work); the ties are given (YticdcnbeemkapaaGreatDoorTie.lean); close each card by the builder's one call (the guide's Derived/Test/ToyasCard.lean, 'card_holds'). Laid BY PROGRAM, IN A SANDBOX (cutbox-door.mjs). By AI agents, Wed Nov 11 2026. No macro, syntax, notation, axiom, sorry.
-/
import Derived.Test.YticdcnbeemkapaaGreatDoorRows
import GoSem.ClaimSeven
namespace Go.Proofs.YticdcnbeemkapaaGreatDoor
namespace Rows

/-- THE TIED CARD OF 'sluicelaw4.BatchFilters'. -/
def batchFiltersCard : Claim7 := { stood := { row := batchFiltersRow, standIns := [], harness := (true, "16593521081e8e54021b3270766ac20eba56ac80fd4c9a347a94a3cbef182aab"), looks := true }, kinds := [], alts := [], laidByText := true, laidKinds := [.handle, .data, .data, .data, .data, .data], laidTests := true, laidLooks := .later }
def BatchFiltersCardSaid : Prop := Claim7.holds Tryz.pinned (.plain (OpenSpec.ofChange batchFiltersSpec)) batchFiltersCard

/-- THE SECOND FORM's CARD OF 'sluicelaw4.BatchFilters'. -/
def batchFiltersUptoCard : Claim7 := { stood := { row := batchFiltersUptoRow, standIns := [], harness := (true, "16593521081e8e54021b3270766ac20eba56ac80fd4c9a347a94a3cbef182aab"), looks := true }, kinds := [], alts := [], laidByText := true, laidKinds := [.handle, .data, .data, .data, .data, .data], laidTests := true, laidLooks := .later }
def BatchFiltersUptoCardSaid : Prop := Claim7.holds Tryz.pinned (.plain (OpenSpec.upto batchFiltersSpec)) batchFiltersUptoCard
end Rows
end Go.Proofs.YticdcnbeemkapaaGreatDoor
