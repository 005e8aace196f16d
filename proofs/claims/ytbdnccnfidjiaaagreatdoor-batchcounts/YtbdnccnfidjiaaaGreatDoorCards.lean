/-
  DERIVED. GIVEN WITH THE SEED: THE CARDS: each row of YtbdnccnfidjiaaaGreatDoorRows.lean that lists a variable, with what it lists TIED to the program's text (the seventh form; the later family's looks); each row that meets fmt, with fmt's text TOLD by the authors' own Lean function (tested against real Go, not proved from fmt's source: count such statements apart). THE CARD IS WHAT COUNTS. Prove the row's statement (the work); the ties are given (YtbdnccnfidjiaaaGreatDoorTie.lean); close each card by the builder's one call (the guide's Derived/Test/ToyasCard.lean, 'card_holds'). Laid BY PROGRAM, IN A SANDBOX (cutbox-door.mjs). By AI agents, Wed Nov 11 2026. No macro, syntax, notation, axiom, sorry.
-/
import Derived.Test.YtbdnccnfidjiaaaGreatDoorRows
import GoSem.ClaimSeven
namespace Go.Proofs.YtbdnccnfidjiaaaGreatDoor
namespace Rows

/-- THE TIED CARD OF 'sluicelaw3.BatchCounts'. -/
def batchCountsCard : Claim7 := { stood := { row := batchCountsRow, standIns := [], harness := (true, "b797565c53757dd8c44cef94b5d7dc3e2a54e312a189ae1bdb91140472bdfdcd"), looks := true }, kinds := [], alts := [], laidByText := true, laidKinds := [.data, .data, .data, .handle, .sentinel, .sentinel, .data, .data, .data, .data, .data, .data], laidTests := true, laidLooks := .later }
def BatchCountsCardSaid : Prop := Claim7.holds Tryz.pinned (.plain (OpenSpec.ofChange batchCountsSpec)) batchCountsCard

/-- THE SECOND FORM's CARD OF 'sluicelaw3.BatchCounts'. -/
def batchCountsUptoCard : Claim7 := { stood := { row := batchCountsUptoRow, standIns := [], harness := (true, "b797565c53757dd8c44cef94b5d7dc3e2a54e312a189ae1bdb91140472bdfdcd"), looks := true }, kinds := [], alts := [], laidByText := true, laidKinds := [.data, .data, .data, .handle, .sentinel, .sentinel, .data, .data, .data, .data, .data, .data], laidTests := true, laidLooks := .later }
def BatchCountsUptoCardSaid : Prop := Claim7.holds Tryz.pinned (.plain (OpenSpec.upto batchCountsSpec)) batchCountsUptoCard
end Rows
end Go.Proofs.YtbdnccnfidjiaaaGreatDoor
