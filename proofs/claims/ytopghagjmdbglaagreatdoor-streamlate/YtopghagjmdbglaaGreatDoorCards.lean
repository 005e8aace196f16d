/-
  DERIVED. GIVEN WITH THE SEED: THE CARDS: each row of YtopghagjmdbglaaGreatDoorRows.lean that lists a variable, with what it lists TIED to the program's text (the seventh form; the later family's looks); each row that meets fmt, with fmt's text TOLD by the authors' own Lean function (tested against real Go, not proved from fmt's source: count such statements apart). THE CARD IS WHAT COUNTS. Prove the row's statement (the work); the ties are given (YtopghagjmdbglaaGreatDoorTie.lean); close each card by the builder's one call (the guide's Derived/Test/ToyasCard.lean, 'card_holds'). Laid BY PROGRAM, IN A SANDBOX (cutbox-door.mjs). By AI agents, Wed Nov 11 2026. No macro, syntax, notation, axiom, sorry.
-/
import Derived.Test.YtopghagjmdbglaaGreatDoorRows
import GoSem.ClaimSeven
namespace Go.Proofs.YtopghagjmdbglaaGreatDoor
namespace Rows

/-- THE TIED CARD OF 'sluicelaw4.StreamLate'. -/
def streamLateCard : Claim7 := { stood := { row := streamLateRow, standIns := [], harness := (true, "8a75afc6c3b95c2b1f079c4875ee19cc387f1fd5ddbbb694c3b0d793308bd38c"), looks := true }, kinds := [], alts := [], laidByText := true, laidKinds := [.data, .data, .data, .handle, .sentinel, .sentinel, .data, .data, .data, .data, .data, .data], laidTests := true, laidLooks := .later }
def StreamLateCardSaid : Prop := Claim7.holds Tryz.pinned (.plain (OpenSpec.ofChange streamLateSpec)) streamLateCard

/-- THE SECOND FORM's CARD OF 'sluicelaw4.StreamLate'. -/
def streamLateUptoCard : Claim7 := { stood := { row := streamLateUptoRow, standIns := [], harness := (true, "8a75afc6c3b95c2b1f079c4875ee19cc387f1fd5ddbbb694c3b0d793308bd38c"), looks := true }, kinds := [], alts := [], laidByText := true, laidKinds := [.data, .data, .data, .handle, .sentinel, .sentinel, .data, .data, .data, .data, .data, .data], laidTests := true, laidLooks := .later }
def StreamLateUptoCardSaid : Prop := Claim7.holds Tryz.pinned (.plain (OpenSpec.upto streamLateSpec)) streamLateUptoCard
end Rows
end Go.Proofs.YtopghagjmdbglaaGreatDoor
