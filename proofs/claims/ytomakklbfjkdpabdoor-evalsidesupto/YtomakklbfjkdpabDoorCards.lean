/-
  DERIVED. GIVEN WITH THE SEED: THE CARDS: each row of YtomakklbfjkdpabDoorRows.lean that lists a variable, with what it lists TIED to the program's text (the seventh form; the later family's looks); each row that meets fmt, with fmt's text TOLD by the authors' own Lean function (tested against real Go, not proved from fmt's source: count such statements apart). THE CARD IS WHAT COUNTS. Prove the row's statement (the work); the ties are given (YtomakklbfjkdpabDoorTie.lean); close each card by the builder's one call (the guide's Derived/Test/ToyasCard.lean, 'card_holds'). Laid BY PROGRAM, IN A SANDBOX (cutbox-door.mjs). By AI agents, Wed Nov 11 2026. No macro, syntax, notation, axiom, sorry.
-/
import Derived.Test.YtomakklbfjkdpabDoorRows
import GoSem.ClaimSeven
namespace Go.Proofs.YtomakklbfjkdpabDoor
namespace Rows

/-- THE TIED CARD OF 'sluicelaw1.EvalSides'. -/
def evalSidesCard : Claim7 := { stood := { row := evalSidesRow, standIns := [], harness := (true, "07994ba6174cdd6995b57dcd8a104d94b2055caee72c37ad0bd3bd122cd6fb39"), looks := true }, kinds := [], alts := [], laidByText := true, laidKinds := [.handle, .data, .data, .data, .data], laidTests := true, laidLooks := .later }
def EvalSidesCardSaid : Prop := Claim7.holds Tryd.pinned (.plain (OpenSpec.ofChange evalSidesSpec)) evalSidesCard

/-- THE TIED CARD OF 'sluicelaw4.EvalSwaps'. -/
def evalSwapsCard : Claim7 := { stood := { row := evalSwapsRow, standIns := [], harness := (true, "07994ba6174cdd6995b57dcd8a104d94b2055caee72c37ad0bd3bd122cd6fb39"), looks := true }, kinds := [], alts := [], laidByText := true, laidKinds := [.data], laidTests := true, laidLooks := .later }
def EvalSwapsCardSaid : Prop := Claim7.holds Tryd.pinned (.plain (OpenSpec.ofChange evalSwapsSpec)) evalSwapsCard

/-- THE SECOND FORM's CARD OF 'sluicelaw1.EvalSides'. -/
def evalSidesUptoCard : Claim7 := { stood := { row := evalSidesUptoRow, standIns := [], harness := (true, "07994ba6174cdd6995b57dcd8a104d94b2055caee72c37ad0bd3bd122cd6fb39"), looks := true }, kinds := [], alts := [], laidByText := true, laidKinds := [.handle, .data, .data, .data, .data], laidTests := true, laidLooks := .later }
def EvalSidesUptoCardSaid : Prop := Claim7.holds Tryd.pinned (.plain (OpenSpec.upto evalSidesSpec)) evalSidesUptoCard

/-- THE SECOND FORM's CARD OF 'sluicelaw4.EvalSwaps'. -/
def evalSwapsUptoCard : Claim7 := { stood := { row := evalSwapsUptoRow, standIns := [], harness := (true, "07994ba6174cdd6995b57dcd8a104d94b2055caee72c37ad0bd3bd122cd6fb39"), looks := true }, kinds := [], alts := [], laidByText := true, laidKinds := [.data], laidTests := true, laidLooks := .later }
def EvalSwapsUptoCardSaid : Prop := Claim7.holds Tryd.pinned (.plain (OpenSpec.upto evalSwapsSpec)) evalSwapsUptoCard
end Rows
end Go.Proofs.YtomakklbfjkdpabDoor
