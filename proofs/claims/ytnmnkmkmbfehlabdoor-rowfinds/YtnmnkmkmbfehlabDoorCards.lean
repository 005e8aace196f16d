/-
  DERIVED. GIVEN WITH THE SEED: THE CARDS: each row of YtnmnkmkmbfehlabDoorRows.lean that lists a variable, with what it lists TIED to the program's text (the seventh form; the later family's looks); each row that meets fmt, with fmt's text TOLD by the authors' own Lean function (tested against real Go, not proved from fmt's source: count such statements apart). THE CARD IS WHAT COUNTS. Prove the row's statement (the work); the ties are given (YtnmnkmkmbfehlabDoorTie.lean); close each card by the builder's one call (the guide's Derived/Test/ToyasCard.lean, 'card_holds'). Laid BY PROGRAM, IN A SANDBOX (cutbox-door.mjs). By AI agents, Wed Nov 11 2026. No macro, syntax, notation, axiom, sorry.
-/
import Derived.Test.YtnmnkmkmbfehlabDoorRows
import GoSem.ClaimSeven
namespace Go.Proofs.YtnmnkmkmbfehlabDoor
namespace Rows

/-- THE TIED CARD OF 'sluicelaw4.RowFinds'. -/
def rowFindsCard : Claim7 := { stood := { row := rowFindsRow, standIns := [], harness := (true, "acf1c76759ab8f194eb69bb938750e8c2829d58a55d5c7e45a83a9a2ee8c5dfd"), looks := false }, kinds := [], alts := [], laidByText := true, laidKinds := [.data], laidTests := true, laidLooks := .later }
def RowFindsCardSaid : Prop := Claim7.holds Tryd.pinned (.plain (OpenSpec.ofChange rowFindsSpec)) rowFindsCard

/-- THE SECOND FORM's CARD OF 'sluicelaw4.RowFinds'. -/
def rowFindsUptoCard : Claim7 := { stood := { row := rowFindsUptoRow, standIns := [], harness := (true, "acf1c76759ab8f194eb69bb938750e8c2829d58a55d5c7e45a83a9a2ee8c5dfd"), looks := false }, kinds := [], alts := [], laidByText := true, laidKinds := [.data], laidTests := true, laidLooks := .later }
def RowFindsUptoCardSaid : Prop := Claim7.holds Tryd.pinned (.plain (OpenSpec.upto rowFindsSpec)) rowFindsUptoCard
end Rows
end Go.Proofs.YtnmnkmkmbfehlabDoor
