/-
  DERIVED. GIVEN WITH THE SEED: THE CARDS: each row of YtggabncpedcmdaaDoorRows.lean that lists a variable, with what it lists TIED to the program's text (the seventh form; the later family's looks); each row that meets fmt, with fmt's text TOLD by the authors' own Lean function (tested against real Go, not proved from fmt's source: count such statements apart). THE CARD IS WHAT COUNTS. Prove the row's statement (the work); the ties are given (YtggabncpedcmdaaDoorTie.lean); close each card by the builder's one call (the guide's Derived/Test/ToyasCard.lean, 'card_holds'). Laid BY PROGRAM, IN A SANDBOX (cutbox-door.mjs). By AI agents, Wed Nov 11 2026. No macro, syntax, notation, axiom, sorry.
-/
import Derived.Test.YtggabncpedcmdaaDoorRows
import GoSem.ClaimSeven
namespace Go.Proofs.YtggabncpedcmdaaDoor
namespace Rows

/-- THE TIED CARD OF 'sluicelaw1.ValBack'. -/
def valBackCard : Claim7 := { stood := { row := valBackRow, standIns := [], harness := (true, "67342119b42fbd52ca8b1d393a67d3e3bbd08e9f1628223cb745bf385464d410"), looks := true }, kinds := [], alts := [], laidByText := true, laidKinds := [.data, .data, .data, .data, .sentinel, .sentinel, .pinned], laidTests := true, laidLooks := .later }
def ValBackCardSaid : Prop := Claim7.holds Tryd.pinned (.plain (OpenSpec.ofChange valBackSpec)) valBackCard

/-- THE TIED CARD OF 'sluicelaw4.RowFinds'. -/
def rowFindsCard : Claim7 := { stood := { row := rowFindsRow, standIns := [], harness := (true, "67342119b42fbd52ca8b1d393a67d3e3bbd08e9f1628223cb745bf385464d410"), looks := true }, kinds := [], alts := [], laidByText := true, laidKinds := [.data], laidTests := true, laidLooks := .later }
def RowFindsCardSaid : Prop := Claim7.holds Tryd.pinned (.plain (OpenSpec.ofChange rowFindsSpec)) rowFindsCard

/-- THE SECOND FORM's CARD OF 'sluicelaw1.ValBack'. -/
def valBackUptoCard : Claim7 := { stood := { row := valBackUptoRow, standIns := [], harness := (true, "67342119b42fbd52ca8b1d393a67d3e3bbd08e9f1628223cb745bf385464d410"), looks := true }, kinds := [], alts := [], laidByText := true, laidKinds := [.data, .data, .data, .data, .sentinel, .sentinel, .pinned], laidTests := true, laidLooks := .later }
def ValBackUptoCardSaid : Prop := Claim7.holds Tryd.pinned (.plain (OpenSpec.upto valBackSpec)) valBackUptoCard

/-- THE SECOND FORM's CARD OF 'sluicelaw4.RowFinds'. -/
def rowFindsUptoCard : Claim7 := { stood := { row := rowFindsUptoRow, standIns := [], harness := (true, "67342119b42fbd52ca8b1d393a67d3e3bbd08e9f1628223cb745bf385464d410"), looks := true }, kinds := [], alts := [], laidByText := true, laidKinds := [.data], laidTests := true, laidLooks := .later }
def RowFindsUptoCardSaid : Prop := Claim7.holds Tryd.pinned (.plain (OpenSpec.upto rowFindsSpec)) rowFindsUptoCard
end Rows
end Go.Proofs.YtggabncpedcmdaaDoor
