/-
  DERIVED. GIVEN WITH THE SEED: THE CARDS: each row of YtkoejkpjkcejcabDoorRows.lean that lists a variable, with what it lists TIED to the program's text (the seventh form; the later family's looks); each row that meets fmt, with fmt's text TOLD by the authors' own Lean function (tested against real Go, not proved from fmt's source: count such statements apart). THE CARD IS WHAT COUNTS. Prove the row's statement (the work); the ties are given (YtkoejkpjkcejcabDoorTie.lean); close each card by the builder's one call (the guide's Derived/Test/ToyasCard.lean, 'card_holds'). Laid BY PROGRAM, IN A SANDBOX (cutbox-door.mjs). By AI agents, Wed Nov 11 2026. No macro, syntax, notation, axiom, sorry.
-/
import Derived.Test.YtkoejkpjkcejcabDoorRows
import GoSem.ClaimSeven
namespace Go.Proofs.YtkoejkpjkcejcabDoor
namespace Rows

/-- THE TIED CARD OF 'sluicelaw1.EvalSides'. -/
def evalSidesCard : Claim7 := { stood := { row := evalSidesRow, standIns := [], harness := (true, "9a51e7f624db1c364ab9b1f75dfe777892fc9c996d576d6c18d3eed021f21c60"), looks := true }, kinds := [], alts := [], laidByText := true, laidKinds := [.handle, .data, .data, .data, .data], laidTests := true, laidLooks := .later }
def EvalSidesCardSaid : Prop := Claim7.holds Tryd.pinned (.plain (OpenSpec.ofChange evalSidesSpec)) evalSidesCard

/-- THE TIED CARD OF 'sluicelaw4.EvalSwaps'. -/
def evalSwapsCard : Claim7 := { stood := { row := evalSwapsRow, standIns := [], harness := (true, "9a51e7f624db1c364ab9b1f75dfe777892fc9c996d576d6c18d3eed021f21c60"), looks := true }, kinds := [], alts := [], laidByText := true, laidKinds := [.data], laidTests := true, laidLooks := .later }
def EvalSwapsCardSaid : Prop := Claim7.holds Tryd.pinned (.plain (OpenSpec.ofChange evalSwapsSpec)) evalSwapsCard

/-- THE TIED CARD OF 'sluicelaw2.CodeTells'. -/
def codeTellsCard : Claim7 := { stood := { row := codeTellsRow, standIns := [], harness := (true, "9a51e7f624db1c364ab9b1f75dfe777892fc9c996d576d6c18d3eed021f21c60"), looks := true }, kinds := [], alts := [], laidByText := true, laidKinds := [.data, .data, .data, .data, .handle, .data, .pinned], laidTests := true, laidLooks := .later }
def CodeTellsCardSaid : Prop := Claim7.holds Tryd.pinned (.plain (OpenSpec.ofChange codeTellsSpec)) codeTellsCard

/-- THE TIED CARD OF 'sluicelaw2.VerifySound'. -/
def verifySoundCard : Claim7 := { stood := { row := verifySoundRow, standIns := [], harness := (true, "9a51e7f624db1c364ab9b1f75dfe777892fc9c996d576d6c18d3eed021f21c60"), looks := true }, kinds := [], alts := [], laidByText := true, laidKinds := [.handle, .data, .data], laidTests := true, laidLooks := .later }
def VerifySoundCardSaid : Prop := Claim7.holds Tryd.pinned (.plain (OpenSpec.ofChange verifySoundSpec)) verifySoundCard

/-- THE SECOND FORM's CARD OF 'sluicelaw1.EvalSides'. -/
def evalSidesUptoCard : Claim7 := { stood := { row := evalSidesUptoRow, standIns := [], harness := (true, "9a51e7f624db1c364ab9b1f75dfe777892fc9c996d576d6c18d3eed021f21c60"), looks := true }, kinds := [], alts := [], laidByText := true, laidKinds := [.handle, .data, .data, .data, .data], laidTests := true, laidLooks := .later }
def EvalSidesUptoCardSaid : Prop := Claim7.holds Tryd.pinned (.plain (OpenSpec.upto evalSidesSpec)) evalSidesUptoCard

/-- THE SECOND FORM's CARD OF 'sluicelaw4.EvalSwaps'. -/
def evalSwapsUptoCard : Claim7 := { stood := { row := evalSwapsUptoRow, standIns := [], harness := (true, "9a51e7f624db1c364ab9b1f75dfe777892fc9c996d576d6c18d3eed021f21c60"), looks := true }, kinds := [], alts := [], laidByText := true, laidKinds := [.data], laidTests := true, laidLooks := .later }
def EvalSwapsUptoCardSaid : Prop := Claim7.holds Tryd.pinned (.plain (OpenSpec.upto evalSwapsSpec)) evalSwapsUptoCard

/-- THE SECOND FORM's CARD OF 'sluicelaw2.CodeTells'. -/
def codeTellsUptoCard : Claim7 := { stood := { row := codeTellsUptoRow, standIns := [], harness := (true, "9a51e7f624db1c364ab9b1f75dfe777892fc9c996d576d6c18d3eed021f21c60"), looks := true }, kinds := [], alts := [], laidByText := true, laidKinds := [.data, .data, .data, .data, .handle, .data, .pinned], laidTests := true, laidLooks := .later }
def CodeTellsUptoCardSaid : Prop := Claim7.holds Tryd.pinned (.plain (OpenSpec.upto codeTellsSpec)) codeTellsUptoCard

/-- THE SECOND FORM's CARD OF 'sluicelaw2.VerifySound'. -/
def verifySoundUptoCard : Claim7 := { stood := { row := verifySoundUptoRow, standIns := [], harness := (true, "9a51e7f624db1c364ab9b1f75dfe777892fc9c996d576d6c18d3eed021f21c60"), looks := true }, kinds := [], alts := [], laidByText := true, laidKinds := [.handle, .data, .data], laidTests := true, laidLooks := .later }
def VerifySoundUptoCardSaid : Prop := Claim7.holds Tryd.pinned (.plain (OpenSpec.upto verifySoundSpec)) verifySoundUptoCard
end Rows
end Go.Proofs.YtkoejkpjkcejcabDoor
