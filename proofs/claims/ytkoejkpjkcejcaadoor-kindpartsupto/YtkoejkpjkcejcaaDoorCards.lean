/-
  DERIVED. GIVEN WITH THE SEED: THE CARDS: each row of YtkoejkpjkcejcaaDoorRows.lean that lists a variable, with what it lists TIED to the program's text (the seventh form; the later family's looks); each row that meets fmt, with fmt's text TOLD by the authors' own Lean function (tested against real Go, not proved from fmt's source: count such statements apart). THE CARD IS WHAT COUNTS. Prove the row's statement (the work); the ties are given (YtkoejkpjkcejcaaDoorTie.lean); close each card by the builder's one call (the guide's Derived/Test/ToyasCard.lean, 'card_holds'). Laid BY PROGRAM, IN A SANDBOX (cutbox-door.mjs). By AI agents, Wed Nov 11 2026. No macro, syntax, notation, axiom, sorry.
-/
import Derived.Test.YtkoejkpjkcejcaaDoorRows
import GoSem.ClaimSeven
namespace Go.Proofs.YtkoejkpjkcejcaaDoor
namespace Rows

/-- THE TIED CARD OF 'sluicelaw1.KindTells'. -/
def kindTellsCard : Claim7 := { stood := { row := kindTellsRow, standIns := [], harness := (true, "8c80d5127151fe9eb0335da12f3fcce453ac9e7c68b8a5d03cf234646ce5e0c0"), looks := true }, kinds := [], alts := [], laidByText := true, laidKinds := [.handle, .data, .data, .data, .data], laidTests := true, laidLooks := .later }
def KindTellsCardSaid : Prop := Claim7.holds Tryd.pinned (.plain (OpenSpec.ofChange kindTellsSpec)) kindTellsCard

/-- THE TIED CARD OF 'sluicelaw4.KindParts'. -/
def kindPartsCard : Claim7 := { stood := { row := kindPartsRow, standIns := [], harness := (true, "8c80d5127151fe9eb0335da12f3fcce453ac9e7c68b8a5d03cf234646ce5e0c0"), looks := true }, kinds := [], alts := [], laidByText := true, laidKinds := [.handle, .data, .data, .data, .data], laidTests := true, laidLooks := .later }
def KindPartsCardSaid : Prop := Claim7.holds Tryd.pinned (.plain (OpenSpec.ofChange kindPartsSpec)) kindPartsCard

/-- THE TIED CARD OF 'sluicelaw1.KindHolds'. -/
def kindHoldsCard : Claim7 := { stood := { row := kindHoldsRow, standIns := [], harness := (true, "8c80d5127151fe9eb0335da12f3fcce453ac9e7c68b8a5d03cf234646ce5e0c0"), looks := true }, kinds := [], alts := [], laidByText := true, laidKinds := [.handle, .data, .data, .data, .data], laidTests := true, laidLooks := .later }
def KindHoldsCardSaid : Prop := Claim7.holds Tryd.pinned (.plain (OpenSpec.ofChange kindHoldsSpec)) kindHoldsCard

/-- THE SECOND FORM's CARD OF 'sluicelaw1.KindTells'. -/
def kindTellsUptoCard : Claim7 := { stood := { row := kindTellsUptoRow, standIns := [], harness := (true, "8c80d5127151fe9eb0335da12f3fcce453ac9e7c68b8a5d03cf234646ce5e0c0"), looks := true }, kinds := [], alts := [], laidByText := true, laidKinds := [.handle, .data, .data, .data, .data], laidTests := true, laidLooks := .later }
def KindTellsUptoCardSaid : Prop := Claim7.holds Tryd.pinned (.plain (OpenSpec.upto kindTellsSpec)) kindTellsUptoCard

/-- THE SECOND FORM's CARD OF 'sluicelaw4.KindParts'. -/
def kindPartsUptoCard : Claim7 := { stood := { row := kindPartsUptoRow, standIns := [], harness := (true, "8c80d5127151fe9eb0335da12f3fcce453ac9e7c68b8a5d03cf234646ce5e0c0"), looks := true }, kinds := [], alts := [], laidByText := true, laidKinds := [.handle, .data, .data, .data, .data], laidTests := true, laidLooks := .later }
def KindPartsUptoCardSaid : Prop := Claim7.holds Tryd.pinned (.plain (OpenSpec.upto kindPartsSpec)) kindPartsUptoCard

/-- THE SECOND FORM's CARD OF 'sluicelaw1.KindHolds'. -/
def kindHoldsUptoCard : Claim7 := { stood := { row := kindHoldsUptoRow, standIns := [], harness := (true, "8c80d5127151fe9eb0335da12f3fcce453ac9e7c68b8a5d03cf234646ce5e0c0"), looks := true }, kinds := [], alts := [], laidByText := true, laidKinds := [.handle, .data, .data, .data, .data], laidTests := true, laidLooks := .later }
def KindHoldsUptoCardSaid : Prop := Claim7.holds Tryd.pinned (.plain (OpenSpec.upto kindHoldsSpec)) kindHoldsUptoCard
end Rows
end Go.Proofs.YtkoejkpjkcejcaaDoor
