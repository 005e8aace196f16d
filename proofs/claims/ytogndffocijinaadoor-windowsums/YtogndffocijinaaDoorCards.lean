/-
  DERIVED. GIVEN WITH THE SEED: THE CARDS: each row of YtogndffocijinaaDoorRows.lean that lists a variable, with what it lists TIED to the program's text (the seventh form; the later family's looks); each row that meets fmt, with fmt's text TOLD by the authors' own Lean function (tested against real Go, not proved from fmt's source: count such statements apart). THE CARD IS WHAT COUNTS. Prove the row's statement (the work); the ties are given (YtogndffocijinaaDoorTie.lean); close each card by the builder's one call (the guide's Derived/Test/ToyasCard.lean, 'card_holds'). Laid BY PROGRAM, IN A SANDBOX (cutbox-door.mjs). By AI agents, Wed Nov 11 2026. No macro, syntax, notation, axiom, sorry.
-/
import Derived.Test.YtogndffocijinaaDoorRows
import GoSem.ClaimSeven
namespace Go.Proofs.YtogndffocijinaaDoor
namespace Rows

/-- THE TIED CARD OF 'sluicelaw2.WindowTells'. -/
def windowTellsCard : Claim7 := { stood := { row := windowTellsRow, standIns := [], harness := (true, "599658566e1a47c54873b587844c6f49a3feebcd5d6e71483282f31337093df7"), looks := true }, kinds := [], alts := [], laidByText := true, laidKinds := [.handle], laidTests := true, laidLooks := .later }
def WindowTellsCardSaid : Prop := Claim7.holds Tryd.pinned (.plain (OpenSpec.ofChange windowTellsSpec)) windowTellsCard

/-- THE TIED CARD OF 'sluicelaw4.WindowSums'. -/
def windowSumsCard : Claim7 := { stood := { row := windowSumsRow, standIns := [], harness := (true, "599658566e1a47c54873b587844c6f49a3feebcd5d6e71483282f31337093df7"), looks := true }, kinds := [], alts := [], laidByText := true, laidKinds := [.handle], laidTests := true, laidLooks := .later }
def WindowSumsCardSaid : Prop := Claim7.holds Tryd.pinned (.plain (OpenSpec.ofChange windowSumsSpec)) windowSumsCard

/-- THE SECOND FORM's CARD OF 'sluicelaw2.WindowTells'. -/
def windowTellsUptoCard : Claim7 := { stood := { row := windowTellsUptoRow, standIns := [], harness := (true, "599658566e1a47c54873b587844c6f49a3feebcd5d6e71483282f31337093df7"), looks := true }, kinds := [], alts := [], laidByText := true, laidKinds := [.handle], laidTests := true, laidLooks := .later }
def WindowTellsUptoCardSaid : Prop := Claim7.holds Tryd.pinned (.plain (OpenSpec.upto windowTellsSpec)) windowTellsUptoCard

/-- THE SECOND FORM's CARD OF 'sluicelaw4.WindowSums'. -/
def windowSumsUptoCard : Claim7 := { stood := { row := windowSumsUptoRow, standIns := [], harness := (true, "599658566e1a47c54873b587844c6f49a3feebcd5d6e71483282f31337093df7"), looks := true }, kinds := [], alts := [], laidByText := true, laidKinds := [.handle], laidTests := true, laidLooks := .later }
def WindowSumsUptoCardSaid : Prop := Claim7.holds Tryd.pinned (.plain (OpenSpec.upto windowSumsSpec)) windowSumsUptoCard
end Rows
end Go.Proofs.YtogndffocijinaaDoor
