/-
  DERIVED. GIVEN WITH THE SEED: THE CARDS: each row of YtfonalmgdjboeaaDoorRows.lean that lists a variable, with what it lists TIED to the program's text (the seventh form; the later family's looks); each row that meets fmt, with fmt's text TOLD by the authors' own Lean function (tested against real Go, not proved from fmt's source: count such statements apart). THE CARD IS WHAT COUNTS. Prove the row's statement (the work); the ties are given (YtfonalmgdjboeaaDoorTie.lean); close each card by the builder's one call (the guide's Derived/Test/ToyasCard.lean, 'card_holds'). Laid BY PROGRAM, IN A SANDBOX (cutbox-door.mjs). By AI agents, Wed Nov 11 2026. No macro, syntax, notation, axiom, sorry.
-/
import Derived.Test.YtfonalmgdjboeaaDoorRows
import GoSem.ClaimSeven
namespace Go.Proofs.YtfonalmgdjboeaaDoor
namespace Rows

/-- THE TIED CARD OF 'sluicelaw2.AggTells'. -/
def aggTellsCard : Claim7 := { stood := { row := aggTellsRow, standIns := [], harness := (true, "858d470985e6ef7cd730fdfb4165b0488bebd8eb6c3cd102db84ac3cf9a2e0a7"), looks := true }, kinds := [], alts := [], laidByText := true, laidKinds := [.handle, .data], laidTests := true, laidLooks := .later }
def AggTellsCardSaid : Prop := Claim7.holds Tryd.pinned (.plain (OpenSpec.ofChange aggTellsSpec)) aggTellsCard

/-- THE TIED CARD OF 'sluicelaw2.AggAny'. -/
def aggAnyCard : Claim7 := { stood := { row := aggAnyRow, standIns := [], harness := (true, "858d470985e6ef7cd730fdfb4165b0488bebd8eb6c3cd102db84ac3cf9a2e0a7"), looks := true }, kinds := [], alts := [], laidByText := true, laidKinds := [.handle, .data], laidTests := true, laidLooks := .later }
def AggAnyCardSaid : Prop := Claim7.holds Tryd.pinned (.plain (OpenSpec.ofChange aggAnySpec)) aggAnyCard

/-- THE TIED CARD OF 'sluicelaw4.AggEdges'. -/
def aggEdgesCard : Claim7 := { stood := { row := aggEdgesRow, standIns := [], harness := (true, "858d470985e6ef7cd730fdfb4165b0488bebd8eb6c3cd102db84ac3cf9a2e0a7"), looks := true }, kinds := [], alts := [], laidByText := true, laidKinds := [.handle, .data], laidTests := true, laidLooks := .later }
def AggEdgesCardSaid : Prop := Claim7.holds Tryd.pinned (.plain (OpenSpec.ofChange aggEdgesSpec)) aggEdgesCard

/-- THE SECOND FORM's CARD OF 'sluicelaw2.AggTells'. -/
def aggTellsUptoCard : Claim7 := { stood := { row := aggTellsUptoRow, standIns := [], harness := (true, "858d470985e6ef7cd730fdfb4165b0488bebd8eb6c3cd102db84ac3cf9a2e0a7"), looks := true }, kinds := [], alts := [], laidByText := true, laidKinds := [.handle, .data], laidTests := true, laidLooks := .later }
def AggTellsUptoCardSaid : Prop := Claim7.holds Tryd.pinned (.plain (OpenSpec.upto aggTellsSpec)) aggTellsUptoCard

/-- THE SECOND FORM's CARD OF 'sluicelaw2.AggAny'. -/
def aggAnyUptoCard : Claim7 := { stood := { row := aggAnyUptoRow, standIns := [], harness := (true, "858d470985e6ef7cd730fdfb4165b0488bebd8eb6c3cd102db84ac3cf9a2e0a7"), looks := true }, kinds := [], alts := [], laidByText := true, laidKinds := [.handle, .data], laidTests := true, laidLooks := .later }
def AggAnyUptoCardSaid : Prop := Claim7.holds Tryd.pinned (.plain (OpenSpec.upto aggAnySpec)) aggAnyUptoCard

/-- THE SECOND FORM's CARD OF 'sluicelaw4.AggEdges'. -/
def aggEdgesUptoCard : Claim7 := { stood := { row := aggEdgesUptoRow, standIns := [], harness := (true, "858d470985e6ef7cd730fdfb4165b0488bebd8eb6c3cd102db84ac3cf9a2e0a7"), looks := true }, kinds := [], alts := [], laidByText := true, laidKinds := [.handle, .data], laidTests := true, laidLooks := .later }
def AggEdgesUptoCardSaid : Prop := Claim7.holds Tryd.pinned (.plain (OpenSpec.upto aggEdgesSpec)) aggEdgesUptoCard
end Rows
end Go.Proofs.YtfonalmgdjboeaaDoor
