/-
  NARROWER THAN 'FOR EVERY INPUT', by the rows' own cells (each row's printed sentence says how): AggTells: loops, laid · AggAny: loops, laid · AggEdges: laid.
  DERIVED. THE GIVEN ROWS OF THIS SEAT. 3 by the template 'for every input the law returns true; each argument reads behind the call as it read before'; 0 by the template 'total and deterministic' (their statements: YtfonalmgdjboeaaDoorTotals.lean).
  GIVEN WITH THE SEED: the statements are not yours to turn. If you find one false, say at which input.
  Laid BY PROGRAM, IN A SANDBOX (cutbox-rows.mjs): the forced cells as the released guide's own fill.sh prints them over the translation eb0071e1726d21bc… (all of the seat's roots in one cut). By AI agents, Wed Nov 11 2026. No macro, syntax, notation, axiom, sorry.
-/
import Derived.Test.YtfonalmgdjboeaaDoorChecked
import GoSem.Claim
import GoSem.ClaimJoined
import GoSem.ClaimMapViews
import Derived.JoinedTies
import Derived.KernelRfl
namespace Go.Proofs.YtfonalmgdjboeaaDoor
/- THE CELL 'sum', in the pinned program and in every row, IS THE sha256 OF THE DUMP (.gsa) THAT YtfonalmgdjboeaaDoorProg.lean LOADS. Nothing in Lean hashes anything: it is a label: what it is worth is what the hold of that sum in a sandbox is worth. -/
noncomputable def Tryd.pinned : Pinned := { name := "ytfonalmgdjboeaadoor", sum := "eb0071e1726d21bc3d28850743f9cd724f0222491de73e903e8136447878cd90", checked := Tryd.checked }
namespace Rows
def none {H : Type} : Left H := { results := [], args := [] }

/- WHAT THE LISTED PACKAGE-LEVEL VARIABLES READ AS WHEN THE CALL BEGINS. Each datum BY PROGRAM (the guide's laid-datum.mjs) off the statement by which the dump's own 'gosem.cut.vars' lays the variable. In a bare row this is a premise. The card (YtfonalmgdjboeaaDoorCards.lean) ties it to the program's text. -/
def laid_errors_errorType {H : Type} : DataW H := .iface "internal/reflectlite.rtype" (.agg [.ptr (.lit (.string [101, 114, 114, 111, 114]))])
def laid_sluicebook_query_aggs {H : Type} : DataW H := .agg [.lit (.string [99, 111, 117, 110, 116]), .lit (.string [115, 117, 109]), .lit (.string [108, 101, 97, 115, 116]), .lit (.string [109, 111, 115, 116])]

/-- 'sluicelaw2.AggTells': WHATEVER THE INPUT: true; the input reads as it did. -/
def aggTellsSpec : ChangeSpec := { name := "aggTells", fn := fun _ => fun
  | [d1, d2, d3, d4] => { results := [.lit (.bool true)], args := [d1, d2, d3, d4] }
  | _ => none }
def aggTellsRow : OpenClaim := { program := "ytfonalmgdjboeaadoor", sum := "eb0071e1726d21bc3d28850743f9cd724f0222491de73e903e8136447878cd90", func := "sluicebook/sluicelaw2.AggTells", spec := "aggTells", inPlace := ["internal/reflectlite.ValueOf", "(internal/reflectlite.Value).Type", "(internal/reflectlite.Value).IsNil", "internal/reflectlite.TypeOf", "(internal/reflectlite.Value).Elem", "(internal/reflectlite.Value).Set", "math/bits.Add64"], unfollowed := true, recurses := true, named := ["sluicebook/query.aggs", "errors.errorType"], loops := true, apart := false, laid := [("errors.errorType", laid_errors_errorType), ("sluicebook/query.aggs", laid_sluicebook_query_aggs)] }
def AggTellsSaid : Prop := aggTellsRow.holds Tryd.pinned (OpenSpec.ofChange aggTellsSpec)

/-- ITS FALSE NEIGHBOUR: 'it returns false'. Refute it at one input. -/
def aggTellsWrong : ChangeSpec := { name := "aggTells", fn := fun _ => fun
  | [d1, d2, d3, d4] => { results := [.lit (.bool false)], args := [d1, d2, d3, d4] }
  | _ => none }
def AggTellsWrongFalsely : Prop := aggTellsRow.holds Tryd.pinned (OpenSpec.ofChange aggTellsWrong)

/-- 'sluicelaw2.AggAny': WHATEVER THE INPUT: true; the input reads as it did. -/
def aggAnySpec : ChangeSpec := { name := "aggAny", fn := fun _ => fun
  | [d1, d2, d3, d4] => { results := [.lit (.bool true)], args := [d1, d2, d3, d4] }
  | _ => none }
def aggAnyRow : OpenClaim := { program := "ytfonalmgdjboeaadoor", sum := "eb0071e1726d21bc3d28850743f9cd724f0222491de73e903e8136447878cd90", func := "sluicebook/sluicelaw2.AggAny", spec := "aggAny", inPlace := ["math/bits.Add64", "internal/reflectlite.ValueOf", "(internal/reflectlite.Value).Type", "(internal/reflectlite.Value).IsNil", "internal/reflectlite.TypeOf", "(internal/reflectlite.Value).Elem", "(internal/reflectlite.Value).Set"], unfollowed := true, recurses := true, named := ["sluicebook/query.aggs", "errors.errorType"], loops := true, apart := false, laid := [("errors.errorType", laid_errors_errorType), ("sluicebook/query.aggs", laid_sluicebook_query_aggs)] }
def AggAnySaid : Prop := aggAnyRow.holds Tryd.pinned (OpenSpec.ofChange aggAnySpec)

/-- ITS FALSE NEIGHBOUR: 'it returns false'. Refute it at one input. -/
def aggAnyWrong : ChangeSpec := { name := "aggAny", fn := fun _ => fun
  | [d1, d2, d3, d4] => { results := [.lit (.bool false)], args := [d1, d2, d3, d4] }
  | _ => none }
def AggAnyWrongFalsely : Prop := aggAnyRow.holds Tryd.pinned (OpenSpec.ofChange aggAnyWrong)

/-- 'sluicelaw4.AggEdges': WHATEVER THE INPUT: true; the input reads as it did. -/
def aggEdgesSpec : ChangeSpec := { name := "aggEdges", fn := fun _ => fun
  | [d1, d2, d3] => { results := [.lit (.bool true)], args := [d1, d2, d3] }
  | _ => none }
def aggEdgesRow : OpenClaim := { program := "ytfonalmgdjboeaadoor", sum := "eb0071e1726d21bc3d28850743f9cd724f0222491de73e903e8136447878cd90", func := "sluicebook/sluicelaw4.AggEdges", spec := "aggEdges", inPlace := ["internal/reflectlite.ValueOf", "(internal/reflectlite.Value).Type", "(internal/reflectlite.Value).IsNil", "internal/reflectlite.TypeOf", "(internal/reflectlite.Value).Elem", "(internal/reflectlite.Value).Set", "math/bits.Add64"], unfollowed := true, recurses := true, named := ["sluicebook/query.aggs", "errors.errorType"], apart := false, laid := [("errors.errorType", laid_errors_errorType), ("sluicebook/query.aggs", laid_sluicebook_query_aggs)] }
def AggEdgesSaid : Prop := aggEdgesRow.holds Tryd.pinned (OpenSpec.ofChange aggEdgesSpec)

/-- ITS FALSE NEIGHBOUR: 'it returns false'. Refute it at one input. -/
def aggEdgesWrong : ChangeSpec := { name := "aggEdges", fn := fun _ => fun
  | [d1, d2, d3] => { results := [.lit (.bool false)], args := [d1, d2, d3] }
  | _ => none }
def AggEdgesWrongFalsely : Prop := aggEdgesRow.holds Tryd.pinned (OpenSpec.ofChange aggEdgesWrong)

/- THE SECOND FORM. 'bulk': how many values and letters a reading holds, each counted each time it is reached (what is shared counts as often as it is met; a slice's spare places count too). A statement '..UptoSaid' is the law's where the arguments, and the package variables that the reading takes, are together of bulk at most 1048576: NARROWER than '..Said'. Prove '..Said' where nothing that the law and all that it calls make is longer than what came in: it says more and counts as full. Else prove '..UptoSaid'. A law counts once. -/
mutual
def uptoBulk {H : Type} : DataW H → Nat
  | .lit (.string bytes) => bytes.length + 1
  | .lit _ => 1
  | .nil => 1
  | .ptr d => uptoBulk d + 1
  | .slice elems spare => uptoBulkAll elems + uptoBulkAll spare + 1
  | .agg parts => uptoBulkAll parts + 1
  | .iface _ d => uptoBulk d + 1
  | .map entries => uptoBulkEntries entries + 1
  | .held _ => 1
def uptoBulkAll {H : Type} : List (DataW H) → Nat
  | [] => 0
  | d :: r => uptoBulk d + uptoBulkAll r
def uptoBulkEntries {H : Type} : List (Lit × DataW H) → Nat
  | [] => 0
  | x :: r => uptoBulkEntry x + uptoBulkEntries r
def uptoBulkEntry {H : Type} : Lit × DataW H → Nat
  | (.string bytes, d) => bytes.length + uptoBulk d + 1
  | (_, d) => uptoBulk d + 1
 end
def uptoSmall : (H : Type) → List (DataW H) → Bool := fun _ ds => decide (uptoBulkAll ds ≤ 1048576)
def OpenSpec.upto (s : _root_.Go.ChangeSpec) : _root_.Go.OpenSpec := { _root_.Go.OpenSpec.ofChange s with cond := some uptoSmall }

/-- 'sluicelaw2.AggTells', WHERE WHAT IT READS IS OF BULK AT MOST 1048576: true; the input reads as it did. -/
def aggTellsUptoRow : OpenClaim := { program := "ytfonalmgdjboeaadoor", sum := "eb0071e1726d21bc3d28850743f9cd724f0222491de73e903e8136447878cd90", func := "sluicebook/sluicelaw2.AggTells", spec := "aggTells", inPlace := ["internal/reflectlite.ValueOf", "(internal/reflectlite.Value).Type", "(internal/reflectlite.Value).IsNil", "internal/reflectlite.TypeOf", "(internal/reflectlite.Value).Elem", "(internal/reflectlite.Value).Set", "math/bits.Add64"], unfollowed := true, recurses := true, named := ["sluicebook/query.aggs", "errors.errorType"], loops := true, apart := false, laid := [("errors.errorType", laid_errors_errorType), ("sluicebook/query.aggs", laid_sluicebook_query_aggs)], narrowed := true }
def AggTellsUptoSaid : Prop := aggTellsUptoRow.holds Tryd.pinned (OpenSpec.upto aggTellsSpec)

/-- 'sluicelaw2.AggAny', WHERE WHAT IT READS IS OF BULK AT MOST 1048576: true; the input reads as it did. -/
def aggAnyUptoRow : OpenClaim := { program := "ytfonalmgdjboeaadoor", sum := "eb0071e1726d21bc3d28850743f9cd724f0222491de73e903e8136447878cd90", func := "sluicebook/sluicelaw2.AggAny", spec := "aggAny", inPlace := ["math/bits.Add64", "internal/reflectlite.ValueOf", "(internal/reflectlite.Value).Type", "(internal/reflectlite.Value).IsNil", "internal/reflectlite.TypeOf", "(internal/reflectlite.Value).Elem", "(internal/reflectlite.Value).Set"], unfollowed := true, recurses := true, named := ["sluicebook/query.aggs", "errors.errorType"], loops := true, apart := false, laid := [("errors.errorType", laid_errors_errorType), ("sluicebook/query.aggs", laid_sluicebook_query_aggs)], narrowed := true }
def AggAnyUptoSaid : Prop := aggAnyUptoRow.holds Tryd.pinned (OpenSpec.upto aggAnySpec)

/-- 'sluicelaw4.AggEdges', WHERE WHAT IT READS IS OF BULK AT MOST 1048576: true; the input reads as it did. -/
def aggEdgesUptoRow : OpenClaim := { program := "ytfonalmgdjboeaadoor", sum := "eb0071e1726d21bc3d28850743f9cd724f0222491de73e903e8136447878cd90", func := "sluicebook/sluicelaw4.AggEdges", spec := "aggEdges", inPlace := ["internal/reflectlite.ValueOf", "(internal/reflectlite.Value).Type", "(internal/reflectlite.Value).IsNil", "internal/reflectlite.TypeOf", "(internal/reflectlite.Value).Elem", "(internal/reflectlite.Value).Set", "math/bits.Add64"], unfollowed := true, recurses := true, named := ["sluicebook/query.aggs", "errors.errorType"], apart := false, laid := [("errors.errorType", laid_errors_errorType), ("sluicebook/query.aggs", laid_sluicebook_query_aggs)], narrowed := true }
def AggEdgesUptoSaid : Prop := aggEdgesUptoRow.holds Tryd.pinned (OpenSpec.upto aggEdgesSpec)

end Rows
end Go.Proofs.YtfonalmgdjboeaaDoor
