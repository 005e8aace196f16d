/-
  NARROWER THAN 'FOR EVERY INPUT', by the rows' own cells (each row's printed sentence says how): EvalSides: loops, laid · EvalSwaps: laid · CodeTells: laid · VerifySound: laid.
  DERIVED. THE GIVEN ROWS OF THIS SEAT. 4 by the template 'for every input the law returns true; each argument reads behind the call as it read before'; 0 by the template 'total and deterministic' (their statements: YtkoejkpjkcejcabDoorTotals.lean).
  GIVEN WITH THE SEED: the statements are not yours to turn. If you find one false, say at which input.
  Laid BY PROGRAM, IN A SANDBOX (cutbox-rows.mjs): the forced cells as the released guide's own fill.sh prints them over the translation 444ef7d05ea8224b… (all of the seat's roots in one cut). By AI agents, Wed Nov 11 2026. No macro, syntax, notation, axiom, sorry.
-/
import Derived.Test.YtkoejkpjkcejcabDoorChecked
import GoSem.PinnedTables
import GoSem.Claim
import GoSem.ClaimJoined
import GoSem.ClaimMapViews
import Derived.JoinedTies
import Derived.KernelRfl
namespace Go.Proofs.YtkoejkpjkcejcabDoor
/- THE CELL 'sum', in the pinned program and in every row, IS THE sha256 OF THE DUMP (.gsa) THAT YtkoejkpjkcejcabDoorProg.lean LOADS. Nothing in Lean hashes anything: it is a label: what it is worth is what the hold of that sum in a sandbox is worth. -/
noncomputable def Tryd.pinned : Pinned := { name := "ytkoejkpjkcejcabdoor", sum := "444ef7d05ea8224b2626d201cf198456f4959dcb3120f78b81382efca3301fdf", checked := Tryd.checked }
namespace Rows
def none {H : Type} : Left H := { results := [], args := [] }

/- WHAT THE LISTED PACKAGE-LEVEL VARIABLES READ AS WHEN THE CALL BEGINS. Each datum BY PROGRAM (the guide's laid-datum.mjs) off the statement by which the dump's own 'gosem.cut.vars' lays the variable. In a bare row this is a premise. The card (YtkoejkpjkcejcabDoorCards.lean) ties it to the program's text. -/
def laid_errors_errorType {H : Type} : DataW H := .iface "internal/reflectlite.rtype" (.agg [.ptr (.lit (.string [101, 114, 114, 111, 114]))])
def laid_sluicebook_row_typeWords {H : Type} : DataW H := .agg [.agg [.lit (.int .i64 1), .lit (.string [105, 110, 116])], .agg [.lit (.int .i64 2), .lit (.string [98, 111, 111, 108])], .agg [.lit (.int .i64 3), .lit (.string [116, 101, 120, 116])]]
def laid_sluicebook_tree_words {H : Type} : DataW H := .agg [.lit (.string [111, 114]), .lit (.string [97, 110, 100]), .lit (.string [110, 111, 116]), .lit (.string [116, 114, 117, 101]), .lit (.string [102, 97, 108, 115, 101]), .lit (.string [108, 101, 110]), .lit (.string [105, 102]), .lit (.string [115, 101, 108, 101, 99, 116]), .lit (.string [97, 115]), .lit (.string [102, 114, 111, 109]), .lit (.string [119, 104, 101, 114, 101]), .lit (.string [103, 114, 111, 117, 112]), .lit (.string [98, 121]), .lit (.string [119, 105, 110, 100, 111, 119]), .lit (.string [115, 108, 105, 100, 101]), .lit (.string [99, 111, 117, 110, 116]), .lit (.string [115, 117, 109]), .lit (.string [108, 101, 97, 115, 116]), .lit (.string [109, 111, 115, 116])]
def laid_sluicebook_tree_operations {H : Type} : DataW H := .agg [.agg [.lit (.string [118, 97, 108]), .lit (.int .i64 0)], .agg [.lit (.string [99, 111, 108]), .lit (.int .i64 0)], .agg [.lit (.string [111, 114]), .lit (.int .i64 2)], .agg [.lit (.string [97, 110, 100]), .lit (.int .i64 2)], .agg [.lit (.string [110, 111, 116]), .lit (.int .i64 1)], .agg [.lit (.string [61]), .lit (.int .i64 2)], .agg [.lit (.string [60, 62]), .lit (.int .i64 2)], .agg [.lit (.string [60]), .lit (.int .i64 2)], .agg [.lit (.string [60, 61]), .lit (.int .i64 2)], .agg [.lit (.string [62]), .lit (.int .i64 2)], .agg [.lit (.string [62, 61]), .lit (.int .i64 2)], .agg [.lit (.string [43]), .lit (.int .i64 2)], .agg [.lit (.string [45]), .lit (.int .i64 2)], .agg [.lit (.string [42]), .lit (.int .i64 2)], .agg [.lit (.string [47]), .lit (.int .i64 2)], .agg [.lit (.string [37]), .lit (.int .i64 2)], .agg [.lit (.string [110, 101, 103]), .lit (.int .i64 1)], .agg [.lit (.string [108, 101, 110]), .lit (.int .i64 1)], .agg [.lit (.string [105, 102]), .lit (.int .i64 3)]]
def laid_sluicebook_kind_rules {H : Type} : DataW H := .agg [.agg [.lit (.string [111, 114]), .agg [.lit (.int .i64 2), .lit (.int .i64 2), .lit (.int .i64 0)], .lit (.int .i64 2)], .agg [.lit (.string [97, 110, 100]), .agg [.lit (.int .i64 2), .lit (.int .i64 2), .lit (.int .i64 0)], .lit (.int .i64 2)], .agg [.lit (.string [110, 111, 116]), .agg [.lit (.int .i64 2), .lit (.int .i64 0), .lit (.int .i64 0)], .lit (.int .i64 2)], .agg [.lit (.string [61]), .agg [.lit (.int .i64 (-1)), .lit (.int .i64 (-1)), .lit (.int .i64 0)], .lit (.int .i64 2)], .agg [.lit (.string [60, 62]), .agg [.lit (.int .i64 (-1)), .lit (.int .i64 (-1)), .lit (.int .i64 0)], .lit (.int .i64 2)], .agg [.lit (.string [60]), .agg [.lit (.int .i64 (-1)), .lit (.int .i64 (-1)), .lit (.int .i64 0)], .lit (.int .i64 2)], .agg [.lit (.string [60, 61]), .agg [.lit (.int .i64 (-1)), .lit (.int .i64 (-1)), .lit (.int .i64 0)], .lit (.int .i64 2)], .agg [.lit (.string [62]), .agg [.lit (.int .i64 (-1)), .lit (.int .i64 (-1)), .lit (.int .i64 0)], .lit (.int .i64 2)], .agg [.lit (.string [62, 61]), .agg [.lit (.int .i64 (-1)), .lit (.int .i64 (-1)), .lit (.int .i64 0)], .lit (.int .i64 2)], .agg [.lit (.string [43]), .agg [.lit (.int .i64 1), .lit (.int .i64 1), .lit (.int .i64 0)], .lit (.int .i64 1)], .agg [.lit (.string [45]), .agg [.lit (.int .i64 1), .lit (.int .i64 1), .lit (.int .i64 0)], .lit (.int .i64 1)], .agg [.lit (.string [42]), .agg [.lit (.int .i64 1), .lit (.int .i64 1), .lit (.int .i64 0)], .lit (.int .i64 1)], .agg [.lit (.string [47]), .agg [.lit (.int .i64 1), .lit (.int .i64 1), .lit (.int .i64 0)], .lit (.int .i64 1)], .agg [.lit (.string [37]), .agg [.lit (.int .i64 1), .lit (.int .i64 1), .lit (.int .i64 0)], .lit (.int .i64 1)], .agg [.lit (.string [110, 101, 103]), .agg [.lit (.int .i64 1), .lit (.int .i64 0), .lit (.int .i64 0)], .lit (.int .i64 1)], .agg [.lit (.string [108, 101, 110]), .agg [.lit (.int .i64 3), .lit (.int .i64 0), .lit (.int .i64 0)], .lit (.int .i64 1)], .agg [.lit (.string [105, 102]), .agg [.lit (.int .i64 2), .lit (.int .i64 (-1)), .lit (.int .i64 (-1))], .lit (.int .i64 (-1))]]
def laid_math_bits_deBruijn32tab {H : Type} : DataW H := .agg [.lit (.int .u8 0), .lit (.int .u8 1), .lit (.int .u8 28), .lit (.int .u8 2), .lit (.int .u8 29), .lit (.int .u8 14), .lit (.int .u8 24), .lit (.int .u8 3), .lit (.int .u8 30), .lit (.int .u8 22), .lit (.int .u8 20), .lit (.int .u8 15), .lit (.int .u8 25), .lit (.int .u8 17), .lit (.int .u8 4), .lit (.int .u8 8), .lit (.int .u8 31), .lit (.int .u8 27), .lit (.int .u8 13), .lit (.int .u8 23), .lit (.int .u8 21), .lit (.int .u8 19), .lit (.int .u8 16), .lit (.int .u8 7), .lit (.int .u8 26), .lit (.int .u8 12), .lit (.int .u8 18), .lit (.int .u8 6), .lit (.int .u8 11), .lit (.int .u8 5), .lit (.int .u8 10), .lit (.int .u8 9)]
def laid_math_bits_deBruijn64tab {H : Type} : DataW H := .agg [.lit (.int .u8 0), .lit (.int .u8 1), .lit (.int .u8 56), .lit (.int .u8 2), .lit (.int .u8 57), .lit (.int .u8 49), .lit (.int .u8 28), .lit (.int .u8 3), .lit (.int .u8 61), .lit (.int .u8 58), .lit (.int .u8 42), .lit (.int .u8 50), .lit (.int .u8 38), .lit (.int .u8 29), .lit (.int .u8 17), .lit (.int .u8 4), .lit (.int .u8 62), .lit (.int .u8 47), .lit (.int .u8 59), .lit (.int .u8 36), .lit (.int .u8 45), .lit (.int .u8 43), .lit (.int .u8 51), .lit (.int .u8 22), .lit (.int .u8 53), .lit (.int .u8 39), .lit (.int .u8 33), .lit (.int .u8 30), .lit (.int .u8 24), .lit (.int .u8 18), .lit (.int .u8 12), .lit (.int .u8 5), .lit (.int .u8 63), .lit (.int .u8 55), .lit (.int .u8 48), .lit (.int .u8 27), .lit (.int .u8 60), .lit (.int .u8 41), .lit (.int .u8 37), .lit (.int .u8 16), .lit (.int .u8 46), .lit (.int .u8 35), .lit (.int .u8 44), .lit (.int .u8 21), .lit (.int .u8 52), .lit (.int .u8 32), .lit (.int .u8 23), .lit (.int .u8 11), .lit (.int .u8 54), .lit (.int .u8 26), .lit (.int .u8 40), .lit (.int .u8 15), .lit (.int .u8 34), .lit (.int .u8 20), .lit (.int .u8 31), .lit (.int .u8 10), .lit (.int .u8 25), .lit (.int .u8 14), .lit (.int .u8 19), .lit (.int .u8 9), .lit (.int .u8 13), .lit (.int .u8 8), .lit (.int .u8 7), .lit (.int .u8 6)]
def laid_internal_strconv_uint64pow10 {H : Type} : DataW H := .agg [.lit (.int .u64 1), .lit (.int .u64 10), .lit (.int .u64 100), .lit (.int .u64 1000), .lit (.int .u64 10000), .lit (.int .u64 100000), .lit (.int .u64 1000000), .lit (.int .u64 10000000), .lit (.int .u64 100000000), .lit (.int .u64 1000000000), .lit (.int .u64 10000000000), .lit (.int .u64 100000000000), .lit (.int .u64 1000000000000), .lit (.int .u64 10000000000000), .lit (.int .u64 100000000000000), .lit (.int .u64 1000000000000000), .lit (.int .u64 10000000000000000), .lit (.int .u64 100000000000000000), .lit (.int .u64 1000000000000000000), .lit (.int .u64 10000000000000000000)]
def laid_unicode_utf8_acceptRanges {H : Type} : DataW H := .agg [.agg [.lit (.int .u8 128), .lit (.int .u8 191)], .agg [.lit (.int .u8 160), .lit (.int .u8 191)], .agg [.lit (.int .u8 128), .lit (.int .u8 159)], .agg [.lit (.int .u8 144), .lit (.int .u8 191)], .agg [.lit (.int .u8 128), .lit (.int .u8 143)], .agg [.lit (.int .u8 0), .lit (.int .u8 0)], .agg [.lit (.int .u8 0), .lit (.int .u8 0)], .agg [.lit (.int .u8 0), .lit (.int .u8 0)], .agg [.lit (.int .u8 0), .lit (.int .u8 0)], .agg [.lit (.int .u8 0), .lit (.int .u8 0)], .agg [.lit (.int .u8 0), .lit (.int .u8 0)], .agg [.lit (.int .u8 0), .lit (.int .u8 0)], .agg [.lit (.int .u8 0), .lit (.int .u8 0)], .agg [.lit (.int .u8 0), .lit (.int .u8 0)], .agg [.lit (.int .u8 0), .lit (.int .u8 0)], .agg [.lit (.int .u8 0), .lit (.int .u8 0)]]
/-- One of Go's own tables, pinned by name: the form's constant. -/
def laid_unicode_utf8_first : DataW Unit := Go.Pinned.utf8First

/-- 'sluicelaw1.EvalSides': WHATEVER THE INPUT: true; the input reads as it did. -/
def evalSidesSpec : ChangeSpec := { name := "evalSides", fn := fun _ => fun
  | [d1, d2, d3, d4] => { results := [.lit (.bool true)], args := [d1, d2, d3, d4] }
  | _ => none }
def evalSidesRow : OpenClaim := { program := "ytkoejkpjkcejcabdoor", sum := "444ef7d05ea8224b2626d201cf198456f4959dcb3120f78b81382efca3301fdf", func := "sluicebook/sluicelaw1.EvalSides", spec := "evalSides", inPlace := ["internal/reflectlite.ValueOf", "(internal/reflectlite.Value).Type", "(internal/reflectlite.Value).IsNil", "internal/reflectlite.TypeOf", "(internal/reflectlite.Value).Elem", "(internal/reflectlite.Value).Set"], unfollowed := true, recurses := true, named := ["sluicebook/tree.operations", "sluicebook/tree.words", "errors.errorType", "sluicebook/row.typeWords", "sluicebook/kind.rules"], loops := true, apart := false, laid := [("errors.errorType", laid_errors_errorType), ("sluicebook/row.typeWords", laid_sluicebook_row_typeWords), ("sluicebook/tree.words", laid_sluicebook_tree_words), ("sluicebook/tree.operations", laid_sluicebook_tree_operations), ("sluicebook/kind.rules", laid_sluicebook_kind_rules)] }
def EvalSidesSaid : Prop := evalSidesRow.holds Tryd.pinned (OpenSpec.ofChange evalSidesSpec)

/-- ITS FALSE NEIGHBOUR: 'it returns false'. Refute it at one input. -/
def evalSidesWrong : ChangeSpec := { name := "evalSides", fn := fun _ => fun
  | [d1, d2, d3, d4] => { results := [.lit (.bool false)], args := [d1, d2, d3, d4] }
  | _ => none }
def EvalSidesWrongFalsely : Prop := evalSidesRow.holds Tryd.pinned (OpenSpec.ofChange evalSidesWrong)

/-- 'sluicelaw4.EvalSwaps': WHATEVER THE INPUT: true; the input reads as it did. -/
def evalSwapsSpec : ChangeSpec := { name := "evalSwaps", fn := fun _ => fun
  | [d1, d2] => { results := [.lit (.bool true)], args := [d1, d2] }
  | _ => none }
def evalSwapsRow : OpenClaim := { program := "ytkoejkpjkcejcabdoor", sum := "444ef7d05ea8224b2626d201cf198456f4959dcb3120f78b81382efca3301fdf", func := "sluicebook/sluicelaw4.EvalSwaps", spec := "evalSwaps", unfollowed := true, recurses := true, named := ["sluicebook/kind.rules"], apart := false, laid := [("sluicebook/kind.rules", laid_sluicebook_kind_rules)] }
def EvalSwapsSaid : Prop := evalSwapsRow.holds Tryd.pinned (OpenSpec.ofChange evalSwapsSpec)

/-- ITS FALSE NEIGHBOUR: 'it returns false'. Refute it at one input. -/
def evalSwapsWrong : ChangeSpec := { name := "evalSwaps", fn := fun _ => fun
  | [d1, d2] => { results := [.lit (.bool false)], args := [d1, d2] }
  | _ => none }
def EvalSwapsWrongFalsely : Prop := evalSwapsRow.holds Tryd.pinned (OpenSpec.ofChange evalSwapsWrong)

/-- 'sluicelaw2.CodeTells': WHATEVER THE INPUT: true; the input reads as it did. -/
def codeTellsSpec : ChangeSpec := { name := "codeTells", fn := fun _ => fun
  | [d1, d2] => { results := [.lit (.bool true)], args := [d1, d2] }
  | _ => none }
def codeTellsRow : OpenClaim := { program := "ytkoejkpjkcejcabdoor", sum := "444ef7d05ea8224b2626d201cf198456f4959dcb3120f78b81382efca3301fdf", func := "sluicebook/sluicelaw2.CodeTells", spec := "codeTells", inPlace := ["internal/bytealg.CountString", "internal/bytealg.IndexByteString", "internal/bytealg.IndexString", "internal/abi.NoEscape", "internal/bytealg.MakeNoZero", "internal/reflectlite.ValueOf", "(internal/reflectlite.Value).Type", "(internal/reflectlite.Value).IsNil", "internal/reflectlite.TypeOf", "(internal/reflectlite.Value).Elem", "(internal/reflectlite.Value).Set"], unfollowed := true, recurses := true, named := ["internal/strconv.uint64pow10", "math/bits.deBruijn32tab", "math/bits.deBruijn64tab", "internal/bytealg.MaxLen", "unicode/utf8.first", "unicode/utf8.acceptRanges", "sluicebook/kind.rules", "errors.errorType"], apart := false, laid := [("math/bits.deBruijn32tab", laid_math_bits_deBruijn32tab), ("math/bits.deBruijn64tab", laid_math_bits_deBruijn64tab), ("internal/strconv.uint64pow10", laid_internal_strconv_uint64pow10), ("unicode/utf8.acceptRanges", laid_unicode_utf8_acceptRanges), ("errors.errorType", laid_errors_errorType), ("sluicebook/kind.rules", laid_sluicebook_kind_rules), ("unicode/utf8.first", laid_unicode_utf8_first)] }
def CodeTellsSaid : Prop := codeTellsRow.holds Tryd.pinned (OpenSpec.ofChange codeTellsSpec)

/-- ITS FALSE NEIGHBOUR: 'it returns false'. Refute it at one input. -/
def codeTellsWrong : ChangeSpec := { name := "codeTells", fn := fun _ => fun
  | [d1, d2] => { results := [.lit (.bool false)], args := [d1, d2] }
  | _ => none }
def CodeTellsWrongFalsely : Prop := codeTellsRow.holds Tryd.pinned (OpenSpec.ofChange codeTellsWrong)

/-- 'sluicelaw2.VerifySound': WHATEVER THE INPUT: true; the input reads as it did. -/
def verifySoundSpec : ChangeSpec := { name := "verifySound", fn := fun _ => fun
  | [d1, d2, d3] => { results := [.lit (.bool true)], args := [d1, d2, d3] }
  | _ => none }
def verifySoundRow : OpenClaim := { program := "ytkoejkpjkcejcabdoor", sum := "444ef7d05ea8224b2626d201cf198456f4959dcb3120f78b81382efca3301fdf", func := "sluicebook/sluicelaw2.VerifySound", spec := "verifySound", inPlace := ["internal/reflectlite.ValueOf", "(internal/reflectlite.Value).Type", "(internal/reflectlite.Value).IsNil", "internal/reflectlite.TypeOf", "(internal/reflectlite.Value).Elem", "(internal/reflectlite.Value).Set"], unfollowed := true, recurses := true, named := ["sluicebook/row.typeWords", "sluicebook/kind.rules", "errors.errorType"], apart := false, laid := [("errors.errorType", laid_errors_errorType), ("sluicebook/row.typeWords", laid_sluicebook_row_typeWords), ("sluicebook/kind.rules", laid_sluicebook_kind_rules)] }
def VerifySoundSaid : Prop := verifySoundRow.holds Tryd.pinned (OpenSpec.ofChange verifySoundSpec)

/-- ITS FALSE NEIGHBOUR: 'it returns false'. Refute it at one input. -/
def verifySoundWrong : ChangeSpec := { name := "verifySound", fn := fun _ => fun
  | [d1, d2, d3] => { results := [.lit (.bool false)], args := [d1, d2, d3] }
  | _ => none }
def VerifySoundWrongFalsely : Prop := verifySoundRow.holds Tryd.pinned (OpenSpec.ofChange verifySoundWrong)

/- THE SECOND FORM. 'bulk': how many values and letters a reading holds, each counted each time it is reached (what is shared counts as often as it is met; a slice's spare places count too). A statement '..UptoSaid' is the law's where the arguments, and the package variables that the reading takes, are together of bulk at most 1048576: NARROWER than '..Said'. Prove '..Said' where nothing that the law and all that it calls make is longer than what came in: it says more and counts as full. Else prove '..UptoSaid'. A law counts once. -/
mutual
def uptoBulk {H : Type} : DataW H → Nat
  | .lit (.string bytes) => bytes.length + 1
  | .lit _ => 1
  | .nil => 1
  | .ptr d => uptoBulk d + 1
  | .slice elems spare => uptoBulkAll elems + uptoBulkAll spare + 1
  | .agg parts => uptoBulkAll parts + 1
  | .iface _ d => uptoBulk d + 1
  | .map entries => uptoBulkEntries entries + 1
  | .held _ => 1
def uptoBulkAll {H : Type} : List (DataW H) → Nat
  | [] => 0
  | d :: r => uptoBulk d + uptoBulkAll r
def uptoBulkEntries {H : Type} : List (Lit × DataW H) → Nat
  | [] => 0
  | x :: r => uptoBulkEntry x + uptoBulkEntries r
def uptoBulkEntry {H : Type} : Lit × DataW H → Nat
  | (.string bytes, d) => bytes.length + uptoBulk d + 1
  | (_, d) => uptoBulk d + 1
 end
def uptoSmall : (H : Type) → List (DataW H) → Bool := fun _ ds => decide (uptoBulkAll ds ≤ 1048576)
def OpenSpec.upto (s : _root_.Go.ChangeSpec) : _root_.Go.OpenSpec := { _root_.Go.OpenSpec.ofChange s with cond := some uptoSmall }

/-- 'sluicelaw1.EvalSides', WHERE WHAT IT READS IS OF BULK AT MOST 1048576: true; the input reads as it did. -/
def evalSidesUptoRow : OpenClaim := { program := "ytkoejkpjkcejcabdoor", sum := "444ef7d05ea8224b2626d201cf198456f4959dcb3120f78b81382efca3301fdf", func := "sluicebook/sluicelaw1.EvalSides", spec := "evalSides", inPlace := ["internal/reflectlite.ValueOf", "(internal/reflectlite.Value).Type", "(internal/reflectlite.Value).IsNil", "internal/reflectlite.TypeOf", "(internal/reflectlite.Value).Elem", "(internal/reflectlite.Value).Set"], unfollowed := true, recurses := true, named := ["sluicebook/tree.operations", "sluicebook/tree.words", "errors.errorType", "sluicebook/row.typeWords", "sluicebook/kind.rules"], loops := true, apart := false, laid := [("errors.errorType", laid_errors_errorType), ("sluicebook/row.typeWords", laid_sluicebook_row_typeWords), ("sluicebook/tree.words", laid_sluicebook_tree_words), ("sluicebook/tree.operations", laid_sluicebook_tree_operations), ("sluicebook/kind.rules", laid_sluicebook_kind_rules)], narrowed := true }
def EvalSidesUptoSaid : Prop := evalSidesUptoRow.holds Tryd.pinned (OpenSpec.upto evalSidesSpec)

/-- 'sluicelaw4.EvalSwaps', WHERE WHAT IT READS IS OF BULK AT MOST 1048576: true; the input reads as it did. -/
def evalSwapsUptoRow : OpenClaim := { program := "ytkoejkpjkcejcabdoor", sum := "444ef7d05ea8224b2626d201cf198456f4959dcb3120f78b81382efca3301fdf", func := "sluicebook/sluicelaw4.EvalSwaps", spec := "evalSwaps", unfollowed := true, recurses := true, named := ["sluicebook/kind.rules"], apart := false, laid := [("sluicebook/kind.rules", laid_sluicebook_kind_rules)], narrowed := true }
def EvalSwapsUptoSaid : Prop := evalSwapsUptoRow.holds Tryd.pinned (OpenSpec.upto evalSwapsSpec)

/-- 'sluicelaw2.CodeTells', WHERE WHAT IT READS IS OF BULK AT MOST 1048576: true; the input reads as it did. -/
def codeTellsUptoRow : OpenClaim := { program := "ytkoejkpjkcejcabdoor", sum := "444ef7d05ea8224b2626d201cf198456f4959dcb3120f78b81382efca3301fdf", func := "sluicebook/sluicelaw2.CodeTells", spec := "codeTells", inPlace := ["internal/bytealg.CountString", "internal/bytealg.IndexByteString", "internal/bytealg.IndexString", "internal/abi.NoEscape", "internal/bytealg.MakeNoZero", "internal/reflectlite.ValueOf", "(internal/reflectlite.Value).Type", "(internal/reflectlite.Value).IsNil", "internal/reflectlite.TypeOf", "(internal/reflectlite.Value).Elem", "(internal/reflectlite.Value).Set"], unfollowed := true, recurses := true, named := ["internal/strconv.uint64pow10", "math/bits.deBruijn32tab", "math/bits.deBruijn64tab", "internal/bytealg.MaxLen", "unicode/utf8.first", "unicode/utf8.acceptRanges", "sluicebook/kind.rules", "errors.errorType"], apart := false, laid := [("math/bits.deBruijn32tab", laid_math_bits_deBruijn32tab), ("math/bits.deBruijn64tab", laid_math_bits_deBruijn64tab), ("internal/strconv.uint64pow10", laid_internal_strconv_uint64pow10), ("unicode/utf8.acceptRanges", laid_unicode_utf8_acceptRanges), ("errors.errorType", laid_errors_errorType), ("sluicebook/kind.rules", laid_sluicebook_kind_rules), ("unicode/utf8.first", laid_unicode_utf8_first)], narrowed := true }
def CodeTellsUptoSaid : Prop := codeTellsUptoRow.holds Tryd.pinned (OpenSpec.upto codeTellsSpec)

/-- 'sluicelaw2.VerifySound', WHERE WHAT IT READS IS OF BULK AT MOST 1048576: true; the input reads as it did. -/
def verifySoundUptoRow : OpenClaim := { program := "ytkoejkpjkcejcabdoor", sum := "444ef7d05ea8224b2626d201cf198456f4959dcb3120f78b81382efca3301fdf", func := "sluicebook/sluicelaw2.VerifySound", spec := "verifySound", inPlace := ["internal/reflectlite.ValueOf", "(internal/reflectlite.Value).Type", "(internal/reflectlite.Value).IsNil", "internal/reflectlite.TypeOf", "(internal/reflectlite.Value).Elem", "(internal/reflectlite.Value).Set"], unfollowed := true, recurses := true, named := ["sluicebook/row.typeWords", "sluicebook/kind.rules", "errors.errorType"], apart := false, laid := [("errors.errorType", laid_errors_errorType), ("sluicebook/row.typeWords", laid_sluicebook_row_typeWords), ("sluicebook/kind.rules", laid_sluicebook_kind_rules)], narrowed := true }
def VerifySoundUptoSaid : Prop := verifySoundUptoRow.holds Tryd.pinned (OpenSpec.upto verifySoundSpec)

end Rows
end Go.Proofs.YtkoejkpjkcejcabDoor
