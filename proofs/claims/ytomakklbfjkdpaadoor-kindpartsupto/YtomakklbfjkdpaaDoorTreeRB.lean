/-
  The program's reader of words (package tree): an expression of any words.
-/
import Derived.Test.YtomakklbfjkdpaaDoorTreeRA
namespace Go.Proofs.YtomakklbfjkdpaaDoor
open Go.RowKit Go.BigFrame
set_option linter.unusedVariables false

/-- What the program reads of words: the expression, and what is left. -/
def readE (ts : List Tok) : Option Ex × List Tok := uE (ts.length * 8 + 8) 0 ts
end Go.Proofs.YtomakklbfjkdpaaDoor
