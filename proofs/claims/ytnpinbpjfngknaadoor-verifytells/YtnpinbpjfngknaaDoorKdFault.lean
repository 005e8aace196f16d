/-
  An error of package api as a fault (package kind).
-/
import Derived.Test.YtnpinbpjfngknaaDoorKdRuleB
namespace Go.Proofs.YtnpinbpjfngknaaDoor
open Go.RowKit Go.BigFrame
set_option linter.unusedVariables false

end Go.Proofs.YtnpinbpjfngknaaDoor
