/-
  What is of which type (package kind), as plain functions; and that a part of what is right is right.
-/
import Derived.Test.YtnpinbpjfngknaaDoorKdR0
import Derived.Test.YtnpinbpjfngknaaDoorRow5
namespace Go.Proofs.YtnpinbpjfngknaaDoor
open Go.RowKit
set_option linter.unusedVariables false
theorem al (W : World) (o : Obj) : Below W.heap.size W (W.alloc o) := (Below.refl W.heap.size W).alloc (Nat.le_refl _) o
--BEGIN
/-- How many parts. -/
def kdCnt (r : KRule) : Nat := if r.2.1 = 0 then 0 else if r.2.2.1 = 0 then 1 else if r.2.2.2.1 = 0 then 2 else 3
def kdMeant (last t : Int) : Int := if t = -1 then last else t
def kdFind (op : List UInt8) : List KRule → Option KRule
  | [] => none
  | r :: rs => if r.1 = op then some r else kdFind op rs
def isTy (t : Int) : Bool := decide (t = 1) || (decide (t = 2) || decide (t = 3))
def kdAll (last : Int) : List Int → List Int → Bool
  | [], _ => true
  | _ :: _, [] => true
  | t :: ts, a :: l => decide (t = kdMeant last a) && kdAll last ts l
/-- The type of an operation over parts of these types, and what is wrong. -/
def ruleP (op : List UInt8) (ts : List Int) : Int × Int :=
  match kdFind op kdRules with
  | none => (0, 1)
  | some r => if ts.all isTy = false then (0, 1) else if ts.length ≠ kdCnt r then (0, 3) else if kdAll (ts.getLast?.getD 0) ts [r.2.1, r.2.2.1, r.2.2.2.1] = true then (kdMeant (ts.getLast?.getD 0) r.2.2.2.2, 0) else (0, 8)
--END
end Go.Proofs.YtnpinbpjfngknaaDoor
