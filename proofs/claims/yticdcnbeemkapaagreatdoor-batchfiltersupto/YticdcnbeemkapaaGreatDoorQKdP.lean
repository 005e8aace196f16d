/-
  What is of which type (package kind), as plain functions; and that a part of what is right is right.
-/
import Derived.Test.YticdcnbeemkapaaGreatDoorGrAg
namespace Go.Proofs.YticdcnbeemkapaaGreatDoor
open Go.RowKit
set_option linter.unusedVariables false
--BEGIN
/-- How many parts. -/
def kdCnt (r : KRule) : Nat := if r.2.1 = 0 then 0 else if r.2.2.1 = 0 then 1 else if r.2.2.2.1 = 0 then 2 else 3
def kdMeant (last t : Int) : Int := if t = -1 then last else t
def kdFind (op : List UInt8) : List KRule → Option KRule
  | [] => none
  | r :: rs => if r.1 = op then some r else kdFind op rs
def isTy (t : Int) : Bool := decide (t = 1) || (decide (t = 2) || decide (t = 3))
def kdAll (last : Int) : List Int → List Int → Bool
  | [], _ => true
  | _ :: _, [] => true
  | t :: ts, a :: l => decide (t = kdMeant last a) && kdAll last ts l
/-- The type of an operation over parts of these types, and what is wrong. -/
def ruleP (op : List UInt8) (ts : List Int) : Int × Int :=
  match kdFind op kdRules with
  | none => (0, 1)
  | some r => if ts.all isTy = false then (0, 1) else if ts.length ≠ kdCnt r then (0, 3) else if kdAll (ts.getLast?.getD 0) ts [r.2.1, r.2.2.1, r.2.2.2.1] = true then (kdMeant (ts.getLast?.getD 0) r.2.2.2.2, 0) else (0, 8)
mutual
/-- The type of an expression that is right, over columns; what is wrong, and where. -/
def tyP (zs : List (ByteArray × Int)) : Ex → Int × Int × Int
  | .node op nm vt vn vs pos l =>
    if op.data.toList = [118, 97, 108] then (vt, 0, 0)
    else if op.data.toList = [99, 111, 108] then (if findN nm.data.toList zs = -1 then (0, 5, pos) else ((zs[(findN nm.data.toList zs).toNat]?.getD default).2, 0, 0))
    else if (tysP zs l).2.1 ≠ 0 then (0, (tysP zs l).2)
    else if (ruleP op.data.toList (tysP zs l).1).2 ≠ 0 then (0, (ruleP op.data.toList (tysP zs l).1).2, pos) else ((ruleP op.data.toList (tysP zs l).1).1, 0, 0)
def tysP (zs : List (ByteArray × Int)) : List Ex → List Int × Int × Int
  | [] => ([], 0, 0)
  | x :: xs => if (tyP zs x).2.1 ≠ 0 then ([], (tyP zs x).2) else if (tysP zs xs).2.1 ≠ 0 then ([], (tysP zs xs).2) else ((tyP zs x).1 :: (tysP zs xs).1, 0, 0)
end
--END
end Go.Proofs.YticdcnbeemkapaaGreatDoor
