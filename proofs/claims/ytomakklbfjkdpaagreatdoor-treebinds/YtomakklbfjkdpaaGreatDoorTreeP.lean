/-
  The document's reading of words as an expression, as plain functions.
-/
import Derived.Test.YtomakklbfjkdpaaGreatDoorLexPure
import Derived.Test.YtomakklbfjkdpaaGreatDoorTreeEx
namespace Go.Proofs.YtomakklbfjkdpaaGreatDoor
open Go.RowKit
set_option linter.unusedVariables false
--BEGIN
/-- Where the reader stands: which word is the next, and where it went wrong (below 0: nowhere). -/
structure St where
  i : Nat
  bad : Int
/-- Where the next word stands. -/
def posAt (ts : List Tok) (en : Nat) (i : Nat) : Int := match ts[i]? with
  | some t => (t.2.2 : Int)
  | none => (en : Int)
/-- Is the next word this one? -/
def isT (ts : List Tok) (st : St) (s : List UInt8) : Bool := decide (st.bad < 0) && match ts[st.i]? with
  | some t => (decide (t.1 = 1) || decide (t.1 = 4)) && t.2.1.data.toList == s
  | none => false
def adv (st : St) : St := ⟨st.i + 1, st.bad⟩
def failT (ts : List Tok) (en : Nat) (st : St) : St := if st.bad < 0 then ⟨st.i, posAt ts en st.i⟩ else st
def hasT (ts : List Tok) (st : St) (s : List UInt8) : St := if isT ts st s = true then adv st else st
def needT (ts : List Tok) (en : Nat) (st : St) (s : List UInt8) : St := if isT ts st s = true then adv st else failT ts en st
/-- The words of the language. -/
def wordsL : List (List UInt8) := [[111, 114], [97, 110, 100], [110, 111, 116], [116, 114, 117, 101], [102, 97, 108, 115, 101], [108, 101, 110], [105, 102], [115, 101, 108, 101, 99, 116], [97, 115], [102, 114, 111, 109], [119, 104, 101, 114, 101], [103, 114, 111, 117, 112], [98, 121], [119, 105, 110, 100, 111, 119], [115, 108, 105, 100, 101], [99, 111, 117, 110, 116], [115, 117, 109], [108, 101, 97, 115, 116], [109, 111, 115, 116]]
/-- Is a text 1 to 8 letters? -/
def lettersB (l : List UInt8) : Bool := decide (l ≠ []) && decide (l.length ≤ 8) && l.all letB
/-- May a text be a name? -/
def nameT (l : List UInt8) : Bool := lettersB l && !(wordsL.any (· == l))
/-- A name is taken. -/
def takeT (ts : List Tok) (en : Nat) (st : St) : ByteArray × St :=
  if st.bad < 0 then
    (match ts[st.i]? with
    | some t => if t.1 = 1 ∧ nameT t.2.1.data.toList = true then (t.2.1, adv st) else (⟨#[]⟩, failT ts en st)
    | none => (⟨#[]⟩, failT ts en st))
  else (⟨#[]⟩, st)
/-- The signs of a level. -/
def sgl (lv : Nat) : List (List UInt8) := match lv with
  | 0 => [[111, 114]]
  | 1 => [[97, 110, 100]]
  | 2 => [[61], [60, 62], [60], [60, 61], [62], [62, 61]]
  | 3 => [[43], [45]]
  | 4 => [[42], [47], [37]]
  | _ => []
def ex0 : Ex := .node ⟨#[]⟩ ⟨#[]⟩ 0 0 ⟨#[]⟩ 0 []
def op1 (op : List UInt8) (pos : Int) (l : List Ex) : Ex := .node ⟨op.toArray⟩ ⟨#[]⟩ 0 0 ⟨#[]⟩ pos l
/-- The first of some signs that is the next. -/
def firstT (ts : List Tok) (st : St) : List (List UInt8) → Option (List UInt8)
  | [] => none
  | g :: gs => if isT ts st g = true then some g else firstT ts st gs
/-- Behind what has been read: sign and part, over and over (but once of a comparison). -/
def pLoop (ts : List Tok) (en : Nat) (sub : St → Ex × St) (lv : Nat) : Nat → Ex → St → Ex × St
  | 0, e, st => (e, st)
  | k + 1, e, st => match firstT ts st (sgl lv) with
    | none => (e, st)
    | some g =>
      if lv = 2 then (op1 g (posAt ts en st.i) [e, (sub (adv st)).1], (sub (adv st)).2)
      else pLoop ts en sub lv k (op1 g (posAt ts en st.i) [e, (sub (adv st)).1]) (sub (adv st)).2
/-- Parts in brackets, a comma between: those that were read, and how many are left. -/
def pArgs (ts : List Tok) (en : Nat) (sub : St → Ex × St) : Nat → List Ex → St → List Ex × St
  | 0, l, st => (l, st)
  | k + 1, l, st =>
    pArgs ts en sub k (l ++ [(sub (if l = [] then st else needT ts en st [44])).1]) (sub (if l = [] then st else needT ts en st [44])).2
/-- len, if: the parts in brackets. -/
def pCall (ts : List Tok) (en : Nat) (sub : St → Ex × St) (op : List UInt8) (many : Nat) (pos : Int) (st : St) : Ex × St :=
  (op1 op pos (pArgs ts en sub many [] (needT ts en st [40])).1, needT ts en (pArgs ts en sub many [] (needT ts en st [40])).2 [41])
/-- Is the next word a value? -/
def valT (t : Tok) : Bool := decide (t.1 = 2) || decide (t.1 = 3) || (decide (t.1 = 1) && (t.2.1.data.toList == [116, 114, 117, 101] || t.2.1.data.toList == [102, 97, 108, 115, 101]))
def pCol (ts : List Tok) (en : Nat) (st : St) : Ex × St := (.node ⟨#[99, 111, 108]⟩ (takeT ts en st).1 0 0 ⟨#[]⟩ (posAt ts en st.i) [], (takeT ts en st).2)
/-- What is the tightest. -/
def pOne (ts : List Tok) (en : Nat) (sub : St → Ex × St) (rv : ByteArray → Int × Int × List UInt8 × Int) (st : St) : Ex × St :=
  if isT ts st [40] = true then ((sub (adv st)).1, needT ts en (sub (adv st)).2 [41])
  else if isT ts st [108, 101, 110] = true then pCall ts en sub [108, 101, 110] 1 (posAt ts en st.i) (adv st)
  else if isT ts st [105, 102] = true then pCall ts en sub [105, 102] 3 (posAt ts en st.i) (adv st)
  else
    (match ts[st.i]? with
    | some t => if st.bad < 0 ∧ valT t = true then (.node ⟨#[118, 97, 108]⟩ ⟨#[]⟩ (rv t.2.1).1 (rv t.2.1).2.1 ⟨(rv t.2.1).2.2.1.toArray⟩ (posAt ts en st.i) [], adv st) else pCol ts en st
    | none => pCol ts en st)
/-- An expression of a level, or tighter. -/
def pE (ts : List Tok) (en : Nat) (rv : ByteArray → Int × Int × List UInt8 × Int) : Nat → Nat → St → Ex × St
  | 0, _, st => (ex0, st)
  | f + 1, lv, st =>
    if 0 ≤ st.bad then (ex0, st)
    else if lv = 2 ∧ isT ts st [110, 111, 116] = true then (op1 [110, 111, 116] (posAt ts en st.i) [(pE ts en rv f 2 (adv st)).1], (pE ts en rv f 2 (adv st)).2)
    else if lv = 5 then
      if isT ts st [45] = true then (op1 [110, 101, 103] (posAt ts en st.i) [(pE ts en rv f 5 (adv st)).1], (pE ts en rv f 5 (adv st)).2)
      else pOne ts en (pE ts en rv f 0) rv st
    else pLoop ts en (pE ts en rv f (lv + 1)) lv (ts.length + 1) (pE ts en rv f (lv + 1) st).1 (pE ts en rv f (lv + 1) st).2
--END
end Go.Proofs.YtomakklbfjkdpaaGreatDoor
