/-
  TreeEx, TreeP, TreeQ, LexToks, TreeR1, in one text.
-/
import Derived.Test.YtkoejkpjkcejcabDoorProg
import Derived.WalkKit
import Derived.Below
import Derived.Lib.Strings
import Derived.Laws.RangeAny
import Derived.Deep.DeepCutAuto
import Derived.Test.YtkoejkpjkcejcabDoorGyAc
import Derived.Test.YtkoejkpjkcejcabDoorGyAa
import Derived.RowKitTokens
import Derived.Lib.OthersKept
import Derived.WalkSmall
import Derived.BigQuiet
import Derived.Deep.RegionWith
namespace Go.Proofs.YtkoejkpjkcejcabDoor
open Go.RowKit
set_option linter.unusedVariables false
--BEGIN
/-- An expression: Op, Name, the value's type, number and text, At, and the parts. -/
inductive Ex where
  | node (op nm : ByteArray) (vt vn : Int) (vs : ByteArray) (pos : Int) (args : List Ex)
theorem Ex.ind {P : Ex → Prop} (h : ∀ op nm vt vn vs pos args, (∀ y ∈ args, P y) → P (.node op nm vt vn vs pos args)) : ∀ x, P x
  | .node op nm vt vn vs pos args => h op nm vt vn vs pos args (fun y hy => Ex.ind h y)
termination_by x => SizeOf.sizeOf x
decreasing_by
  have := List.sizeOf_lt_of_mem hy
  simp
  omega
def Ex.args : Ex → List Ex
  | .node _ _ _ _ _ _ l => l
def Ex.op : Ex → ByteArray
  | .node o _ _ _ _ _ _ => o
def Ex.nm : Ex → ByteArray
  | .node _ o _ _ _ _ _ => o
def Ex.vt : Ex → Int
  | .node _ _ o _ _ _ _ => o
def Ex.vn : Ex → Int
  | .node _ _ _ o _ _ _ => o
def Ex.vs : Ex → ByteArray
  | .node _ _ _ _ o _ _ => o
def Ex.pos : Ex → Int
  | .node _ _ _ _ _ o _ => o
mutual
/-- An expression lies in memory: its own cells are the value's; those of its parts lie behind the slice, in blocks for which lo holds. -/
def ExIn (w : World) (lo : Nat → Prop) : Value → Ex → Prop
  | v, .node op nm vt vn vs pos args => ∃ p c, v = .agg #[.string op, .string nm, .int .i64 vt, .int .i64 vn, .string vs, .slice p args.length c, .int .i64 pos] ∧ (args.length ≤ maxLen ∧ args.length ≤ c) ∧ op.size ≤ maxLen ∧ nm.size ≤ maxLen ∧ vs.size ≤ maxLen ∧ (args.length = 0 ∨ ∃ b off, p = some ⟨b, off, none⟩ ∧ b < w.heap.size ∧ lo b ∧ ExsIn w lo b off args)
/-- Expressions one behind the other. -/
def ExsIn (w : World) (lo : Nat → Prop) (b : Nat) : Nat → List Ex → Prop
  | _, [] => True
  | off, x :: xs => (∃ v0 v1 v2 v3 v4 v5 v6, w.cell? ⟨b, off, none⟩ = some v0 ∧ w.cell? ⟨b, off + 1, none⟩ = some v1 ∧ w.cell? ⟨b, off + 2, none⟩ = some v2 ∧ w.cell? ⟨b, off + 3, none⟩ = some v3 ∧ w.cell? ⟨b, off + 4, none⟩ = some v4 ∧ w.cell? ⟨b, off + 5, none⟩ = some v5 ∧ w.cell? ⟨b, off + 6, none⟩ = some v6 ∧ ExIn w lo (.agg #[v0, v1, v2, v3, v4, v5, v6]) x) ∧ ExsIn w lo b (off + 7) xs
end
theorem exsIn_at (w : World) (lo : Nat → Prop) (b : Nat) : ∀ (xs : List Ex) (off : Nat), ExsIn w lo b off xs → ∀ j (h : j < xs.length), ∃ v0 v1 v2 v3 v4 v5 v6, w.cell? ⟨b, off + j * 7, none⟩ = some v0 ∧ w.cell? ⟨b, off + j * 7 + 1, none⟩ = some v1 ∧ w.cell? ⟨b, off + j * 7 + 2, none⟩ = some v2 ∧ w.cell? ⟨b, off + j * 7 + 3, none⟩ = some v3 ∧ w.cell? ⟨b, off + j * 7 + 4, none⟩ = some v4 ∧ w.cell? ⟨b, off + j * 7 + 5, none⟩ = some v5 ∧ w.cell? ⟨b, off + j * 7 + 6, none⟩ = some v6 ∧ ExIn w lo (.agg #[v0, v1, v2, v3, v4, v5, v6]) xs[j]
  | [], _, _, j, h => absurd h (by simp)
  | x :: xs, off, hs, 0, _ => by
    rw [ExsIn] at hs
    obtain ⟨v0, v1, v2, v3, v4, v5, v6, h⟩ := hs.1
    refine ⟨v0, v1, v2, v3, v4, v5, v6, ?_⟩
    simp only [Nat.zero_mul, Nat.add_zero, List.getElem_cons_zero]
    exact h
  | x :: xs, off, hs, j + 1, h => by
    rw [ExsIn] at hs
    have ih := exsIn_at w lo b xs (off + 7) hs.2 j (by simpa using h)
    simp only [show off + 7 + j * 7 = off + (j + 1) * 7 from by omega] at ih
    simp only [List.getElem_cons_succ]
    exact ih
theorem exsIn_mk (w : World) (lo : Nat → Prop) (b : Nat) : ∀ (xs : List Ex) (off : Nat), (∀ j (h : j < xs.length), ∃ v0 v1 v2 v3 v4 v5 v6, w.cell? ⟨b, off + j * 7, none⟩ = some v0 ∧ w.cell? ⟨b, off + j * 7 + 1, none⟩ = some v1 ∧ w.cell? ⟨b, off + j * 7 + 2, none⟩ = some v2 ∧ w.cell? ⟨b, off + j * 7 + 3, none⟩ = some v3 ∧ w.cell? ⟨b, off + j * 7 + 4, none⟩ = some v4 ∧ w.cell? ⟨b, off + j * 7 + 5, none⟩ = some v5 ∧ w.cell? ⟨b, off + j * 7 + 6, none⟩ = some v6 ∧ ExIn w lo (.agg #[v0, v1, v2, v3, v4, v5, v6]) xs[j]) → ExsIn w lo b off xs
  | [], _, _ => by rw [ExsIn]; trivial
  | x :: xs, off, hs => by
    rw [ExsIn]
    have h0 := hs 0 (by simp)
    simp only [Nat.zero_mul, Nat.add_zero, List.getElem_cons_zero] at h0
    refine ⟨h0, exsIn_mk w lo b xs (off + 7) fun j hj => ?_⟩
    have := hs (j + 1) (by simpa using hj)
    simp only [show off + (j + 1) * 7 = off + 7 + j * 7 from by omega, List.getElem_cons_succ] at this
    exact this
/-- What is kept where the blocks of its parts are kept. -/
theorem ExIn.keep {w w' : World} {lo : Nat → Prop} (hz : w.heap.size ≤ w'.heap.size) (hk : ∀ b o : Nat, lo b → b < w.heap.size → w'.cell? ⟨b, o, none⟩ = w.cell? ⟨b, o, none⟩) : ∀ (x : Ex) (v : Value), ExIn w lo v x → ExIn w' lo v x := by
  refine Ex.ind fun op nm vt vn vs pos args ih v h => ?_
  rw [ExIn] at h ⊢
  obtain ⟨p, c, rfl, h1, h2, h3, h4, h5⟩ := h
  refine ⟨p, c, rfl, h1, h2, h3, h4, ?_⟩
  rcases h5 with h5 | ⟨b, off, rfl, hbl, hlo, h5⟩
  · exact .inl h5
  · refine .inr ⟨b, off, rfl, by omega, hlo, exsIn_mk w' lo b args off fun j hj => ?_⟩
    obtain ⟨v0, v1, v2, v3, v4, v5, v6, e0, e1, e2, e3, e4, e5, e6, hx⟩ := exsIn_at w lo b args off h5 j hj
    have key : ∀ o : Nat, w'.cell? ⟨b, o, none⟩ = w.cell? ⟨b, o, none⟩ := fun o => hk b o hlo hbl
    exact ⟨v0, v1, v2, v3, v4, v5, v6, by rw [key]; exact e0, by rw [key]; exact e1, by rw [key]; exact e2, by rw [key]; exact e3, by rw [key]; exact e4, by rw [key]; exact e5, by rw [key]; exact e6, ih _ (List.getElem_mem hj) _ hx⟩
theorem ExIn.on {w w' : World} {lo : Nat → Prop} {x : Ex} {v : Value} (h : ExIn w lo v x) (hb : Below w.heap.size w w') : ExIn w' lo v x :=
  ExIn.keep hb.size (fun b o _ hbl => hb.cell (p := ⟨b, o, none⟩) hbl) x v h
theorem ExIn.low {w : World} {lo lo' : Nat → Prop} (hl : ∀ b, b < w.heap.size → lo b → lo' b) : ∀ (x : Ex) (v : Value), ExIn w lo v x → ExIn w lo' v x := by
  refine Ex.ind fun op nm vt vn vs pos args ih v h => ?_
  rw [ExIn] at h ⊢
  obtain ⟨p, c, rfl, h1, h2, h3, h4, h5⟩ := h
  refine ⟨p, c, rfl, h1, h2, h3, h4, ?_⟩
  rcases h5 with h5 | ⟨b, off, rfl, hbl, hlo, h5⟩
  · exact .inl h5
  · refine .inr ⟨b, off, rfl, hbl, hl b hbl hlo, exsIn_mk w lo' b args off fun j hj => ?_⟩
    obtain ⟨v0, v1, v2, v3, v4, v5, v6, e0, e1, e2, e3, e4, e5, e6, hx⟩ := exsIn_at w lo b args off h5 j hj
    exact ⟨v0, v1, v2, v3, v4, v5, v6, e0, e1, e2, e3, e4, e5, e6, ih _ (List.getElem_mem hj) _ hx⟩
mutual
/-- How many nodes. -/
def Ex.size : Ex → Nat
  | .node _ _ _ _ _ _ l => 1 + Ex.sizes l
def Ex.sizes : List Ex → Nat
  | [] => 0
  | x :: xs => x.size + Ex.sizes xs
end
mutual
/-- How many are below each other. -/
def Ex.deep : Ex → Nat
  | .node _ _ _ _ _ _ l => Ex.deeps l + 1
def Ex.deeps : List Ex → Nat
  | [] => 0
  | x :: xs => max x.deep (Ex.deeps xs)
end
--END
end Go.Proofs.YtkoejkpjkcejcabDoor
namespace Go.Proofs.YtkoejkpjkcejcabDoor
open Go.RowKit
set_option linter.unusedVariables false
--BEGIN
/-- Where the reader stands: which word is the next, and where it went wrong (below 0: nowhere). -/
structure St where
  i : Nat
  bad : Int
/-- Where the next word stands. -/
def posAt (ts : List Tok) (en : Nat) (i : Nat) : Int := match ts[i]? with
  | some t => (t.2.2 : Int)
  | none => (en : Int)
/-- Is the next word this one? -/
def isT (ts : List Tok) (st : St) (s : List UInt8) : Bool := decide (st.bad < 0) && match ts[st.i]? with
  | some t => (decide (t.1 = 1) || decide (t.1 = 4)) && t.2.1.data.toList == s
  | none => false
def adv (st : St) : St := ⟨st.i + 1, st.bad⟩
def failT (ts : List Tok) (en : Nat) (st : St) : St := if st.bad < 0 then ⟨st.i, posAt ts en st.i⟩ else st
def hasT (ts : List Tok) (st : St) (s : List UInt8) : St := if isT ts st s = true then adv st else st
def needT (ts : List Tok) (en : Nat) (st : St) (s : List UInt8) : St := if isT ts st s = true then adv st else failT ts en st
/-- The words of the language. -/
def wordsL : List (List UInt8) := [[111, 114], [97, 110, 100], [110, 111, 116], [116, 114, 117, 101], [102, 97, 108, 115, 101], [108, 101, 110], [105, 102], [115, 101, 108, 101, 99, 116], [97, 115], [102, 114, 111, 109], [119, 104, 101, 114, 101], [103, 114, 111, 117, 112], [98, 121], [119, 105, 110, 100, 111, 119], [115, 108, 105, 100, 101], [99, 111, 117, 110, 116], [115, 117, 109], [108, 101, 97, 115, 116], [109, 111, 115, 116]]
/-- Is a text 1 to 8 letters? -/
def lettersB (l : List UInt8) : Bool := decide (l ≠ []) && decide (l.length ≤ 8) && l.all letB
/-- May a text be a name? -/
def nameT (l : List UInt8) : Bool := lettersB l && !(wordsL.any (· == l))
/-- A name is taken. -/
def takeT (ts : List Tok) (en : Nat) (st : St) : ByteArray × St :=
  if st.bad < 0 then
    (match ts[st.i]? with
    | some t => if t.1 = 1 ∧ nameT t.2.1.data.toList = true then (t.2.1, adv st) else (⟨#[]⟩, failT ts en st)
    | none => (⟨#[]⟩, failT ts en st))
  else (⟨#[]⟩, st)
/-- The signs of a level. -/
def sgl (lv : Nat) : List (List UInt8) := match lv with
  | 0 => [[111, 114]]
  | 1 => [[97, 110, 100]]
  | 2 => [[61], [60, 62], [60], [60, 61], [62], [62, 61]]
  | 3 => [[43], [45]]
  | 4 => [[42], [47], [37]]
  | _ => []
def ex0 : Ex := .node ⟨#[]⟩ ⟨#[]⟩ 0 0 ⟨#[]⟩ 0 []
def op1 (op : List UInt8) (pos : Int) (l : List Ex) : Ex := .node ⟨op.toArray⟩ ⟨#[]⟩ 0 0 ⟨#[]⟩ pos l
/-- The first of some signs that is the next. -/
def firstT (ts : List Tok) (st : St) : List (List UInt8) → Option (List UInt8)
  | [] => none
  | g :: gs => if isT ts st g = true then some g else firstT ts st gs
/-- Behind what has been read: sign and part, over and over (but once of a comparison). -/
def pLoop (ts : List Tok) (en : Nat) (sub : St → Ex × St) (lv : Nat) : Nat → Ex → St → Ex × St
  | 0, e, st => (e, st)
  | k + 1, e, st => match firstT ts st (sgl lv) with
    | none => (e, st)
    | some g =>
      if lv = 2 then (op1 g (posAt ts en st.i) [e, (sub (adv st)).1], (sub (adv st)).2)
      else pLoop ts en sub lv k (op1 g (posAt ts en st.i) [e, (sub (adv st)).1]) (sub (adv st)).2
/-- Parts in brackets, a comma between: those that were read, and how many are left. -/
def pArgs (ts : List Tok) (en : Nat) (sub : St → Ex × St) : Nat → List Ex → St → List Ex × St
  | 0, l, st => (l, st)
  | k + 1, l, st =>
    pArgs ts en sub k (l ++ [(sub (if l = [] then st else needT ts en st [44])).1]) (sub (if l = [] then st else needT ts en st [44])).2
/-- len, if: the parts in brackets. -/
def pCall (ts : List Tok) (en : Nat) (sub : St → Ex × St) (op : List UInt8) (many : Nat) (pos : Int) (st : St) : Ex × St :=
  (op1 op pos (pArgs ts en sub many [] (needT ts en st [40])).1, needT ts en (pArgs ts en sub many [] (needT ts en st [40])).2 [41])
/-- Is the next word a value? -/
def valT (t : Tok) : Bool := decide (t.1 = 2) || decide (t.1 = 3) || (decide (t.1 = 1) && (t.2.1.data.toList == [116, 114, 117, 101] || t.2.1.data.toList == [102, 97, 108, 115, 101]))
def pCol (ts : List Tok) (en : Nat) (st : St) : Ex × St := (.node ⟨#[99, 111, 108]⟩ (takeT ts en st).1 0 0 ⟨#[]⟩ (posAt ts en st.i) [], (takeT ts en st).2)
/-- What is the tightest. -/
def pOne (ts : List Tok) (en : Nat) (sub : St → Ex × St) (rv : ByteArray → Int × Int × List UInt8 × Int) (st : St) : Ex × St :=
  if isT ts st [40] = true then ((sub (adv st)).1, needT ts en (sub (adv st)).2 [41])
  else if isT ts st [108, 101, 110] = true then pCall ts en sub [108, 101, 110] 1 (posAt ts en st.i) (adv st)
  else if isT ts st [105, 102] = true then pCall ts en sub [105, 102] 3 (posAt ts en st.i) (adv st)
  else
    (match ts[st.i]? with
    | some t => if st.bad < 0 ∧ valT t = true then (.node ⟨#[118, 97, 108]⟩ ⟨#[]⟩ (rv t.2.1).1 (rv t.2.1).2.1 ⟨(rv t.2.1).2.2.1.toArray⟩ (posAt ts en st.i) [], adv st) else pCol ts en st
    | none => pCol ts en st)
/-- An expression of a level, or tighter. -/
def pE (ts : List Tok) (en : Nat) (rv : ByteArray → Int × Int × List UInt8 × Int) : Nat → Nat → St → Ex × St
  | 0, _, st => (ex0, st)
  | f + 1, lv, st =>
    if 0 ≤ st.bad then (ex0, st)
    else if lv = 2 ∧ isT ts st [110, 111, 116] = true then (op1 [110, 111, 116] (posAt ts en st.i) [(pE ts en rv f 2 (adv st)).1], (pE ts en rv f 2 (adv st)).2)
    else if lv = 5 then
      if isT ts st [45] = true then (op1 [110, 101, 103] (posAt ts en st.i) [(pE ts en rv f 5 (adv st)).1], (pE ts en rv f 5 (adv st)).2)
      else pOne ts en (pE ts en rv f 0) rv st
    else pLoop ts en (pE ts en rv f (lv + 1)) lv (ts.length + 1) (pE ts en rv f (lv + 1) st).1 (pE ts en rv f (lv + 1) st).2
--END
end Go.Proofs.YtkoejkpjkcejcabDoor
namespace Go.Proofs.YtkoejkpjkcejcabDoor
open Go.RowKit
set_option linter.unusedVariables false
--BEGIN
/-- Is a word one of these? -/
def sgT (gs : List (List UInt8)) (t : Tok) : Bool := gs.any fun g => g == t.2.1.data.toList
/-- The next word, if it is so; and what is left. -/
def nxT (P : Tok → Bool) : List Tok → Option (Tok × List Tok)
  | [] => none
  | t :: ts => if P t = true then some (t, ts) else none
theorem nxT_len {P : Tok → Bool} {ts r : List Tok} {t : Tok} (h : nxT P ts = some (t, r)) : ts = t :: r ∧ P t = true := by
  cases ts with
  | nil => simp [nxT] at h
  | cons a l =>
    rw [nxT] at h
    split at h
    · rename_i h1
      cases h
      exact ⟨rfl, h1⟩
    · exact absurd h (by simp)
def betT (a : Ex) (t : Tok) (b : Ex) : Ex := .node t.2.1 ⟨#[]⟩ 0 0 ⟨#[]⟩ (t.2.2 : Int) [a, b]
/-- Behind what has been read: sign and part, over and over. -/
def uLoop (sub : List Tok → Option Ex × List Tok) (gs : List (List UInt8)) : Nat → Ex → List Tok → Option Ex × List Tok
  | 0, e, ts => (some e, ts)
  | k + 1, e, ts => match nxT (sgT gs) ts with
    | none => (some e, ts)
    | some (t, r) => match sub r with
      | (none, r2) => (none, r2)
      | (some b, r2) => uLoop sub gs k (betT e t b) r2
def uSev (sub : List Tok → Option Ex × List Tok) (gs : List (List UInt8)) (ts : List Tok) : Option Ex × List Tok := match sub ts with
  | (none, r) => (none, r)
  | (some e, r) => uLoop sub gs (r.length + 1) e r
def uAhead (op : List UInt8) (gs : List (List UInt8)) (sub other : List Tok → Option Ex × List Tok) (ts : List Tok) : Option Ex × List Tok := match nxT (sgT gs) ts with
  | none => other ts
  | some (t, r) => match sub r with
    | (none, r2) => (none, r2)
    | (some e, r2) => (some (op1 op (t.2.2 : Int) [e]), r2)
def cmpL : List (List UInt8) := [[61], [60, 62], [60], [60, 61], [62], [62, 61]]
def uCmp (sub : List Tok → Option Ex × List Tok) (ts : List Tok) : Option Ex × List Tok := match sub ts with
  | (none, r) => (none, r)
  | (some a, r) => match nxT (sgT cmpL) r with
    | none => (some a, r)
    | some (t, r2) => match sub r2 with
      | (none, r3) => (none, r3)
      | (some b, r3) => (some (betT a t b), r3)
/-- So many in brackets, a comma between. -/
def uBr (sub : List Tok → Option Ex × List Tok) : Nat → List Ex → List Tok → Option (List Ex) × List Tok
  | 0, acc, ts => match nxT (sgT [[41]]) ts with
    | none => (none, ts)
    | some (_, r) => (some acc, r)
  | k + 1, acc, ts => match nxT (sgT [if acc.length = 0 then [40] else [44]]) ts with
    | none => (none, ts)
    | some (_, r) => match sub r with
      | (none, r2) => (none, r2)
      | (some e, r2) => uBr sub k (acc ++ [e]) r2
/-- Is a word a value? -/
def vlT (t : Tok) : Bool := decide ((readV t.2.1).2.2.2 = 0)
def valE (t : Tok) : Ex := .node ⟨#[118, 97, 108]⟩ ⟨#[]⟩ (readV t.2.1).1 (readV t.2.1).2.1 ⟨(readV t.2.1).2.2.1.toArray⟩ (t.2.2 : Int) []
def colE1 (t : Tok) : Ex := .node ⟨#[99, 111, 108]⟩ t.2.1 0 0 ⟨#[]⟩ (t.2.2 : Int) []
def nmT (t : Tok) : Bool := nameT t.2.1.data.toList
/-- What has no sign of its own. -/
def uOne (sub : List Tok → Option Ex × List Tok) (ts : List Tok) : Option Ex × List Tok := match nxT (sgT [[108, 101, 110], [105, 102]]) ts with
  | some (t, r) => match uBr sub (if t.2.1.data.toList = [108, 101, 110] then 1 else 3) [] r with
    | (none, r2) => (none, r2)
    | (some l, r2) => (some (.node t.2.1 ⟨#[]⟩ 0 0 ⟨#[]⟩ (t.2.2 : Int) l), r2)
  | none => match nxT vlT ts with
    | some (t, r) => (some (valE t), r)
    | none => match nxT nmT ts with
      | some (t, r) => (some (colE1 t), r)
      | none => match uBr sub 1 [] ts with
        | (none, r) => (none, r)
        | (some l, r) => (l.head?, r)
/-- An expression of a level: 0 or, 1 and, 2 not, 3 a comparison, 4 a sum, 5 a product, 6 -, 7 one. -/
def uE : Nat → Nat → List Tok → Option Ex × List Tok
  | 0, _, ts => (none, ts)
  | f + 1, lv, ts => match lv with
    | 0 => uSev (uE f 1) [[111, 114]] ts
    | 1 => uSev (uE f 2) [[97, 110, 100]] ts
    | 2 => uAhead [110, 111, 116] [[110, 111, 116]] (uE f 2) (uE f 3) ts
    | 3 => uCmp (uE f 4) ts
    | 4 => uSev (uE f 5) [[43], [45]] ts
    | 5 => uSev (uE f 6) [[42], [47], [37]] ts
    | 6 => uAhead [110, 101, 103] [[45]] (uE f 6) (uE f 7) ts
    | _ => uOne (uE f 0) ts
/-- What is left is an end of what there was. -/
def Suf (sub : List Tok → Option Ex × List Tok) : Prop := ∀ ts, (sub ts).2 <:+ ts
theorem uLoop_suf {sub : List Tok → Option Ex × List Tok} (hs : Suf sub) (gs : List (List UInt8)) : ∀ (k : Nat) (e : Ex) (ts : List Tok), (uLoop sub gs k e ts).2 <:+ ts
  | 0, e, ts => List.suffix_rfl
  | k + 1, e, ts => by
    rw [uLoop]
    cases h : nxT (sgT gs) ts with
    | none => exact List.suffix_rfl
    | some q =>
      obtain ⟨t, r⟩ := q
      have h1 := (nxT_len h).1
      subst h1
      have h2 := (hs r).trans (List.suffix_cons t r)
      simp only
      cases h3 : sub r with
      | mk o r2 =>
        rw [h3] at h2
        cases o with
        | none => exact h2
        | some b => exact (uLoop_suf hs gs k (betT e t b) r2).trans h2
theorem uSev_suf {sub : List Tok → Option Ex × List Tok} (hs : Suf sub) (gs : List (List UInt8)) : Suf (uSev sub gs) := by
  intro ts
  have h2 := hs ts
  rw [uSev]
  cases h3 : sub ts with
  | mk o r =>
    rw [h3] at h2
    cases o with
    | none => exact h2
    | some e => exact (uLoop_suf hs gs (r.length + 1) e r).trans h2
theorem uAhead_suf {sub other : List Tok → Option Ex × List Tok} (hs : Suf sub) (ho : Suf other) (op : List UInt8) (gs : List (List UInt8)) : Suf (uAhead op gs sub other) := by
  intro ts
  rw [uAhead]
  cases h : nxT (sgT gs) ts with
  | none => exact ho ts
  | some q =>
    obtain ⟨t, r⟩ := q
    have h1 := (nxT_len h).1
    subst h1
    have h2 := (hs r).trans (List.suffix_cons t r)
    simp only
    cases h3 : sub r with
    | mk o r2 =>
      rw [h3] at h2
      cases o <;> exact h2
theorem uCmp_suf {sub : List Tok → Option Ex × List Tok} (hs : Suf sub) : Suf (uCmp sub) := by
  intro ts
  have h2 := hs ts
  rw [uCmp]
  cases h3 : sub ts with
  | mk o r =>
    rw [h3] at h2
    cases o with
    | none => exact h2
    | some e =>
      simp only at h2 ⊢
      cases h : nxT (sgT cmpL) r with
      | none => exact h2
      | some q =>
        obtain ⟨t, r2⟩ := q
        have h1 := (nxT_len h).1
        subst h1
        have h4 := ((hs r2).trans (List.suffix_cons t r2)).trans h2
        simp only
        cases h5 : sub r2 with
        | mk o r3 =>
          rw [h5] at h4
          cases o <;> exact h4
theorem uBr_suf {sub : List Tok → Option Ex × List Tok} (hs : Suf sub) : ∀ (k : Nat) (acc : List Ex) (ts : List Tok), (uBr sub k acc ts).2 <:+ ts
  | 0, acc, ts => by
    rw [uBr]
    cases h : nxT (sgT [[41]]) ts with
    | none => exact List.suffix_rfl
    | some q =>
      obtain ⟨t, r⟩ := q
      have h1 := (nxT_len h).1
      subst h1
      exact List.suffix_cons t r
  | k + 1, acc, ts => by
    rw [uBr]
    cases h : nxT (sgT [if acc.length = 0 then [40] else [44]]) ts with
    | none => exact List.suffix_rfl
    | some q =>
      obtain ⟨t, r⟩ := q
      have h1 := (nxT_len h).1
      subst h1
      have h2 := (hs r).trans (List.suffix_cons t r)
      simp only
      cases h3 : sub r with
      | mk o r2 =>
        rw [h3] at h2
        cases o with
        | none => exact h2
        | some e => exact (uBr_suf hs k (acc ++ [e]) r2).trans h2
theorem uOne_suf {sub : List Tok → Option Ex × List Tok} (hs : Suf sub) : Suf (uOne sub) := by
  intro ts
  rw [uOne]
  cases h : nxT (sgT [[108, 101, 110], [105, 102]]) ts with
  | some q =>
    obtain ⟨t, r⟩ := q
    have h1 := (nxT_len h).1
    subst h1
    have h2 := (uBr_suf hs (if t.2.1.data.toList = [108, 101, 110] then 1 else 3) [] r).trans (List.suffix_cons t r)
    simp only
    cases h3 : uBr sub (if t.2.1.data.toList = [108, 101, 110] then 1 else 3) [] r with
    | mk o r2 =>
      rw [h3] at h2
      cases o <;> exact h2
  | none =>
    simp only
    cases h : nxT vlT ts with
    | some q =>
      obtain ⟨t, r⟩ := q
      have h1 := (nxT_len h).1
      subst h1
      exact List.suffix_cons t r
    | none =>
      simp only
      cases h : nxT nmT ts with
      | some q =>
        obtain ⟨t, r⟩ := q
        have h1 := (nxT_len h).1
        subst h1
        exact List.suffix_cons t r
      | none =>
        have h2 := uBr_suf hs 1 [] ts
        simp only
        cases h3 : uBr sub 1 [] ts with
        | mk o r2 =>
          rw [h3] at h2
          cases o <;> exact h2
theorem uE_suf : ∀ (f lv : Nat), Suf (uE f lv)
  | 0, lv => fun ts => by rw [uE]; exact List.suffix_rfl
  | f + 1, lv => fun ts => by
    have ih := fun lv => uE_suf f lv
    unfold uE
    split
    · exact uSev_suf (ih 1) _ ts
    · exact uSev_suf (ih 2) _ ts
    · exact uAhead_suf (ih 2) (ih 3) _ _ ts
    · exact uCmp_suf (ih 4) ts
    · exact uSev_suf (ih 5) _ ts
    · exact uSev_suf (ih 6) _ ts
    · exact uAhead_suf (ih 6) (ih 7) _ _ ts
    · exact uOne_suf (ih 0) ts
--END
end Go.Proofs.YtkoejkpjkcejcabDoor
namespace Go.Proofs.YtkoejkpjkcejcabDoor
open Go.RowKit
set_option linter.unusedVariables false

def tokCells (ts : List Tok) : List Value := ts.flatMap fun t => [.int .i64 t.1, .string t.2.1, .int .i64 (t.2.2 : Int)]
/-- The words of a list lie in memory one behind the other. -/
def ToksIn (w : World) (b off : Nat) (ts : List Tok) : Prop :=
  b < w.heap.size ∧ ∀ j (h : j < ts.length), w.cell? ⟨b, off + j * 3, none⟩ = some (.int .i64 ts[j].1) ∧ w.cell? ⟨b, off + j * 3 + 1, none⟩ = some (.string ts[j].2.1) ∧ w.cell? ⟨b, off + j * 3 + 2, none⟩ = some (.int .i64 (ts[j].2.2 : Int))
theorem ToksIn.on {w w' : World} {b off : Nat} {ts : List Tok} (h : ToksIn w b off ts) (hb : Below w.heap.size w w') : ToksIn w' b off ts :=
  ⟨by have := hb.size; have := h.1; omega, fun j hj => by
    rw [hb.cell (p := ⟨b, off + j * 3, none⟩) h.1, hb.cell (p := ⟨b, off + j * 3 + 1, none⟩) h.1, hb.cell (p := ⟨b, off + j * 3 + 2, none⟩) h.1]; exact h.2 j hj⟩
/-- A list of words as a Go value. -/
def IsToks (w : World) (v : Value) (ts : List Tok) : Prop :=
  ∃ p c, v = .slice p ts.length c ∧ ts.length ≤ maxLen ∧ (ts.length = 0 ∨ ∃ b off, p = some ⟨b, off, none⟩ ∧ ToksIn w b off ts)
theorem IsToks.on {w w' : World} {v : Value} {ts : List Tok} (h : IsToks w v ts) (hb : Below w.heap.size w w') : IsToks w' v ts := by
  obtain ⟨p, c, e, hm, h⟩ := h
  refine ⟨p, c, e, hm, ?_⟩
  rcases h with h | ⟨b, off, e2, h⟩
  · exact .inl h
  · exact .inr ⟨b, off, e2, h.on hb⟩
theorem tokCells_at : ∀ (ts : List Tok) (j : Nat) (h : j < ts.length), (tokCells ts)[j * 3]? = some (.int .i64 ts[j].1) ∧ (tokCells ts)[j * 3 + 1]? = some (.string ts[j].2.1) ∧ (tokCells ts)[j * 3 + 2]? = some (.int .i64 (ts[j].2.2 : Int))
  | [], j, h => absurd h (by simp)
  | t :: ts, 0, _ => by simp [tokCells]
  | t :: ts, j + 1, h => by
    have ih := tokCells_at ts j (by simpa using h)
    have e : tokCells (t :: ts) = .int .i64 t.1 :: .string t.2.1 :: .int .i64 (t.2.2 : Int) :: tokCells ts := rfl
    rw [e, show (j + 1) * 3 = j * 3 + 1 + 1 + 1 by omega]
    simp only [List.getElem?_cons_succ]
    simpa using ih
theorem isToks_nil (w : World) : IsToks w (.slice none 0 0) [] := ⟨none, 0, rfl, Nat.zero_le _, .inl rfl⟩
theorem lown_set {W : World} {b : Nat} {e : TypeId} {size : Nat} {v : Value} {n : Nat} {xs : List Value} (h : W.ownsRow (b + 1) e size v n xs) (o : Nat) (x : Value) : (W.setCell ⟨b, o, none⟩ x).ownsRow (b + 1) e size v n xs := by
  refine ⟨h.1, ?_⟩
  rcases h.2 with hn | ⟨g, cap, cur, rfl, h1, hgg, rest⟩
  · exact .inl hn
  · refine .inr ⟨g, cap, cur, rfl, h1, ?_, rest⟩
    rw [Below.heap_setCell _ _ _ _ (fun e => by simp at e; omega)]
    exact hgg
end Go.Proofs.YtkoejkpjkcejcabDoor
namespace Go.Proofs.YtkoejkpjkcejcabDoor
open Go.RowKit Go.BigFrame
set_option linter.unusedVariables false

/-- Texts lie in memory one behind the other. -/
def StrsIn (w : World) (b : Nat) (gs : List (List UInt8)) : Prop := b < w.heap.size ∧ ∀ j (h : j < gs.length), w.cell? ⟨b, j, none⟩ = some (.string ⟨gs[j].toArray⟩)
theorem StrsIn.on {w w' : World} {b : Nat} {gs : List (List UInt8)} (h : StrsIn w b gs) (hb : Below w.heap.size w w') : StrsIn w' b gs :=
  ⟨by have := hb.size; have := h.1; omega, fun j hj => by rw [hb.cell (p := ⟨b, j, none⟩) h.1]; exact h.2 j hj⟩
theorem any_hit {gs : List (List UInt8)} {l : List UInt8} {k : Nat} (h : k < gs.length) (e : gs[k] = l) : (gs.any fun g => g == l) = true := by
  rw [List.any_eq_true]
  exact ⟨gs[k], List.getElem_mem h, by simpa using e⟩
theorem any_miss {gs : List (List UInt8)} {l : List UInt8} (h : ∀ j (hj : j < gs.length), gs[j] ≠ l) : (gs.any fun g => g == l) = false := by
  rw [List.any_eq_false]
  intro g hg
  obtain ⟨j, hj, rfl⟩ := List.getElem_of_mem hg
  simpa using h j hj
/-- A function that tells whether a word is one of these, as oneOf makes it: the block of what it has captured. -/
def SignIn (w : World) (p : Nat) (gs : List (List UInt8)) : Prop := ∃ b c, w.cell? ⟨p, 0, none⟩ = some (.slice (some ⟨b, 0, none⟩) gs.length c) ∧ p < w.heap.size ∧ StrsIn w b gs ∧ gs.length ≤ 100
theorem SignIn.on {w w' : World} {p : Nat} {gs : List (List UInt8)} (h : SignIn w p gs) (hb : Below w.heap.size w w') : SignIn w' p gs := by
  obtain ⟨b, c, h1, h2, h3, h4⟩ := h
  exact ⟨b, c, by rw [hb.cell (p := ⟨p, 0, none⟩) h2]; exact h1, by have := hb.size; omega, h3.on hb, h4⟩
def tokV (t : Tok) : Value := .agg #[.int .i64 t.1, .string t.2.1, .int .i64 (t.2.2 : Int)]
end Go.Proofs.YtkoejkpjkcejcabDoor
