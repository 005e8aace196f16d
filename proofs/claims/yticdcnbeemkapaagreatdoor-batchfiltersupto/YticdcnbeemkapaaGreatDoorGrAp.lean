/-
  QuP, BtP, EvSd, BfP, StA, in one text.
-/
import Derived.Test.YticdcnbeemkapaaGreatDoorGrAo
import Derived.Test.YticdcnbeemkapaaGreatDoorGrAc
import Derived.Test.YticdcnbeemkapaaGreatDoorGrAl
import Derived.Test.YticdcnbeemkapaaGreatDoorGrAa
import Derived.OwnWalk
import Derived.Laws.AppendOwnNone
import Derived.Laws.OwnMore
import Derived.WalkSmall
import Derived.BigQuiet
import Derived.Deep.QuietTactic
import Derived.Deep.LoopGhost
import Derived.Lib.OthersKept
namespace Go.Proofs.YticdcnbeemkapaaGreatDoor
open Go.RowKit
set_option linter.unusedVariables false

/-- The number that a word is. -/
def nuI (l : List UInt8) : Int := (val10 l : Nat)
abbrev wSelect : List UInt8 := [115, 101, 108, 101, 99, 116]
abbrev wAs : List UInt8 := [97, 115]
abbrev wFrom : List UInt8 := [102, 114, 111, 109]
abbrev wWhere : List UInt8 := [119, 104, 101, 114, 101]
abbrev wGroup : List UInt8 := [103, 114, 111, 117, 112]
abbrev wBy : List UInt8 := [98, 121]
abbrev wWindow : List UInt8 := [119, 105, 110, 100, 111, 119]
abbrev wSlide : List UInt8 := [115, 108, 105, 100, 101]
abbrev wCount : List UInt8 := [99, 111, 117, 110, 116]
/-- One reading behind another one. -/
def thU {α β : Type} (a : Option α × List Tok) (f : α → List Tok → Option β × List Tok) : Option β × List Tok := match a with
  | (some x, rs) => f x rs
  | (none, rs) => (none, rs)
/-- Just this word. -/
def jU (g : List UInt8) (ts : List Tok) : Option Unit × List Tok := match nxT (sgT [g]) ts with
  | some (_, rs) => (some (), rs)
  | none => (none, ts)
/-- A name. -/
def nU (ts : List Tok) : Option ByteArray × List Tok := match nxT nmT ts with
  | some (t, rs) => (some t.2.1, rs)
  | none => (none, ts)
def isNum (t : Tok) : Bool := decide (t.1 = 2)
/-- A number. -/
def iU (ts : List Tok) : Option Int × List Tok := match nxT isNum ts with
  | some (t, rs) => (some (nuI t.2.1.data.toList), rs)
  | none => (none, ts)
def asU (ts : List Tok) : Option ByteArray × List Tok := thU (jU wAs ts) fun _ rs => nU rs
/-- An expression and its name. -/
def colU (ts : List Tok) : Option (Ex × ByteArray) × List Tok := thU (readE ts) fun x rs => thU (asU rs) fun n rs => (some (x, n), rs)
def agB (t : Tok) : Bool := isAg t.2.1.data.toList
/-- What an aggregate is of. -/
def brU (ts : List Tok) : Option Ex × List Tok := thU (jU [40] ts) fun _ rs => thU (readE rs) fun x rs => thU (jU [41] rs) fun _ rs => (some x, rs)
def argU (what : List UInt8) (ts : List Tok) : Option Ex × List Tok := if what = wCount then (some ex0, ts) else brU ts
/-- An aggregate. -/
def aggU (ts : List Tok) : Option Ag × List Tok := match nxT agB ts with
  | some (t, rs) => thU (argU t.2.1.data.toList rs) fun x rs => thU (asU rs) fun n rs => (some ⟨t.2.1, x, n⟩, rs)
  | none => (none, ts)
/-- Several, a comma between. -/
def sevU {α : Type} (part : List Tok → Option α × List Tok) : Nat → List α → List Tok → Option (List α) × List Tok
  | 0, _, ts => (none, ts)
  | k + 1, acc, ts => match part ts with
    | (none, rs) => (none, rs)
    | (some x, rs) => match nxT (sgT [[44]]) rs with
      | some (_, rs') => sevU part k (acc ++ [x]) rs'
      | none => (some (acc ++ [x]), rs)
/-- Is the next word one of an aggregate? -/
def nextB (P : Tok → Bool) (ts : List Tok) : Bool := match ts with
  | [] => false
  | t :: _ => P t
def whU (ts : List Tok) : Option Ex × List Tok := match nxT (sgT [wWhere]) ts with
  | some (_, rs) => readE rs
  | none => (some ex0, ts)
def slU (sz : Int) (ts : List Tok) : Option Int × List Tok := match nxT (sgT [wSlide]) ts with
  | some (_, rs) => iU rs
  | none => (some sz, ts)
/-- from, and where. -/
def frU (ts : List Tok) : Option (ByteArray × Ex) × List Tok := thU (jU wFrom ts) fun _ rs => thU (nU rs) fun f rs => thU (whU rs) fun x rs => (some (f, x), rs)
/-- A group. -/
def grU (ts : List Tok) : Option (List ByteArray × Int × Int) × List Tok :=
  thU (jU wGroup ts) fun _ rs => thU (jU wBy rs) fun _ rs => thU (sevU nU (rs.length + 1) [] rs) fun g rs => thU (jU wWindow rs) fun _ rs => thU (iU rs) fun z rs => thU (slU z rs) fun s rs => (some (g, z, s), rs)
def qOneU (ts : List Tok) : Option Qy × List Tok := thU (sevU colU (ts.length + 1) [] ts) fun c rs => thU (frU rs) fun f rs => (some ⟨f.1, f.2, c.map (·.1), c.map (·.2), [], 0, 0, []⟩, rs)
def qTwoU (ts : List Tok) : Option Qy × List Tok := thU (sevU aggU (ts.length + 1) [] ts) fun a rs => thU (frU rs) fun f rs => thU (grU rs) fun g rs => (some ⟨f.1, f.2, [], [], g.1, g.2.1, g.2.2, a⟩, rs)
/-- A query. -/
def qU (ts : List Tok) : Option Qy × List Tok := thU (jU wSelect ts) fun _ rs => if nextB agB rs = true then qTwoU rs else qOneU rs
def qyZ : Qy := ⟨⟨#[]⟩, ex0, [], [], [], 0, 0, []⟩
/-- All expressions of a query. -/
def exsQ (q : Qy) : List Ex := q.whr :: (q.cols ++ q.aggs.map (·.arg))
/-- What Parse says of a text: the query, the fault, and where. -/
def qpP (l : List UInt8) : Qy × Int × Nat :=
  if (lexAll l).2.1 ≠ 0 then (qyZ, (lexAll l).2.1, (lexAll l).2.2)
  else match qU (lexAll l).1 with
    | (some q, []) => if (exsQ q).any tgB = true then (qyZ, 4, 0) else (q, 0, 0)
    | (_, r) => (qyZ, 2, placeT r l.length)
/-- Is an expression nothing, to the program? -/
def noOp (x : Ex) : Bool := decide (x.op.data.toList = [])
/-- The type of an expression, or its fault. -/
def ofT (zs : List Cl) (x : Ex) : Int × Int := if (ofP zs x).2.1 ≠ 0 then (0, (ofP zs x).2.1) else ((ofP zs x).1, 0)
/-- The type of a group's column, or its fault. -/
def grT (zs : List Cl) (ahead : List ByteArray) (g : ByteArray) : Int × Int :=
  if findN g.data.toList zs < 0 then (0, 5) else if (ahead.any fun a => a.data.toList == g.data.toList) = true then (0, 7) else ((zs[(findN g.data.toList zs).toNat]?.getD (⟨#[]⟩, 0)).2, 0)
/-- The type of an aggregate, or its fault. -/
def agQ (zs : List Cl) (a : Ag) : Int × Int :=
  if isAg a.what.data.toList = false then (0, 2)
  else if a.what.data.toList = wCount then (if noOp a.arg = true then (1, 0) else (0, 3))
  else if (ofP zs a.arg).2.1 ≠ 0 then (0, (ofP zs a.arg).2.1)
  else if a.what.data.toList = [115, 117, 109] ∧ (ofP zs a.arg).1 ≠ 1 then (0, 8)
  else ((ofP zs a.arg).1, 0)
def namesQ (q : Qy) : List ByteArray := q.names ++ (q.group ++ q.aggs.map (·.name))
/-- The type of what comes at a place. -/
def tyAt (zs : List Cl) (q : Qy) (i : Nat) : Int × Int :=
  if i < q.cols.length then ofT zs (q.cols[i]?.getD ex0)
  else if i < q.group.length then grT zs (q.group.take i) (q.group[i]?.getD ⟨#[]⟩)
  else agQ zs (q.aggs[i - q.group.length]?.getD ⟨⟨#[]⟩, ex0, ⟨#[]⟩⟩)
/-- One by one, from a place on. -/
def clQ (zs : List Cl) (q : Qy) : Nat → List Cl → List ByteArray → List Cl × Int
  | _, out, [] => (out, 0)
  | i, out, n :: ns => if (tyAt zs q i).2 ≠ 0 then ([], (tyAt zs q i).2) else clQ zs q (i + 1) (out ++ [(n, (tyAt zs q i).1)]) ns
def togQ (q : Qy) : Bool :=
  if q.size ≠ 0 then decide (q.cols.length = 0) && decide (q.names.length = 0)
  else decide (q.slide = 0) && (decide (q.aggs.length = 0) && (decide (q.group.length = 0) && decide (q.names.length = q.cols.length)))
def formQ (q : Qy) : Int :=
  if togQ q = false then 3
  else if q.size ≠ 0 ∧ ¬ wdB q.size q.slide then 1
  else if q.cols.length + q.group.length + q.aggs.length = 0 then 5
  else if 6 < q.cols.length + q.group.length + q.aggs.length then 4
  else 0
def whQ (zs : List Cl) (x : Ex) : Int := if noOp x = true then 0 else if (ofP zs x).2.1 ≠ 0 then (ofP zs x).2.1 else if (ofP zs x).1 ≠ 2 then 8 else 0
/-- What Check says of a query over columns. -/
def chQ (zs : List Cl) (q : Qy) : List Cl × Int :=
  if schE zs ≠ 0 then ([], schE zs)
  else if formQ q ≠ 0 then ([], formQ q)
  else if whQ zs q.whr ≠ 0 then ([], whQ zs q.whr)
  else if (clQ zs q 0 [] (namesQ q)).2 ≠ 0 then ([], (clQ zs q 0 [] (namesQ q)).2)
  else if schE (clQ zs q 0 [] (namesQ q)).1 ≠ 0 then ([], schE (clQ zs q 0 [] (namesQ q)).1)
  else ((clQ zs q 0 [] (namesQ q)).1, 0)

theorem clQ_names {zs : List Cl} {q : Qy} : ∀ (ns : List ByteArray) (i : Nat) (out r : List Cl), clQ zs q i out ns = (r, 0) → r.map (·.1) = out.map (·.1) ++ ns
  | [], i, out, r, h => by
    rw [clQ] at h
    obtain ⟨rfl, -⟩ := Prod.mk.inj h
    simp
  | n :: ns, i, out, r, h => by
    rw [clQ] at h
    split at h
    · rename_i h1
      exact absurd (Prod.mk.inj h).2 h1
    · have := clQ_names ns _ _ _ h
      rw [this]; simp
/-- What Check says: no columns and a fault, or columns of the names, that are a schema. -/
theorem chQ_says (zs : List Cl) (q : Qy) : ((chQ zs q).2 ≠ 0 ∧ (chQ zs q).1 = []) ∨ ((chQ zs q).2 = 0 ∧ (chQ zs q).1.map (·.1) = namesQ q ∧ schE (chQ zs q).1 = 0 ∧ formQ q = 0) := by
  rw [chQ]
  split
  · rename_i h; exact .inl ⟨h, rfl⟩
  · split
    · rename_i h; exact .inl ⟨h, rfl⟩
    · split
      · rename_i h; exact .inl ⟨h, rfl⟩
      · split
        · rename_i h; exact .inl ⟨h, rfl⟩
        · split
          · rename_i h; exact .inl ⟨h, rfl⟩
          · rename_i h1 h2 h3 h4 h5
            refine .inr ⟨rfl, ?_, Classical.not_not.1 h5, Classical.not_not.1 h2⟩
            have e : clQ zs q 0 [] (namesQ q) = ((clQ zs q 0 [] (namesQ q)).1, 0) := Prod.ext rfl (Classical.not_not.1 h4)
            have := clQ_names _ _ _ _ e
            simpa using this
end Go.Proofs.YticdcnbeemkapaaGreatDoor
namespace Go.Proofs.YticdcnbeemkapaaGreatDoor
open Go.RowKit
set_option linter.unusedVariables false

/-- What an expression comes to; of one that is nothing, nothing. -/
def comP (zs : List Cl) (rs : List V3) (x : Ex) : V3 × Int := if noOp x = true then (noV, 0) else evP zs rs x
/-- Is a row let through? -/
def pasP (zs : List Cl) (rs : List V3) (x : Ex) : Bool × Int := if noOp x = true then (true, 0) else ((evP zs rs x).1.2.1 == 1, (evP zs rs x).2)
/-- One by one, what expressions come to. -/
def gatP (zs : List Cl) (rs : List V3) : List V3 → List Ex → List V3 × Int
  | acc, [] => (acc, 0)
  | acc, x :: xs => if (comP zs rs x).2 ≠ 0 then ([], (comP zs rs x).2) else gatP zs rs (acc ++ [(comP zs rs x).1]) xs
/-- What is taken of a row. -/
def takP (zs : List Cl) (wh : Ex) (es : List Ex) (rs : List V3) : List V3 × Bool × Int :=
  if (pasP zs rs wh).2 ≠ 0 then ([], false, (pasP zs rs wh).2)
  else if (pasP zs rs wh).1 = false then ([], false, 0)
  else if (gatP zs rs [] es).2 ≠ 0 then ([], false, (gatP zs rs [] es).2)
  else ((gatP zs rs [] es).1, true, 0)
/-- What is told: a row, an error, from where. -/
abbrev Ot := List V3 × Int × Int
/-- What is told of a row. -/
def outP (zs : List Cl) (wh : Ex) (es : List Ex) (rs : List V3) : List Ot :=
  if (takP zs wh es rs).2.2 ≠ 0 then [([], (takP zs wh es rs).2.2, 0)]
  else if (takP zs wh es rs).2.1 = true then [((takP zs wh es rs).1, 0, 0)]
  else []
/-- What is wrong with rows. -/
def rwsE (zs : List Cl) : List (List V3) → Int
  | [] => 0
  | r :: rs => if rowChk zs r ≠ 0 then rowChk zs r else rwsE zs rs
def rwsP (zs : List Cl) (rws : List (List V3)) : Int := if 300 < rws.length then 4 else rwsE zs rws
/-- What is wrong with a query without a group, columns and rows. -/
def btE (zs : List Cl) (q : Qy) (rws : List (List V3)) : Int := if (chQ zs q).2 ≠ 0 then (chQ zs q).2 else rwsP zs rws
def btO (zs : List Cl) (q : Qy) (rws : List (List V3)) : List Ot := rws.flatMap (outP zs q.whr q.cols)
theorem gat_len {zs : List Cl} {rs : List V3} : ∀ (es : List Ex) (acc : List V3), (gatP zs rs acc es).2 = 0 → (gatP zs rs acc es).1.length = acc.length + es.length
  | [], acc, _ => by simp [gatP]
  | x :: xs, acc, h => by
    rw [gatP] at h ⊢
    split at h
    · rename_i h1; exact absurd h h1
    · rename_i h1
      rw [if_neg h1, gat_len xs _ h]
      simp; omega
theorem gat_bad {zs : List Cl} {rs : List V3} : ∀ (es : List Ex) (acc : List V3), (gatP zs rs acc es).2 ≠ 0 → (gatP zs rs acc es).1 = []
  | [], acc, h => absurd rfl h
  | x :: xs, acc, h => by
    rw [gatP] at h ⊢
    split at h
    · rename_i h1; rw [if_pos h1]
    · rename_i h1
      rw [if_neg h1]
      exact gat_bad xs _ h
theorem out_len {zs : List Cl} {wh : Ex} {es : List Ex} {rs : List V3} : (outP zs wh es rs).length ≤ 1 := by
  rw [outP]
  split
  · simp
  · split <;> simp
end Go.Proofs.YticdcnbeemkapaaGreatDoor
namespace Go.Proofs.YticdcnbeemkapaaGreatDoor
open Go.RowKit
set_option linter.unusedVariables false

theorem ckP_iff {x : Ex} : ckP x = 0 ↔ (x.pre 1).length ≤ 200 ∧ (∀ q ∈ x.pre 1, q.2 ≤ 30) ∧ ∀ q ∈ x.pre 1, nodeE q.1 = 0 := by
  constructor
  · intro h
    obtain ⟨h1, h2⟩ := ckP_zero h
    have ht : (foldP ftg 0 (x.pre 1)).2 = true := by rw [tgB] at h1; simpa using h1
    obtain ⟨g1, g2⟩ := (fold_tg _ 0).1 ht
    refine ⟨?_, g2, h2⟩
    rcases g1 with g1 | g1
    · rw [g1]; simp
    · omega
  · rintro ⟨h1, h2, h3⟩
    have ht : tgB x = false := by
      rw [tgB, (fold_tg (x.pre 1) 0).2 ⟨.inr (by omega), h2⟩]; rfl
    rw [ckP, ht, if_neg (by simp)]
    exact fold_ck' (x.pre 1) 0 rfl h3
/-- An operation, as the law writes it. -/
def mkN (op : ByteArray) (l : List Ex) : Ex := .node op ⟨#[]⟩ 0 0 ⟨#[]⟩ 0 l
def yesX : Ex := .node ⟨#[118, 97, 108]⟩ ⟨#[]⟩ 2 1 ⟨#[]⟩ 0 []
def noX : Ex := .node ⟨#[118, 97, 108]⟩ ⟨#[]⟩ 2 0 ⟨#[]⟩ 0 []
theorem mem_pres {d : Nat} {q : Ex × Nat} : ∀ {l : List Ex}, q ∈ Ex.pres d l → ∃ y ∈ l, q ∈ y.pre d
  | [], h => by rw [Ex.pres] at h; cases h
  | x :: xs, h => by
    rw [Ex.pres] at h
    rcases List.mem_append.1 h with h | h
    · exact ⟨x, by simp, h⟩
    · obtain ⟨y, hy, h⟩ := mem_pres h
      exact ⟨y, by simp [hy], h⟩
/-- A part that fits below one node more. -/
def fitP (y : Ex) : Prop := (∀ q ∈ y.pre 2, q.2 ≤ 30) ∧ ∀ q ∈ y.pre 2, nodeE q.1 = 0
theorem fit_of {op : ByteArray} {l : List Ex} (h : ckP (mkN op l) = 0) : (Ex.pres 2 l).length ≤ 199 ∧ ∀ y ∈ l, fitP y := by
  obtain ⟨h1, h2, h3⟩ := ckP_iff.1 h
  rw [mkN, Ex.pre] at h1 h2 h3
  refine ⟨by simpa using h1, fun y hy => ⟨fun q hq => h2 q (List.mem_cons_of_mem _ (pres_mem hy q hq)), fun q hq => h3 q (List.mem_cons_of_mem _ (pres_mem hy q hq))⟩⟩
theorem ck_make {op : ByteArray} {l : List Ex} (hn : nodeE (mkN op l) = 0) (hl : (Ex.pres 2 l).length ≤ 199) (hf : ∀ y ∈ l, fitP y) : ckP (mkN op l) = 0 := by
  refine ckP_iff.2 ⟨?_, ?_, ?_⟩
  · rw [mkN, Ex.pre, List.length_cons]; exact Nat.succ_le_succ hl
  · intro q hq
    rw [mkN, Ex.pre] at hq
    rcases List.mem_cons.1 hq with rfl | hq
    · show 1 ≤ 30
      decide
    · obtain ⟨y, hy, hq⟩ := mem_pres hq
      exact (hf y hy).1 q hq
  · intro q hq
    have hself := hn
    rw [mkN, Ex.pre] at hq
    rcases List.mem_cons.1 hq with rfl | hq
    · exact hself
    · obtain ⟨y, hy, hq⟩ := mem_pres hq
      exact (hf y hy).2 q hq
theorem fit_yes : fitP yesX := by
  constructor
  · intro q hq
    rw [yesX, Ex.pre, Ex.pres] at hq
    obtain rfl := List.mem_singleton.1 hq
    decide
  · intro q hq
    rw [yesX, Ex.pre, Ex.pres] at hq
    obtain rfl := List.mem_singleton.1 hq
    kernel_rfl
theorem fit_no : fitP noX := by
  constructor
  · intro q hq
    rw [noX, Ex.pre, Ex.pres] at hq
    obtain rfl := List.mem_singleton.1 hq
    decide
  · intro q hq
    rw [noX, Ex.pre, Ex.pres] at hq
    obtain rfl := List.mem_singleton.1 hq
    kernel_rfl
theorem len_yes : (yesX.pre 2).length = 1 := rfl
theorem len_no : (noX.pre 2).length = 1 := rfl
theorem pres_two (a b : Ex) : (Ex.pres 2 [a, b]).length = (a.pre 2).length + (b.pre 2).length := by
  rw [Ex.pres, Ex.pres, Ex.pres]; simp
theorem pres_three (a b c : Ex) : (Ex.pres 2 [a, b, c]).length = (a.pre 2).length + (b.pre 2).length + (c.pre 2).length := by
  rw [Ex.pres, Ex.pres, Ex.pres, Ex.pres]; simp; omega
/-- What Check lets through of `if`, it lets through of the others. -/
theorem ck_sides {a b : Ex} (h : ckP (mkN ⟨#[105, 102]⟩ [yesX, a, b]) = 0) :
    ckP (mkN ⟨#[105, 102]⟩ [noX, a, b]) = 0 ∧ ckP (mkN ⟨#[60]⟩ [a, b]) = 0 ∧ ckP (mkN ⟨#[62, 61]⟩ [a, b]) = 0 ∧ ckP (mkN ⟨#[97, 110, 100]⟩ [noX, a]) = 0 ∧ ckP (mkN ⟨#[111, 114]⟩ [yesX, a]) = 0 ∧ ckP (mkN ⟨#[97, 110, 100]⟩ [yesX, a]) = 0 := by
  obtain ⟨hl, hf⟩ := fit_of h
  have fa := hf a (by simp)
  have fb := hf b (by simp)
  rw [pres_three, len_yes] at hl
  have two : ∀ {x y : Ex}, fitP x → fitP y → ∀ z ∈ [x, y], fitP z := fun hx hy z hz => by
    rcases List.mem_cons.1 hz with rfl | hz
    · exact hx
    · obtain rfl := List.mem_singleton.1 hz
      exact hy
  have three : ∀ {x y u : Ex}, fitP x → fitP y → fitP u → ∀ z ∈ [x, y, u], fitP z := fun hx hy hu z hz => by
    rcases List.mem_cons.1 hz with rfl | hz
    · exact hx
    · exact two hy hu z hz
  refine ⟨ck_make (by kernel_rfl) (by rw [pres_three, len_no]; omega) (three fit_no fa fb), ck_make (by kernel_rfl) (by rw [pres_two]; omega) (two fa fb), ck_make (by kernel_rfl) (by rw [pres_two]; omega) (two fa fb), ck_make (by kernel_rfl) (by rw [pres_two, len_no]; omega) (two fit_no fa), ck_make (by kernel_rfl) (by rw [pres_two, len_yes]; omega) (two fit_yes fa), ck_make (by kernel_rfl) (by rw [pres_two, len_yes]; omega) (two fit_yes fa)⟩
theorem tysP_all {zs : List (ByteArray × Int)} : ∀ {l : List Ex}, (∀ y ∈ l, (tyP zs y).2.1 = 0) → tysP zs l = (l.map (fun y => (tyP zs y).1), 0, 0)
  | [], _ => by rw [tysP]; rfl
  | x :: xs, h => by
    rw [tysP, if_neg (fun hh => hh (h x (by simp))), tysP_all fun y hy => h y (by simp [hy]), if_neg (by simp)]
    rfl
theorem ty_make {zs : List (ByteArray × Int)} {op : ByteArray} {l : List Ex} {T : Int} (h1 : op.data.toList ≠ [118, 97, 108]) (h2 : op.data.toList ≠ [99, 111, 108]) (hl : ∀ y ∈ l, (tyP zs y).2.1 = 0) (hr : ruleP op.data.toList (l.map fun y => (tyP zs y).1) = (T, 0)) : tyP zs (mkN op l) = (T, 0, 0) := by
  rw [mkN, tyP_op h1 h2, tysP_all hl, if_neg (by simp)]
  simp only
  rw [hr, if_neg (by simp)]
theorem of_make {zs : List (ByteArray × Int)} {x : Ex} {T : Int} (hc : ckP x = 0) (hs : schE zs = 0) (ht : tyP zs x = (T, 0, 0)) : ofP zs x = (T, 0, 0) := by
  rw [ofP, if_neg (fun hh => hh hc), if_neg (fun hh => hh hs), ht]
theorem of_in {zs : List (ByteArray × Int)} {x : Ex} {T p : Int} (h : ofP zs x = (T, 0, p)) : ckP x = 0 ∧ schE zs = 0 ∧ tyP zs x = (T, 0, p) := by
  rw [ofP] at h
  by_cases hc : ckP x = 0
  · rw [if_neg (fun hh => hh hc)] at h
    by_cases hs : schE zs = 0
    · rw [if_neg (fun hh => hh hs)] at h
      exact ⟨hc, hs, h⟩
    · rw [if_pos hs] at h
      simp only [Prod.mk.injEq] at h
      exact absurd h.2.1 hs
  · rw [if_pos hc] at h
    simp only [Prod.mk.injEq] at h
    exact absurd h.2.1 hc
theorem rule_same {T : Int} (h : isTy T = true) : ruleP [105, 102] [2, T, T] = (T, 0) ∧ ruleP [60] [T, T] = (2, 0) ∧ ruleP [62, 61] [T, T] = (2, 0) := by
  have : T = 1 ∨ T = 2 ∨ T = 3 := by
    unfold isTy at h
    simp at h
    exact h
  rcases this with rfl | rfl | rfl <;> decide
theorem of_ty {zs : List (ByteArray × Int)} {a : Ex} {T p : Int} (ha : ofP zs a = (T, 0, p)) : isTy T = true := by
  obtain ⟨ca, hs, ta⟩ := of_in ha
  have := tyP_ty (y := a) ((ckP_iff.1 ca).2.2 (a, 1) (by rw [pre_eq]; exact List.mem_cons_self ..)) hs (by rw [ta])
  rwa [ta] at this
/-- The six expressions have the types that they should. -/
theorem of_sides {zs : List (ByteArray × Int)} {a b : Ex} {T p q : Int} (ha : ofP zs a = (T, 0, p)) (h : ckP (mkN ⟨#[105, 102]⟩ [yesX, a, b]) = 0) :
    (ofP zs b = (T, 0, q) → ofP zs (mkN ⟨#[105, 102]⟩ [yesX, a, b]) = (T, 0, 0) ∧ ofP zs (mkN ⟨#[105, 102]⟩ [noX, a, b]) = (T, 0, 0) ∧ ofP zs (mkN ⟨#[60]⟩ [a, b]) = (2, 0, 0) ∧ ofP zs (mkN ⟨#[62, 61]⟩ [a, b]) = (2, 0, 0)) ∧
    (T = 2 → ofP zs (mkN ⟨#[97, 110, 100]⟩ [noX, a]) = (2, 0, 0) ∧ ofP zs (mkN ⟨#[111, 114]⟩ [yesX, a]) = (2, 0, 0) ∧ ofP zs (mkN ⟨#[97, 110, 100]⟩ [yesX, a]) = (2, 0, 0)) := by
  obtain ⟨c1, c2, c3, c4, c5, c6⟩ := ck_sides h
  obtain ⟨ca, hs, ta⟩ := of_in ha
  have hT : isTy T = true := by
    have := tyP_ty (y := a) ((ckP_iff.1 ca).2.2 (a, 1) (by rw [pre_eq]; exact List.mem_cons_self ..)) hs (by rw [ta])
    rwa [ta] at this
  have ty2 : ∀ {x y : Ex} {s t u v : Int}, tyP zs x = (s, 0, u) → tyP zs y = (t, 0, v) → ∀ z ∈ [x, y], (tyP zs z).2.1 = 0 := fun hx hy z hz => by
    rcases List.mem_cons.1 hz with rfl | hz
    · rw [hx]
    · obtain rfl := List.mem_singleton.1 hz
      rw [hy]
  have ty3 : ∀ {x y w : Ex} {s t r u v k : Int}, tyP zs x = (s, 0, u) → tyP zs y = (t, 0, v) → tyP zs w = (r, 0, k) → ∀ z ∈ [x, y, w], (tyP zs z).2.1 = 0 := fun hx hy hw z hz => by
    rcases List.mem_cons.1 hz with rfl | hz
    · rw [hx]
    · exact ty2 hy hw z hz
  have tY : tyP zs yesX = (2, 0, 0) := by rw [yesX, tyP, if_pos rfl]
  have tN : tyP zs noX = (2, 0, 0) := by rw [noX, tyP, if_pos rfl]
  refine ⟨fun hb => ?_, fun h2 => ?_⟩
  · obtain ⟨_, _, tb⟩ := of_in hb
    obtain ⟨r1, r2, r3⟩ := rule_same hT
    refine ⟨of_make h hs (ty_make (by decide) (by decide) (ty3 tY ta tb) ?_), of_make c1 hs (ty_make (by decide) (by decide) (ty3 tN ta tb) ?_), of_make c2 hs (ty_make (by decide) (by decide) (ty2 ta tb) ?_), of_make c3 hs (ty_make (by decide) (by decide) (ty2 ta tb) ?_)⟩
    · simp only [List.map_cons, List.map_nil, tY, ta, tb]; exact r1
    · simp only [List.map_cons, List.map_nil, tN, ta, tb]; exact r1
    · simp only [List.map_cons, List.map_nil, ta, tb]; exact r2
    · simp only [List.map_cons, List.map_nil, ta, tb]; exact r3
  · subst h2
    refine ⟨of_make c4 hs (ty_make (by decide) (by decide) (ty2 tN ta) ?_), of_make c5 hs (ty_make (by decide) (by decide) (ty2 tY ta) ?_), of_make c6 hs (ty_make (by decide) (by decide) (ty2 tY ta) ?_)⟩
    · simp only [List.map_cons, List.map_nil, tN, ta]; decide
    · simp only [List.map_cons, List.map_nil, tY, ta]; decide
    · simp only [List.map_cons, List.map_nil, tY, ta]; decide
theorem cm_make {zs : List (ByteArray × Int)} {rs : List V3} {op : ByteArray} {l : List Ex} (h1 : op.data.toList ≠ [118, 97, 108]) (h2 : op.data.toList ≠ [99, 111, 108]) : cmP zs rs (mkN op l) = combP op.data.toList (l.map (cmP zs rs)) := by
  rw [mkN, cmP_op h1 h2]
theorem cm_yes (zs : List (ByteArray × Int)) (rs : List V3) : cmP zs rs yesX = ((2, 1, ⟨#[]⟩), 0) := by rw [yesX, cmP, if_pos rfl]
theorem cm_no (zs : List (ByteArray × Int)) (rs : List V3) : cmP zs rs noX = ((2, 0, ⟨#[]⟩), 0) := by rw [noX, cmP, if_pos rfl]
theorem cm_if (zs : List (ByteArray × Int)) (rs : List V3) (a b : Ex) : cmP zs rs (mkN ⟨#[105, 102]⟩ [yesX, a, b]) = cmP zs rs a ∧ cmP zs rs (mkN ⟨#[105, 102]⟩ [noX, a, b]) = cmP zs rs b := by
  constructor
  · rw [cm_make (by decide) (by decide)]
    simp only [List.map_cons, List.map_nil, cm_yes]
    rfl
  · rw [cm_make (by decide) (by decide)]
    simp only [List.map_cons, List.map_nil, cm_no]
    rfl
theorem cm_and_no (zs : List (ByteArray × Int)) (rs : List V3) (a : Ex) : cmP zs rs (mkN ⟨#[97, 110, 100]⟩ [noX, a]) = ((2, 0, ⟨#[]⟩), 0) ∧ cmP zs rs (mkN ⟨#[111, 114]⟩ [yesX, a]) = ((2, 1, ⟨#[]⟩), 0) := by
  constructor
  · rw [cm_make (by decide) (by decide)]
    simp only [List.map_cons, List.map_nil, cm_no]
    rfl
  · rw [cm_make (by decide) (by decide)]
    simp only [List.map_cons, List.map_nil, cm_yes]
    rfl
theorem bytes_nil {s : ByteArray} (h : s.data.toList = []) : s = ⟨#[]⟩ := by
  obtain ⟨⟨l⟩⟩ := s
  simp at h
  subst h
  rfl
theorem cm_and_yes {zs : List (ByteArray × Int)} {rs : List V3} {a : Ex} (h : comes 2 (cmP zs rs a)) : cmP zs rs (mkN ⟨#[97, 110, 100]⟩ [yesX, a]) = cmP zs rs a := by
  rw [cm_make (by decide) (by decide)]
  simp only [List.map_cons, List.map_nil, cm_yes]
  rcases h with ⟨h0, h1, h2, h3⟩ | h
  · obtain ⟨t, n, s, e, hcm⟩ : ∃ t n s e, cmP zs rs a = ((t, n, s), e) := ⟨_, _, _, _, rfl⟩
    rw [hcm] at h0 h1 h2 h3 ⊢
    simp only at h0 h1 h2 h3
    subst h0 h1
    obtain ⟨hn, hs⟩ := chk_two h2
    obtain rfl := bytes_nil hs
    rcases hn with rfl | rfl <;> decide
  · rw [h]; decide
theorem cm_less {zs : List (ByteArray × Int)} {rs : List V3} {a b : Ex} {T : Int} (hT : isTy T = true) (ha : comes T (cmP zs rs a)) (hb : comes T (cmP zs rs b)) :
    ∃ p q : V3 × Int, cmP zs rs (mkN ⟨#[60]⟩ [a, b]) = p ∧ cmP zs rs (mkN ⟨#[62, 61]⟩ [a, b]) = q ∧ ((p.2 = 0 ∧ q.2 = 0 ∧ (cmP zs rs a).2 = 0 ∧ (cmP zs rs b).2 = 0 ∧ ((p.1.2.1 = 0 ∧ q.1.2.1 = 1) ∨ (p.1.2.1 = 1 ∧ q.1.2.1 = 0))) ∨ (p.2 = 9 ∧ q.2 = 9 ∧ ((cmP zs rs a).2 = 9 ∨ (cmP zs rs b).2 = 9))) := by
  refine ⟨_, _, rfl, rfl, ?_⟩
  rw [cm_make (by decide) (by decide), cm_make (by decide) (by decide)]
  simp only [List.map_cons, List.map_nil]
  rcases ha with ⟨a0, a1, a2, a3⟩ | ha
  · rcases hb with ⟨b0, b1, b2, b3⟩ | hb
    · left
      have hc : ∀ op, op = [60] ∨ op = [62, 61] → combP op [cmP zs rs a, cmP zs rs b] = cmpV op (cmP zs rs a).1 (cmP zs rs b).1 := fun op hop => by
        rw [combP, if_neg (fun hh => hh a0), if_neg (by rcases hop with rfl | rfl <;> simp), if_neg (by rcases hop with rfl | rfl <;> decide), if_neg (by simp [firstE, b0])]
        have hv : vlE ((cmP zs rs a).1 :: [cmP zs rs b].map (·.1)) = 0 := vlE_zero.2 fun v hv => by
          simp at hv
          rcases hv with rfl | rfl
          · exact a2
          · exact b2
        obtain ⟨_, r2, r3⟩ := rule_same hT
        rw [doP, if_neg (fun hh => hh hv)]
        rcases hop with rfl | rfl
        · rw [if_neg (by simp [a1, b1, r2])]; rfl
        · rw [if_neg (by simp [a1, b1, r3])]; rfl
      rw [hc [60] (.inl rfl), hc [62, 61] (.inr rfl)]
      have he : cmpE (cmP zs rs a).1.1 (cmP zs rs a).1.2.1 (cmP zs rs a).1.2.2.data.toList (cmP zs rs b).1.1 (cmP zs rs b).1.2.1 (cmP zs rs b).1.2.2.data.toList = 0 := by
        rw [cmpE, if_neg (fun hh => hh a2), if_neg (fun hh => hh b2), if_neg (fun hh => hh (a1.trans b1.symm))]
      rw [cmpV, if_neg (fun hh => hh he), cmpV, if_neg (fun hh => hh he)]
      refine ⟨rfl, rfl, a0, b0, ?_⟩
      generalize cmpN (cmP zs rs a).1.1 (cmP zs rs a).1.2.1 (cmP zs rs a).1.2.2.data.toList (cmP zs rs b).1.1 (cmP zs rs b).1.2.1 (cmP zs rs b).1.2.2.data.toList = o
      have e1 : holdsP [60] o = decide (o < 0) := rfl
      have e2 : holdsP [62, 61] o = decide (0 ≤ o) := rfl
      rw [e1, e2]
      by_cases h : o < 0
      · right
        simp [truP, h]
      · left
        simp [truP, h]
    · right
      rw [hb]
      have hc : ∀ op, op = [60] ∨ op = [62, 61] → combP op [cmP zs rs a, (noV, 9)] = (noV, 9) := fun op hop => by
        rw [combP, if_neg (fun hh => hh a0), if_neg (by rcases hop with rfl | rfl <;> simp), if_neg (by rcases hop with rfl | rfl <;> decide), if_pos (by simp [firstE])]
        rfl
      rw [hc [60] (.inl rfl), hc [62, 61] (.inr rfl)]
      exact ⟨rfl, rfl, .inr rfl⟩
  · right
    rw [ha]
    exact ⟨rfl, rfl, .inl rfl⟩
end Go.Proofs.YticdcnbeemkapaaGreatDoor
namespace Go.Proofs.YticdcnbeemkapaaGreatDoor
open Go.RowKit
set_option linter.unusedVariables false

def oneX : Ex := .node ⟨#[118, 97, 108]⟩ ⟨#[]⟩ 1 1 ⟨#[]⟩ 0 []
/-- The law's query. -/
def qyF (x : Ex) : Qy := ⟨⟨#[116]⟩, x, [oneX], [⟨#[121]⟩], [], 0, 0, []⟩
abbrev notX (x : Ex) : Ex := mkN ⟨#[110, 111, 116]⟩ [x]
theorem rules_op : ∀ r ∈ kdRules, r.1 ≠ [] := by decide
theorem op_ne {zs : List Cl} {x : Ex} {T p : Int} (h : tyP zs x = (T, 0, p)) : noOp x = false := by
  cases x with
  | node op nm vt vn vs pos l =>
    by_cases ho : op.data.toList = []
    · exfalso
      have h1 : op.data.toList ≠ [118, 97, 108] := by rw [ho]; decide
      have h2 : op.data.toList ≠ [99, 111, 108] := by rw [ho]; decide
      rw [tyP_op h1 h2] at h
      by_cases ht0 : (tysP zs l).2.1 = 0
      · rw [if_neg (fun hh => hh ht0)] at h
        by_cases hr0 : (ruleP op.data.toList (tysP zs l).1).2 = 0
        · obtain ⟨r, hf, _⟩ := ruleP_in (op := op.data.toList) (ts := (tysP zs l).1) (T := (ruleP op.data.toList (tysP zs l).1).1) (Prod.ext rfl hr0)
          obtain ⟨hmem, he⟩ := kdFind_mem hf
          exact rules_op r hmem (he.trans ho)
        · rw [if_pos hr0] at h
          have := congrArg (fun z => z.2.1) h
          exact hr0 this
      · rw [if_pos ht0] at h
        have := congrArg (fun z => z.2.1) h
        exact ht0 this
    · exact decide_eq_false ho
theorem ck_one : ckP oneX = 0 := by kernel_rfl
theorem of_oneX {zs : List Cl} (h : schE zs = 0) : ofP zs oneX = (1, 0, 0) := of_make ck_one h (by rw [oneX, tyP, if_pos rfl])
theorem sch_y : schE [((⟨#[121]⟩ : ByteArray), (1 : Int))] = 0 := by kernel_rfl
theorem ch_qyF {zs : List Cl} {x : Ex} {p : Int} (h : ofP zs x = (2, 0, p)) : (chQ zs (qyF x)).2 = 0 := by
  obtain ⟨h1, h2, h3⟩ := of_in h
  have hf : formQ (qyF x) = 0 := rfl
  have hw : whQ zs (qyF x).whr = 0 := by
    show whQ zs x = 0
    rw [whQ, h]
    split <;> rfl
  have ht : tyAt zs (qyF x) 0 = (1, 0) := by
    rw [tyAt, if_pos (by show 0 < 1; decide)]
    show ofT zs oneX = (1, 0)
    rw [ofT, of_oneX h2]
    rfl
  have hc : clQ zs (qyF x) 0 [] (namesQ (qyF x)) = ([(⟨#[121]⟩, 1)], 0) := by
    show clQ zs (qyF x) 0 [] [⟨#[121]⟩] = _
    rw [clQ, ht, if_neg (by simp), clQ]
    rfl
  rw [chQ, if_neg (fun hh => hh h2), if_neg (fun hh => hh hf), if_neg (fun hh => hh hw), hc, if_neg (by simp), if_neg (fun hh => hh sch_y)]
theorem of_not {zs : List Cl} {x : Ex} {p : Int} (h : ofP zs x = (2, 0, p)) (hc : ckP (notX x) = 0) : ofP zs (notX x) = (2, 0, 0) := by
  obtain ⟨h1, h2, h3⟩ := of_in h
  refine of_make hc h2 (ty_make (by decide) (by decide) (fun y hy => ?_) ?_)
  · rw [List.mem_singleton.1 hy, h3]
  · rw [List.map_singleton, h3]
    kernel_rfl
theorem ev_in {zs : List Cl} {rs : List V3} {x : Ex} {p : Int} (h : ofP zs x = (2, 0, p)) (hr : rowChk zs rs = 0) : evP zs rs x = cmP zs rs x := by
  rw [evP, h, if_neg (by simp), if_neg (fun hh => hh hr)]
theorem not_val {v : V3} (h : okV 2 v) : combP [110, 111, 116] [(v, 0)] = ((2, 1 - v.2.1, ⟨#[]⟩), 0) ∧ (v.2.1 = 0 ∨ v.2.1 = 1) := by
  obtain ⟨t, n, s⟩ := v
  obtain ⟨h1, h2, h3⟩ := h
  simp only at h1 h2 h3
  subst h1
  obtain ⟨hn, hs⟩ := chk_two h2
  refine ⟨?_, hn⟩
  have hd : vlE [((2 : Int), n, s)] = 0 := by rw [vlE, if_neg (fun hh => hh h2), vlE]
  rw [combP, if_neg (by simp), if_neg (by simp), if_neg (by decide), firstE, if_neg (by simp), List.map_nil, doP, if_neg (fun hh => hh hd)]
  rw [show (ruleP [110, 111, 116] (List.map (fun x => x.1) [((2 : Int), n, s)])).2 = 0 from by kernel_rfl, if_neg (by simp), appP, if_neg (by decide), if_neg (by decide), if_pos rfl]
  rcases hn with rfl | rfl
  · rfl
  · rfl
theorem ev_not {zs : List Cl} {rs : List V3} {x : Ex} {p : Int} (h : ofP zs x = (2, 0, p)) (hc : ckP (notX x) = 0) (hr : rowChk zs rs = 0) (hx : ExB x) (hs : SizedV rs) :
    ((evP zs rs x).2 ≠ 0 ∧ (evP zs rs (notX x)).2 ≠ 0) ∨ ((evP zs rs x).2 = 0 ∧ (evP zs rs (notX x)).2 = 0 ∧ ((evP zs rs (notX x)).1.2.1 == 1) = !((evP zs rs x).1.2.1 == 1)) := by
  rw [ev_in h hr, ev_in (of_not h hc) hr]
  obtain ⟨hcm, _⟩ := cm_in hx hs (by rw [h]) hr
  rw [h] at hcm
  have hn : cmP zs rs (notX x) = combP [110, 111, 116] [cmP zs rs x] := by
    rw [notX, cm_make (by decide) (by decide)]
    rfl
  rcases hcm with ⟨he, hok⟩ | he
  · refine .inr ?_
    have hv : cmP zs rs x = ((cmP zs rs x).1, 0) := Prod.ext rfl he
    obtain ⟨h1, h2⟩ := not_val hok
    rw [hn, hv, h1]
    refine ⟨rfl, rfl, ?_⟩
    simp only
    rcases h2 with h2 | h2
    · rw [h2]; rfl
    · rw [h2]; rfl
  · refine .inl ?_
    rw [hn, he, combP, if_pos (by decide)]
    exact ⟨by decide, by decide⟩
/-- How many come of a row, told by what its condition comes to. -/
theorem out_n {zs : List Cl} {rs : List V3} {x : Ex} {p : Int} (h : ofP zs x = (2, 0, p)) (hr : rowChk zs rs = 0) : (outP zs x [oneX] rs).length = if (evP zs rs x).2 ≠ 0 then 1 else if ((evP zs rs x).1.2.1 == 1) = true then 1 else 0 := by
  obtain ⟨h1, h2, h3⟩ := of_in h
  have hno := op_ne h3
  have hnb : ¬ noOp x = true := by rw [hno]; decide
  have hp : pasP zs rs x = ((evP zs rs x).1.2.1 == 1, (evP zs rs x).2) := by rw [pasP, if_neg hnb]
  have hone : comP zs rs oneX = ((1, 1, ⟨#[]⟩), 0) := by
    rw [comP, if_neg (by rw [show noOp oneX = false from rfl]; decide), evP, of_oneX h2, if_neg (by simp), if_neg (fun hh => hh hr), oneX, cmP, if_pos rfl]
  have hg : gatP zs rs [] [oneX] = ([(1, 1, ⟨#[]⟩)], 0) := by
    rw [gatP, hone, if_neg (by simp), gatP]; rfl
  by_cases he : (evP zs rs x).2 = 0
  · cases hv : ((evP zs rs x).1.2.1 == 1)
    · rw [outP, takP, hp, he, hv]
      simp
    · rw [outP, takP, hp, he, hv, hg]
      simp
  · rw [outP, takP, hp, if_pos he]
    simp [he]
/-- Those of which it is so, those of which it is not, those that go over. -/
def yesN (zs : List Cl) (x : Ex) (l : List (List V3)) : Nat := l.countP fun r => decide ((evP zs r x).2 = 0) && ((evP zs r x).1.2.1 == 1)
def othN (zs : List Cl) (x : Ex) (l : List (List V3)) : Nat := l.countP fun r => decide ((evP zs r x).2 = 0) && !((evP zs r x).1.2.1 == 1)
def ovrN (zs : List Cl) (x : Ex) (l : List (List V3)) : Nat := l.countP fun r => !decide ((evP zs r x).2 = 0)
theorem rwsE_all {zs : List Cl} : ∀ {l : List (List V3)}, rwsE zs l = 0 → ∀ r ∈ l, rowChk zs r = 0
  | [], _, r, h => by cases h
  | a :: l, h, r, hr => by
    rw [rwsE] at h
    by_cases ha : rowChk zs a = 0
    · rw [if_neg (fun hh => hh ha)] at h
      rcases List.mem_cons.1 hr with rfl | hr
      · exact ha
      · exact rwsE_all h r hr
    · rw [if_pos ha] at h
      exact absurd h ha
theorem len_both {zs : List Cl} {x : Ex} {p : Int} (h : ofP zs x = (2, 0, p)) (hc : ckP (notX x) = 0) (hx : ExB x) : ∀ (l : List (List V3)), (∀ r ∈ l, rowChk zs r = 0 ∧ SizedV r) → (l.flatMap (outP zs x [oneX])).length = yesN zs x l + ovrN zs x l ∧ (l.flatMap (outP zs (notX x) [oneX])).length = othN zs x l + ovrN zs x l
  | [], _ => ⟨rfl, rfl⟩
  | r :: l, hl => by
    obtain ⟨i1, i2⟩ := len_both h hc hx l fun r hr => hl r (List.mem_cons_of_mem _ hr)
    obtain ⟨hr, hs⟩ := hl r (List.mem_cons_self ..)
    have o1 := out_n h hr
    have o2 := out_n (of_not h hc) hr
    rw [List.flatMap_cons, List.flatMap_cons, List.length_append, List.length_append, i1, i2, o1, o2]
    simp only [yesN, othN, ovrN, List.countP_cons]
    rcases ev_not h hc hr hx hs with ⟨h1, h2⟩ | ⟨h1, h2, h3⟩
    · simp [h1, h2]; omega
    · rw [h1, h2, h3]
      cases ((evP zs r x).1.2.1 == 1) <;> simp <;> omega
theorem yesN_step {zs : List Cl} {x : Ex} {l : List (List V3)} {k : Nat} (h : k < l.length) : yesN zs x (l.take (k + 1)) = yesN zs x (l.take k) + if (decide ((evP zs l[k] x).2 = 0) && ((evP zs l[k] x).1.2.1 == 1)) = true then 1 else 0 := by
  rw [yesN, yesN, List.take_succ_eq_append_getElem h, List.countP_append, List.countP_singleton]
theorem othN_step {zs : List Cl} {x : Ex} {l : List (List V3)} {k : Nat} (h : k < l.length) : othN zs x (l.take (k + 1)) = othN zs x (l.take k) + if (decide ((evP zs l[k] x).2 = 0) && !((evP zs l[k] x).1.2.1 == 1)) = true then 1 else 0 := by
  rw [othN, othN, List.take_succ_eq_append_getElem h, List.countP_append, List.countP_singleton]
theorem ovrN_step {zs : List Cl} {x : Ex} {l : List (List V3)} {k : Nat} (h : k < l.length) : ovrN zs x (l.take (k + 1)) = ovrN zs x (l.take k) + if (!decide ((evP zs l[k] x).2 = 0)) = true then 1 else 0 := by
  rw [ovrN, ovrN, List.take_succ_eq_append_getElem h, List.countP_append, List.countP_singleton]
end Go.Proofs.YticdcnbeemkapaaGreatDoor
namespace Go.Proofs.YticdcnbeemkapaaGreatDoor
open Go.RowKit
set_option linter.unusedVariables false

theorem info_strA : (Tryz.prog.info? 9).map (fun i => (i.zero, i.size, i.bytes)) = some (some (.string ⟨#[]⟩), 1, 16) := by kernel_rfl
/-- A text's bytes. -/
abbrev toL (b : ByteArray) : List UInt8 := b.data.toList
/-- Texts one behind the other; none of them, and they may lie nowhere. -/
def StsA (w : World) (v : Value) (ts : List ByteArray) : Prop := ∃ p c, v = .slice p ts.length c ∧ (ts.length ≤ c ∧ ts.length ≤ 1048576) ∧ (p = none → c = 0) ∧ ∀ a, p = some a → ts.length = 0 ∨ ∃ g off, a = ⟨g, off, none⟩ ∧ g < w.heap.size ∧ ∀ j (h : j < ts.length), w.cell? ⟨g, off + j, none⟩ = some (.string ts[j])
theorem StsA.on {w w' : World} {v : Value} {ts : List ByteArray} (h : StsA w v ts) (hb : Below w.heap.size w w') : StsA w' v ts := by
  obtain ⟨p, c, e, h1, h2, h3⟩ := h
  refine ⟨p, c, e, h1, h2, fun a ha => ?_⟩
  rcases h3 a ha with h0 | ⟨g, off, e2, h5, h6⟩
  · exact .inl h0
  · exact .inr ⟨g, off, e2, by have := hb.size; omega, fun j hj => by rw [hb.cell (p := ⟨g, off + j, none⟩) h5]; exact h6 j hj⟩
theorem StsA.nil (w : World) : StsA w (.slice none 0 0) [] := ⟨none, 0, rfl, ⟨Nat.le_refl _, Nat.zero_le _⟩, fun _ => rfl, fun a h => nomatch h⟩
theorem sts_own {w : World} {B : Nat} {v : Value} {n : Nat} {ts : List ByteArray} (hn : ts.length = n) (hl : n ≤ 1048576) (h : w.ownsRow B 9 1 v n (ts.map .string)) : StsA w v ts := by
  subst hn
  rcases id h.2 with ⟨rfl, e⟩ | ⟨g, cap, cur, rfl, hb, hg, hm, hx, hs, ht⟩
  · exact ⟨none, 0, by rw [e], ⟨by omega, by omega⟩, fun _ => rfl, fun a ha => nomatch ha⟩
  · refine ⟨some ⟨g, 0, none⟩, cap, rfl, ⟨by omega, hl⟩, (fun hp => nomatch hp), fun a ha => ?_⟩
    injection ha with ha
    subst ha
    refine .inr ⟨g, 0, rfl, (Array.getElem?_eq_some_iff.1 hg).1, fun j hj => ?_⟩
    have := h.cells (g := g) rfl j (.string ts[j]) (by rw [List.getElem?_map, List.getElem?_eq_getElem hj]; rfl)
    rw [Go.WideShapes.add_plain] at this
    exact this
theorem sts_some {w : World} {q : Option Addr} {n c m : Nat} {bs : List ByteArray} (h : StsA w (.slice q n c) bs) (hm : m < bs.length) : ∃ g off, q = some ⟨g, off, none⟩ ∧ g < w.heap.size ∧ ∀ j (h : j < bs.length), w.cell? ⟨g, off + j, none⟩ = some (.string bs[j]) := by
  obtain ⟨p', c', e, ⟨h1, h64⟩, h2, h3⟩ := h
  injection e with e1 e2 e3
  subst e1 e3
  cases q with
  | none => have := h2 rfl; omega
  | some a =>
    rcases h3 a rfl with h0 | ⟨g, off, rfl, h5, h6⟩
    · omega
    · exact ⟨g, off, rfl, h5, h6⟩
theorem addr_zero (a : Addr) : a.add 0 = a := by cases a; simp [Addr.add]
theorem sts_slice_l {w : World} {p : Option Addr} {n c l : Nat} {ts : List ByteArray} (h : StsA w (.slice p n c) ts) (hn : ts.length = n) (hl : l ≤ n) : ∃ p1 c1, (∀ W, Sem.run Tryz.prog (Instr.slice 36 (.slice p n c) (some (.int .i64 (l : Int))) none none) W = .ok (.slice p1 (n - l) c1) W) ∧ StsA w (.slice p1 (n - l) c1) (ts.drop l) := by
  subst hn
  obtain ⟨p', c', e, ⟨h1, h64⟩, h2, h3⟩ := h
  injection e with e1 e2 e3
  subst e1 e3
  have hr : ∀ W, Sem.run Tryz.prog (Instr.slice 36 (.slice p ts.length c) (some (.int .i64 (l : Int))) none none) W = .ok (sliced p l ts.length c 1) W := fun W => by
    have g0 : (0 : Int) ≤ (l : Int) := by omega
    have g1 : (l : Int) ≤ (ts.length : Int) := by omega
    have g2 : Sem.run Tryz.prog (Go.sizeOf (Tryz.prog.elem 36)) W = .ok 1 W := by kernel_rfl
    rw [run_slice_l W 36 p ts.length c (by kernel_rfl) .i64 l g0 g1, g2]
    rfl
  by_cases hcl : c = l
  · refine ⟨p, c - l, fun W => by rw [hr W, sliced, if_pos hcl], p, c - l, by rw [List.length_drop], ⟨by rw [List.length_drop]; omega, by rw [List.length_drop]; omega⟩, fun hp => by have := h2 hp; omega, fun a ha => .inl (by rw [List.length_drop]; omega)⟩
  · cases p with
    | none => exact absurd (h2 rfl) (by omega)
    | some a =>
      rcases h3 a rfl with h0 | ⟨g, off, rfl, h5, h6⟩
      · exact ⟨some (a.add (l * 1)), c - l, fun W => by rw [hr W, sliced, if_neg hcl, Option.map_some], some (a.add (l * 1)), c - l, by rw [List.length_drop], ⟨by rw [List.length_drop]; omega, by rw [List.length_drop]; omega⟩, (fun hp => nomatch hp), fun b hb => .inl (by rw [List.length_drop]; omega)⟩
      refine ⟨some ⟨g, off + l * 1, none⟩, c - l, fun W => by rw [hr W, sliced, if_neg hcl, Option.map_some, Go.WideShapes.add_plain], some ⟨g, off + l * 1, none⟩, c - l, by rw [List.length_drop], ⟨by rw [List.length_drop]; omega, by rw [List.length_drop]; omega⟩, (fun hp => nomatch hp), fun a ha => ?_⟩
      injection ha with ha
      subst ha
      refine .inr ⟨g, off + l * 1, rfl, h5, fun j hj => ?_⟩
      rw [List.length_drop] at hj
      have := h6 (l + j) (by omega)
      rw [List.getElem_drop, show off + l * 1 + j = off + (l + j) by omega]
      exact this
theorem sts_slice_h {w : World} {p : Option Addr} {n c l : Nat} {ts : List ByteArray} (h : StsA w (.slice p n c) ts) (hn : ts.length = n) (hl : l ≤ n) : ∃ p1 c1, (∀ W, Sem.run Tryz.prog (Instr.slice 36 (.slice p n c) none (some (.int .i64 (l : Int))) none) W = .ok (.slice p1 l c1) W) ∧ StsA w (.slice p1 l c1) (ts.take l) := by
  subst hn
  obtain ⟨p', c', e, ⟨h1, h64⟩, h2, h3⟩ := h
  injection e with e1 e2 e3
  subst e1 e3
  have hr : ∀ W, Sem.run Tryz.prog (Instr.slice 36 (.slice p ts.length c) none (some (.int .i64 (l : Int))) none) W = .ok (sliced p 0 l c 1) W := fun W => by
    have g0 : (0 : Int) ≤ (l : Int) := by omega
    have g1 : (l : Int) ≤ (c : Int) := by omega
    have g2 : Sem.run Tryz.prog (Go.sizeOf (Tryz.prog.elem 36)) W = .ok 1 W := by kernel_rfl
    rw [run_slice_h W 36 p ts.length c (by kernel_rfl) .i64 l g0 g1, g2]
    rfl
  have hlen : (ts.take l).length = l := by rw [List.length_take]; omega
  refine ⟨p, c, fun W => ?_, p, c, by rw [hlen], ⟨by omega, by omega⟩, h2, fun a ha => ?_⟩
  · rw [hr W, sliced]
    cases p with
    | none => simp
    | some a => simp [addr_zero]
  · rcases h3 a ha with h0 | ⟨g, off, e2, h5, h6⟩
    · exact .inl (by omega)
    refine .inr ⟨g, off, e2, h5, fun j hj => ?_⟩
    rw [List.getElem_take]
    exact h6 j (by omega)
/-- append of a list of texts, which may lie nowhere, to one's own. -/
theorem wpList_append_sts {w : World} {ops : Array Oper} {rest : List Oper} {o : Oper} {a : Act} {Q : Exit → Act → World → Prop} (hgd : o.guard = none) (s x : Operand)
    (ho : o.op = .call { callee := .builtin .append, args := #[s, x], argTypes := #[36, 36] })
    (base : Nat) (v : Value) (n : Nat) (xs : List ByteArray) (hs : a.eval s = v) (hown : w.ownsRow base 9 1 v n (xs.map .string))
    (u : Value) (ts : List ByteArray) (hx : a.eval x = u) (hst : StsA w u ts) (n' : Nat) (cs' : List Value) (hn' : n + ts.length = n') (hcs : (xs ++ ts).map .string = cs') (hsm : n' ≤ 1048576) (hbase : base ≤ w.heap.size)
    (h : ∀ v' w', w'.ownsRow base 9 1 v' n' cs' → Below base w w' → wpList Tryz.prog ops Q rest (a.put o.dst v') w') : wpList Tryz.prog ops Q (o :: rest) a w := by
  subst hn' hcs
  obtain ⟨i0, hi, hz0, hz1, hzz⟩ := info_parts info_strA
  obtain ⟨p, c, rfl, h1, h2, h3⟩ := hst
  cases p with
  | none =>
    have hc := h2 rfl
    subst hc
    have hl : ts.length = 0 := by omega
    have : ts = [] := List.length_eq_zero_iff.1 hl
    subst this
    refine wpList_append_own_none hgd s x 36 ho base 9 i0 1 Tryz.underlying36 hi v n (xs.map .string) hs hown hx (h v w ?_ (Below.refl _ _))
    simpa using hown
  | some ad =>
    refine wpList_append_own w hgd s x 36 ho base 9 i0 (.string ⟨#[]⟩) 1 16 Tryz.underlying36 hi hz0 hz1 hzz rfl (by decide) v n (xs.map .string) hs hown ad ts.length c (ts.map .string) hx (by simp) (fun j y hy => ?_) (fun y hy => ?_) (by unfold maxLen; omega) (by omega) hbase (fun v' w' o1 o2 _ => ?_)
    · rw [List.getElem?_map] at hy
      obtain ⟨t, ht, rfl⟩ := Option.map_eq_some_iff.1 hy
      obtain ⟨hj, rfl⟩ := List.getElem?_eq_some_iff.1 ht
      rcases h3 ad rfl with h0 | ⟨g, off, rfl, h5, h6⟩
      · omega
      · rw [Go.WideShapes.add_plain]
        exact h6 j hj
    · rw [List.mem_map] at hy
      obtain ⟨t, _, rfl⟩ := hy
      rfl
    · refine h v' w' ?_ ((Below.refl _ w).grown o2 hbase (fun j hj => (hown.lt j hj).1))
      rw [List.map_append]; exact o1
theorem sts_one (w : World) (s : ByteArray) (g : Nat) (hg : g = w.heap.size) : StsA (w.alloc (.cells #[.string s] 9)) (.slice (some ⟨g, 0, none⟩) 1 1) [s] := by
  subst hg
  refine ⟨_, 1, rfl, ⟨Nat.le_refl _, by simp⟩, (fun hp => nomatch hp), fun a ha => ?_⟩
  injection ha with ha
  subst ha
  refine .inr ⟨w.heap.size, 0, rfl, by simp, fun j hj => ?_⟩
  obtain rfl : j = 0 := by simp at hj; omega
  rw [World.cell?_alloc_at _ _ _ _ rfl]; rfl
theorem sts_form {w : World} {v : Value} {ts : List ByteArray} (h : StsA w v ts) : ∃ q c, v = .slice q ts.length c := by
  obtain ⟨p, c, e, -⟩ := h
  exact ⟨p, c, e⟩
def baT (l : List UInt8) : ByteArray := ⟨l.toArray⟩
theorem ba_back {bs : List ByteArray} {ss : List (List UInt8)} (h : bs.map toL = ss) : bs = ss.map baT := by
  subst h
  rw [List.map_map]
  conv => lhs; rw [← List.map_id bs]
  exact List.map_congr_left fun b _ => by cases b; simp [toL, baT]
end Go.Proofs.YticdcnbeemkapaaGreatDoor
