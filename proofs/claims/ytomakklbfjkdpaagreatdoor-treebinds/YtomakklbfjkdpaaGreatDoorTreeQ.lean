/-
  The program's reading of words as an expression (package tree), as plain functions over the words that are left.
-/
import Derived.Test.YtomakklbfjkdpaaGreatDoorTreeP
import Derived.Test.YtomakklbfjkdpaaGreatDoorParse
namespace Go.Proofs.YtomakklbfjkdpaaGreatDoor
open Go.RowKit
set_option linter.unusedVariables false
--BEGIN
/-- Is a word one of these? -/
def sgT (gs : List (List UInt8)) (t : Tok) : Bool := gs.any fun g => g == t.2.1.data.toList
/-- The next word, if it is so; and what is left. -/
def nxT (P : Tok → Bool) : List Tok → Option (Tok × List Tok)
  | [] => none
  | t :: ts => if P t = true then some (t, ts) else none
theorem nxT_len {P : Tok → Bool} {ts r : List Tok} {t : Tok} (h : nxT P ts = some (t, r)) : ts = t :: r ∧ P t = true := by
  cases ts with
  | nil => simp [nxT] at h
  | cons a l =>
    rw [nxT] at h
    split at h
    · rename_i h1
      cases h
      exact ⟨rfl, h1⟩
    · exact absurd h (by simp)
def betT (a : Ex) (t : Tok) (b : Ex) : Ex := .node t.2.1 ⟨#[]⟩ 0 0 ⟨#[]⟩ (t.2.2 : Int) [a, b]
/-- Behind what has been read: sign and part, over and over. -/
def uLoop (sub : List Tok → Option Ex × List Tok) (gs : List (List UInt8)) : Nat → Ex → List Tok → Option Ex × List Tok
  | 0, e, ts => (some e, ts)
  | k + 1, e, ts => match nxT (sgT gs) ts with
    | none => (some e, ts)
    | some (t, r) => match sub r with
      | (none, r2) => (none, r2)
      | (some b, r2) => uLoop sub gs k (betT e t b) r2
def uSev (sub : List Tok → Option Ex × List Tok) (gs : List (List UInt8)) (ts : List Tok) : Option Ex × List Tok := match sub ts with
  | (none, r) => (none, r)
  | (some e, r) => uLoop sub gs (r.length + 1) e r
def uAhead (op : List UInt8) (gs : List (List UInt8)) (sub other : List Tok → Option Ex × List Tok) (ts : List Tok) : Option Ex × List Tok := match nxT (sgT gs) ts with
  | none => other ts
  | some (t, r) => match sub r with
    | (none, r2) => (none, r2)
    | (some e, r2) => (some (op1 op (t.2.2 : Int) [e]), r2)
def cmpL : List (List UInt8) := [[61], [60, 62], [60], [60, 61], [62], [62, 61]]
def uCmp (sub : List Tok → Option Ex × List Tok) (ts : List Tok) : Option Ex × List Tok := match sub ts with
  | (none, r) => (none, r)
  | (some a, r) => match nxT (sgT cmpL) r with
    | none => (some a, r)
    | some (t, r2) => match sub r2 with
      | (none, r3) => (none, r3)
      | (some b, r3) => (some (betT a t b), r3)
/-- So many in brackets, a comma between. -/
def uBr (sub : List Tok → Option Ex × List Tok) : Nat → List Ex → List Tok → Option (List Ex) × List Tok
  | 0, acc, ts => match nxT (sgT [[41]]) ts with
    | none => (none, ts)
    | some (_, r) => (some acc, r)
  | k + 1, acc, ts => match nxT (sgT [if acc.length = 0 then [40] else [44]]) ts with
    | none => (none, ts)
    | some (_, r) => match sub r with
      | (none, r2) => (none, r2)
      | (some e, r2) => uBr sub k (acc ++ [e]) r2
/-- Is a word a value? -/
def vlT (t : Tok) : Bool := decide ((readV t.2.1).2.2.2 = 0)
def valE (t : Tok) : Ex := .node ⟨#[118, 97, 108]⟩ ⟨#[]⟩ (readV t.2.1).1 (readV t.2.1).2.1 ⟨(readV t.2.1).2.2.1.toArray⟩ (t.2.2 : Int) []
def colE1 (t : Tok) : Ex := .node ⟨#[99, 111, 108]⟩ t.2.1 0 0 ⟨#[]⟩ (t.2.2 : Int) []
def nmT (t : Tok) : Bool := nameT t.2.1.data.toList
/-- What has no sign of its own. -/
def uOne (sub : List Tok → Option Ex × List Tok) (ts : List Tok) : Option Ex × List Tok := match nxT (sgT [[108, 101, 110], [105, 102]]) ts with
  | some (t, r) => match uBr sub (if t.2.1.data.toList = [108, 101, 110] then 1 else 3) [] r with
    | (none, r2) => (none, r2)
    | (some l, r2) => (some (.node t.2.1 ⟨#[]⟩ 0 0 ⟨#[]⟩ (t.2.2 : Int) l), r2)
  | none => match nxT vlT ts with
    | some (t, r) => (some (valE t), r)
    | none => match nxT nmT ts with
      | some (t, r) => (some (colE1 t), r)
      | none => match uBr sub 1 [] ts with
        | (none, r) => (none, r)
        | (some l, r) => (l.head?, r)
/-- An expression of a level: 0 or, 1 and, 2 not, 3 a comparison, 4 a sum, 5 a product, 6 -, 7 one. -/
def uE : Nat → Nat → List Tok → Option Ex × List Tok
  | 0, _, ts => (none, ts)
  | f + 1, lv, ts => match lv with
    | 0 => uSev (uE f 1) [[111, 114]] ts
    | 1 => uSev (uE f 2) [[97, 110, 100]] ts
    | 2 => uAhead [110, 111, 116] [[110, 111, 116]] (uE f 2) (uE f 3) ts
    | 3 => uCmp (uE f 4) ts
    | 4 => uSev (uE f 5) [[43], [45]] ts
    | 5 => uSev (uE f 6) [[42], [47], [37]] ts
    | 6 => uAhead [110, 101, 103] [[45]] (uE f 6) (uE f 7) ts
    | _ => uOne (uE f 0) ts
/-- What is left is an end of what there was. -/
def Suf (sub : List Tok → Option Ex × List Tok) : Prop := ∀ ts, (sub ts).2 <:+ ts
theorem uLoop_suf {sub : List Tok → Option Ex × List Tok} (hs : Suf sub) (gs : List (List UInt8)) : ∀ (k : Nat) (e : Ex) (ts : List Tok), (uLoop sub gs k e ts).2 <:+ ts
  | 0, e, ts => List.suffix_rfl
  | k + 1, e, ts => by
    rw [uLoop]
    cases h : nxT (sgT gs) ts with
    | none => exact List.suffix_rfl
    | some q =>
      obtain ⟨t, r⟩ := q
      have h1 := (nxT_len h).1
      subst h1
      have h2 := (hs r).trans (List.suffix_cons t r)
      simp only
      cases h3 : sub r with
      | mk o r2 =>
        rw [h3] at h2
        cases o with
        | none => exact h2
        | some b => exact (uLoop_suf hs gs k (betT e t b) r2).trans h2
theorem uSev_suf {sub : List Tok → Option Ex × List Tok} (hs : Suf sub) (gs : List (List UInt8)) : Suf (uSev sub gs) := by
  intro ts
  have h2 := hs ts
  rw [uSev]
  cases h3 : sub ts with
  | mk o r =>
    rw [h3] at h2
    cases o with
    | none => exact h2
    | some e => exact (uLoop_suf hs gs (r.length + 1) e r).trans h2
theorem uAhead_suf {sub other : List Tok → Option Ex × List Tok} (hs : Suf sub) (ho : Suf other) (op : List UInt8) (gs : List (List UInt8)) : Suf (uAhead op gs sub other) := by
  intro ts
  rw [uAhead]
  cases h : nxT (sgT gs) ts with
  | none => exact ho ts
  | some q =>
    obtain ⟨t, r⟩ := q
    have h1 := (nxT_len h).1
    subst h1
    have h2 := (hs r).trans (List.suffix_cons t r)
    simp only
    cases h3 : sub r with
    | mk o r2 =>
      rw [h3] at h2
      cases o <;> exact h2
theorem uCmp_suf {sub : List Tok → Option Ex × List Tok} (hs : Suf sub) : Suf (uCmp sub) := by
  intro ts
  have h2 := hs ts
  rw [uCmp]
  cases h3 : sub ts with
  | mk o r =>
    rw [h3] at h2
    cases o with
    | none => exact h2
    | some e =>
      simp only at h2 ⊢
      cases h : nxT (sgT cmpL) r with
      | none => exact h2
      | some q =>
        obtain ⟨t, r2⟩ := q
        have h1 := (nxT_len h).1
        subst h1
        have h4 := ((hs r2).trans (List.suffix_cons t r2)).trans h2
        simp only
        cases h5 : sub r2 with
        | mk o r3 =>
          rw [h5] at h4
          cases o <;> exact h4
theorem uBr_suf {sub : List Tok → Option Ex × List Tok} (hs : Suf sub) : ∀ (k : Nat) (acc : List Ex) (ts : List Tok), (uBr sub k acc ts).2 <:+ ts
  | 0, acc, ts => by
    rw [uBr]
    cases h : nxT (sgT [[41]]) ts with
    | none => exact List.suffix_rfl
    | some q =>
      obtain ⟨t, r⟩ := q
      have h1 := (nxT_len h).1
      subst h1
      exact List.suffix_cons t r
  | k + 1, acc, ts => by
    rw [uBr]
    cases h : nxT (sgT [if acc.length = 0 then [40] else [44]]) ts with
    | none => exact List.suffix_rfl
    | some q =>
      obtain ⟨t, r⟩ := q
      have h1 := (nxT_len h).1
      subst h1
      have h2 := (hs r).trans (List.suffix_cons t r)
      simp only
      cases h3 : sub r with
      | mk o r2 =>
        rw [h3] at h2
        cases o with
        | none => exact h2
        | some e => exact (uBr_suf hs k (acc ++ [e]) r2).trans h2
theorem uOne_suf {sub : List Tok → Option Ex × List Tok} (hs : Suf sub) : Suf (uOne sub) := by
  intro ts
  rw [uOne]
  cases h : nxT (sgT [[108, 101, 110], [105, 102]]) ts with
  | some q =>
    obtain ⟨t, r⟩ := q
    have h1 := (nxT_len h).1
    subst h1
    have h2 := (uBr_suf hs (if t.2.1.data.toList = [108, 101, 110] then 1 else 3) [] r).trans (List.suffix_cons t r)
    simp only
    cases h3 : uBr sub (if t.2.1.data.toList = [108, 101, 110] then 1 else 3) [] r with
    | mk o r2 =>
      rw [h3] at h2
      cases o <;> exact h2
  | none =>
    simp only
    cases h : nxT vlT ts with
    | some q =>
      obtain ⟨t, r⟩ := q
      have h1 := (nxT_len h).1
      subst h1
      exact List.suffix_cons t r
    | none =>
      simp only
      cases h : nxT nmT ts with
      | some q =>
        obtain ⟨t, r⟩ := q
        have h1 := (nxT_len h).1
        subst h1
        exact List.suffix_cons t r
      | none =>
        have h2 := uBr_suf hs 1 [] ts
        simp only
        cases h3 : uBr sub 1 [] ts with
        | mk o r2 =>
          rw [h3] at h2
          cases o <;> exact h2
theorem uE_suf : ∀ (f lv : Nat), Suf (uE f lv)
  | 0, lv => fun ts => by rw [uE]; exact List.suffix_rfl
  | f + 1, lv => fun ts => by
    have ih := fun lv => uE_suf f lv
    unfold uE
    split
    · exact uSev_suf (ih 1) _ ts
    · exact uSev_suf (ih 2) _ ts
    · exact uAhead_suf (ih 2) (ih 3) _ _ ts
    · exact uCmp_suf (ih 4) ts
    · exact uSev_suf (ih 5) _ ts
    · exact uSev_suf (ih 6) _ ts
    · exact uAhead_suf (ih 6) (ih 7) _ _ ts
    · exact uOne_suf (ih 0) ts
--END
end Go.Proofs.YtomakklbfjkdpaaGreatDoor
