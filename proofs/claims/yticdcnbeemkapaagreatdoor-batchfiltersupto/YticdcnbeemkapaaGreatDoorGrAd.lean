/-
  TreeQ, OwnS, LexToks, TreeR1, ButM, in one text.
-/
import Derived.Test.YticdcnbeemkapaaGreatDoorGrAc
import Derived.Test.YticdcnbeemkapaaGreatDoorGrAb
import Derived.Test.YticdcnbeemkapaaGreatDoorGrAa
import Derived.OwnWalk
import Derived.WalkKit
import Derived.Below
import Derived.RowKitTokens
import Derived.Lib.OthersKept
import Derived.Deep.DeepCutAuto
import Derived.WalkSmall
import Derived.BigQuiet
import Derived.Deep.RegionWith
import Derived.Test.YticdcnbeemkapaaGreatDoorProg
import Derived.Deep.Heap
namespace Go.Proofs.YticdcnbeemkapaaGreatDoor
open Go.RowKit
set_option linter.unusedVariables false
--BEGIN
/-- Is a word one of these? -/
def sgT (gs : List (List UInt8)) (t : Tok) : Bool := gs.any fun g => g == t.2.1.data.toList
/-- The next word, if it is so; and what is left. -/
def nxT (P : Tok → Bool) : List Tok → Option (Tok × List Tok)
  | [] => none
  | t :: ts => if P t = true then some (t, ts) else none
theorem nxT_len {P : Tok → Bool} {ts r : List Tok} {t : Tok} (h : nxT P ts = some (t, r)) : ts = t :: r ∧ P t = true := by
  cases ts with
  | nil => simp [nxT] at h
  | cons a l =>
    rw [nxT] at h
    split at h
    · rename_i h1
      cases h
      exact ⟨rfl, h1⟩
    · exact absurd h (by simp)
def betT (a : Ex) (t : Tok) (b : Ex) : Ex := .node t.2.1 ⟨#[]⟩ 0 0 ⟨#[]⟩ (t.2.2 : Int) [a, b]
/-- Behind what has been read: sign and part, over and over. -/
def uLoop (sub : List Tok → Option Ex × List Tok) (gs : List (List UInt8)) : Nat → Ex → List Tok → Option Ex × List Tok
  | 0, e, ts => (some e, ts)
  | k + 1, e, ts => match nxT (sgT gs) ts with
    | none => (some e, ts)
    | some (t, r) => match sub r with
      | (none, r2) => (none, r2)
      | (some b, r2) => uLoop sub gs k (betT e t b) r2
def uSev (sub : List Tok → Option Ex × List Tok) (gs : List (List UInt8)) (ts : List Tok) : Option Ex × List Tok := match sub ts with
  | (none, r) => (none, r)
  | (some e, r) => uLoop sub gs (r.length + 1) e r
def uAhead (op : List UInt8) (gs : List (List UInt8)) (sub other : List Tok → Option Ex × List Tok) (ts : List Tok) : Option Ex × List Tok := match nxT (sgT gs) ts with
  | none => other ts
  | some (t, r) => match sub r with
    | (none, r2) => (none, r2)
    | (some e, r2) => (some (op1 op (t.2.2 : Int) [e]), r2)
def cmpL : List (List UInt8) := [[61], [60, 62], [60], [60, 61], [62], [62, 61]]
def uCmp (sub : List Tok → Option Ex × List Tok) (ts : List Tok) : Option Ex × List Tok := match sub ts with
  | (none, r) => (none, r)
  | (some a, r) => match nxT (sgT cmpL) r with
    | none => (some a, r)
    | some (t, r2) => match sub r2 with
      | (none, r3) => (none, r3)
      | (some b, r3) => (some (betT a t b), r3)
/-- So many in brackets, a comma between. -/
def uBr (sub : List Tok → Option Ex × List Tok) : Nat → List Ex → List Tok → Option (List Ex) × List Tok
  | 0, acc, ts => match nxT (sgT [[41]]) ts with
    | none => (none, ts)
    | some (_, r) => (some acc, r)
  | k + 1, acc, ts => match nxT (sgT [if acc.length = 0 then [40] else [44]]) ts with
    | none => (none, ts)
    | some (_, r) => match sub r with
      | (none, r2) => (none, r2)
      | (some e, r2) => uBr sub k (acc ++ [e]) r2
/-- Is a word a value? -/
def vlT (t : Tok) : Bool := decide ((readV t.2.1).2.2.2 = 0)
def valE (t : Tok) : Ex := .node ⟨#[118, 97, 108]⟩ ⟨#[]⟩ (readV t.2.1).1 (readV t.2.1).2.1 ⟨(readV t.2.1).2.2.1.toArray⟩ (t.2.2 : Int) []
def colE1 (t : Tok) : Ex := .node ⟨#[99, 111, 108]⟩ t.2.1 0 0 ⟨#[]⟩ (t.2.2 : Int) []
def nmT (t : Tok) : Bool := nameT t.2.1.data.toList
/-- What has no sign of its own. -/
def uOne (sub : List Tok → Option Ex × List Tok) (ts : List Tok) : Option Ex × List Tok := match nxT (sgT [[108, 101, 110], [105, 102]]) ts with
  | some (t, r) => match uBr sub (if t.2.1.data.toList = [108, 101, 110] then 1 else 3) [] r with
    | (none, r2) => (none, r2)
    | (some l, r2) => (some (.node t.2.1 ⟨#[]⟩ 0 0 ⟨#[]⟩ (t.2.2 : Int) l), r2)
  | none => match nxT vlT ts with
    | some (t, r) => (some (valE t), r)
    | none => match nxT nmT ts with
      | some (t, r) => (some (colE1 t), r)
      | none => match uBr sub 1 [] ts with
        | (none, r) => (none, r)
        | (some l, r) => (l.head?, r)
/-- An expression of a level: 0 or, 1 and, 2 not, 3 a comparison, 4 a sum, 5 a product, 6 -, 7 one. -/
def uE : Nat → Nat → List Tok → Option Ex × List Tok
  | 0, _, ts => (none, ts)
  | f + 1, lv, ts => match lv with
    | 0 => uSev (uE f 1) [[111, 114]] ts
    | 1 => uSev (uE f 2) [[97, 110, 100]] ts
    | 2 => uAhead [110, 111, 116] [[110, 111, 116]] (uE f 2) (uE f 3) ts
    | 3 => uCmp (uE f 4) ts
    | 4 => uSev (uE f 5) [[43], [45]] ts
    | 5 => uSev (uE f 6) [[42], [47], [37]] ts
    | 6 => uAhead [110, 101, 103] [[45]] (uE f 6) (uE f 7) ts
    | _ => uOne (uE f 0) ts
/-- What is left is an end of what there was. -/
def Suf (sub : List Tok → Option Ex × List Tok) : Prop := ∀ ts, (sub ts).2 <:+ ts
theorem uLoop_suf {sub : List Tok → Option Ex × List Tok} (hs : Suf sub) (gs : List (List UInt8)) : ∀ (k : Nat) (e : Ex) (ts : List Tok), (uLoop sub gs k e ts).2 <:+ ts
  | 0, e, ts => List.suffix_rfl
  | k + 1, e, ts => by
    rw [uLoop]
    cases h : nxT (sgT gs) ts with
    | none => exact List.suffix_rfl
    | some q =>
      obtain ⟨t, r⟩ := q
      have h1 := (nxT_len h).1
      subst h1
      have h2 := (hs r).trans (List.suffix_cons t r)
      simp only
      cases h3 : sub r with
      | mk o r2 =>
        rw [h3] at h2
        cases o with
        | none => exact h2
        | some b => exact (uLoop_suf hs gs k (betT e t b) r2).trans h2
theorem uSev_suf {sub : List Tok → Option Ex × List Tok} (hs : Suf sub) (gs : List (List UInt8)) : Suf (uSev sub gs) := by
  intro ts
  have h2 := hs ts
  rw [uSev]
  cases h3 : sub ts with
  | mk o r =>
    rw [h3] at h2
    cases o with
    | none => exact h2
    | some e => exact (uLoop_suf hs gs (r.length + 1) e r).trans h2
theorem uAhead_suf {sub other : List Tok → Option Ex × List Tok} (hs : Suf sub) (ho : Suf other) (op : List UInt8) (gs : List (List UInt8)) : Suf (uAhead op gs sub other) := by
  intro ts
  rw [uAhead]
  cases h : nxT (sgT gs) ts with
  | none => exact ho ts
  | some q =>
    obtain ⟨t, r⟩ := q
    have h1 := (nxT_len h).1
    subst h1
    have h2 := (hs r).trans (List.suffix_cons t r)
    simp only
    cases h3 : sub r with
    | mk o r2 =>
      rw [h3] at h2
      cases o <;> exact h2
theorem uCmp_suf {sub : List Tok → Option Ex × List Tok} (hs : Suf sub) : Suf (uCmp sub) := by
  intro ts
  have h2 := hs ts
  rw [uCmp]
  cases h3 : sub ts with
  | mk o r =>
    rw [h3] at h2
    cases o with
    | none => exact h2
    | some e =>
      simp only at h2 ⊢
      cases h : nxT (sgT cmpL) r with
      | none => exact h2
      | some q =>
        obtain ⟨t, r2⟩ := q
        have h1 := (nxT_len h).1
        subst h1
        have h4 := ((hs r2).trans (List.suffix_cons t r2)).trans h2
        simp only
        cases h5 : sub r2 with
        | mk o r3 =>
          rw [h5] at h4
          cases o <;> exact h4
theorem uBr_suf {sub : List Tok → Option Ex × List Tok} (hs : Suf sub) : ∀ (k : Nat) (acc : List Ex) (ts : List Tok), (uBr sub k acc ts).2 <:+ ts
  | 0, acc, ts => by
    rw [uBr]
    cases h : nxT (sgT [[41]]) ts with
    | none => exact List.suffix_rfl
    | some q =>
      obtain ⟨t, r⟩ := q
      have h1 := (nxT_len h).1
      subst h1
      exact List.suffix_cons t r
  | k + 1, acc, ts => by
    rw [uBr]
    cases h : nxT (sgT [if acc.length = 0 then [40] else [44]]) ts with
    | none => exact List.suffix_rfl
    | some q =>
      obtain ⟨t, r⟩ := q
      have h1 := (nxT_len h).1
      subst h1
      have h2 := (hs r).trans (List.suffix_cons t r)
      simp only
      cases h3 : sub r with
      | mk o r2 =>
        rw [h3] at h2
        cases o with
        | none => exact h2
        | some e => exact (uBr_suf hs k (acc ++ [e]) r2).trans h2
theorem uOne_suf {sub : List Tok → Option Ex × List Tok} (hs : Suf sub) : Suf (uOne sub) := by
  intro ts
  rw [uOne]
  cases h : nxT (sgT [[108, 101, 110], [105, 102]]) ts with
  | some q =>
    obtain ⟨t, r⟩ := q
    have h1 := (nxT_len h).1
    subst h1
    have h2 := (uBr_suf hs (if t.2.1.data.toList = [108, 101, 110] then 1 else 3) [] r).trans (List.suffix_cons t r)
    simp only
    cases h3 : uBr sub (if t.2.1.data.toList = [108, 101, 110] then 1 else 3) [] r with
    | mk o r2 =>
      rw [h3] at h2
      cases o <;> exact h2
  | none =>
    simp only
    cases h : nxT vlT ts with
    | some q =>
      obtain ⟨t, r⟩ := q
      have h1 := (nxT_len h).1
      subst h1
      exact List.suffix_cons t r
    | none =>
      simp only
      cases h : nxT nmT ts with
      | some q =>
        obtain ⟨t, r⟩ := q
        have h1 := (nxT_len h).1
        subst h1
        exact List.suffix_cons t r
      | none =>
        have h2 := uBr_suf hs 1 [] ts
        simp only
        cases h3 : uBr sub 1 [] ts with
        | mk o r2 =>
          rw [h3] at h2
          cases o <;> exact h2
theorem uE_suf : ∀ (f lv : Nat), Suf (uE f lv)
  | 0, lv => fun ts => by rw [uE]; exact List.suffix_rfl
  | f + 1, lv => fun ts => by
    have ih := fun lv => uE_suf f lv
    unfold uE
    split
    · exact uSev_suf (ih 1) _ ts
    · exact uSev_suf (ih 2) _ ts
    · exact uAhead_suf (ih 2) (ih 3) _ _ ts
    · exact uCmp_suf (ih 4) ts
    · exact uSev_suf (ih 5) _ ts
    · exact uSev_suf (ih 6) _ ts
    · exact uAhead_suf (ih 6) (ih 7) _ _ ts
    · exact uOne_suf (ih 0) ts
--END
end Go.Proofs.YticdcnbeemkapaaGreatDoor
namespace Go.Proofs.YticdcnbeemkapaaGreatDoor
open Go.RowKit

theorem lown_slice {W : World} {base : Nat} {e : TypeId} {size : Nat} {v : Value} {n : Nat} {xs : List Value} (h : W.ownsRow base e size v n xs) : ∃ p c, v = .slice p n c := by
  rcases h.2 with ⟨rfl, rfl⟩ | ⟨g, cap, cur, rfl, _⟩
  · exact ⟨_, _, rfl⟩
  · exact ⟨_, _, rfl⟩
theorem lown_below {W W' : World} {base : Nat} {e : TypeId} {size : Nat} {v : Value} {n : Nat} {xs : List Value} (h : W.ownsRow base e size v n xs) (hb : Below W.heap.size W W') : W'.ownsRow base e size v n xs := by
  refine ⟨h.1, ?_⟩
  rcases h.2 with hn | ⟨g, cap, cur, rfl, h1, hgg, rest⟩
  · exact .inl hn
  · exact .inr ⟨g, cap, cur, rfl, h1, by rw [hb.block g (Array.getElem?_eq_some_iff.1 hgg).1]; exact hgg, rest⟩
end Go.Proofs.YticdcnbeemkapaaGreatDoor
namespace Go.Proofs.YticdcnbeemkapaaGreatDoor
open Go.RowKit
set_option linter.unusedVariables false

def tokCells (ts : List Tok) : List Value := ts.flatMap fun t => [.int .i64 t.1, .string t.2.1, .int .i64 (t.2.2 : Int)]
/-- The words of a list lie in memory one behind the other. -/
def ToksIn (w : World) (b off : Nat) (ts : List Tok) : Prop :=
  b < w.heap.size ∧ ∀ j (h : j < ts.length), w.cell? ⟨b, off + j * 3, none⟩ = some (.int .i64 ts[j].1) ∧ w.cell? ⟨b, off + j * 3 + 1, none⟩ = some (.string ts[j].2.1) ∧ w.cell? ⟨b, off + j * 3 + 2, none⟩ = some (.int .i64 (ts[j].2.2 : Int))
theorem ToksIn.on {w w' : World} {b off : Nat} {ts : List Tok} (h : ToksIn w b off ts) (hb : Below w.heap.size w w') : ToksIn w' b off ts :=
  ⟨by have := hb.size; have := h.1; omega, fun j hj => by
    rw [hb.cell (p := ⟨b, off + j * 3, none⟩) h.1, hb.cell (p := ⟨b, off + j * 3 + 1, none⟩) h.1, hb.cell (p := ⟨b, off + j * 3 + 2, none⟩) h.1]; exact h.2 j hj⟩
/-- A list of words as a Go value. -/
def IsToks (w : World) (v : Value) (ts : List Tok) : Prop :=
  ∃ p c, v = .slice p ts.length c ∧ ts.length ≤ maxLen ∧ (ts.length = 0 ∨ ∃ b off, p = some ⟨b, off, none⟩ ∧ ToksIn w b off ts)
theorem IsToks.on {w w' : World} {v : Value} {ts : List Tok} (h : IsToks w v ts) (hb : Below w.heap.size w w') : IsToks w' v ts := by
  obtain ⟨p, c, e, hm, h⟩ := h
  refine ⟨p, c, e, hm, ?_⟩
  rcases h with h | ⟨b, off, e2, h⟩
  · exact .inl h
  · exact .inr ⟨b, off, e2, h.on hb⟩
theorem tokCells_at : ∀ (ts : List Tok) (j : Nat) (h : j < ts.length), (tokCells ts)[j * 3]? = some (.int .i64 ts[j].1) ∧ (tokCells ts)[j * 3 + 1]? = some (.string ts[j].2.1) ∧ (tokCells ts)[j * 3 + 2]? = some (.int .i64 (ts[j].2.2 : Int))
  | [], j, h => absurd h (by simp)
  | t :: ts, 0, _ => by simp [tokCells]
  | t :: ts, j + 1, h => by
    have ih := tokCells_at ts j (by simpa using h)
    have e : tokCells (t :: ts) = .int .i64 t.1 :: .string t.2.1 :: .int .i64 (t.2.2 : Int) :: tokCells ts := rfl
    rw [e, show (j + 1) * 3 = j * 3 + 1 + 1 + 1 by omega]
    simp only [List.getElem?_cons_succ]
    simpa using ih
theorem isToks_nil (w : World) : IsToks w (.slice none 0 0) [] := ⟨none, 0, rfl, Nat.zero_le _, .inl rfl⟩
theorem lown_set {W : World} {b : Nat} {e : TypeId} {size : Nat} {v : Value} {n : Nat} {xs : List Value} (h : W.ownsRow (b + 1) e size v n xs) (o : Nat) (x : Value) : (W.setCell ⟨b, o, none⟩ x).ownsRow (b + 1) e size v n xs := by
  refine ⟨h.1, ?_⟩
  rcases h.2 with hn | ⟨g, cap, cur, rfl, h1, hgg, rest⟩
  · exact .inl hn
  · refine .inr ⟨g, cap, cur, rfl, h1, ?_, rest⟩
    rw [Below.heap_setCell _ _ _ _ (fun e => by simp at e; omega)]
    exact hgg
end Go.Proofs.YticdcnbeemkapaaGreatDoor
namespace Go.Proofs.YticdcnbeemkapaaGreatDoor
open Go.RowKit Go.BigFrame
set_option linter.unusedVariables false

/-- Texts lie in memory one behind the other. -/
def StrsIn (w : World) (b : Nat) (gs : List (List UInt8)) : Prop := b < w.heap.size ∧ ∀ j (h : j < gs.length), w.cell? ⟨b, j, none⟩ = some (.string ⟨gs[j].toArray⟩)
theorem StrsIn.on {w w' : World} {b : Nat} {gs : List (List UInt8)} (h : StrsIn w b gs) (hb : Below w.heap.size w w') : StrsIn w' b gs :=
  ⟨by have := hb.size; have := h.1; omega, fun j hj => by rw [hb.cell (p := ⟨b, j, none⟩) h.1]; exact h.2 j hj⟩
theorem any_hit {gs : List (List UInt8)} {l : List UInt8} {k : Nat} (h : k < gs.length) (e : gs[k] = l) : (gs.any fun g => g == l) = true := by
  rw [List.any_eq_true]
  exact ⟨gs[k], List.getElem_mem h, by simpa using e⟩
theorem any_miss {gs : List (List UInt8)} {l : List UInt8} (h : ∀ j (hj : j < gs.length), gs[j] ≠ l) : (gs.any fun g => g == l) = false := by
  rw [List.any_eq_false]
  intro g hg
  obtain ⟨j, hj, rfl⟩ := List.getElem_of_mem hg
  simpa using h j hj
set_option maxHeartbeats 1000000 in
theorem index_any (x : ByteArray) (b c : Nat) (gs : List (List UInt8)) (w : World) (hn : gs.length ≤ 100) (hc : StrsIn w b gs) :
    Calls Tryz.prog 145 #[.slice (some ⟨b, 0, none⟩) gs.length c, .string x] w fun e w' => ∃ n : Int, e = .returned (.int .i64 n) ∧ Hid (decide (0 ≤ n) = gs.any fun g => g == x.data.toList) ∧ w' = w := by
  go_enter Tryz.func145, Tryz.ntmps145
  go_wp2
  go_loopg [5, 8] gs.length (fun gg _ s8 wr => ∃ kk : Nat, kk ≤ gs.length ∧ gs.length - kk ≤ gg ∧ s8 = .int .i64 kk ∧ wr = w ∧ Aside (∀ j (hj : j < gs.length), j < kk → gs[j] ≠ x.data.toList))
  case atStart => exact ⟨0, Nat.zero_le _, by omega, rfl, rfl, (show Aside _ from fun j _ hj => absurd hj (Nat.not_lt_zero _))⟩
  case round =>
    obtain ⟨kk, hkk, hg, rfl, rfl, A⟩ := hrel
    by_cases hlt : kk < gs.length
    · have hltz : (kk : Int) < (gs.length : Int) := by omega
      have hcell := hc.2 kk hlt
      have hbl := hc.1
      generalize hy : gs[kk] = y at hcell
      have HY : Hid (gs[kk] = y) := hy
      clear hy
      by_cases he : x.data.toList = y
      · obtain rfl : x = ⟨y.toArray⟩ := eq_of_list he
        go_wp2
        go_ret
        refine ⟨kk, rfl, ?_, rfl⟩
        show _ = _
        rw [any_hit hlt HY.out]
        simp
      · have hq : (x.toList == y) = false := by rw [Lib.toList_data]; simpa using he
        go_wp2
        go_roundg (gs.length - (kk + 1))
        case measure => omega
        case rel =>
          refine ⟨kk + 1, by omega, by omega, by go_num, rfl, (show Aside _ from fun j hj hjk => ?_)⟩
          by_cases e : j = kk
          · subst e
            rw [HY.out]; exact fun e => he e.symm
          · exact A.out j hj (by omega)
    · have hltz : ¬ (kk : Int) < (gs.length : Int) := by omega
      go_wp2
      go_ret
      refine ⟨-1, rfl, ?_, rfl⟩
      show _ = _
      rw [any_miss (fun j hj => A.out j hj (by omega))]
      rfl
theorem contains_any (x : ByteArray) (b c : Nat) (gs : List (List UInt8)) (w : World) (hn : gs.length ≤ 100) (hc : StrsIn w b gs) :
    Calls Tryz.prog 120 #[.slice (some ⟨b, 0, none⟩) gs.length c, .string x] w fun e w' => e = .returned (.bool (gs.any fun g => g == x.data.toList)) ∧ w' = w := by
  have cI := index_any x b c gs w hn hc
  generalize (gs.any fun g => g == x.data.toList) = R at cI
  go_enter Tryz.func120, Tryz.ntmps120
  go_wp2_with fail
  refine cI.mono ?_
  rintro e w' ⟨n, rfl, HR, rfl⟩
  go_wp2
  go_ret
  exact ⟨ret_bool HR.out, rfl⟩
/-- A function that tells whether a word is one of these, as oneOf makes it: the block of what it has captured. -/
def SignIn (w : World) (p : Nat) (gs : List (List UInt8)) : Prop := ∃ b c, w.cell? ⟨p, 0, none⟩ = some (.slice (some ⟨b, 0, none⟩) gs.length c) ∧ p < w.heap.size ∧ StrsIn w b gs ∧ gs.length ≤ 100
theorem SignIn.on {w w' : World} {p : Nat} {gs : List (List UInt8)} (h : SignIn w p gs) (hb : Below w.heap.size w w') : SignIn w' p gs := by
  obtain ⟨b, c, h1, h2, h3, h4⟩ := h
  exact ⟨b, c, by rw [hb.cell (p := ⟨p, 0, none⟩) h2]; exact h1, by have := hb.size; omega, h3.on hb, h4⟩
def tokV (t : Tok) : Value := .agg #[.int .i64 t.1, .string t.2.1, .int .i64 (t.2.2 : Int)]
end Go.Proofs.YticdcnbeemkapaaGreatDoor
namespace Go.Proofs.YticdcnbeemkapaaGreatDoor
open Go.RowKit
set_option linter.unusedVariables false

/-- All that was there is kept but the block r. -/
structure But (r : Nat) (w w' : World) : Prop where
  below : Below r w w'
  size : w.heap.size ≤ w'.heap.size
  kept : ∀ k, k < w.heap.size → k ≠ r → w'.heap[k]? = w.heap[k]?
theorem But.refl (r : Nat) (w : World) : But r w w := ⟨Below.refl _ _, Nat.le_refl _, fun _ _ _ => rfl⟩
theorem But.trans {r : Nat} {w w1 w2 : World} (h : But r w w1) (k : But r w1 w2) : But r w w2 :=
  ⟨h.below.trans k.below, Nat.le_trans h.size k.size, fun b hb hr => by rw [k.kept b (by have := h.size; omega) hr, h.kept b hb hr]⟩
theorem But.drewN {r : Nat} {w w1 : World} (h : But r w w1) (q : Nat) : But r w (w1.drewN q) := ⟨below_drewN h.below q, h.size, h.kept⟩
theorem But.drew {r : Nat} {w w1 : World} (h : But r w w1) : But r w w1.drew := ⟨Below.drew h.below, h.size, h.kept⟩
theorem But.set {r : Nat} {w w1 : World} (h : But r w w1) (o : Nat) (v : Value) : But r w (w1.setCell ⟨r, o, none⟩ v) :=
  ⟨h.below.setCell (p := ⟨r, o, none⟩) (Nat.le_refl _) v, by have := h.size; simpa [World.setCell] using this, fun k hk hr => by rw [Below.heap_setCell _ _ _ _ (fun e => hr e)]; exact h.kept k hk hr⟩
theorem But.cell {r : Nat} {w w1 : World} (h : But r w w1) {b : Nat} (o : Nat) (hb : b < w.heap.size) (hr : b ≠ r) : w1.cell? ⟨b, o, none⟩ = w.cell? ⟨b, o, none⟩ := by
  simp only [World.cell?, h.kept b hb hr]
theorem But.of_below' {r : Nat} {w w' : World} (h : Below w.heap.size w w') (hr : r ≤ w.heap.size) : But r w w' := ⟨h.mono hr, h.size, fun k hk _ => h.block k hk⟩
theorem But.setNew {r : Nat} {w w1 : World} (h : But r w w1) (z o : Nat) (hz : w.heap.size ≤ z) (hr : r ≤ z) (v : Value) : But r w (w1.setCell ⟨z, o, none⟩ v) :=
  ⟨h.below.setCell (p := ⟨z, o, none⟩) hr v, by have := h.size; simpa [World.setCell] using this, fun k hk hkr => by rw [Below.heap_setCell _ _ _ _ (fun e => by simp at e; omega)]; exact h.kept k hk hkr⟩
theorem But.alloc {r : Nat} {w w1 : World} (h : But r w w1) (hr : r ≤ w1.heap.size) (o : Obj) : But r w (w1.alloc o) :=
  ⟨h.below.alloc hr o, by have := h.size; simp; omega, fun k hk hkr => by
    rw [((Below.refl w1.heap.size w1).alloc (Nat.le_refl _) o).block k (by have := h.size; omega)]; exact h.kept k hk hkr⟩
end Go.Proofs.YticdcnbeemkapaaGreatDoor
