/-
  RdFacts, LexPure, Lex1, Lex2, ErrIs, in one text.
-/
import Derived.Test.YtkoejkpjkcejcaaGreatDoorGrAb
import Derived.Lib.OthersKept
import Derived.Laws.RangeAny
import Derived.Deep.DeepCutAuto
import Derived.WalkSmall
import Derived.Test.YtkoejkpjkcejcaaGreatDoorProg
import Derived.WalkKit
import Derived.Below
import Derived.LaidEql
import Derived.Stop.Asserts
import Derived.RowKitTokens
namespace Go.Proofs.YtkoejkpjkcejcaaGreatDoor
open Go.RowKit

/-- What stands behind the first quote, up to the last one. -/
def rd : List UInt8 → Option (List UInt8)
  | [] => none
  | c :: l =>
    if c = 39 then
      match l with
      | [] => some []
      | d :: r => if d = 39 then (rd r).map (39 :: ·) else none
    else (rd l).map (c :: ·)
theorem rd_nil : rd [] = none := by simp [rd]
theorem rd_ne (c : UInt8) (l : List UInt8) (h : c ≠ 39) : rd (c :: l) = (rd l).map (c :: ·) := by cases l <;> simp [rd, h]
theorem rd_two (r : List UInt8) : rd (39 :: 39 :: r) = (rd r).map (39 :: ·) := by simp [rd]
theorem rd_bad (d : UInt8) (r : List UInt8) (h : d ≠ 39) : rd (39 :: d :: r) = none := by simp [rd, h]
theorem rd_one : rd [39] = some [] := by simp [rd]
theorem rd_app (k : Nat) : ∀ m : List UInt8, m.length ≤ k → rd (m ++ [39]) = unq m ∧ ∀ c, c ≠ 39 → rd (m ++ [c]) = none := by
  induction k with
  | zero =>
    intro m hm
    obtain rfl : m = [] := List.length_eq_zero_iff.1 (by omega)
    exact ⟨by simp [rd_one, unq], fun c hc => by rw [List.nil_append, rd_ne c [] hc, rd_nil]; rfl⟩
  | succ k ih =>
    intro m hm
    cases m with
    | nil => exact ⟨by simp [rd_one, unq], fun c hc => by rw [List.nil_append, rd_ne c [] hc, rd_nil]; rfl⟩
    | cons a m =>
      by_cases ha : a = 39
      · subst ha
        cases m with
        | nil => exact ⟨by rw [unq_one]; exact (rd_two []).trans (by rw [rd_nil]; rfl), fun c hc => rd_bad c [] hc⟩
        | cons d r =>
          by_cases hd : d = 39
          · subst hd
            obtain ⟨i1, i2⟩ := ih r (by simp at hm; omega)
            exact ⟨by rw [unq_two, ← i1]; exact rd_two _, fun c hc => (rd_two (r ++ [c])).trans (by rw [i2 c hc]; rfl)⟩
          · exact ⟨by rw [unq_bad d r hd]; exact rd_bad d _ hd, fun c hc => rd_bad d _ hd⟩
      · obtain ⟨i1, i2⟩ := ih m (by simp at hm; omega)
        exact ⟨by rw [unq_ne a m ha, ← i1]; exact rd_ne a _ ha, fun c hc => (rd_ne a (m ++ [c]) ha).trans (by rw [i2 c hc]; rfl)⟩
theorem drop_rest (s : ByteArray) (h : 2 ≤ s.size) : s.data.toList.drop 1 = rest s 1 ++ [s[s.size - 1]] := by
  have hl : s.data.toList.length = s.size := by simp
  rw [rest]
  apply List.ext_getElem
  · simp; omega
  · intro i h1 h2
    by_cases hk : i + 2 < s.size
    · rw [List.getElem_append_left (by simp; omega)]
      simp
    · rw [List.getElem_append_right (by simp; omega)]
      simp only [List.getElem_singleton, List.getElem_drop]
      have hi : 1 + i = s.size - 1 := by simp at h1; omega
      simp only [hi]
      rfl
theorem unqT_rd (s : ByteArray) (h1 : 0 < s.size) (h0 : (s[0].toNat : Int) = 39) : unqT s = rd (s.data.toList.drop 1) := by
  have hl : s.data.toList.length = s.size := by simp
  by_cases h2 : 2 ≤ s.size
  · rw [drop_rest s h2, unqT, dif_pos h2]
    obtain ⟨i1, i2⟩ := rd_app _ (rest s 1) (Nat.le_refl _)
    by_cases hz : (s[s.size - 1].toNat : Int) = 39
    · rw [if_pos ⟨h0, hz⟩]
      have : s[s.size - 1] = 39 := UInt8.toNat_inj.1 (by rw [show (39 : UInt8).toNat = 39 from rfl]; omega)
      rw [this, i1]
    · rw [if_neg (fun e => hz e.2), i2 _ (fun e => hz (by rw [e]; rfl))]
  · rw [unqT, dif_neg h2]
    have : s.data.toList.drop 1 = [] := List.drop_eq_nil_of_le (by omega)
    rw [this, rd_nil]
/-- So far T has been read. -/
def Had (s : ByteArray) (j : Nat) (T : ByteArray) : Prop := rd (s.data.toList.drop 1) = (rd (s.data.toList.drop j)).map (T.data.toList ++ ·)
theorem drop_cons (s : ByteArray) (j : Nat) (h : j < s.size) : s.data.toList.drop j = s[j] :: s.data.toList.drop (j + 1) := by
  rw [List.drop_eq_getElem_cons (by simpa using h)]; rfl
theorem had_start (s : ByteArray) : Had s 1 ⟨#[]⟩ := by simp [Had]
theorem had_plain {s T X : ByteArray} {j : Nat} (h : j < s.size) (hc : s[j] ≠ 39) (hX : X.data.toList = [s[j]]) (g : Had s j T) : Had s (j + 1) (T ++ X) := by
  rw [Had, drop_cons s j h, rd_ne _ _ hc, Option.map_map] at g
  rw [Had, g]
  congr 1
  funext x
  simp [hX]
theorem had_two {s T X : ByteArray} {j : Nat} (h : j + 1 < s.size) (hc : s[j] = 39) (hd : s[j + 1] = 39) (hX : X.data.toList = [s[j + 1]]) (g : Had s j T) : Had s (j + 2) (T ++ X) := by
  rw [Had, drop_cons s j (by omega), drop_cons s (j + 1) h, hc, hd, rd_two, Option.map_map] at g
  rw [Had, g]
  congr 1
  funext x
  simp [hX, hd]
theorem had_bad {s T : ByteArray} {j : Nat} (h : j + 1 < s.size) (hc : s[j] = 39) (hd : s[j + 1] ≠ 39) (g : Had s j T) : rd (s.data.toList.drop 1) = none := by
  rw [Had, drop_cons s j (by omega), drop_cons s (j + 1) h, hc, rd_bad _ _ hd] at g
  rw [g]; rfl
theorem had_end {s T : ByteArray} {j : Nat} (h : j + 1 = s.size) (hc : s[j]'(by omega) = 39) (g : Had s j T) : rd (s.data.toList.drop 1) = some T.data.toList := by
  have : s.data.toList.drop (j + 1) = [] := List.drop_eq_nil_of_le (by simp; omega)
  rw [Had, drop_cons s j (by omega), hc, this, rd_one] at g
  rw [g]; simp
theorem had_out {s T : ByteArray} {j : Nat} (h : s.size ≤ j) (g : Had s j T) : rd (s.data.toList.drop 1) = none := by
  have : s.data.toList.drop j = [] := List.drop_eq_nil_of_le (by simp; omega)
  rw [Had, this, rd_nil] at g
  rw [g]; rfl

theorem pre_iff (s : ByteArray) (h : 0 < s.size) : Lib.hasPrefix s.data.toList [39] = true ↔ (s[0].toNat : Int) = 39 := by
  have e : s.data.toList = s[0] :: s.data.toList.drop 1 := by have := drop_cons s 0 h; simpa using this
  rw [e]
  constructor
  · intro hh
    have : (39 : UInt8) = s[0] := by simpa [Lib.hasPrefix, List.isPrefixOf] using hh
    rw [← this]; rfl
  · intro hh
    have : s[0] = 39 := UInt8.toNat_inj.1 (by rw [show (39 : UInt8).toNat = 39 from rfl]; omega)
    rw [this]; simp [Lib.hasPrefix, List.isPrefixOf]
theorem read_rd_none {s : ByteArray} (h1 : s.data.toList ≠ [116, 114, 117, 101]) (h2 : s.data.toList ≠ [102, 97, 108, 115, 101]) (hp : 0 < s.size) (h0 : (s[0].toNat : Int) = 39) (h : rd (s.data.toList.drop 1) = none) : readV s = (0, 0, [], 2) := by
  rw [readV, if_neg h1, if_neg h2, if_pos ((pre_iff s hp).2 h0), unqT_rd s hp h0, h]
theorem read_rd_some {s : ByteArray} {l : List UInt8} (h1 : s.data.toList ≠ [116, 114, 117, 101]) (h2 : s.data.toList ≠ [102, 97, 108, 115, 101]) (hp : 0 < s.size) (h0 : (s[0].toNat : Int) = 39) (h : rd (s.data.toList.drop 1) = some l) : readV s = if plainB l = false then (0, 0, [], 2) else if 40 < l.length then (0, 0, [], 4) else (3, 0, l, 0) := by
  rw [readV, if_neg h1, if_neg h2, if_pos ((pre_iff s hp).2 h0), unqT_rd s hp h0, h]
theorem read_int_ok {s : ByteArray} {n : Int} (h1 : s.data.toList ≠ [116, 114, 117, 101]) (h2 : s.data.toList ≠ [102, 97, 108, 115, 101]) (h3 : ¬ Lib.hasPrefix s.data.toList [39] = true) (hn : -9223372036854775808 ≤ n ∧ n ≤ 9223372036854775807) (h : Lib.itoa n = s.data.toList) : readV s = (1, n, [], 0) := by
  rw [readV, if_neg h1, if_neg h2, if_neg h3, ← h, atoi_itoa n hn]
  simp
theorem read_int_bad {s : ByteArray} (h1 : s.data.toList ≠ [116, 114, 117, 101]) (h2 : s.data.toList ≠ [102, 97, 108, 115, 101]) (h3 : ¬ Lib.hasPrefix s.data.toList [39] = true) (h : ∀ n, -9223372036854775808 ≤ n ∧ n ≤ 9223372036854775807 → Lib.itoa n ≠ s.data.toList) : readV s = (0, 0, [], 2) := by
  rw [readV, if_neg h1, if_neg h2, if_neg h3]
  cases ha : Lib.atoiAll s.data.toList
  · simp only []
    rw [if_neg (h _ (atoi_bounds ha))]
  · rfl
  · rfl
def minL : List UInt8 := [45, 57, 50, 50, 51, 51, 55, 50, 48, 51, 54, 56, 53, 52, 55, 55, 53, 56, 48, 56]
theorem itoa_min : Lib.itoa (-9223372036854775808) = minL := by
  have h := dec_val 18 [57, 50, 50, 51, 51, 55, 50, 48, 51, 54, 56, 53, 52, 55, 55, 53, 56, 48, 56] rfl (by decide) (fun r e => by injection e with e _; exact absurd e (by decide))
  rw [show val10 [57, 50, 50, 51, 51, 55, 50, 48, 51, 54, 56, 53, 52, 55, 55, 53, 56, 48, 56] = 9223372036854775808 from by decide] at h
  rw [Lib.itoa, if_pos (by decide), show (-9223372036854775808 : Int).natAbs = 9223372036854775808 from rfl, h]
  rfl
theorem read_neg {s : ByteArray} {r : List UInt8} (h1 : s.data.toList ≠ [116, 114, 117, 101]) (h2 : s.data.toList ≠ [102, 97, 108, 115, 101]) (h3 : ¬ Lib.hasPrefix s.data.toList [39] = true) (hm : s.data.toList ≠ minL) (h : s.data.toList = 45 :: r) :
    readV s = match numL r with
      | some n => if n = 0 then (0, 0, [], 2) else (1, -(n : Int), [], 0)
      | none => (0, 0, [], 2) := by
  have hbad : (∀ k : Nat, k ≠ 0 → k ≤ 9223372036854775807 → numL r ≠ some k) → readV s = (0, 0, [], 2) := fun hk => read_int_bad h1 h2 h3 fun n hn e => by
    rw [h, Lib.itoa] at e
    split at e
    · rename_i hneg
      injection e with _ e
      by_cases hmin : n = -9223372036854775808
      · subst hmin
        apply hm
        rw [h, ← itoa_min, Lib.itoa, if_pos (by decide), e]
      · refine hk n.natAbs (by omega) (by omega) ?_
        rw [← e]; exact numL_dec _ (by omega)
    · obtain ⟨c, q, hq, hc, _⟩ := digits_head n.toNat n.toNat (Nat.le_refl _)
      rw [hq] at e
      injection e with e _
      rw [e] at hc
      revert hc; decide
  cases hr : numL r with
  | none => exact hbad fun k _ _ e => by rw [hr] at e; cases e
  | some n =>
    simp only []
    by_cases h0 : n = 0
    · rw [if_pos h0]
      exact hbad fun k hk _ e => by rw [hr] at e; cases e; exact hk h0
    · rw [if_neg h0]
      obtain ⟨e1, e2⟩ := numL_some hr
      refine read_int_ok h1 h2 h3 (by omega) ?_
      rw [Lib.itoa, if_pos (by omega), h, show (-(n : Int)).natAbs = n from by omega, e1]
theorem read_pos {s : ByteArray} (h1 : s.data.toList ≠ [116, 114, 117, 101]) (h2 : s.data.toList ≠ [102, 97, 108, 115, 101]) (h3 : ¬ Lib.hasPrefix s.data.toList [39] = true) (h : ∀ r, s.data.toList ≠ 45 :: r) :
    readV s = match numL s.data.toList with
      | some n => (1, (n : Int), [], 0)
      | none => (0, 0, [], 2) := by
  cases hr : numL s.data.toList with
  | none =>
    refine read_int_bad h1 h2 h3 fun n hn e => ?_
    rw [Lib.itoa] at e
    split at e
    · exact h _ e.symm
    · rw [← e, numL_dec n.toNat (by omega)] at hr
      cases hr
  | some n =>
    obtain ⟨e1, e2⟩ := numL_some hr
    refine read_int_ok h1 h2 h3 (by omega) ?_
    rw [Lib.itoa, if_neg (by omega), show ((n : Int)).toNat = n from by omega, ← e1]
end Go.Proofs.YtkoejkpjkcejcaaGreatDoor
namespace Go.Proofs.YtkoejkpjkcejcaaGreatDoor
--BEGIN
def blB (c : UInt8) : Bool := decide ((c.toNat : Int) = 32) || decide ((c.toNat : Int) = 10)
def letB (c : UInt8) : Bool := decide (97 ≤ (c.toNat : Int)) && decide ((c.toNat : Int) ≤ 122)
def ldB (c : UInt8) : Bool := letB c || digB c
/-- How many bytes from the left it is so of. -/
def goN (p : UInt8 → Bool) : List UInt8 → Nat
  | [] => 0
  | c :: l => if p c = true then goN p l + 1 else 0
theorem goN_yes {p : UInt8 → Bool} {c : UInt8} (l : List UInt8) (h : p c = true) : goN p (c :: l) = goN p l + 1 := by rw [goN, if_pos h]
theorem goN_no {p : UInt8 → Bool} {c : UInt8} (l : List UInt8) (h : p c = false) : goN p (c :: l) = 0 := by rw [goN, if_neg (by rw [h]; decide)]
theorem goN_le (p : UInt8 → Bool) : ∀ l : List UInt8, goN p l ≤ l.length
  | [] => Nat.le_refl _
  | c :: l => by
    rw [goN]
    split
    · have := goN_le p l; simp; omega
    · simp
theorem goN_all (p : UInt8 → Bool) : ∀ l : List UInt8, (l.take (goN p l)).all p = true
  | [] => rfl
  | c :: l => by
    by_cases h : p c = true
    · rw [goN_yes l h, List.take_succ_cons, List.all_cons, h, goN_all p l]; rfl
    · rw [goN_no l (by simpa using h)]; rfl
/-- Is it so of the first byte? -/
def hdB (p : UInt8 → Bool) : List UInt8 → Bool
  | [] => false
  | c :: _ => p c
theorem goN_stop (p : UInt8 → Bool) : ∀ l : List UInt8, hdB p (l.drop (goN p l)) = false
  | [] => rfl
  | c :: l => by
    by_cases h : p c = true
    · rw [goN_yes l h, List.drop_succ_cons]; exact goN_stop p l
    · have h' : p c = false := by simpa using h
      rw [goN_no l h', List.drop_zero]; exact h'
theorem goN_app (p : UInt8 → Bool) : ∀ (t r : List UInt8), t.all p = true → hdB p r = false → goN p (t ++ r) = t.length
  | [], [], _, _ => rfl
  | [], c :: r, _, h => goN_no r h
  | c :: t, r, ht, h => by
    rw [List.all_cons, Bool.and_eq_true] at ht
    rw [List.cons_append, goN_yes _ ht.1, goN_app p t r ht.2 h]; rfl
theorem goN_zero (p : UInt8 → Bool) (l : List UInt8) (h : hdB p l = false) : goN p l = 0 := by
  cases l with
  | nil => rfl
  | cons c l => exact goN_no l h
theorem goN_skip (p : UInt8 → Bool) : ∀ (t r : List UInt8), t.all p = true → goN p (t ++ r) = t.length + goN p r
  | [], r, _ => by simp
  | c :: t, r, ht => by
    rw [List.all_cons, Bool.and_eq_true] at ht
    rw [List.cons_append, goN_yes _ ht.1, goN_skip p t r ht.2, List.length_cons]; omega

/-- The signs, a longer one ahead of those with which it begins. -/
def signsL : List (List UInt8) := [[60, 62], [60, 61], [62, 61], [60], [62], [61], [40], [41], [44], [43], [45], [42], [47], [37]]
/-- How many bytes the first sign has with which a text begins; 0: there is none. -/
def sgN : List (List UInt8) → List UInt8 → Nat
  | [], _ => 0
  | g :: gs, l => if Lib.hasPrefix l g = true then g.length else sgN gs l
/-- How many bytes there are up to the end of a Quote, behind its first; none: it does not end. -/
def qscan : List UInt8 → Option Nat
  | [] => none
  | c :: l =>
    if c = 39 then
      match l with
      | [] => some 1
      | d :: r => if d = 39 then (qscan r).map (· + 2) else some 1
    else (qscan l).map (· + 1)
theorem qscan_ne (c : UInt8) (l : List UInt8) (h : c ≠ 39) : qscan (c :: l) = (qscan l).map (· + 1) := by cases l <;> simp [qscan, h]
theorem qscan_two (r : List UInt8) : qscan (39 :: 39 :: r) = (qscan r).map (· + 2) := by simp [qscan]
theorem qscan_end (l : List UInt8) (h : l.head? ≠ some 39) : qscan (39 :: l) = some 1 := by
  cases l with
  | nil => simp [qscan]
  | cons d r => simp at h; simp [qscan, h]
/-- The fault of what stands behind the first byte of a Quote, up to its end. -/
def qE (l : List UInt8) : Int := match rd l with
  | none => 2
  | some x => if plainB x = false then 2 else if 40 < x.length then 4 else 0
/-- How many bytes a Number has, and its fault. -/
def numTok (l : List UInt8) : Nat × Int :=
  if hdB letB (l.drop (goN digB l)) = true ∨ (1 < goN digB l ∧ l.head? = some 48) then (0, 2)
  else if 9223372036854775807 < val10 (l.take (goN digB l)) then (0, 1) else (goN digB l, 0)
/-- How many bytes a Quote has, by what stands behind its first one, and its fault. -/
def quoTok (l : List UInt8) : Nat × Int := match qscan l with
  | none => (0, 2)
  | some k => if qE (l.take k) = 0 then (k + 1, 0) else (0, qE (l.take k))
/-- The kind of the word with which a text begins, how many bytes it has, and its fault. -/
def tokAt : List UInt8 → Int × Nat × Int
  | [] => (4, 0, 2)
  | c :: l =>
    if letB c = true then (1, goN ldB (c :: l), 0)
    else if digB c = true then (2, numTok (c :: l))
    else if c = 39 then (3, quoTok l)
    else (4, sgN signsL (c :: l), if sgN signsL (c :: l) = 0 then 2 else 0)
abbrev Tok := Int × ByteArray × Nat
/-- The words of a text that does not begin with a blank; the fault, and where. -/
def lexN : Nat → Nat → List UInt8 → List Tok × Int × Nat
  | 0, _, _ => ([], 0, 0)
  | f + 1, a, l =>
    if l = [] then ([], 0, 0)
    else if (tokAt l).2.2 ≠ 0 then ([], (tokAt l).2.2, a)
    else
      if (lexN f (a + (tokAt l).2.1 + goN blB (l.drop (tokAt l).2.1)) ((l.drop (tokAt l).2.1).drop (goN blB (l.drop (tokAt l).2.1)))).2.1 = 0 then
        (((tokAt l).1, ⟨(l.take (tokAt l).2.1).toArray⟩, a) :: (lexN f (a + (tokAt l).2.1 + goN blB (l.drop (tokAt l).2.1)) ((l.drop (tokAt l).2.1).drop (goN blB (l.drop (tokAt l).2.1)))).1, 0, 0)
      else ([], (lexN f (a + (tokAt l).2.1 + goN blB (l.drop (tokAt l).2.1)) ((l.drop (tokAt l).2.1).drop (goN blB (l.drop (tokAt l).2.1)))).2)
/-- The words behind those that were read. -/
def lexA (f a : Nat) (l : List UInt8) (acc : List Tok) : List Tok × Int × Nat := if (lexN f a l).2.1 = 0 then (acc ++ (lexN f a l).1, 0, 0) else ([], (lexN f a l).2)
/-- The same, of a text that may begin with blanks. -/
def lexS (f a : Nat) (l : List UInt8) (acc : List Tok) : List Tok × Int × Nat := lexA f (a + goN blB l) (l.drop (goN blB l)) acc
/-- All words of a text. -/
def lexAll (l : List UInt8) : List Tok × Int × Nat := if 400 < l.length then ([], 4, 0) else lexS (l.length + 1) 0 l []
theorem lexA_nil (f a : Nat) (acc : List Tok) : lexA (f + 1) a [] acc = (acc, 0, 0) := by simp [lexA, lexN]
theorem lexA_bad (f a : Nat) (l : List UInt8) (acc : List Tok) (hl : l ≠ []) {k : Int} {n : Nat} {e : Int} (h : tokAt l = (k, n, e)) (he : e ≠ 0) : lexA (f + 1) a l acc = ([], e, a) := by
  have : lexN (f + 1) a l = ([], e, a) := by
    rw [lexN, if_neg hl, h, if_pos he]
  rw [lexA, this, if_neg he]
theorem lexA_tok (f a : Nat) (l : List UInt8) (acc : List Tok) (hl : l ≠ []) {k : Int} {n : Nat} (h : tokAt l = (k, n, 0)) : lexA (f + 1) a l acc = lexS f (a + n) (l.drop n) (acc ++ [(k, ⟨(l.take n).toArray⟩, a)]) := by
  have hN : lexN (f + 1) a l = if (lexN f (a + n + goN blB (l.drop n)) ((l.drop n).drop (goN blB (l.drop n)))).2.1 = 0 then ((k, ⟨(l.take n).toArray⟩, a) :: (lexN f (a + n + goN blB (l.drop n)) ((l.drop n).drop (goN blB (l.drop n)))).1, 0, 0) else ([], (lexN f (a + n + goN blB (l.drop n)) ((l.drop n).drop (goN blB (l.drop n)))).2) := by
    rw [lexN, if_neg hl, h, if_neg (by simp)]
  rw [lexS, lexA, lexA, hN]
  generalize lexN f (a + n + goN blB (l.drop n)) ((l.drop n).drop (goN blB (l.drop n))) = R
  by_cases h0 : R.2.1 = 0
  · simp only [if_pos h0, if_true, List.append_assoc, List.singleton_append]
  · simp only [if_neg h0]
theorem lexS_blank (f a : Nat) (c : UInt8) (l : List UInt8) (acc : List Tok) (h : blB c = true) : lexS f a (c :: l) acc = lexS f (a + 1) l acc := by
  rw [lexS, lexS, goN_yes l h, List.drop_succ_cons, show a + (goN blB l + 1) = a + 1 + goN blB l from by omega]
theorem lexS_no (f a : Nat) (l : List UInt8) (acc : List Tok) (h : hdB blB l = false) : lexS f a l acc = lexA f a l acc := by
  rw [lexS, goN_zero _ _ h]; rfl
theorem lexS_nil (f a : Nat) (acc : List Tok) : lexS (f + 1) a [] acc = (acc, 0, 0) := by rw [lexS_no _ _ _ _ rfl, lexA_nil]

theorem sgN_mem : ∀ (gs : List (List UInt8)) (l : List UInt8), sgN gs l ≠ 0 → ∃ g ∈ gs, Lib.hasPrefix l g = true ∧ sgN gs l = g.length
  | [], _, h => absurd rfl h
  | g :: gs, l, h => by
    rw [sgN] at h ⊢
    by_cases hp : Lib.hasPrefix l g = true
    · rw [if_pos hp]; exact ⟨g, List.mem_cons_self, hp, rfl⟩
    · rw [if_neg hp] at h ⊢
      obtain ⟨g', hm, h1, h2⟩ := sgN_mem gs l h
      exact ⟨g', List.mem_cons_of_mem _ hm, h1, h2⟩
theorem qscan_le : ∀ (n : Nat) (l : List UInt8) (k : Nat), l.length ≤ n → qscan l = some k → 1 ≤ k ∧ k ≤ l.length
  | _, [], k, _, h => by simp [qscan] at h
  | 0, _ :: _, _, hn, _ => by simp at hn
  | n + 1, c :: l, k, hn, h => by
    by_cases hc : c = 39
    · subst hc
      cases l with
      | nil => simp [qscan] at h; subst h; simp
      | cons d r =>
        by_cases hd : d = 39
        · subst hd
          rw [qscan_two, Option.map_eq_some_iff] at h
          obtain ⟨j, hj, rfl⟩ := h
          have := qscan_le n r j (by simp at hn; omega) hj
          simp; omega
        · rw [qscan_end _ (by simpa using hd)] at h
          cases h; simp
    · rw [qscan_ne c l hc, Option.map_eq_some_iff] at h
      obtain ⟨j, hj, rfl⟩ := h
      have := qscan_le n l j (by simp at hn; omega) hj
      simp; omega
theorem hasPre_len {l g : List UInt8} (h : Lib.hasPrefix l g = true) : g.length ≤ l.length ∧ l.take g.length = g := by
  have : g <+: l := List.isPrefixOf_iff_prefix.1 h
  exact ⟨this.length_le, (List.prefix_iff_eq_take.1 this).symm⟩
/-- A word that is right has a byte, and no more than there are. -/
theorem tokAt_len {l : List UInt8} {k : Int} {n : Nat} (h : tokAt l = (k, n, 0)) : 1 ≤ n ∧ n ≤ l.length := by
  cases l with
  | nil => simp [tokAt] at h
  | cons c l =>
    rw [tokAt] at h
    split at h
    · rename_i hc
      cases h
      have : ldB c = true := by simp [ldB, hc]
      rw [goN_yes l this]
      have := goN_le ldB l
      simp; omega
    · split at h
      · rename_i hd
        injection h with _ h
        rw [numTok] at h
        split at h
        · cases h
        · split at h
          · cases h
          · cases h
            rw [goN_yes l hd]
            have := goN_le digB l
            simp; omega
      · split at h
        · injection h with _ h
          rw [quoTok] at h
          split at h
          · cases h
          · rename_i j hj
            split at h
            · cases h
              have := qscan_le _ l j (Nat.le_refl _) hj
              simp; omega
            · rename_i h0
              exact absurd (Prod.mk.inj h).2 h0
        · injection h with _ h
          injection h with h1 h2
          subst h1
          have hne : sgN signsL (c :: l) ≠ 0 := fun e => by rw [if_pos e] at h2; cases h2
          obtain ⟨g, hm, hp, hl⟩ := sgN_mem _ _ hne
          rw [hl]
          have := (hasPre_len hp).1
          exact ⟨by omega, this⟩
theorem tokAt_fault {l : List UInt8} : (tokAt l).2.2 = 0 ∨ (tokAt l).2.2 = 1 ∨ (tokAt l).2.2 = 2 ∨ (tokAt l).2.2 = 4 := by
  have hq : ∀ x, qE x = 0 ∨ qE x = 2 ∨ qE x = 4 := fun x => by
    rw [qE]
    split
    · simp
    · split
      · simp
      · split <;> simp
  cases l with
  | nil => simp [tokAt]
  | cons c l =>
    rw [tokAt]
    split
    · simp
    · split
      · rw [numTok]
        split
        · simp
        · split <;> simp
      · split
        · rw [quoTok]
          split
          · simp
          · rename_i j _
            have := hq (l.take j)
            split
            · simp
            · simp only; omega
        · simp only
          split <;> simp
--END
end Go.Proofs.YtkoejkpjkcejcaaGreatDoor
namespace Go.Proofs.YtkoejkpjkcejcaaGreatDoor
open Go.RowKit
set_option linter.unusedVariables false

theorem isBlank_any (c : UInt8) (w : World) : Calls Tryz.prog 66 #[.int .u8 (c.toNat : Int)] w fun e w' => e = .returned (.bool (blB c)) ∧ w' = w := by
  obtain ⟨B, hB⟩ : ∃ B, blB c = B := ⟨_, rfl⟩
  rw [hB]
  rw [blB] at hB
  obtain ⟨n, hn⟩ : ∃ n : Int, (c.toNat : Int) = n := ⟨_, rfl⟩
  rw [hn] at hB ⊢
  clear hn
  by_cases h1 : n = 32
  · subst h1
    obtain rfl : true = B := hB
    go_enter Tryz.func66, Tryz.ntmps66
    go_wp2
    go_ret
    exact ⟨rfl, rfl⟩
  · have q1 : (n == 32) = false := by simpa using h1
    by_cases h2 : n = 10
    · subst h2
      obtain rfl : true = B := hB
      go_enter Tryz.func66, Tryz.ntmps66
      go_wp2
      go_ret
      exact ⟨rfl, rfl⟩
    · have q2 : (n == 10) = false := by simpa using h2
      have hB2 : false = B := by rw [← hB]; simp [h1, h2]
      subst hB2
      clear hB h1 h2
      go_enter Tryz.func66, Tryz.ntmps66
      go_wp2
      go_ret
      exact ⟨rfl, rfl⟩
theorem isLetter_any (c : UInt8) (w : World) : Calls Tryz.prog 89 #[.int .u8 (c.toNat : Int)] w fun e w' => e = .returned (.bool (letB c)) ∧ w' = w := by
  obtain ⟨B, hB⟩ : ∃ B, letB c = B := ⟨_, rfl⟩
  have HB : Hid (letB c = B) := hB
  rw [hB]
  clear hB
  go_enter Tryz.func89, Tryz.ntmps89
  go_wp2
  all_goals
    go_ret
    refine ⟨ret_bool ?_, rfl⟩
    rw [← HB.out, letB]
    simp
    try omega
theorem isDigit_any (c : UInt8) (w : World) : Calls Tryz.prog 91 #[.int .u8 (c.toNat : Int)] w fun e w' => e = .returned (.bool (digB c)) ∧ w' = w := by
  obtain ⟨B, hB⟩ : ∃ B, digB c = B := ⟨_, rfl⟩
  have HB : Hid (digB c = B) := hB
  rw [hB]
  clear hB
  go_enter Tryz.func91, Tryz.ntmps91
  go_wp2
  all_goals
    go_ret
    refine ⟨ret_bool ?_, rfl⟩
    rw [← HB.out, digB]
    simp
    try omega
theorem isLod_any (c : UInt8) (w : World) : Calls Tryz.prog 90 #[.int .u8 (c.toNat : Int)] w fun e w' => e = .returned (.bool (ldB c)) ∧ w' = w := by
  have cL := isLetter_any c
  have cD := isDigit_any c
  have HB : Hid (ldB c = (letB c || digB c)) := rfl
  cases h1 : letB c
  · rw [h1] at cL
    cases h2 : digB c
    · rw [h2] at cD
      have HC : ldB c = false := by rw [ldB, h1, h2]; rfl
      rw [HC]
      clear HC HB h1 h2
      go_enter Tryz.func90, Tryz.ntmps90
      go_wp2_with (first | (go_at_call 89; refine (cL _).mono ?_; rintro e w' ⟨rfl, rfl⟩) | (go_at_call 91; refine (cD _).mono ?_; rintro e w' ⟨rfl, rfl⟩))
      go_ret
      exact ⟨rfl, rfl⟩
    · rw [h2] at cD
      have HC : ldB c = true := by rw [ldB, h1, h2]; rfl
      rw [HC]
      clear HC HB h1 h2
      go_enter Tryz.func90, Tryz.ntmps90
      go_wp2_with (first | (go_at_call 89; refine (cL _).mono ?_; rintro e w' ⟨rfl, rfl⟩) | (go_at_call 91; refine (cD _).mono ?_; rintro e w' ⟨rfl, rfl⟩))
      go_ret
      exact ⟨rfl, rfl⟩
  · rw [h1] at cL
    have HC : ldB c = true := by rw [ldB, h1]; rfl
    rw [HC]
    clear HC HB h1
    go_enter Tryz.func90, Tryz.ntmps90
    go_wp2_with (first | (go_at_call 89; refine (cL _).mono ?_; rintro e w' ⟨rfl, rfl⟩))
    go_ret
    exact ⟨rfl, rfl⟩
theorem goN_step {p : UInt8 → Bool} {s : ByteArray} {k : Nat} (h : k < s.size) (hp : p s[k] = true) {E : Nat} (hE : E = k + goN p (s.data.toList.drop k)) : E = k + 1 + goN p (s.data.toList.drop (k + 1)) := by
  rw [hE, drop_cons s k h, goN_yes _ hp]; omega
theorem goN_here {p : UInt8 → Bool} {s : ByteArray} {k : Nat} (h : k < s.size) (hp : p s[k] = false) {E : Nat} (hE : E = k + goN p (s.data.toList.drop k)) : E = k := by
  rw [hE, drop_cons s k h, goN_no _ hp]; rfl
theorem goN_out {p : UInt8 → Bool} {s : ByteArray} {k : Nat} (h : s.size ≤ k) (hk : k ≤ s.size) {E : Nat} (hE : E = k + goN p (s.data.toList.drop k)) : E = s.size := by
  rw [hE, List.drop_eq_nil_of_le (by simp; omega)]; show k + 0 = _; omega
set_option maxHeartbeats 1000000 in
theorem goesOn_gen (f : FuncId) (p : UInt8 → Bool) (hent : ∀ (args : Array Value) (W : World), Sem.run Tryz.prog (callFunc f args) W = .ok (.enter f args) W) (hf : ∀ (c : UInt8) (W : World), Calls Tryz.prog f #[.int .u8 (c.toNat : Int)] W fun e w' => e = .returned (.bool (p c)) ∧ w' = W) (s : ByteArray) (w : World) (hs : s.size ≤ maxLen) :
    Calls Tryz.prog 65 #[.string s, .func (.func f) #[] #[]] w fun e w' => e = .returned (.int .i64 (goN p s.data.toList : Nat)) ∧ w' = w := by
  unfold maxLen at hs
  obtain ⟨E, hE⟩ : ∃ E, goN p s.data.toList = E := ⟨_, rfl⟩
  rw [hE]
  go_enter Tryz.func65, Tryz.ntmps65
  go_wp2
  go_loopg [5, 8] s.size (fun gg _ s8 wr => ∃ kk : Nat, kk ≤ s.size ∧ s.size - kk ≤ gg ∧ s8 = .int .i64 kk ∧ wr = w ∧ Hid (E = kk + goN p (s.data.toList.drop kk)))
  case atStart => exact ⟨0, Nat.zero_le _, by omega, rfl, rfl, (show Hid _ by simp [Hid, hE])⟩
  case round =>
    obtain ⟨kk, hkk, hg, rfl, rfl, HE⟩ := hrel
    by_cases hlt : kk < s.size
    · have hltz : (kk : Int) < (s.size : Int) := by omega
      have hcall := hf s[kk]
      cases hp : p s[kk]
      · rw [hp] at hcall
        obtain rfl : kk = E := (goN_here hlt hp HE.out).symm
        clear hp HE
        go_wp2_with fail
        refine (hcall _).mono ?_
        rintro e w' ⟨rfl, rfl⟩
        go_wp2
        go_ret
        exact ⟨rfl, rfl⟩
      · rw [hp] at hcall
        have HE2 : Hid (E = kk + 1 + goN p (s.data.toList.drop (kk + 1))) := goN_step hlt hp HE.out
        clear hp HE
        go_wp2_with fail
        refine (hcall _).mono ?_
        rintro e w' ⟨rfl, rfl⟩
        go_wp2
        go_roundg (s.size - (kk + 1))
        case measure => omega
        case rel => exact ⟨kk + 1, by omega, by omega, by go_num, rfl, HE2⟩
    · have hltz : ¬ (kk : Int) < (s.size : Int) := by omega
      obtain rfl : s.size = E := (goN_out (by omega) hkk HE.out).symm
      go_wp2
      go_ret
      exact ⟨rfl, rfl⟩
theorem goesOn_blank (s : ByteArray) (w : World) (hs : s.size ≤ maxLen) :
    Calls Tryz.prog 65 #[.string s, .func (.func 66) #[] #[]] w fun e w' => e = .returned (.int .i64 (goN blB s.data.toList : Nat)) ∧ w' = w :=
  goesOn_gen _ blB (fun args W => by kernel_rfl) isBlank_any s w hs
theorem goesOn_digit (s : ByteArray) (w : World) (hs : s.size ≤ maxLen) :
    Calls Tryz.prog 65 #[.string s, .func (.func 91) #[] #[]] w fun e w' => e = .returned (.int .i64 (goN digB s.data.toList : Nat)) ∧ w' = w :=
  goesOn_gen _ digB (fun args W => by kernel_rfl) isDigit_any s w hs
theorem goesOn_lod (s : ByteArray) (w : World) (hs : s.size ≤ maxLen) :
    Calls Tryz.prog 65 #[.string s, .func (.func 90) #[] #[]] w fun e w' => e = .returned (.int .i64 (goN ldB s.data.toList : Nat)) ∧ w' = w :=
  goesOn_gen _ ldB (fun args W => by kernel_rfl) isLod_any s w hs
end Go.Proofs.YtkoejkpjkcejcaaGreatDoor
namespace Go.Proofs.YtkoejkpjkcejcaaGreatDoor
open Go.RowKit
set_option linter.unusedVariables false

/-- The signs, as the package's variable holds them. -/
structure SG (w : World) : Prop where
  c0 : w.cell? ⟨3, 0, none⟩ = some (.string ⟨#[60, 62]⟩)
  c1 : w.cell? ⟨3, 1, none⟩ = some (.string ⟨#[60, 61]⟩)
  c2 : w.cell? ⟨3, 2, none⟩ = some (.string ⟨#[62, 61]⟩)
  c3 : w.cell? ⟨3, 3, none⟩ = some (.string ⟨#[60]⟩)
  c4 : w.cell? ⟨3, 4, none⟩ = some (.string ⟨#[62]⟩)
  c5 : w.cell? ⟨3, 5, none⟩ = some (.string ⟨#[61]⟩)
  c6 : w.cell? ⟨3, 6, none⟩ = some (.string ⟨#[40]⟩)
  c7 : w.cell? ⟨3, 7, none⟩ = some (.string ⟨#[41]⟩)
  c8 : w.cell? ⟨3, 8, none⟩ = some (.string ⟨#[44]⟩)
  c9 : w.cell? ⟨3, 9, none⟩ = some (.string ⟨#[43]⟩)
  c10 : w.cell? ⟨3, 10, none⟩ = some (.string ⟨#[45]⟩)
  c11 : w.cell? ⟨3, 11, none⟩ = some (.string ⟨#[42]⟩)
  c12 : w.cell? ⟨3, 12, none⟩ = some (.string ⟨#[47]⟩)
  c13 : w.cell? ⟨3, 13, none⟩ = some (.string ⟨#[37]⟩)
  lt : 3 < w.heap.size
theorem SG.on {w w' : World} (h : SG w) (hb : Below w.heap.size w w') : SG w' := by
  have hl := h.lt
  have hz := hb.size
  have key : ∀ o : Nat, w'.cell? ⟨3, o, none⟩ = w.cell? ⟨3, o, none⟩ := fun o => hb.cell (p := ⟨3, o, none⟩) hl
  refine ⟨?_, ?_, ?_, ?_, ?_, ?_, ?_, ?_, ?_, ?_, ?_, ?_, ?_, ?_, by omega⟩
  · rw [key]; exact h.c0
  · rw [key]; exact h.c1
  · rw [key]; exact h.c2
  · rw [key]; exact h.c3
  · rw [key]; exact h.c4
  · rw [key]; exact h.c5
  · rw [key]; exact h.c6
  · rw [key]; exact h.c7
  · rw [key]; exact h.c8
  · rw [key]; exact h.c9
  · rw [key]; exact h.c10
  · rw [key]; exact h.c11
  · rw [key]; exact h.c12
  · rw [key]; exact h.c13
theorem SG.alloc {w : World} (h : SG w) (o : Obj) : SG (w.alloc o) := h.on ((Below.refl _ _).alloc (Nat.le_refl _) o)
theorem sgN_hit {l g : List UInt8} {k : Nat} (hk : k < signsL.length) (hg : signsL[k] = g) (hp : Lib.hasPrefix l g = true) {E : Nat} (hE : E = sgN (signsL.drop k) l) : E = g.length := by
  rw [hE, List.drop_eq_getElem_cons hk, sgN, hg, if_pos hp]
theorem sgN_next {l g : List UInt8} {k : Nat} (hk : k < signsL.length) (hg : signsL[k] = g) (hp : Lib.hasPrefix l g = false) {E : Nat} (hE : E = sgN (signsL.drop k) l) : E = sgN (signsL.drop (k + 1)) l := by
  rw [hE, List.drop_eq_getElem_cons hk, sgN, hg, if_neg (by rw [hp]; decide)]
theorem sign_at (k : Nat) (hk : k < 14) : ∃ S : ByteArray, (∀ W : World, Sem.run Tryz.prog (Instr.index 164 (.agg #[.string ⟨#[60, 62]⟩, .string ⟨#[60, 61]⟩, .string ⟨#[62, 61]⟩, .string ⟨#[60]⟩, .string ⟨#[62]⟩, .string ⟨#[61]⟩, .string ⟨#[40]⟩, .string ⟨#[41]⟩, .string ⟨#[44]⟩, .string ⟨#[43]⟩, .string ⟨#[45]⟩, .string ⟨#[42]⟩, .string ⟨#[47]⟩, .string ⟨#[37]⟩]) (.int .i64 (k : Int))) W = .ok (.string S) W) ∧ signsL[k]'hk = S.data.toList ∧ 1 ≤ S.size ∧ S.size ≤ 2 := by
  have h : k = 0 ∨ k = 1 ∨ k = 2 ∨ k = 3 ∨ k = 4 ∨ k = 5 ∨ k = 6 ∨ k = 7 ∨ k = 8 ∨ k = 9 ∨ k = 10 ∨ k = 11 ∨ k = 12 ∨ k = 13 := by omega
  rcases h with rfl | rfl | rfl | rfl | rfl | rfl | rfl | rfl | rfl | rfl | rfl | rfl | rfl | rfl
  · exact ⟨⟨#[60, 62]⟩, fun W => by kernel_rfl, rfl, by decide, by decide⟩
  · exact ⟨⟨#[60, 61]⟩, fun W => by kernel_rfl, rfl, by decide, by decide⟩
  · exact ⟨⟨#[62, 61]⟩, fun W => by kernel_rfl, rfl, by decide, by decide⟩
  · exact ⟨⟨#[60]⟩, fun W => by kernel_rfl, rfl, by decide, by decide⟩
  · exact ⟨⟨#[62]⟩, fun W => by kernel_rfl, rfl, by decide, by decide⟩
  · exact ⟨⟨#[61]⟩, fun W => by kernel_rfl, rfl, by decide, by decide⟩
  · exact ⟨⟨#[40]⟩, fun W => by kernel_rfl, rfl, by decide, by decide⟩
  · exact ⟨⟨#[41]⟩, fun W => by kernel_rfl, rfl, by decide, by decide⟩
  · exact ⟨⟨#[44]⟩, fun W => by kernel_rfl, rfl, by decide, by decide⟩
  · exact ⟨⟨#[43]⟩, fun W => by kernel_rfl, rfl, by decide, by decide⟩
  · exact ⟨⟨#[45]⟩, fun W => by kernel_rfl, rfl, by decide, by decide⟩
  · exact ⟨⟨#[42]⟩, fun W => by kernel_rfl, rfl, by decide, by decide⟩
  · exact ⟨⟨#[47]⟩, fun W => by kernel_rfl, rfl, by decide, by decide⟩
  · exact ⟨⟨#[37]⟩, fun W => by kernel_rfl, rfl, by decide, by decide⟩
set_option maxHeartbeats 4000000 in
set_option maxRecDepth 20000 in
theorem signAhead_any (s : ByteArray) (w : World) (hw : SG w) :
    Calls Tryz.prog 94 #[.string s] w fun e w' => e = .returned (.tuple #[.int .i64 (sgN signsL s.data.toList : Nat), .int .i64 (if sgN signsL s.data.toList = 0 then 2 else 0)]) ∧ w' = w := by
  obtain ⟨E, hE⟩ : ∃ E, sgN signsL s.data.toList = E := ⟨_, rfl⟩
  rw [hE]
  obtain ⟨Z, hZ⟩ : ∃ Z : Int, (if E = 0 then 2 else 0) = Z := ⟨_, rfl⟩
  rw [hZ]
  have HZ : Hid ((if E = 0 then 2 else 0) = Z) := hZ
  have HE0 : Hid (sgN signsL s.data.toList = E) := hE
  clear hZ hE
  obtain ⟨g0, g1, g2, g3, g4, g5, g6, g7, g8, g9, g10, g11, g12, g13, gl⟩ := hw
  go_enter Tryz.func94, Tryz.ntmps94
  go_wp2
  go_loopg [5, 7] 14 (fun gg _ s7 wr => ∃ kk : Nat, kk ≤ 14 ∧ 14 - kk ≤ gg ∧ s7 = .int .i64 kk ∧ wr = w ∧ Hid (E = sgN (signsL.drop kk) s.data.toList))
  case atStart => exact ⟨0, Nat.zero_le _, by omega, rfl, rfl, HE0.out.symm⟩
  case round =>
    obtain ⟨kk, hkk, hg, rfl, rfl, HE⟩ := hrel
    by_cases hlt : kk < 14
    · have hltz : (kk : Int) < 14 := by omega
      obtain ⟨S, hS, hS1, hS2, hS3⟩ := sign_at kk hlt
      have cP := fun W => Tryz.strings_HasPrefix s S W
      cases hp : Lib.hasPrefix s.data.toList S.data.toList
      · rw [hp] at cP
        have HE2 : Hid (E = sgN (signsL.drop (kk + 1)) s.data.toList) := sgN_next hlt hS1 hp HE.out
        clear hp HE hS1 g0 g1 g2 g3 g4 g5 g6 g7 g8 g9 g10 g11 g12 g13
        go_wp2_with fail
        refine (cP _).mono ?_
        rintro e w' ⟨rfl, rfl⟩
        go_wp2
        go_roundg (14 - (kk + 1))
        case measure => omega
        case rel => exact ⟨kk + 1, by omega, by omega, by go_num, rfl, HE2⟩
      · rw [hp] at cP
        have HE2 : E = S.size := by rw [sgN_hit hlt hS1 hp HE.out, Lib.size_eq]
        have HE3 : Hid (E = S.size) := HE2
        clear hp HE hS1 HE2 g0 g1 g2 g3 g4 g5 g6 g7 g8 g9 g10 g11 g12 g13
        go_wp2_with fail
        refine (cP _).mono ?_
        rintro e w' ⟨rfl, rfl⟩
        go_wp2
        go_ret2
        refine ⟨?_, rfl⟩
        have hz := HZ.out
        rw [HE3.out, if_neg (by omega)] at hz
        rw [HE3.out, ← hz]
        rfl
    · have hltz : ¬ (kk : Int) < 14 := by omega
      have HE2 : E = 0 := by
        rw [HE.out, List.drop_eq_nil_of_le (by show 14 ≤ kk; omega)]; rfl
      subst HE2
      have hz : 2 = Z := by have := HZ.out; rwa [if_pos rfl] at this
      subst hz
      clear HE HZ HE0 g0 g1 g2 g3 g4 g5 g6 g7 g8 g9 g10 g11 g12 g13
      go_wp2
      go_ret2
      exact ⟨rfl, rfl⟩
theorem parse_val : ∀ (l : List UInt8) (a u : Nat), l.all digB = true → Lib.parseUint10 a l = .ok u → u = l.foldl (fun a c => a * 10 + (c.toNat - 48)) a
  | [], a, u, _, h => by
    simp only [Lib.parseUint10] at h
    injection h with h
    exact h.symm
  | c :: r, a, u, ha, h => by
    rw [List.all_cons, Bool.and_eq_true] at ha
    simp only [Lib.parseUint10] at h
    split at h
    · split at h
      · cases h
      · split at h
        · cases h
        · exact parse_val r _ u ha.2 h
    · cases h
theorem atoi_dig {t : List UInt8} (hne : t ≠ []) (ha : t.all digB = true) (hz : ¬ (1 < t.length ∧ t.head? = some 48)) : (val10 t ≤ 9223372036854775807 → Lib.atoiAll t = .ok (val10 t : Nat)) ∧ (9223372036854775807 < val10 t → ∀ n, Lib.atoiAll t ≠ .ok n) := by
  constructor
  · intro hv
    have hl : t.length ≠ 0 := fun e => hne (List.length_eq_zero_iff.1 e)
    have hd := dec_val (t.length - 1) t (by omega) ha (fun r e => Classical.byContradiction fun hr => hz ⟨by rw [e]; cases r with | nil => exact absurd rfl hr | cons _ _ => simp, by rw [e]; rfl⟩)
    have hi : Lib.itoa (val10 t : Nat) = t := by rw [Lib.itoa, if_neg (by omega), show ((val10 t : Nat) : Int).toNat = val10 t from by omega, hd]
    have := atoi_itoa (val10 t : Nat) (by omega)
    rwa [hi] at this
  · intro hv n hn
    cases t with
    | nil => exact hne rfl
    | cons c r =>
      have hc := (digB_iff c).1 (by rw [List.all_cons, Bool.and_eq_true] at ha; exact ha.1)
      simp only [Lib.atoiAll] at hn
      rw [if_neg (by omega)] at hn
      split at hn
      · cases hn
      · cases hn
      · rename_i u hu
        rw [Lib.parseMag, if_neg (by simp)] at hu
        have hu2 : u = val10 (c :: r) := parse_val _ 0 u ha hu
        rw [if_pos ⟨by omega, by omega⟩] at hn
        cases hn
theorem slice_to (s : ByteArray) (n : Nat) (h : n ≤ s.size) : ∃ X : ByteArray, (∀ W : World, Sem.run Tryz.prog (Instr.slice 9 (.string s) none (some (.int .i64 (n : Int))) none) W = .ok (.string X) W) ∧ X.data.toList = s.data.toList.take n ∧ X.size = n := by
  refine ⟨s.extract 0 n, fun W => ?_, ?_, ?_⟩
  · have := run_slice_string_h (P := Tryz.prog) W 9 s Tryz.underlying9 .i64 (n : Int) (by omega) (by omega)
    rw [this]
    simp
  · simp
  · simp; omega
theorem slice_off (s : ByteArray) (n : Nat) (h : n ≤ s.size) : ∃ X : ByteArray, (∀ W : World, Sem.run Tryz.prog (Instr.slice 9 (.string s) (some (.int .i64 (n : Int))) none none) W = .ok (.string X) W) ∧ X.data.toList = s.data.toList.drop n ∧ X.size = s.size - n := by
  refine ⟨s.extract n s.size, fun W => ?_, ?_, ?_⟩
  · have := run_slice_string_l (P := Tryz.prog) W 9 s Tryz.underlying9 .i64 (n : Int) (by omega) (by omega)
    rw [this]
    simp
  · have : (s.extract n s.size).data.toList = (s.data.toList.drop n).take (s.size - n) := by simp
    rw [this, List.take_of_length_le (by simp)]
  · simp
theorem slice_mid (s : ByteArray) (a b : Nat) (h1 : a ≤ b) (h : b ≤ s.size) : ∃ X : ByteArray, (∀ W : World, Sem.run Tryz.prog (Instr.slice 9 (.string s) (some (.int .i64 (a : Int))) (some (.int .i64 (b : Int))) none) W = .ok (.string X) W) ∧ X.data.toList = (s.data.toList.drop a).take (b - a) ∧ X.size = b - a := by
  refine ⟨s.extract a b, fun W => ?_, ?_, ?_⟩
  · have := run_slice_string (P := Tryz.prog) W 9 s .i64 .i64 (a : Int) (b : Int) Tryz.underlying9 (by omega) (by omega) (by omega)
    rw [this]
    simp
  · simp
  · simp; omega
end Go.Proofs.YtkoejkpjkcejcaaGreatDoor
namespace Go.Proofs.YtkoejkpjkcejcaaGreatDoor
open Go.RowKit Go.Extern.Stop Go.Stop Go.Extern

theorem Is.typeOfE (v : Value) (w : World) : (ReflectliteType.typeOf #[.iface 29 v]).run Tryz.prog w = .ok (.iface 142 (.agg #[.pointer (some ⟨12, 29, none⟩)])) w := by kernel_rfl
theorem Is.methodComparable (h : Value) (w : World) : (Go.method 346 142 (.agg #[h]) "Comparable").run Tryz.prog w = .ok (194, .agg #[h]) w := by kernel_rfl
theorem Is.no1 (v : Value) (xT : TypeId) (w : World) : (Instr.typeAssert (.iface 29 v) xT 189 true).run Tryz.prog w = .ok (.tuple #[.nilIface, .bool false]) w := run_typeAssert_lacksB Tryz.underlying189 (by kernel_rfl) (by kernel_rfl) v xT w
theorem Is.no2 (v : Value) (xT : TypeId) (w : World) : (Instr.typeAssert (.iface 29 v) xT 150 true).run Tryz.prog w = .ok (.tuple #[.nilIface, .bool false]) w := run_typeAssert_lacksB Tryz.underlying150 (by kernel_rfl) (by kernel_rfl) v xT w
theorem Is.no3 (v : Value) (xT : TypeId) (w : World) : (Instr.typeAssert (.iface 29 v) xT 152 true).run Tryz.prog w = .ok (.tuple #[.nilIface, .bool false]) w := run_typeAssert_lacksB Tryz.underlying152 (by kernel_rfl) (by kernel_rfl) v xT w
theorem Is.eql (n m : Int) (W : World) : Sem.run Tryz.prog (binOp .eql 38 (.iface 29 (.int .i64 n)) (.iface 29 (.int .i64 m))) W = .ok (.bool (n == m)) W := by kernel_rfl
theorem Is.guard (n m : Int) (W : World) (j k : Nat) : Sem.run Tryz.prog (eqGuard .eql 38 (.tmp j) (.tmp k) (.iface 29 (.int .i64 n)) (.iface 29 (.int .i64 m))) W = .ok () W := by kernel_rfl
set_option maxHeartbeats 2000000 in
set_option maxRecDepth 20000 in
theorem is_any (n m : Int) (w : World) :
    Calls Tryz.prog 128 #[.iface 29 (.int .i64 n), .iface 29 (.int .i64 m), .bool true] w fun e w' => e = .returned (.bool (n == m)) ∧ w' = w := by
  by_cases h : n = m
  · have hb : (n == m) = true := by simpa using h
    rw [hb]
    have q1 := Is.eql n m
    rw [hb] at q1
    have q2 := Is.guard n m
    have a1 := Is.no1
    have a2 := Is.no2
    have a3 := Is.no3
    clear h hb
    go_enter Tryz.func128, Tryz.ntmps128
    go_wp2
    refine wp_loop_rounds 1 ?_
    rw [rounds_succ]
    go_wp2
    go_ret
    exact ⟨rfl, rfl⟩
  · have hb : (n == m) = false := by simpa using h
    rw [hb]
    have q1 := Is.eql n m
    rw [hb] at q1
    have q2 := Is.guard n m
    have a1 := Is.no1
    have a2 := Is.no2
    have a3 := Is.no3
    clear h hb
    go_enter Tryz.func128, Tryz.ntmps128
    go_wp2
    refine wp_loop_rounds 1 ?_
    rw [rounds_succ]
    go_wp2
    go_ret
    exact ⟨rfl, rfl⟩
theorem Is.comparable (w : World) : (ReflectliteType.method (fun t => do
    Rtype.noPackHeld "Comparable" t
    (fun a => Value.bool a.comparable) <$> typeInfo t) #[.agg #[.pointer (some ⟨12, 29, none⟩)]]).run Tryz.prog w = .ok (.bool true) w := by kernel_rfl
set_option maxHeartbeats 2000000 in
set_option maxRecDepth 20000 in
theorem errorsIs_any (n m : Int) (w : World) :
    Calls Tryz.prog 114 #[.iface 29 (.int .i64 n), .iface 29 (.int .i64 m)] w fun e w' => e = .returned (.bool (n == m)) ∧ w' = w := by
  have h10 := @run_callFunc_extern Tryz.prog 100 _ ReflectliteType.typeOf Tryz.func100 (by kernel_rfl) (by kernel_rfl) (by kernel_rfl) (by kernel_rfl)
  have h11 := @run_callFunc_extern Tryz.prog 194 _ (ReflectliteType.method (fun t => do Rtype.noPackHeld "Comparable" t; pure (.bool (← typeInfo t).comparable))) Tryz.func194 (by kernel_rfl) (by kernel_rfl) (by kernel_rfl) (by kernel_rfl)
  have tO := Is.typeOfE
  have mC := Is.methodComparable
  have cC := Is.comparable
  go_enter Tryz.func114, Tryz.ntmps114
  go_wp2_with fail
  refine (is_any n m _).mono ?_
  rintro e w' ⟨rfl, rfl⟩
  go_wp2
  go_ret
  exact ⟨rfl, rfl⟩
end Go.Proofs.YtkoejkpjkcejcaaGreatDoor
