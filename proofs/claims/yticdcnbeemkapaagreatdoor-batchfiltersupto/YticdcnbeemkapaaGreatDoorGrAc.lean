/-
  NumFacts, RdFacts, LexPure, TreeEx, TreeP, in one text.
-/
import Derived.Test.YticdcnbeemkapaaGreatDoorGrAa
import Derived.Lib.ItoaLen
import Derived.Test.YticdcnbeemkapaaGreatDoorGrAb
import Derived.Test.YticdcnbeemkapaaGreatDoorProg
import Derived.WalkKit
import Derived.Below
import Derived.Lib.Strings
import Derived.Laws.RangeAny
import Derived.Deep.DeepCutAuto
namespace Go.Proofs.YticdcnbeemkapaaGreatDoor

def digB (c : UInt8) : Bool := decide (48 ≤ (c.toNat : Int)) && decide ((c.toNat : Int) ≤ 57)
def val10 (l : List UInt8) : Nat := l.foldl (fun a c => a * 10 + (c.toNat - 48)) 0
theorem val10_snoc (l : List UInt8) (c : UInt8) : val10 (l ++ [c]) = val10 l * 10 + (c.toNat - 48) := by simp [val10, List.foldl_append]
theorem digB_iff (c : UInt8) : digB c = true ↔ 48 ≤ c.toNat ∧ c.toNat ≤ 57 := by simp [digB]; omega
theorem val10_lt (k : Nat) : ∀ l : List UInt8, l.length = k → l.all digB = true → val10 l < 10 ^ k := by
  induction k with
  | zero => intro l hl _; rw [List.length_eq_zero_iff.1 hl]; decide
  | succ k ih =>
    intro l hl ha
    have hne : l ≠ [] := by intro e; rw [e] at hl; simp at hl
    rw [← List.dropLast_concat_getLast hne] at ha ⊢
    rw [List.all_append, Bool.and_eq_true] at ha
    have h1 := ih l.dropLast (by simp; omega) ha.1
    have h2 := (digB_iff (l.getLast hne)).1 (by simpa using ha.2)
    rw [val10_snoc, Nat.pow_succ]
    omega
theorem dec_val (k : Nat) : ∀ l : List UInt8, l.length = k + 1 → l.all digB = true → (∀ r, l = 48 :: r → r = []) → Lib.decDigits (val10 l) = l := by
  induction k with
  | zero =>
    intro l hl ha _
    obtain ⟨c, rfl⟩ := List.length_eq_one_iff.1 hl
    have h2 := (digB_iff c).1 (by simpa using ha)
    rw [show val10 [c] = c.toNat - 48 from by simp [val10], Lib.decDigits_one (by omega), show 48 + (c.toNat - 48) = c.toNat from by omega]
    simp
  | succ k ih =>
    intro l hl ha hz
    have hne : l ≠ [] := by intro e; rw [e] at hl; simp at hl
    obtain ⟨r, c, rfl⟩ : ∃ r c, l = r ++ [c] := ⟨l.dropLast, l.getLast hne, (List.dropLast_concat_getLast hne).symm⟩
    rw [List.all_append, Bool.and_eq_true] at ha
    have hrl : r.length = k + 1 := by simp at hl; omega
    have hz2 : ∀ q, r ≠ 48 :: q := fun q e => by
      have := hz (q ++ [c]) (by rw [e]; rfl)
      simp at this
    have h1 := ih r hrl ha.1 (fun q e => absurd e (hz2 q))
    have h2 := (digB_iff c).1 (by simpa using ha.2)
    have h3 : 1 ≤ val10 r := by
      rcases Nat.eq_zero_or_pos (val10 r) with h | h
      · rw [h, Lib.decDigits_one (by omega)] at h1
        exact absurd h1.symm (hz2 [])
      · exact h
    rw [val10_snoc, Lib.decDigits.eq_1, dif_neg (by omega), show (val10 r * 10 + (c.toNat - 48)) / 10 = val10 r from by omega, h1, show 48 + (val10 r * 10 + (c.toNat - 48)) % 10 = c.toNat from by omega]
    simp
theorem dec_digits (k : Nat) : ∀ u : Nat, u ≤ k → (Lib.decDigits u).all digB = true ∧ val10 (Lib.decDigits u) = u ∧ (∀ r, Lib.decDigits u = 48 :: r → r = []) := by
  induction k with
  | zero =>
    intro u hu
    obtain rfl : u = 0 := by omega
    rw [Lib.decDigits_one (by omega)]
    exact ⟨by decide, by decide, fun r e => by simpa using e.symm⟩
  | succ k ih =>
    intro u hu
    by_cases h : u < 10
    · rw [Lib.decDigits_one h]
      have e : (UInt8.ofNat (48 + u)).toNat = 48 + u := by simp; omega
      refine ⟨?_, ?_, fun r e => by simpa using (List.cons.inj e).2.symm⟩
      · rw [List.all_cons, List.all_nil, Bool.and_true, digB_iff, e]; omega
      · rw [show val10 [UInt8.ofNat (48 + u)] = (UInt8.ofNat (48 + u)).toNat - 48 from by simp [val10], e]; omega
    · obtain ⟨a1, a2, a3⟩ := ih (u / 10) (by omega)
      have e : (UInt8.ofNat (48 + u % 10)).toNat = 48 + u % 10 := by simp; omega
      rw [Lib.decDigits.eq_1, dif_neg h]
      refine ⟨?_, ?_, ?_⟩
      · rw [List.all_append, a1, List.all_cons, List.all_nil, Bool.and_true, Bool.true_and, digB_iff, e]; omega
      · rw [val10_snoc, a2, e]; omega
      · intro r hr
        exfalso
        cases hd : Lib.decDigits (u / 10) with
        | nil =>
          obtain ⟨c, q, hq, _⟩ := digits_head (u / 10) (u / 10) (Nat.le_refl _)
          rw [hd] at hq; cases hq
        | cons c q =>
          rw [hd, List.cons_append] at hr
          injection hr with hc _
          rw [hd, hc] at a3 a2
          have := a3 q rfl
          rw [this] at a2
          have : val10 [48] = 0 := by decide
          omega
theorem nd_le (k : Nat) : ∀ u : Nat, u < 10 ^ (k + 1) → Lib.nDigits u ≤ k + 1 := by
  induction k with
  | zero => intro u hu; rw [Lib.nDigits_small (by omega)]; omega
  | succ k ih =>
    intro u hu
    by_cases h : u < 10
    · rw [Lib.nDigits_small h]; omega
    · rw [Lib.nDigits_big h]
      have := ih (u / 10) (by rw [Nat.pow_succ] at hu; omega)
      omega
/-- A text of digits as a number; none: it is none. -/
def numL (l : List UInt8) : Option Nat :=
  if l = [] ∨ (l.head? = some 48 ∧ 1 < l.length) ∨ 19 < l.length then none
  else if l.all digB = true then (if 9223372036854775807 < val10 l then none else some (val10 l)) else none
theorem numL_some {l : List UInt8} {n : Nat} (h : numL l = some n) : l = Lib.decDigits n ∧ n ≤ 9223372036854775807 := by
  rw [numL] at h
  split at h
  · cases h
  · rename_i h1
    split at h
    · rename_i h2
      split at h
      · cases h
      · rename_i h3
        cases h
        have hl : l.length ≠ 0 := fun e => h1 (Or.inl (List.length_eq_zero_iff.1 e))
        exact ⟨(dec_val (l.length - 1) l (by omega) h2 (fun r e => Classical.byContradiction fun hr => h1 (Or.inr (Or.inl ⟨by rw [e]; rfl, by rw [e]; cases r with | nil => exact absurd rfl hr | cons _ _ => simp⟩)))).symm, by omega⟩
    · cases h
theorem numL_dec (n : Nat) (h : n ≤ 9223372036854775807) : numL (Lib.decDigits n) = some n := by
  obtain ⟨a1, a2, a3⟩ := dec_digits n n (Nat.le_refl _)
  have hl : (Lib.decDigits n).length ≤ 19 := by
    rw [Lib.decDigits_length]
    exact nd_le 18 n (by omega)
  rw [numL, if_neg, if_pos a1, a2, if_neg (by omega)]
  rintro (e | ⟨e, hr⟩ | e)
  · obtain ⟨c, q, hq, _⟩ := digits_head n n (Nat.le_refl _)
    rw [e] at hq; cases hq
  · cases hd : Lib.decDigits n with
    | nil => rw [hd] at hr; simp at hr
    | cons c q =>
      rw [hd] at e
      obtain rfl : c = 48 := by simpa using e
      rw [a3 q hd] at hd
      rw [hd] at hr; simp at hr
  · omega
end Go.Proofs.YticdcnbeemkapaaGreatDoor
namespace Go.Proofs.YticdcnbeemkapaaGreatDoor
open Go.RowKit

/-- What stands behind the first quote, up to the last one. -/
def rd : List UInt8 → Option (List UInt8)
  | [] => none
  | c :: l =>
    if c = 39 then
      match l with
      | [] => some []
      | d :: r => if d = 39 then (rd r).map (39 :: ·) else none
    else (rd l).map (c :: ·)
theorem rd_nil : rd [] = none := by simp [rd]
theorem rd_ne (c : UInt8) (l : List UInt8) (h : c ≠ 39) : rd (c :: l) = (rd l).map (c :: ·) := by cases l <;> simp [rd, h]
theorem rd_two (r : List UInt8) : rd (39 :: 39 :: r) = (rd r).map (39 :: ·) := by simp [rd]
theorem rd_bad (d : UInt8) (r : List UInt8) (h : d ≠ 39) : rd (39 :: d :: r) = none := by simp [rd, h]
theorem rd_one : rd [39] = some [] := by simp [rd]
theorem rd_app (k : Nat) : ∀ m : List UInt8, m.length ≤ k → rd (m ++ [39]) = unq m ∧ ∀ c, c ≠ 39 → rd (m ++ [c]) = none := by
  induction k with
  | zero =>
    intro m hm
    obtain rfl : m = [] := List.length_eq_zero_iff.1 (by omega)
    exact ⟨by simp [rd_one, unq], fun c hc => by rw [List.nil_append, rd_ne c [] hc, rd_nil]; rfl⟩
  | succ k ih =>
    intro m hm
    cases m with
    | nil => exact ⟨by simp [rd_one, unq], fun c hc => by rw [List.nil_append, rd_ne c [] hc, rd_nil]; rfl⟩
    | cons a m =>
      by_cases ha : a = 39
      · subst ha
        cases m with
        | nil => exact ⟨by rw [unq_one]; exact (rd_two []).trans (by rw [rd_nil]; rfl), fun c hc => rd_bad c [] hc⟩
        | cons d r =>
          by_cases hd : d = 39
          · subst hd
            obtain ⟨i1, i2⟩ := ih r (by simp at hm; omega)
            exact ⟨by rw [unq_two, ← i1]; exact rd_two _, fun c hc => (rd_two (r ++ [c])).trans (by rw [i2 c hc]; rfl)⟩
          · exact ⟨by rw [unq_bad d r hd]; exact rd_bad d _ hd, fun c hc => rd_bad d _ hd⟩
      · obtain ⟨i1, i2⟩ := ih m (by simp at hm; omega)
        exact ⟨by rw [unq_ne a m ha, ← i1]; exact rd_ne a _ ha, fun c hc => (rd_ne a (m ++ [c]) ha).trans (by rw [i2 c hc]; rfl)⟩
theorem drop_rest (s : ByteArray) (h : 2 ≤ s.size) : s.data.toList.drop 1 = rest s 1 ++ [s[s.size - 1]] := by
  have hl : s.data.toList.length = s.size := by simp
  rw [rest]
  apply List.ext_getElem
  · simp; omega
  · intro i h1 h2
    by_cases hk : i + 2 < s.size
    · rw [List.getElem_append_left (by simp; omega)]
      simp
    · rw [List.getElem_append_right (by simp; omega)]
      simp only [List.getElem_singleton, List.getElem_drop]
      have hi : 1 + i = s.size - 1 := by simp at h1; omega
      simp only [hi]
      rfl
theorem unqT_rd (s : ByteArray) (h1 : 0 < s.size) (h0 : (s[0].toNat : Int) = 39) : unqT s = rd (s.data.toList.drop 1) := by
  have hl : s.data.toList.length = s.size := by simp
  by_cases h2 : 2 ≤ s.size
  · rw [drop_rest s h2, unqT, dif_pos h2]
    obtain ⟨i1, i2⟩ := rd_app _ (rest s 1) (Nat.le_refl _)
    by_cases hz : (s[s.size - 1].toNat : Int) = 39
    · rw [if_pos ⟨h0, hz⟩]
      have : s[s.size - 1] = 39 := UInt8.toNat_inj.1 (by rw [show (39 : UInt8).toNat = 39 from rfl]; omega)
      rw [this, i1]
    · rw [if_neg (fun e => hz e.2), i2 _ (fun e => hz (by rw [e]; rfl))]
  · rw [unqT, dif_neg h2]
    have : s.data.toList.drop 1 = [] := List.drop_eq_nil_of_le (by omega)
    rw [this, rd_nil]
/-- So far T has been read. -/
def Had (s : ByteArray) (j : Nat) (T : ByteArray) : Prop := rd (s.data.toList.drop 1) = (rd (s.data.toList.drop j)).map (T.data.toList ++ ·)
theorem drop_cons (s : ByteArray) (j : Nat) (h : j < s.size) : s.data.toList.drop j = s[j] :: s.data.toList.drop (j + 1) := by
  rw [List.drop_eq_getElem_cons (by simpa using h)]; rfl
theorem had_start (s : ByteArray) : Had s 1 ⟨#[]⟩ := by simp [Had]
theorem had_plain {s T X : ByteArray} {j : Nat} (h : j < s.size) (hc : s[j] ≠ 39) (hX : X.data.toList = [s[j]]) (g : Had s j T) : Had s (j + 1) (T ++ X) := by
  rw [Had, drop_cons s j h, rd_ne _ _ hc, Option.map_map] at g
  rw [Had, g]
  congr 1
  funext x
  simp [hX]
theorem had_two {s T X : ByteArray} {j : Nat} (h : j + 1 < s.size) (hc : s[j] = 39) (hd : s[j + 1] = 39) (hX : X.data.toList = [s[j + 1]]) (g : Had s j T) : Had s (j + 2) (T ++ X) := by
  rw [Had, drop_cons s j (by omega), drop_cons s (j + 1) h, hc, hd, rd_two, Option.map_map] at g
  rw [Had, g]
  congr 1
  funext x
  simp [hX, hd]
theorem had_bad {s T : ByteArray} {j : Nat} (h : j + 1 < s.size) (hc : s[j] = 39) (hd : s[j + 1] ≠ 39) (g : Had s j T) : rd (s.data.toList.drop 1) = none := by
  rw [Had, drop_cons s j (by omega), drop_cons s (j + 1) h, hc, rd_bad _ _ hd] at g
  rw [g]; rfl
theorem had_end {s T : ByteArray} {j : Nat} (h : j + 1 = s.size) (hc : s[j]'(by omega) = 39) (g : Had s j T) : rd (s.data.toList.drop 1) = some T.data.toList := by
  have : s.data.toList.drop (j + 1) = [] := List.drop_eq_nil_of_le (by simp; omega)
  rw [Had, drop_cons s j (by omega), hc, this, rd_one] at g
  rw [g]; simp
theorem had_out {s T : ByteArray} {j : Nat} (h : s.size ≤ j) (g : Had s j T) : rd (s.data.toList.drop 1) = none := by
  have : s.data.toList.drop j = [] := List.drop_eq_nil_of_le (by simp; omega)
  rw [Had, this, rd_nil] at g
  rw [g]; rfl

theorem pre_iff (s : ByteArray) (h : 0 < s.size) : Lib.hasPrefix s.data.toList [39] = true ↔ (s[0].toNat : Int) = 39 := by
  have e : s.data.toList = s[0] :: s.data.toList.drop 1 := by have := drop_cons s 0 h; simpa using this
  rw [e]
  constructor
  · intro hh
    have : (39 : UInt8) = s[0] := by simpa [Lib.hasPrefix, List.isPrefixOf] using hh
    rw [← this]; rfl
  · intro hh
    have : s[0] = 39 := UInt8.toNat_inj.1 (by rw [show (39 : UInt8).toNat = 39 from rfl]; omega)
    rw [this]; simp [Lib.hasPrefix, List.isPrefixOf]
theorem read_rd_none {s : ByteArray} (h1 : s.data.toList ≠ [116, 114, 117, 101]) (h2 : s.data.toList ≠ [102, 97, 108, 115, 101]) (hp : 0 < s.size) (h0 : (s[0].toNat : Int) = 39) (h : rd (s.data.toList.drop 1) = none) : readV s = (0, 0, [], 2) := by
  rw [readV, if_neg h1, if_neg h2, if_pos ((pre_iff s hp).2 h0), unqT_rd s hp h0, h]
theorem read_rd_some {s : ByteArray} {l : List UInt8} (h1 : s.data.toList ≠ [116, 114, 117, 101]) (h2 : s.data.toList ≠ [102, 97, 108, 115, 101]) (hp : 0 < s.size) (h0 : (s[0].toNat : Int) = 39) (h : rd (s.data.toList.drop 1) = some l) : readV s = if plainB l = false then (0, 0, [], 2) else if 40 < l.length then (0, 0, [], 4) else (3, 0, l, 0) := by
  rw [readV, if_neg h1, if_neg h2, if_pos ((pre_iff s hp).2 h0), unqT_rd s hp h0, h]
theorem read_int_ok {s : ByteArray} {n : Int} (h1 : s.data.toList ≠ [116, 114, 117, 101]) (h2 : s.data.toList ≠ [102, 97, 108, 115, 101]) (h3 : ¬ Lib.hasPrefix s.data.toList [39] = true) (hn : -9223372036854775808 ≤ n ∧ n ≤ 9223372036854775807) (h : Lib.itoa n = s.data.toList) : readV s = (1, n, [], 0) := by
  rw [readV, if_neg h1, if_neg h2, if_neg h3, ← h, atoi_itoa n hn]
  simp
theorem read_int_bad {s : ByteArray} (h1 : s.data.toList ≠ [116, 114, 117, 101]) (h2 : s.data.toList ≠ [102, 97, 108, 115, 101]) (h3 : ¬ Lib.hasPrefix s.data.toList [39] = true) (h : ∀ n, -9223372036854775808 ≤ n ∧ n ≤ 9223372036854775807 → Lib.itoa n ≠ s.data.toList) : readV s = (0, 0, [], 2) := by
  rw [readV, if_neg h1, if_neg h2, if_neg h3]
  cases ha : Lib.atoiAll s.data.toList
  · simp only []
    rw [if_neg (h _ (atoi_bounds ha))]
  · rfl
  · rfl
def minL : List UInt8 := [45, 57, 50, 50, 51, 51, 55, 50, 48, 51, 54, 56, 53, 52, 55, 55, 53, 56, 48, 56]
theorem itoa_min : Lib.itoa (-9223372036854775808) = minL := by
  have h := dec_val 18 [57, 50, 50, 51, 51, 55, 50, 48, 51, 54, 56, 53, 52, 55, 55, 53, 56, 48, 56] rfl (by decide) (fun r e => by injection e with e _; exact absurd e (by decide))
  rw [show val10 [57, 50, 50, 51, 51, 55, 50, 48, 51, 54, 56, 53, 52, 55, 55, 53, 56, 48, 56] = 9223372036854775808 from by decide] at h
  rw [Lib.itoa, if_pos (by decide), show (-9223372036854775808 : Int).natAbs = 9223372036854775808 from rfl, h]
  rfl
theorem read_neg {s : ByteArray} {r : List UInt8} (h1 : s.data.toList ≠ [116, 114, 117, 101]) (h2 : s.data.toList ≠ [102, 97, 108, 115, 101]) (h3 : ¬ Lib.hasPrefix s.data.toList [39] = true) (hm : s.data.toList ≠ minL) (h : s.data.toList = 45 :: r) :
    readV s = match numL r with
      | some n => if n = 0 then (0, 0, [], 2) else (1, -(n : Int), [], 0)
      | none => (0, 0, [], 2) := by
  have hbad : (∀ k : Nat, k ≠ 0 → k ≤ 9223372036854775807 → numL r ≠ some k) → readV s = (0, 0, [], 2) := fun hk => read_int_bad h1 h2 h3 fun n hn e => by
    rw [h, Lib.itoa] at e
    split at e
    · rename_i hneg
      injection e with _ e
      by_cases hmin : n = -9223372036854775808
      · subst hmin
        apply hm
        rw [h, ← itoa_min, Lib.itoa, if_pos (by decide), e]
      · refine hk n.natAbs (by omega) (by omega) ?_
        rw [← e]; exact numL_dec _ (by omega)
    · obtain ⟨c, q, hq, hc, _⟩ := digits_head n.toNat n.toNat (Nat.le_refl _)
      rw [hq] at e
      injection e with e _
      rw [e] at hc
      revert hc; decide
  cases hr : numL r with
  | none => exact hbad fun k _ _ e => by rw [hr] at e; cases e
  | some n =>
    simp only []
    by_cases h0 : n = 0
    · rw [if_pos h0]
      exact hbad fun k hk _ e => by rw [hr] at e; cases e; exact hk h0
    · rw [if_neg h0]
      obtain ⟨e1, e2⟩ := numL_some hr
      refine read_int_ok h1 h2 h3 (by omega) ?_
      rw [Lib.itoa, if_pos (by omega), h, show (-(n : Int)).natAbs = n from by omega, e1]
theorem read_pos {s : ByteArray} (h1 : s.data.toList ≠ [116, 114, 117, 101]) (h2 : s.data.toList ≠ [102, 97, 108, 115, 101]) (h3 : ¬ Lib.hasPrefix s.data.toList [39] = true) (h : ∀ r, s.data.toList ≠ 45 :: r) :
    readV s = match numL s.data.toList with
      | some n => (1, (n : Int), [], 0)
      | none => (0, 0, [], 2) := by
  cases hr : numL s.data.toList with
  | none =>
    refine read_int_bad h1 h2 h3 fun n hn e => ?_
    rw [Lib.itoa] at e
    split at e
    · exact h _ e.symm
    · rw [← e, numL_dec n.toNat (by omega)] at hr
      cases hr
  | some n =>
    obtain ⟨e1, e2⟩ := numL_some hr
    refine read_int_ok h1 h2 h3 (by omega) ?_
    rw [Lib.itoa, if_neg (by omega), show ((n : Int)).toNat = n from by omega, ← e1]
end Go.Proofs.YticdcnbeemkapaaGreatDoor
namespace Go.Proofs.YticdcnbeemkapaaGreatDoor
--BEGIN
def blB (c : UInt8) : Bool := decide ((c.toNat : Int) = 32) || decide ((c.toNat : Int) = 10)
def letB (c : UInt8) : Bool := decide (97 ≤ (c.toNat : Int)) && decide ((c.toNat : Int) ≤ 122)
def ldB (c : UInt8) : Bool := letB c || digB c
/-- How many bytes from the left it is so of. -/
def goN (p : UInt8 → Bool) : List UInt8 → Nat
  | [] => 0
  | c :: l => if p c = true then goN p l + 1 else 0
theorem goN_yes {p : UInt8 → Bool} {c : UInt8} (l : List UInt8) (h : p c = true) : goN p (c :: l) = goN p l + 1 := by rw [goN, if_pos h]
theorem goN_no {p : UInt8 → Bool} {c : UInt8} (l : List UInt8) (h : p c = false) : goN p (c :: l) = 0 := by rw [goN, if_neg (by rw [h]; decide)]
theorem goN_le (p : UInt8 → Bool) : ∀ l : List UInt8, goN p l ≤ l.length
  | [] => Nat.le_refl _
  | c :: l => by
    rw [goN]
    split
    · have := goN_le p l; simp; omega
    · simp
theorem goN_all (p : UInt8 → Bool) : ∀ l : List UInt8, (l.take (goN p l)).all p = true
  | [] => rfl
  | c :: l => by
    by_cases h : p c = true
    · rw [goN_yes l h, List.take_succ_cons, List.all_cons, h, goN_all p l]; rfl
    · rw [goN_no l (by simpa using h)]; rfl
/-- Is it so of the first byte? -/
def hdB (p : UInt8 → Bool) : List UInt8 → Bool
  | [] => false
  | c :: _ => p c
theorem goN_stop (p : UInt8 → Bool) : ∀ l : List UInt8, hdB p (l.drop (goN p l)) = false
  | [] => rfl
  | c :: l => by
    by_cases h : p c = true
    · rw [goN_yes l h, List.drop_succ_cons]; exact goN_stop p l
    · have h' : p c = false := by simpa using h
      rw [goN_no l h', List.drop_zero]; exact h'
theorem goN_app (p : UInt8 → Bool) : ∀ (t r : List UInt8), t.all p = true → hdB p r = false → goN p (t ++ r) = t.length
  | [], [], _, _ => rfl
  | [], c :: r, _, h => goN_no r h
  | c :: t, r, ht, h => by
    rw [List.all_cons, Bool.and_eq_true] at ht
    rw [List.cons_append, goN_yes _ ht.1, goN_app p t r ht.2 h]; rfl
theorem goN_zero (p : UInt8 → Bool) (l : List UInt8) (h : hdB p l = false) : goN p l = 0 := by
  cases l with
  | nil => rfl
  | cons c l => exact goN_no l h
theorem goN_skip (p : UInt8 → Bool) : ∀ (t r : List UInt8), t.all p = true → goN p (t ++ r) = t.length + goN p r
  | [], r, _ => by simp
  | c :: t, r, ht => by
    rw [List.all_cons, Bool.and_eq_true] at ht
    rw [List.cons_append, goN_yes _ ht.1, goN_skip p t r ht.2, List.length_cons]; omega

/-- The signs, a longer one ahead of those with which it begins. -/
def signsL : List (List UInt8) := [[60, 62], [60, 61], [62, 61], [60], [62], [61], [40], [41], [44], [43], [45], [42], [47], [37]]
/-- How many bytes the first sign has with which a text begins; 0: there is none. -/
def sgN : List (List UInt8) → List UInt8 → Nat
  | [], _ => 0
  | g :: gs, l => if Lib.hasPrefix l g = true then g.length else sgN gs l
/-- How many bytes there are up to the end of a Quote, behind its first; none: it does not end. -/
def qscan : List UInt8 → Option Nat
  | [] => none
  | c :: l =>
    if c = 39 then
      match l with
      | [] => some 1
      | d :: r => if d = 39 then (qscan r).map (· + 2) else some 1
    else (qscan l).map (· + 1)
theorem qscan_ne (c : UInt8) (l : List UInt8) (h : c ≠ 39) : qscan (c :: l) = (qscan l).map (· + 1) := by cases l <;> simp [qscan, h]
theorem qscan_two (r : List UInt8) : qscan (39 :: 39 :: r) = (qscan r).map (· + 2) := by simp [qscan]
theorem qscan_end (l : List UInt8) (h : l.head? ≠ some 39) : qscan (39 :: l) = some 1 := by
  cases l with
  | nil => simp [qscan]
  | cons d r => simp at h; simp [qscan, h]
/-- The fault of what stands behind the first byte of a Quote, up to its end. -/
def qE (l : List UInt8) : Int := match rd l with
  | none => 2
  | some x => if plainB x = false then 2 else if 40 < x.length then 4 else 0
/-- How many bytes a Number has, and its fault. -/
def numTok (l : List UInt8) : Nat × Int :=
  if hdB letB (l.drop (goN digB l)) = true ∨ (1 < goN digB l ∧ l.head? = some 48) then (0, 2)
  else if 9223372036854775807 < val10 (l.take (goN digB l)) then (0, 1) else (goN digB l, 0)
/-- How many bytes a Quote has, by what stands behind its first one, and its fault. -/
def quoTok (l : List UInt8) : Nat × Int := match qscan l with
  | none => (0, 2)
  | some k => if qE (l.take k) = 0 then (k + 1, 0) else (0, qE (l.take k))
/-- The kind of the word with which a text begins, how many bytes it has, and its fault. -/
def tokAt : List UInt8 → Int × Nat × Int
  | [] => (4, 0, 2)
  | c :: l =>
    if letB c = true then (1, goN ldB (c :: l), 0)
    else if digB c = true then (2, numTok (c :: l))
    else if c = 39 then (3, quoTok l)
    else (4, sgN signsL (c :: l), if sgN signsL (c :: l) = 0 then 2 else 0)
abbrev Tok := Int × ByteArray × Nat
/-- The words of a text that does not begin with a blank; the fault, and where. -/
def lexN : Nat → Nat → List UInt8 → List Tok × Int × Nat
  | 0, _, _ => ([], 0, 0)
  | f + 1, a, l =>
    if l = [] then ([], 0, 0)
    else if (tokAt l).2.2 ≠ 0 then ([], (tokAt l).2.2, a)
    else
      if (lexN f (a + (tokAt l).2.1 + goN blB (l.drop (tokAt l).2.1)) ((l.drop (tokAt l).2.1).drop (goN blB (l.drop (tokAt l).2.1)))).2.1 = 0 then
        (((tokAt l).1, ⟨(l.take (tokAt l).2.1).toArray⟩, a) :: (lexN f (a + (tokAt l).2.1 + goN blB (l.drop (tokAt l).2.1)) ((l.drop (tokAt l).2.1).drop (goN blB (l.drop (tokAt l).2.1)))).1, 0, 0)
      else ([], (lexN f (a + (tokAt l).2.1 + goN blB (l.drop (tokAt l).2.1)) ((l.drop (tokAt l).2.1).drop (goN blB (l.drop (tokAt l).2.1)))).2)
/-- The words behind those that were read. -/
def lexA (f a : Nat) (l : List UInt8) (acc : List Tok) : List Tok × Int × Nat := if (lexN f a l).2.1 = 0 then (acc ++ (lexN f a l).1, 0, 0) else ([], (lexN f a l).2)
/-- The same, of a text that may begin with blanks. -/
def lexS (f a : Nat) (l : List UInt8) (acc : List Tok) : List Tok × Int × Nat := lexA f (a + goN blB l) (l.drop (goN blB l)) acc
/-- All words of a text. -/
def lexAll (l : List UInt8) : List Tok × Int × Nat := if 400 < l.length then ([], 4, 0) else lexS (l.length + 1) 0 l []
theorem lexA_nil (f a : Nat) (acc : List Tok) : lexA (f + 1) a [] acc = (acc, 0, 0) := by simp [lexA, lexN]
theorem lexA_bad (f a : Nat) (l : List UInt8) (acc : List Tok) (hl : l ≠ []) {k : Int} {n : Nat} {e : Int} (h : tokAt l = (k, n, e)) (he : e ≠ 0) : lexA (f + 1) a l acc = ([], e, a) := by
  have : lexN (f + 1) a l = ([], e, a) := by
    rw [lexN, if_neg hl, h, if_pos he]
  rw [lexA, this, if_neg he]
theorem lexA_tok (f a : Nat) (l : List UInt8) (acc : List Tok) (hl : l ≠ []) {k : Int} {n : Nat} (h : tokAt l = (k, n, 0)) : lexA (f + 1) a l acc = lexS f (a + n) (l.drop n) (acc ++ [(k, ⟨(l.take n).toArray⟩, a)]) := by
  have hN : lexN (f + 1) a l = if (lexN f (a + n + goN blB (l.drop n)) ((l.drop n).drop (goN blB (l.drop n)))).2.1 = 0 then ((k, ⟨(l.take n).toArray⟩, a) :: (lexN f (a + n + goN blB (l.drop n)) ((l.drop n).drop (goN blB (l.drop n)))).1, 0, 0) else ([], (lexN f (a + n + goN blB (l.drop n)) ((l.drop n).drop (goN blB (l.drop n)))).2) := by
    rw [lexN, if_neg hl, h, if_neg (by simp)]
  rw [lexS, lexA, lexA, hN]
  generalize lexN f (a + n + goN blB (l.drop n)) ((l.drop n).drop (goN blB (l.drop n))) = R
  by_cases h0 : R.2.1 = 0
  · simp only [if_pos h0, if_true, List.append_assoc, List.singleton_append]
  · simp only [if_neg h0]
theorem lexS_blank (f a : Nat) (c : UInt8) (l : List UInt8) (acc : List Tok) (h : blB c = true) : lexS f a (c :: l) acc = lexS f (a + 1) l acc := by
  rw [lexS, lexS, goN_yes l h, List.drop_succ_cons, show a + (goN blB l + 1) = a + 1 + goN blB l from by omega]
theorem lexS_no (f a : Nat) (l : List UInt8) (acc : List Tok) (h : hdB blB l = false) : lexS f a l acc = lexA f a l acc := by
  rw [lexS, goN_zero _ _ h]; rfl
theorem lexS_nil (f a : Nat) (acc : List Tok) : lexS (f + 1) a [] acc = (acc, 0, 0) := by rw [lexS_no _ _ _ _ rfl, lexA_nil]

theorem sgN_mem : ∀ (gs : List (List UInt8)) (l : List UInt8), sgN gs l ≠ 0 → ∃ g ∈ gs, Lib.hasPrefix l g = true ∧ sgN gs l = g.length
  | [], _, h => absurd rfl h
  | g :: gs, l, h => by
    rw [sgN] at h ⊢
    by_cases hp : Lib.hasPrefix l g = true
    · rw [if_pos hp]; exact ⟨g, List.mem_cons_self, hp, rfl⟩
    · rw [if_neg hp] at h ⊢
      obtain ⟨g', hm, h1, h2⟩ := sgN_mem gs l h
      exact ⟨g', List.mem_cons_of_mem _ hm, h1, h2⟩
theorem qscan_le : ∀ (n : Nat) (l : List UInt8) (k : Nat), l.length ≤ n → qscan l = some k → 1 ≤ k ∧ k ≤ l.length
  | _, [], k, _, h => by simp [qscan] at h
  | 0, _ :: _, _, hn, _ => by simp at hn
  | n + 1, c :: l, k, hn, h => by
    by_cases hc : c = 39
    · subst hc
      cases l with
      | nil => simp [qscan] at h; subst h; simp
      | cons d r =>
        by_cases hd : d = 39
        · subst hd
          rw [qscan_two, Option.map_eq_some_iff] at h
          obtain ⟨j, hj, rfl⟩ := h
          have := qscan_le n r j (by simp at hn; omega) hj
          simp; omega
        · rw [qscan_end _ (by simpa using hd)] at h
          cases h; simp
    · rw [qscan_ne c l hc, Option.map_eq_some_iff] at h
      obtain ⟨j, hj, rfl⟩ := h
      have := qscan_le n l j (by simp at hn; omega) hj
      simp; omega
theorem hasPre_len {l g : List UInt8} (h : Lib.hasPrefix l g = true) : g.length ≤ l.length ∧ l.take g.length = g := by
  have : g <+: l := List.isPrefixOf_iff_prefix.1 h
  exact ⟨this.length_le, (List.prefix_iff_eq_take.1 this).symm⟩
/-- A word that is right has a byte, and no more than there are. -/
theorem tokAt_len {l : List UInt8} {k : Int} {n : Nat} (h : tokAt l = (k, n, 0)) : 1 ≤ n ∧ n ≤ l.length := by
  cases l with
  | nil => simp [tokAt] at h
  | cons c l =>
    rw [tokAt] at h
    split at h
    · rename_i hc
      cases h
      have : ldB c = true := by simp [ldB, hc]
      rw [goN_yes l this]
      have := goN_le ldB l
      simp; omega
    · split at h
      · rename_i hd
        injection h with _ h
        rw [numTok] at h
        split at h
        · cases h
        · split at h
          · cases h
          · cases h
            rw [goN_yes l hd]
            have := goN_le digB l
            simp; omega
      · split at h
        · injection h with _ h
          rw [quoTok] at h
          split at h
          · cases h
          · rename_i j hj
            split at h
            · cases h
              have := qscan_le _ l j (Nat.le_refl _) hj
              simp; omega
            · rename_i h0
              exact absurd (Prod.mk.inj h).2 h0
        · injection h with _ h
          injection h with h1 h2
          subst h1
          have hne : sgN signsL (c :: l) ≠ 0 := fun e => by rw [if_pos e] at h2; cases h2
          obtain ⟨g, hm, hp, hl⟩ := sgN_mem _ _ hne
          rw [hl]
          have := (hasPre_len hp).1
          exact ⟨by omega, this⟩
theorem tokAt_fault {l : List UInt8} : (tokAt l).2.2 = 0 ∨ (tokAt l).2.2 = 1 ∨ (tokAt l).2.2 = 2 ∨ (tokAt l).2.2 = 4 := by
  have hq : ∀ x, qE x = 0 ∨ qE x = 2 ∨ qE x = 4 := fun x => by
    rw [qE]
    split
    · simp
    · split
      · simp
      · split <;> simp
  cases l with
  | nil => simp [tokAt]
  | cons c l =>
    rw [tokAt]
    split
    · simp
    · split
      · rw [numTok]
        split
        · simp
        · split <;> simp
      · split
        · rw [quoTok]
          split
          · simp
          · rename_i j _
            have := hq (l.take j)
            split
            · simp
            · simp only; omega
        · simp only
          split <;> simp
--END
end Go.Proofs.YticdcnbeemkapaaGreatDoor
namespace Go.Proofs.YticdcnbeemkapaaGreatDoor
open Go.RowKit
set_option linter.unusedVariables false
--BEGIN
/-- An expression: Op, Name, the value's type, number and text, At, and the parts. -/
inductive Ex where
  | node (op nm : ByteArray) (vt vn : Int) (vs : ByteArray) (pos : Int) (args : List Ex)
theorem Ex.ind {P : Ex → Prop} (h : ∀ op nm vt vn vs pos args, (∀ y ∈ args, P y) → P (.node op nm vt vn vs pos args)) : ∀ x, P x
  | .node op nm vt vn vs pos args => h op nm vt vn vs pos args (fun y hy => Ex.ind h y)
termination_by x => SizeOf.sizeOf x
decreasing_by
  have := List.sizeOf_lt_of_mem hy
  simp
  omega
def Ex.args : Ex → List Ex
  | .node _ _ _ _ _ _ l => l
def Ex.op : Ex → ByteArray
  | .node o _ _ _ _ _ _ => o
def Ex.nm : Ex → ByteArray
  | .node _ o _ _ _ _ _ => o
def Ex.vt : Ex → Int
  | .node _ _ o _ _ _ _ => o
def Ex.vn : Ex → Int
  | .node _ _ _ o _ _ _ => o
def Ex.vs : Ex → ByteArray
  | .node _ _ _ _ o _ _ => o
def Ex.pos : Ex → Int
  | .node _ _ _ _ _ o _ => o
mutual
/-- An expression lies in memory: its own cells are the value's; those of its parts lie behind the slice, in blocks for which lo holds. -/
def ExIn (w : World) (lo : Nat → Prop) : Value → Ex → Prop
  | v, .node op nm vt vn vs pos args => ∃ p c, v = .agg #[.string op, .string nm, .int .i64 vt, .int .i64 vn, .string vs, .slice p args.length c, .int .i64 pos] ∧ (args.length ≤ maxLen ∧ args.length ≤ c) ∧ op.size ≤ maxLen ∧ nm.size ≤ maxLen ∧ vs.size ≤ maxLen ∧ (args.length = 0 ∨ ∃ b off, p = some ⟨b, off, none⟩ ∧ b < w.heap.size ∧ lo b ∧ ExsIn w lo b off args)
/-- Expressions one behind the other. -/
def ExsIn (w : World) (lo : Nat → Prop) (b : Nat) : Nat → List Ex → Prop
  | _, [] => True
  | off, x :: xs => (∃ v0 v1 v2 v3 v4 v5 v6, w.cell? ⟨b, off, none⟩ = some v0 ∧ w.cell? ⟨b, off + 1, none⟩ = some v1 ∧ w.cell? ⟨b, off + 2, none⟩ = some v2 ∧ w.cell? ⟨b, off + 3, none⟩ = some v3 ∧ w.cell? ⟨b, off + 4, none⟩ = some v4 ∧ w.cell? ⟨b, off + 5, none⟩ = some v5 ∧ w.cell? ⟨b, off + 6, none⟩ = some v6 ∧ ExIn w lo (.agg #[v0, v1, v2, v3, v4, v5, v6]) x) ∧ ExsIn w lo b (off + 7) xs
end
theorem exsIn_at (w : World) (lo : Nat → Prop) (b : Nat) : ∀ (xs : List Ex) (off : Nat), ExsIn w lo b off xs → ∀ j (h : j < xs.length), ∃ v0 v1 v2 v3 v4 v5 v6, w.cell? ⟨b, off + j * 7, none⟩ = some v0 ∧ w.cell? ⟨b, off + j * 7 + 1, none⟩ = some v1 ∧ w.cell? ⟨b, off + j * 7 + 2, none⟩ = some v2 ∧ w.cell? ⟨b, off + j * 7 + 3, none⟩ = some v3 ∧ w.cell? ⟨b, off + j * 7 + 4, none⟩ = some v4 ∧ w.cell? ⟨b, off + j * 7 + 5, none⟩ = some v5 ∧ w.cell? ⟨b, off + j * 7 + 6, none⟩ = some v6 ∧ ExIn w lo (.agg #[v0, v1, v2, v3, v4, v5, v6]) xs[j]
  | [], _, _, j, h => absurd h (by simp)
  | x :: xs, off, hs, 0, _ => by
    rw [ExsIn] at hs
    obtain ⟨v0, v1, v2, v3, v4, v5, v6, h⟩ := hs.1
    refine ⟨v0, v1, v2, v3, v4, v5, v6, ?_⟩
    simp only [Nat.zero_mul, Nat.add_zero, List.getElem_cons_zero]
    exact h
  | x :: xs, off, hs, j + 1, h => by
    rw [ExsIn] at hs
    have ih := exsIn_at w lo b xs (off + 7) hs.2 j (by simpa using h)
    simp only [show off + 7 + j * 7 = off + (j + 1) * 7 from by omega] at ih
    simp only [List.getElem_cons_succ]
    exact ih
theorem exsIn_mk (w : World) (lo : Nat → Prop) (b : Nat) : ∀ (xs : List Ex) (off : Nat), (∀ j (h : j < xs.length), ∃ v0 v1 v2 v3 v4 v5 v6, w.cell? ⟨b, off + j * 7, none⟩ = some v0 ∧ w.cell? ⟨b, off + j * 7 + 1, none⟩ = some v1 ∧ w.cell? ⟨b, off + j * 7 + 2, none⟩ = some v2 ∧ w.cell? ⟨b, off + j * 7 + 3, none⟩ = some v3 ∧ w.cell? ⟨b, off + j * 7 + 4, none⟩ = some v4 ∧ w.cell? ⟨b, off + j * 7 + 5, none⟩ = some v5 ∧ w.cell? ⟨b, off + j * 7 + 6, none⟩ = some v6 ∧ ExIn w lo (.agg #[v0, v1, v2, v3, v4, v5, v6]) xs[j]) → ExsIn w lo b off xs
  | [], _, _ => by rw [ExsIn]; trivial
  | x :: xs, off, hs => by
    rw [ExsIn]
    have h0 := hs 0 (by simp)
    simp only [Nat.zero_mul, Nat.add_zero, List.getElem_cons_zero] at h0
    refine ⟨h0, exsIn_mk w lo b xs (off + 7) fun j hj => ?_⟩
    have := hs (j + 1) (by simpa using hj)
    simp only [show off + (j + 1) * 7 = off + 7 + j * 7 from by omega, List.getElem_cons_succ] at this
    exact this
/-- What is kept where the blocks of its parts are kept. -/
theorem ExIn.keep {w w' : World} {lo : Nat → Prop} (hz : w.heap.size ≤ w'.heap.size) (hk : ∀ b o : Nat, lo b → b < w.heap.size → w'.cell? ⟨b, o, none⟩ = w.cell? ⟨b, o, none⟩) : ∀ (x : Ex) (v : Value), ExIn w lo v x → ExIn w' lo v x := by
  refine Ex.ind fun op nm vt vn vs pos args ih v h => ?_
  rw [ExIn] at h ⊢
  obtain ⟨p, c, rfl, h1, h2, h3, h4, h5⟩ := h
  refine ⟨p, c, rfl, h1, h2, h3, h4, ?_⟩
  rcases h5 with h5 | ⟨b, off, rfl, hbl, hlo, h5⟩
  · exact .inl h5
  · refine .inr ⟨b, off, rfl, by omega, hlo, exsIn_mk w' lo b args off fun j hj => ?_⟩
    obtain ⟨v0, v1, v2, v3, v4, v5, v6, e0, e1, e2, e3, e4, e5, e6, hx⟩ := exsIn_at w lo b args off h5 j hj
    have key : ∀ o : Nat, w'.cell? ⟨b, o, none⟩ = w.cell? ⟨b, o, none⟩ := fun o => hk b o hlo hbl
    exact ⟨v0, v1, v2, v3, v4, v5, v6, by rw [key]; exact e0, by rw [key]; exact e1, by rw [key]; exact e2, by rw [key]; exact e3, by rw [key]; exact e4, by rw [key]; exact e5, by rw [key]; exact e6, ih _ (List.getElem_mem hj) _ hx⟩
theorem ExIn.on {w w' : World} {lo : Nat → Prop} {x : Ex} {v : Value} (h : ExIn w lo v x) (hb : Below w.heap.size w w') : ExIn w' lo v x :=
  ExIn.keep hb.size (fun b o _ hbl => hb.cell (p := ⟨b, o, none⟩) hbl) x v h
theorem ExIn.low {w : World} {lo lo' : Nat → Prop} (hl : ∀ b, b < w.heap.size → lo b → lo' b) : ∀ (x : Ex) (v : Value), ExIn w lo v x → ExIn w lo' v x := by
  refine Ex.ind fun op nm vt vn vs pos args ih v h => ?_
  rw [ExIn] at h ⊢
  obtain ⟨p, c, rfl, h1, h2, h3, h4, h5⟩ := h
  refine ⟨p, c, rfl, h1, h2, h3, h4, ?_⟩
  rcases h5 with h5 | ⟨b, off, rfl, hbl, hlo, h5⟩
  · exact .inl h5
  · refine .inr ⟨b, off, rfl, hbl, hl b hbl hlo, exsIn_mk w lo' b args off fun j hj => ?_⟩
    obtain ⟨v0, v1, v2, v3, v4, v5, v6, e0, e1, e2, e3, e4, e5, e6, hx⟩ := exsIn_at w lo b args off h5 j hj
    exact ⟨v0, v1, v2, v3, v4, v5, v6, e0, e1, e2, e3, e4, e5, e6, ih _ (List.getElem_mem hj) _ hx⟩
mutual
/-- How many nodes. -/
def Ex.size : Ex → Nat
  | .node _ _ _ _ _ _ l => 1 + Ex.sizes l
def Ex.sizes : List Ex → Nat
  | [] => 0
  | x :: xs => x.size + Ex.sizes xs
end
mutual
/-- How many are below each other. -/
def Ex.deep : Ex → Nat
  | .node _ _ _ _ _ _ l => Ex.deeps l + 1
def Ex.deeps : List Ex → Nat
  | [] => 0
  | x :: xs => max x.deep (Ex.deeps xs)
end
--END
end Go.Proofs.YticdcnbeemkapaaGreatDoor
namespace Go.Proofs.YticdcnbeemkapaaGreatDoor
open Go.RowKit
set_option linter.unusedVariables false
--BEGIN
/-- Where the reader stands: which word is the next, and where it went wrong (below 0: nowhere). -/
structure St where
  i : Nat
  bad : Int
/-- Where the next word stands. -/
def posAt (ts : List Tok) (en : Nat) (i : Nat) : Int := match ts[i]? with
  | some t => (t.2.2 : Int)
  | none => (en : Int)
/-- Is the next word this one? -/
def isT (ts : List Tok) (st : St) (s : List UInt8) : Bool := decide (st.bad < 0) && match ts[st.i]? with
  | some t => (decide (t.1 = 1) || decide (t.1 = 4)) && t.2.1.data.toList == s
  | none => false
def adv (st : St) : St := ⟨st.i + 1, st.bad⟩
def failT (ts : List Tok) (en : Nat) (st : St) : St := if st.bad < 0 then ⟨st.i, posAt ts en st.i⟩ else st
def hasT (ts : List Tok) (st : St) (s : List UInt8) : St := if isT ts st s = true then adv st else st
def needT (ts : List Tok) (en : Nat) (st : St) (s : List UInt8) : St := if isT ts st s = true then adv st else failT ts en st
/-- The words of the language. -/
def wordsL : List (List UInt8) := [[111, 114], [97, 110, 100], [110, 111, 116], [116, 114, 117, 101], [102, 97, 108, 115, 101], [108, 101, 110], [105, 102], [115, 101, 108, 101, 99, 116], [97, 115], [102, 114, 111, 109], [119, 104, 101, 114, 101], [103, 114, 111, 117, 112], [98, 121], [119, 105, 110, 100, 111, 119], [115, 108, 105, 100, 101], [99, 111, 117, 110, 116], [115, 117, 109], [108, 101, 97, 115, 116], [109, 111, 115, 116]]
/-- Is a text 1 to 8 letters? -/
def lettersB (l : List UInt8) : Bool := decide (l ≠ []) && decide (l.length ≤ 8) && l.all letB
/-- May a text be a name? -/
def nameT (l : List UInt8) : Bool := lettersB l && !(wordsL.any (· == l))
/-- A name is taken. -/
def takeT (ts : List Tok) (en : Nat) (st : St) : ByteArray × St :=
  if st.bad < 0 then
    (match ts[st.i]? with
    | some t => if t.1 = 1 ∧ nameT t.2.1.data.toList = true then (t.2.1, adv st) else (⟨#[]⟩, failT ts en st)
    | none => (⟨#[]⟩, failT ts en st))
  else (⟨#[]⟩, st)
/-- The signs of a level. -/
def sgl (lv : Nat) : List (List UInt8) := match lv with
  | 0 => [[111, 114]]
  | 1 => [[97, 110, 100]]
  | 2 => [[61], [60, 62], [60], [60, 61], [62], [62, 61]]
  | 3 => [[43], [45]]
  | 4 => [[42], [47], [37]]
  | _ => []
def ex0 : Ex := .node ⟨#[]⟩ ⟨#[]⟩ 0 0 ⟨#[]⟩ 0 []
def op1 (op : List UInt8) (pos : Int) (l : List Ex) : Ex := .node ⟨op.toArray⟩ ⟨#[]⟩ 0 0 ⟨#[]⟩ pos l
/-- The first of some signs that is the next. -/
def firstT (ts : List Tok) (st : St) : List (List UInt8) → Option (List UInt8)
  | [] => none
  | g :: gs => if isT ts st g = true then some g else firstT ts st gs
/-- Behind what has been read: sign and part, over and over (but once of a comparison). -/
def pLoop (ts : List Tok) (en : Nat) (sub : St → Ex × St) (lv : Nat) : Nat → Ex → St → Ex × St
  | 0, e, st => (e, st)
  | k + 1, e, st => match firstT ts st (sgl lv) with
    | none => (e, st)
    | some g =>
      if lv = 2 then (op1 g (posAt ts en st.i) [e, (sub (adv st)).1], (sub (adv st)).2)
      else pLoop ts en sub lv k (op1 g (posAt ts en st.i) [e, (sub (adv st)).1]) (sub (adv st)).2
/-- Parts in brackets, a comma between: those that were read, and how many are left. -/
def pArgs (ts : List Tok) (en : Nat) (sub : St → Ex × St) : Nat → List Ex → St → List Ex × St
  | 0, l, st => (l, st)
  | k + 1, l, st =>
    pArgs ts en sub k (l ++ [(sub (if l = [] then st else needT ts en st [44])).1]) (sub (if l = [] then st else needT ts en st [44])).2
/-- len, if: the parts in brackets. -/
def pCall (ts : List Tok) (en : Nat) (sub : St → Ex × St) (op : List UInt8) (many : Nat) (pos : Int) (st : St) : Ex × St :=
  (op1 op pos (pArgs ts en sub many [] (needT ts en st [40])).1, needT ts en (pArgs ts en sub many [] (needT ts en st [40])).2 [41])
/-- Is the next word a value? -/
def valT (t : Tok) : Bool := decide (t.1 = 2) || decide (t.1 = 3) || (decide (t.1 = 1) && (t.2.1.data.toList == [116, 114, 117, 101] || t.2.1.data.toList == [102, 97, 108, 115, 101]))
def pCol (ts : List Tok) (en : Nat) (st : St) : Ex × St := (.node ⟨#[99, 111, 108]⟩ (takeT ts en st).1 0 0 ⟨#[]⟩ (posAt ts en st.i) [], (takeT ts en st).2)
/-- What is the tightest. -/
def pOne (ts : List Tok) (en : Nat) (sub : St → Ex × St) (rv : ByteArray → Int × Int × List UInt8 × Int) (st : St) : Ex × St :=
  if isT ts st [40] = true then ((sub (adv st)).1, needT ts en (sub (adv st)).2 [41])
  else if isT ts st [108, 101, 110] = true then pCall ts en sub [108, 101, 110] 1 (posAt ts en st.i) (adv st)
  else if isT ts st [105, 102] = true then pCall ts en sub [105, 102] 3 (posAt ts en st.i) (adv st)
  else
    (match ts[st.i]? with
    | some t => if st.bad < 0 ∧ valT t = true then (.node ⟨#[118, 97, 108]⟩ ⟨#[]⟩ (rv t.2.1).1 (rv t.2.1).2.1 ⟨(rv t.2.1).2.2.1.toArray⟩ (posAt ts en st.i) [], adv st) else pCol ts en st
    | none => pCol ts en st)
/-- An expression of a level, or tighter. -/
def pE (ts : List Tok) (en : Nat) (rv : ByteArray → Int × Int × List UInt8 × Int) : Nat → Nat → St → Ex × St
  | 0, _, st => (ex0, st)
  | f + 1, lv, st =>
    if 0 ≤ st.bad then (ex0, st)
    else if lv = 2 ∧ isT ts st [110, 111, 116] = true then (op1 [110, 111, 116] (posAt ts en st.i) [(pE ts en rv f 2 (adv st)).1], (pE ts en rv f 2 (adv st)).2)
    else if lv = 5 then
      if isT ts st [45] = true then (op1 [110, 101, 103] (posAt ts en st.i) [(pE ts en rv f 5 (adv st)).1], (pE ts en rv f 5 (adv st)).2)
      else pOne ts en (pE ts en rv f 0) rv st
    else pLoop ts en (pE ts en rv f (lv + 1)) lv (ts.length + 1) (pE ts en rv f (lv + 1) st).1 (pE ts en rv f (lv + 1) st).2
--END
end Go.Proofs.YticdcnbeemkapaaGreatDoor
