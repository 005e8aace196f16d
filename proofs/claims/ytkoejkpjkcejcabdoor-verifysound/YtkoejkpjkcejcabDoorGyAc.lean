/-
  Parse, Back, NumFacts, RdFacts, LexPure, in one text.
-/
import Derived.Test.YtkoejkpjkcejcabDoorGyAb
import Derived.Lib.AtoiAllCases
import Derived.Lib.ItoaLen
namespace Go.Proofs.YtkoejkpjkcejcabDoor
open Go.RowKit

theorem two_below {w w1 w2 : World} {o : Obj} (b1 : Below (w.alloc o).heap.size (w.alloc o) w1) (b2 : Below w1.heap.size w1 w2) : Below w.heap.size w w2 := by
  have := b1.size
  simp at this
  exact ((Below.refl _ _).alloc (Nat.le_refl _) _).trans ((b1.mono (by simp)).trans (b2.mono (by omega)))
theorem one_below {w w1 : World} {o : Obj} (b1 : Below (w.alloc o).heap.size (w.alloc o) w1) : Below w.heap.size w w1 :=
  ((Below.refl _ _).alloc (Nat.le_refl _) _).trans (b1.mono (by simp))

/-- What a text is read as: type, number, text; and the fault. -/
def readV (s : ByteArray) : Int × Int × List UInt8 × Int :=
  if s.data.toList = [116, 114, 117, 101] then (2, 1, [], 0)
  else if s.data.toList = [102, 97, 108, 115, 101] then (2, 0, [], 0)
  else if Lib.hasPrefix s.data.toList [39] = true then
    (match unqT s with
    | none => (0, 0, [], 2)
    | some l => if plainB l = false then (0, 0, [], 2) else if 40 < l.length then (0, 0, [], 4) else (3, 0, l, 0))
  else (match Lib.atoiAll s.data.toList with
    | .ok n => if Lib.itoa n = s.data.toList then (1, n, [], 0) else (0, 0, [], 2)
    | _ => (0, 0, [], 2))
def readR (r : Int × Int × List UInt8 × Int) : Value := .tuple #[.agg #[.int .i64 r.1, .int .i64 r.2.1, .string ⟨r.2.2.1.toArray⟩], errV r.2.2.2]

theorem unqT_len {s : ByteArray} {l : List UInt8} (h : unqT s = some l) : l.length ≤ s.size := by
  rw [unqT] at h
  split at h
  · split at h
    · have h1 := unq_len _ _ h
      rw [rest] at h1
      simp at h1
      omega
    · cases h
  · cases h
theorem atoi_bounds {s : ByteArray} {n : Int} (h : Lib.atoiAll s.data.toList = .ok n) : -9223372036854775808 ≤ n ∧ n ≤ 9223372036854775807 := by
  have := Lib.atoiAll_bounds h
  omega

theorem eq_of_list {s : ByteArray} {l : List UInt8} (h : s.data.toList = l) : s = ⟨l.toArray⟩ := by subst h; simp
end Go.Proofs.YtkoejkpjkcejcabDoor
namespace Go.Proofs.YtkoejkpjkcejcabDoor
open Go.RowKit

theorem unqT_quoted (l : List UInt8) (s : ByteArray) (h : s.data.toList = 39 :: (esc l ++ [39])) : unqT s = some l := by
  obtain rfl : s = ⟨(39 :: (esc l ++ [39])).toArray⟩ := eq_of_list h
  have hsz : (⟨(39 :: (esc l ++ [39])).toArray⟩ : ByteArray).size = (esc l).length + 2 := by
    show (39 :: (esc l ++ [39])).toArray.size = _
    simp
  have hr : rest ⟨(39 :: (esc l ++ [39])).toArray⟩ 1 = esc l := by
    rw [rest, hsz]
    simp
  rw [unqT, dif_pos (by omega), if_pos, hr, unq_esc]
  refine ⟨rfl, ?_⟩
  have h2 : ((⟨(39 :: (esc l ++ [39])).toArray⟩ : ByteArray)[(⟨(39 :: (esc l ++ [39])).toArray⟩ : ByteArray).size - 1]'(by omega)) = 39 := by
    show (39 :: (esc l ++ [39])).toArray[(39 :: (esc l ++ [39])).toArray.size - 1]'_ = 39
    simp
  rw [h2]; rfl
theorem quoted_unqT (l : List UInt8) (s : ByteArray) (h : unqT s = some l) : s.data.toList = 39 :: (esc l ++ [39]) := by
  rw [unqT] at h
  split at h
  · rename_i h2
    split at h
    · rename_i h3
      have he := esc_of_unq _ _ l (Nat.le_refl _) h
      have a0 : s[0] = 39 := UInt8.toNat_inj.1 (by rw [show (39 : UInt8).toNat = 39 from rfl]; omega)
      have az : s[s.size - 1] = 39 := UInt8.toNat_inj.1 (by rw [show (39 : UInt8).toNat = 39 from rfl]; omega)
      rw [← he, rest]
      have hl : s.data.toList.length = s.size := by simp
      apply List.ext_getElem
      · simp; omega
      · intro i h1 h4
        rcases Nat.eq_zero_or_pos i with rfl | hi
        · exact a0
        · obtain ⟨k, rfl⟩ : ∃ k, i = k + 1 := ⟨i - 1, by omega⟩
          by_cases hk : k + 2 < s.size
          · rw [List.getElem_cons_succ, List.getElem_append_left (by simp; omega)]
            simp
          · have hk2 : k + 1 = s.size - 1 := by omega
            rw [List.getElem_cons_succ, List.getElem_append_right (by simp; omega)]
            simp only [List.getElem_singleton]
            have : s.data.toList[k + 1] = s[s.size - 1] := by
              simp only [hk2]
              rfl
            rw [this, az]
    · cases h
  · cases h

theorem read_shown (t n : Int) (l : List UInt8) (s : ByteArray) (hn : -9223372036854775808 ≤ n ∧ n ≤ 9223372036854775807) (hc : chk t n l = 0) (h : s.data.toList = shown t n l) : readV s = (t, n, l, 0) := by
  rcases chk_type hc with ⟨rfl, rfl⟩ | ⟨rfl, rfl, hb⟩ | ⟨rfl, rfl, hl, hp⟩
  · rw [shown, if_pos rfl] at h
    obtain ⟨c, r, hr, hcc⟩ := itoa_head n
    have h1 : s.data.toList ≠ [116, 114, 117, 101] := by rw [h, hr]; intro e; injection e with e _; subst e; revert hcc; decide
    have h2 : s.data.toList ≠ [102, 97, 108, 115, 101] := by rw [h, hr]; intro e; injection e with e _; subst e; revert hcc; decide
    have h3 : ¬ Lib.hasPrefix s.data.toList [39] = true := by
      rw [h, hr]
      intro e
      have e' : (39 : UInt8) = c := by simpa [Lib.hasPrefix, List.isPrefixOf] using e
      subst e'; revert hcc; decide
    rw [readV, if_neg h1, if_neg h2, if_neg h3, h, atoi_itoa n hn]
    simp
  · rw [shown, if_neg (by decide), if_pos rfl] at h
    rcases hb with rfl | rfl
    · rw [if_neg (by decide)] at h
      rw [readV, if_neg (by rw [h]; decide), if_pos h]
    · rw [if_pos rfl] at h
      rw [readV, if_pos h]
  · rw [shown, if_neg (by decide), if_neg (by decide)] at h
    have h1 : s.data.toList ≠ [116, 114, 117, 101] := by rw [h]; intro e; injection e with e _; revert e; decide
    have h2 : s.data.toList ≠ [102, 97, 108, 115, 101] := by rw [h]; intro e; injection e with e _; revert e; decide
    have h3 : Lib.hasPrefix s.data.toList [39] = true := by rw [h]; simp [Lib.hasPrefix, List.isPrefixOf]
    rw [readV, if_neg h1, if_neg h2, if_pos h3, unqT_quoted l s h]
    simp only []
    rw [if_neg (by simp [hp]), if_neg (by omega)]
theorem shown_read (t n : Int) (l : List UInt8) (s : ByteArray) (h : readV s = (t, n, l, 0)) : chk t n l = 0 ∧ shown t n l = s.data.toList ∧ l.length ≤ 40 ∧ -9223372036854775808 ≤ n ∧ n ≤ 9223372036854775807 := by
  rw [readV] at h
  split at h
  · rename_i h1
    injection h with e1 h; injection h with e2 h; injection h with e3 _
    subst e1 e2 e3
    exact ⟨by decide, by rw [h1]; rfl, by simp, by decide, by decide⟩
  · split at h
    · rename_i h1
      injection h with e1 h; injection h with e2 h; injection h with e3 _
      subst e1 e2 e3
      exact ⟨by decide, by rw [h1]; rfl, by simp, by decide, by decide⟩
    · split at h
      · split at h
        · injection h with e1 h; injection h with e2 h; injection h with e3 e4
          exact absurd e4 (by decide)
        · rename_i l' hu
          split at h
          · injection h with e1 h; injection h with e2 h; injection h with e3 e4
            exact absurd e4 (by decide)
          · rename_i hp
            split at h
            · injection h with e1 h; injection h with e2 h; injection h with e3 e4
              exact absurd e4 (by decide)
            · rename_i hl
              injection h with e1 h; injection h with e2 h; injection h with e3 _
              subst e1 e2 e3
              refine ⟨?_, ?_, by omega, by decide, by decide⟩
              · rw [chk, if_neg (by omega), if_neg (fun e => hl e.2), if_neg (fun e => hp e.2), if_neg (by omega)]
              · rw [shown, if_neg (by decide), if_neg (by decide), quoted_unqT _ s hu]
      · split at h
        · rename_i m ha
          split at h
          · rename_i hi
            injection h with e1 h; injection h with e2 h; injection h with e3 _
            subst e1 e2 e3
            have hb := atoi_bounds ha
            refine ⟨?_, ?_, by simp, hb.1, hb.2⟩
            · rw [chk, if_neg (by omega), if_neg (by simp), if_neg (by decide), if_neg (by simp)]
            · rw [shown, if_pos rfl, hi]
          · injection h with e1 h; injection h with e2 h; injection h with e3 e4
            exact absurd e4 (by decide)
        · injection h with e1 h; injection h with e2 h; injection h with e3 e4
          exact absurd e4 (by decide)

theorem cmpI_neg (x y : Int) : cmpI x y = -cmpI y x := by unfold cmpI; split <;> split <;> omega
theorem cmpI_zero (x y : Int) : cmpI x y = 0 ↔ x = y := by unfold cmpI; split <;> (try split) <;> omega
theorem cmpI_trans {x y z : Int} (h1 : cmpI x y ≤ 0) (h2 : cmpI y z ≤ 0) : cmpI x z ≤ 0 := by
  unfold cmpI at *; (repeat' split at h1) <;> (repeat' split at h2) <;> (repeat' split) <;> omega
theorem cmpS_cases (x y : List UInt8) : (x < y ∧ ¬ y < x ∧ cmpS x y = -1) ∨ (x = y ∧ cmpS x y = 0) ∨ (y < x ∧ ¬ x < y ∧ cmpS x y = 1) := by
  unfold cmpS
  by_cases h1 : x < y
  · exact Or.inl ⟨h1, fun h => List.lt_asymm h1 h, if_pos h1⟩
  · by_cases h2 : y < x
    · exact Or.inr (Or.inr ⟨h2, h1, by rw [if_neg h1, if_pos h2]⟩)
    · exact Or.inr (Or.inl ⟨List.le_antisymm (List.not_lt.1 h2) (List.not_lt.1 h1), by rw [if_neg h1, if_neg h2]⟩)
theorem cmpS_neg (x y : List UInt8) : cmpS x y = -cmpS y x := by
  rcases cmpS_cases x y with ⟨a, b, c⟩ | ⟨a, c⟩ | ⟨a, b, c⟩ <;> rcases cmpS_cases y x with ⟨a', b', c'⟩ | ⟨a', c'⟩ | ⟨a', b', c'⟩ <;> rw [c, c'] <;> first | rfl | contradiction | (subst a; exact absurd a' (List.lt_irrefl _)) | (subst a'; exact absurd a (List.lt_irrefl _))
theorem cmpS_zero (x y : List UInt8) : cmpS x y = 0 ↔ x = y := by
  rcases cmpS_cases x y with ⟨a, b, c⟩ | ⟨a, c⟩ | ⟨a, b, c⟩ <;> rw [c]
  · exact ⟨fun e => absurd e (by decide), fun e => by subst e; exact absurd a b⟩
  · exact ⟨fun _ => a, fun _ => rfl⟩
  · exact ⟨fun e => absurd e (by decide), fun e => by subst e; exact absurd a b⟩
theorem cmpS_le {x y : List UInt8} : cmpS x y ≤ 0 ↔ ¬ y < x := by
  rcases cmpS_cases x y with ⟨a, b, c⟩ | ⟨a, c⟩ | ⟨a, b, c⟩ <;> rw [c]
  · exact ⟨fun _ => b, fun _ => by decide⟩
  · exact ⟨fun _ => by subst a; exact List.lt_irrefl _, fun _ => by decide⟩
  · exact ⟨fun e => absurd e (by decide), fun e => absurd a e⟩
theorem cmpS_trans {x y z : List UInt8} (h1 : cmpS x y ≤ 0) (h2 : cmpS y z ≤ 0) : cmpS x z ≤ 0 := by
  rw [cmpS_le] at *
  exact List.not_lt.2 (List.le_trans (List.not_lt.1 h1) (List.not_lt.1 h2))
end Go.Proofs.YtkoejkpjkcejcabDoor
namespace Go.Proofs.YtkoejkpjkcejcabDoor

def digB (c : UInt8) : Bool := decide (48 ≤ (c.toNat : Int)) && decide ((c.toNat : Int) ≤ 57)
def val10 (l : List UInt8) : Nat := l.foldl (fun a c => a * 10 + (c.toNat - 48)) 0
theorem val10_snoc (l : List UInt8) (c : UInt8) : val10 (l ++ [c]) = val10 l * 10 + (c.toNat - 48) := by simp [val10, List.foldl_append]
theorem digB_iff (c : UInt8) : digB c = true ↔ 48 ≤ c.toNat ∧ c.toNat ≤ 57 := by simp [digB]; omega
theorem val10_lt (k : Nat) : ∀ l : List UInt8, l.length = k → l.all digB = true → val10 l < 10 ^ k := by
  induction k with
  | zero => intro l hl _; rw [List.length_eq_zero_iff.1 hl]; decide
  | succ k ih =>
    intro l hl ha
    have hne : l ≠ [] := by intro e; rw [e] at hl; simp at hl
    rw [← List.dropLast_concat_getLast hne] at ha ⊢
    rw [List.all_append, Bool.and_eq_true] at ha
    have h1 := ih l.dropLast (by simp; omega) ha.1
    have h2 := (digB_iff (l.getLast hne)).1 (by simpa using ha.2)
    rw [val10_snoc, Nat.pow_succ]
    omega
theorem dec_val (k : Nat) : ∀ l : List UInt8, l.length = k + 1 → l.all digB = true → (∀ r, l = 48 :: r → r = []) → Lib.decDigits (val10 l) = l := by
  induction k with
  | zero =>
    intro l hl ha _
    obtain ⟨c, rfl⟩ := List.length_eq_one_iff.1 hl
    have h2 := (digB_iff c).1 (by simpa using ha)
    rw [show val10 [c] = c.toNat - 48 from by simp [val10], Lib.decDigits_one (by omega), show 48 + (c.toNat - 48) = c.toNat from by omega]
    simp
  | succ k ih =>
    intro l hl ha hz
    have hne : l ≠ [] := by intro e; rw [e] at hl; simp at hl
    obtain ⟨r, c, rfl⟩ : ∃ r c, l = r ++ [c] := ⟨l.dropLast, l.getLast hne, (List.dropLast_concat_getLast hne).symm⟩
    rw [List.all_append, Bool.and_eq_true] at ha
    have hrl : r.length = k + 1 := by simp at hl; omega
    have hz2 : ∀ q, r ≠ 48 :: q := fun q e => by
      have := hz (q ++ [c]) (by rw [e]; rfl)
      simp at this
    have h1 := ih r hrl ha.1 (fun q e => absurd e (hz2 q))
    have h2 := (digB_iff c).1 (by simpa using ha.2)
    have h3 : 1 ≤ val10 r := by
      rcases Nat.eq_zero_or_pos (val10 r) with h | h
      · rw [h, Lib.decDigits_one (by omega)] at h1
        exact absurd h1.symm (hz2 [])
      · exact h
    rw [val10_snoc, Lib.decDigits.eq_1, dif_neg (by omega), show (val10 r * 10 + (c.toNat - 48)) / 10 = val10 r from by omega, h1, show 48 + (val10 r * 10 + (c.toNat - 48)) % 10 = c.toNat from by omega]
    simp
theorem dec_digits (k : Nat) : ∀ u : Nat, u ≤ k → (Lib.decDigits u).all digB = true ∧ val10 (Lib.decDigits u) = u ∧ (∀ r, Lib.decDigits u = 48 :: r → r = []) := by
  induction k with
  | zero =>
    intro u hu
    obtain rfl : u = 0 := by omega
    rw [Lib.decDigits_one (by omega)]
    exact ⟨by decide, by decide, fun r e => by simpa using e.symm⟩
  | succ k ih =>
    intro u hu
    by_cases h : u < 10
    · rw [Lib.decDigits_one h]
      have e : (UInt8.ofNat (48 + u)).toNat = 48 + u := by simp; omega
      refine ⟨?_, ?_, fun r e => by simpa using (List.cons.inj e).2.symm⟩
      · rw [List.all_cons, List.all_nil, Bool.and_true, digB_iff, e]; omega
      · rw [show val10 [UInt8.ofNat (48 + u)] = (UInt8.ofNat (48 + u)).toNat - 48 from by simp [val10], e]; omega
    · obtain ⟨a1, a2, a3⟩ := ih (u / 10) (by omega)
      have e : (UInt8.ofNat (48 + u % 10)).toNat = 48 + u % 10 := by simp; omega
      rw [Lib.decDigits.eq_1, dif_neg h]
      refine ⟨?_, ?_, ?_⟩
      · rw [List.all_append, a1, List.all_cons, List.all_nil, Bool.and_true, Bool.true_and, digB_iff, e]; omega
      · rw [val10_snoc, a2, e]; omega
      · intro r hr
        exfalso
        cases hd : Lib.decDigits (u / 10) with
        | nil =>
          obtain ⟨c, q, hq, _⟩ := digits_head (u / 10) (u / 10) (Nat.le_refl _)
          rw [hd] at hq; cases hq
        | cons c q =>
          rw [hd, List.cons_append] at hr
          injection hr with hc _
          rw [hd, hc] at a3 a2
          have := a3 q rfl
          rw [this] at a2
          have : val10 [48] = 0 := by decide
          omega
theorem nd_le (k : Nat) : ∀ u : Nat, u < 10 ^ (k + 1) → Lib.nDigits u ≤ k + 1 := by
  induction k with
  | zero => intro u hu; rw [Lib.nDigits_small (by omega)]; omega
  | succ k ih =>
    intro u hu
    by_cases h : u < 10
    · rw [Lib.nDigits_small h]; omega
    · rw [Lib.nDigits_big h]
      have := ih (u / 10) (by rw [Nat.pow_succ] at hu; omega)
      omega
/-- A text of digits as a number; none: it is none. -/
def numL (l : List UInt8) : Option Nat :=
  if l = [] ∨ (l.head? = some 48 ∧ 1 < l.length) ∨ 19 < l.length then none
  else if l.all digB = true then (if 9223372036854775807 < val10 l then none else some (val10 l)) else none
theorem numL_some {l : List UInt8} {n : Nat} (h : numL l = some n) : l = Lib.decDigits n ∧ n ≤ 9223372036854775807 := by
  rw [numL] at h
  split at h
  · cases h
  · rename_i h1
    split at h
    · rename_i h2
      split at h
      · cases h
      · rename_i h3
        cases h
        have hl : l.length ≠ 0 := fun e => h1 (Or.inl (List.length_eq_zero_iff.1 e))
        exact ⟨(dec_val (l.length - 1) l (by omega) h2 (fun r e => Classical.byContradiction fun hr => h1 (Or.inr (Or.inl ⟨by rw [e]; rfl, by rw [e]; cases r with | nil => exact absurd rfl hr | cons _ _ => simp⟩)))).symm, by omega⟩
    · cases h
theorem numL_dec (n : Nat) (h : n ≤ 9223372036854775807) : numL (Lib.decDigits n) = some n := by
  obtain ⟨a1, a2, a3⟩ := dec_digits n n (Nat.le_refl _)
  have hl : (Lib.decDigits n).length ≤ 19 := by
    rw [Lib.decDigits_length]
    exact nd_le 18 n (by omega)
  rw [numL, if_neg, if_pos a1, a2, if_neg (by omega)]
  rintro (e | ⟨e, hr⟩ | e)
  · obtain ⟨c, q, hq, _⟩ := digits_head n n (Nat.le_refl _)
    rw [e] at hq; cases hq
  · cases hd : Lib.decDigits n with
    | nil => rw [hd] at hr; simp at hr
    | cons c q =>
      rw [hd] at e
      obtain rfl : c = 48 := by simpa using e
      rw [a3 q hd] at hd
      rw [hd] at hr; simp at hr
  · omega
end Go.Proofs.YtkoejkpjkcejcabDoor
namespace Go.Proofs.YtkoejkpjkcejcabDoor
open Go.RowKit

/-- What stands behind the first quote, up to the last one. -/
def rd : List UInt8 → Option (List UInt8)
  | [] => none
  | c :: l =>
    if c = 39 then
      match l with
      | [] => some []
      | d :: r => if d = 39 then (rd r).map (39 :: ·) else none
    else (rd l).map (c :: ·)
theorem rd_nil : rd [] = none := by simp [rd]
theorem rd_ne (c : UInt8) (l : List UInt8) (h : c ≠ 39) : rd (c :: l) = (rd l).map (c :: ·) := by cases l <;> simp [rd, h]
theorem rd_two (r : List UInt8) : rd (39 :: 39 :: r) = (rd r).map (39 :: ·) := by simp [rd]
theorem rd_bad (d : UInt8) (r : List UInt8) (h : d ≠ 39) : rd (39 :: d :: r) = none := by simp [rd, h]
theorem rd_one : rd [39] = some [] := by simp [rd]
theorem rd_app (k : Nat) : ∀ m : List UInt8, m.length ≤ k → rd (m ++ [39]) = unq m ∧ ∀ c, c ≠ 39 → rd (m ++ [c]) = none := by
  induction k with
  | zero =>
    intro m hm
    obtain rfl : m = [] := List.length_eq_zero_iff.1 (by omega)
    exact ⟨by simp [rd_one, unq], fun c hc => by rw [List.nil_append, rd_ne c [] hc, rd_nil]; rfl⟩
  | succ k ih =>
    intro m hm
    cases m with
    | nil => exact ⟨by simp [rd_one, unq], fun c hc => by rw [List.nil_append, rd_ne c [] hc, rd_nil]; rfl⟩
    | cons a m =>
      by_cases ha : a = 39
      · subst ha
        cases m with
        | nil => exact ⟨by rw [unq_one]; exact (rd_two []).trans (by rw [rd_nil]; rfl), fun c hc => rd_bad c [] hc⟩
        | cons d r =>
          by_cases hd : d = 39
          · subst hd
            obtain ⟨i1, i2⟩ := ih r (by simp at hm; omega)
            exact ⟨by rw [unq_two, ← i1]; exact rd_two _, fun c hc => (rd_two (r ++ [c])).trans (by rw [i2 c hc]; rfl)⟩
          · exact ⟨by rw [unq_bad d r hd]; exact rd_bad d _ hd, fun c hc => rd_bad d _ hd⟩
      · obtain ⟨i1, i2⟩ := ih m (by simp at hm; omega)
        exact ⟨by rw [unq_ne a m ha, ← i1]; exact rd_ne a _ ha, fun c hc => (rd_ne a (m ++ [c]) ha).trans (by rw [i2 c hc]; rfl)⟩
theorem drop_rest (s : ByteArray) (h : 2 ≤ s.size) : s.data.toList.drop 1 = rest s 1 ++ [s[s.size - 1]] := by
  have hl : s.data.toList.length = s.size := by simp
  rw [rest]
  apply List.ext_getElem
  · simp; omega
  · intro i h1 h2
    by_cases hk : i + 2 < s.size
    · rw [List.getElem_append_left (by simp; omega)]
      simp
    · rw [List.getElem_append_right (by simp; omega)]
      simp only [List.getElem_singleton, List.getElem_drop]
      have hi : 1 + i = s.size - 1 := by simp at h1; omega
      simp only [hi]
      rfl
theorem unqT_rd (s : ByteArray) (h1 : 0 < s.size) (h0 : (s[0].toNat : Int) = 39) : unqT s = rd (s.data.toList.drop 1) := by
  have hl : s.data.toList.length = s.size := by simp
  by_cases h2 : 2 ≤ s.size
  · rw [drop_rest s h2, unqT, dif_pos h2]
    obtain ⟨i1, i2⟩ := rd_app _ (rest s 1) (Nat.le_refl _)
    by_cases hz : (s[s.size - 1].toNat : Int) = 39
    · rw [if_pos ⟨h0, hz⟩]
      have : s[s.size - 1] = 39 := UInt8.toNat_inj.1 (by rw [show (39 : UInt8).toNat = 39 from rfl]; omega)
      rw [this, i1]
    · rw [if_neg (fun e => hz e.2), i2 _ (fun e => hz (by rw [e]; rfl))]
  · rw [unqT, dif_neg h2]
    have : s.data.toList.drop 1 = [] := List.drop_eq_nil_of_le (by omega)
    rw [this, rd_nil]
/-- So far T has been read. -/
def Had (s : ByteArray) (j : Nat) (T : ByteArray) : Prop := rd (s.data.toList.drop 1) = (rd (s.data.toList.drop j)).map (T.data.toList ++ ·)
theorem drop_cons (s : ByteArray) (j : Nat) (h : j < s.size) : s.data.toList.drop j = s[j] :: s.data.toList.drop (j + 1) := by
  rw [List.drop_eq_getElem_cons (by simpa using h)]; rfl
theorem had_start (s : ByteArray) : Had s 1 ⟨#[]⟩ := by simp [Had]
theorem had_plain {s T X : ByteArray} {j : Nat} (h : j < s.size) (hc : s[j] ≠ 39) (hX : X.data.toList = [s[j]]) (g : Had s j T) : Had s (j + 1) (T ++ X) := by
  rw [Had, drop_cons s j h, rd_ne _ _ hc, Option.map_map] at g
  rw [Had, g]
  congr 1
  funext x
  simp [hX]
theorem had_two {s T X : ByteArray} {j : Nat} (h : j + 1 < s.size) (hc : s[j] = 39) (hd : s[j + 1] = 39) (hX : X.data.toList = [s[j + 1]]) (g : Had s j T) : Had s (j + 2) (T ++ X) := by
  rw [Had, drop_cons s j (by omega), drop_cons s (j + 1) h, hc, hd, rd_two, Option.map_map] at g
  rw [Had, g]
  congr 1
  funext x
  simp [hX, hd]
theorem had_bad {s T : ByteArray} {j : Nat} (h : j + 1 < s.size) (hc : s[j] = 39) (hd : s[j + 1] ≠ 39) (g : Had s j T) : rd (s.data.toList.drop 1) = none := by
  rw [Had, drop_cons s j (by omega), drop_cons s (j + 1) h, hc, rd_bad _ _ hd] at g
  rw [g]; rfl
theorem had_end {s T : ByteArray} {j : Nat} (h : j + 1 = s.size) (hc : s[j]'(by omega) = 39) (g : Had s j T) : rd (s.data.toList.drop 1) = some T.data.toList := by
  have : s.data.toList.drop (j + 1) = [] := List.drop_eq_nil_of_le (by simp; omega)
  rw [Had, drop_cons s j (by omega), hc, this, rd_one] at g
  rw [g]; simp
theorem had_out {s T : ByteArray} {j : Nat} (h : s.size ≤ j) (g : Had s j T) : rd (s.data.toList.drop 1) = none := by
  have : s.data.toList.drop j = [] := List.drop_eq_nil_of_le (by simp; omega)
  rw [Had, this, rd_nil] at g
  rw [g]; rfl

theorem pre_iff (s : ByteArray) (h : 0 < s.size) : Lib.hasPrefix s.data.toList [39] = true ↔ (s[0].toNat : Int) = 39 := by
  have e : s.data.toList = s[0] :: s.data.toList.drop 1 := by have := drop_cons s 0 h; simpa using this
  rw [e]
  constructor
  · intro hh
    have : (39 : UInt8) = s[0] := by simpa [Lib.hasPrefix, List.isPrefixOf] using hh
    rw [← this]; rfl
  · intro hh
    have : s[0] = 39 := UInt8.toNat_inj.1 (by rw [show (39 : UInt8).toNat = 39 from rfl]; omega)
    rw [this]; simp [Lib.hasPrefix, List.isPrefixOf]
theorem read_rd_none {s : ByteArray} (h1 : s.data.toList ≠ [116, 114, 117, 101]) (h2 : s.data.toList ≠ [102, 97, 108, 115, 101]) (hp : 0 < s.size) (h0 : (s[0].toNat : Int) = 39) (h : rd (s.data.toList.drop 1) = none) : readV s = (0, 0, [], 2) := by
  rw [readV, if_neg h1, if_neg h2, if_pos ((pre_iff s hp).2 h0), unqT_rd s hp h0, h]
theorem read_rd_some {s : ByteArray} {l : List UInt8} (h1 : s.data.toList ≠ [116, 114, 117, 101]) (h2 : s.data.toList ≠ [102, 97, 108, 115, 101]) (hp : 0 < s.size) (h0 : (s[0].toNat : Int) = 39) (h : rd (s.data.toList.drop 1) = some l) : readV s = if plainB l = false then (0, 0, [], 2) else if 40 < l.length then (0, 0, [], 4) else (3, 0, l, 0) := by
  rw [readV, if_neg h1, if_neg h2, if_pos ((pre_iff s hp).2 h0), unqT_rd s hp h0, h]
theorem read_int_ok {s : ByteArray} {n : Int} (h1 : s.data.toList ≠ [116, 114, 117, 101]) (h2 : s.data.toList ≠ [102, 97, 108, 115, 101]) (h3 : ¬ Lib.hasPrefix s.data.toList [39] = true) (hn : -9223372036854775808 ≤ n ∧ n ≤ 9223372036854775807) (h : Lib.itoa n = s.data.toList) : readV s = (1, n, [], 0) := by
  rw [readV, if_neg h1, if_neg h2, if_neg h3, ← h, atoi_itoa n hn]
  simp
theorem read_int_bad {s : ByteArray} (h1 : s.data.toList ≠ [116, 114, 117, 101]) (h2 : s.data.toList ≠ [102, 97, 108, 115, 101]) (h3 : ¬ Lib.hasPrefix s.data.toList [39] = true) (h : ∀ n, -9223372036854775808 ≤ n ∧ n ≤ 9223372036854775807 → Lib.itoa n ≠ s.data.toList) : readV s = (0, 0, [], 2) := by
  rw [readV, if_neg h1, if_neg h2, if_neg h3]
  cases ha : Lib.atoiAll s.data.toList
  · simp only []
    rw [if_neg (h _ (atoi_bounds ha))]
  · rfl
  · rfl
def minL : List UInt8 := [45, 57, 50, 50, 51, 51, 55, 50, 48, 51, 54, 56, 53, 52, 55, 55, 53, 56, 48, 56]
theorem itoa_min : Lib.itoa (-9223372036854775808) = minL := by
  have h := dec_val 18 [57, 50, 50, 51, 51, 55, 50, 48, 51, 54, 56, 53, 52, 55, 55, 53, 56, 48, 56] rfl (by decide) (fun r e => by injection e with e _; exact absurd e (by decide))
  rw [show val10 [57, 50, 50, 51, 51, 55, 50, 48, 51, 54, 56, 53, 52, 55, 55, 53, 56, 48, 56] = 9223372036854775808 from by decide] at h
  rw [Lib.itoa, if_pos (by decide), show (-9223372036854775808 : Int).natAbs = 9223372036854775808 from rfl, h]
  rfl
theorem read_neg {s : ByteArray} {r : List UInt8} (h1 : s.data.toList ≠ [116, 114, 117, 101]) (h2 : s.data.toList ≠ [102, 97, 108, 115, 101]) (h3 : ¬ Lib.hasPrefix s.data.toList [39] = true) (hm : s.data.toList ≠ minL) (h : s.data.toList = 45 :: r) :
    readV s = match numL r with
      | some n => if n = 0 then (0, 0, [], 2) else (1, -(n : Int), [], 0)
      | none => (0, 0, [], 2) := by
  have hbad : (∀ k : Nat, k ≠ 0 → k ≤ 9223372036854775807 → numL r ≠ some k) → readV s = (0, 0, [], 2) := fun hk => read_int_bad h1 h2 h3 fun n hn e => by
    rw [h, Lib.itoa] at e
    split at e
    · rename_i hneg
      injection e with _ e
      by_cases hmin : n = -9223372036854775808
      · subst hmin
        apply hm
        rw [h, ← itoa_min, Lib.itoa, if_pos (by decide), e]
      · refine hk n.natAbs (by omega) (by omega) ?_
        rw [← e]; exact numL_dec _ (by omega)
    · obtain ⟨c, q, hq, hc, _⟩ := digits_head n.toNat n.toNat (Nat.le_refl _)
      rw [hq] at e
      injection e with e _
      rw [e] at hc
      revert hc; decide
  cases hr : numL r with
  | none => exact hbad fun k _ _ e => by rw [hr] at e; cases e
  | some n =>
    simp only []
    by_cases h0 : n = 0
    · rw [if_pos h0]
      exact hbad fun k hk _ e => by rw [hr] at e; cases e; exact hk h0
    · rw [if_neg h0]
      obtain ⟨e1, e2⟩ := numL_some hr
      refine read_int_ok h1 h2 h3 (by omega) ?_
      rw [Lib.itoa, if_pos (by omega), h, show (-(n : Int)).natAbs = n from by omega, e1]
theorem read_pos {s : ByteArray} (h1 : s.data.toList ≠ [116, 114, 117, 101]) (h2 : s.data.toList ≠ [102, 97, 108, 115, 101]) (h3 : ¬ Lib.hasPrefix s.data.toList [39] = true) (h : ∀ r, s.data.toList ≠ 45 :: r) :
    readV s = match numL s.data.toList with
      | some n => (1, (n : Int), [], 0)
      | none => (0, 0, [], 2) := by
  cases hr : numL s.data.toList with
  | none =>
    refine read_int_bad h1 h2 h3 fun n hn e => ?_
    rw [Lib.itoa] at e
    split at e
    · exact h _ e.symm
    · rw [← e, numL_dec n.toNat (by omega)] at hr
      cases hr
  | some n =>
    obtain ⟨e1, e2⟩ := numL_some hr
    refine read_int_ok h1 h2 h3 (by omega) ?_
    rw [Lib.itoa, if_neg (by omega), show ((n : Int)).toNat = n from by omega, ← e1]
end Go.Proofs.YtkoejkpjkcejcabDoor
namespace Go.Proofs.YtkoejkpjkcejcabDoor
--BEGIN
def blB (c : UInt8) : Bool := decide ((c.toNat : Int) = 32) || decide ((c.toNat : Int) = 10)
def letB (c : UInt8) : Bool := decide (97 ≤ (c.toNat : Int)) && decide ((c.toNat : Int) ≤ 122)
def ldB (c : UInt8) : Bool := letB c || digB c
/-- How many bytes from the left it is so of. -/
def goN (p : UInt8 → Bool) : List UInt8 → Nat
  | [] => 0
  | c :: l => if p c = true then goN p l + 1 else 0
theorem goN_yes {p : UInt8 → Bool} {c : UInt8} (l : List UInt8) (h : p c = true) : goN p (c :: l) = goN p l + 1 := by rw [goN, if_pos h]
theorem goN_no {p : UInt8 → Bool} {c : UInt8} (l : List UInt8) (h : p c = false) : goN p (c :: l) = 0 := by rw [goN, if_neg (by rw [h]; decide)]
theorem goN_le (p : UInt8 → Bool) : ∀ l : List UInt8, goN p l ≤ l.length
  | [] => Nat.le_refl _
  | c :: l => by
    rw [goN]
    split
    · have := goN_le p l; simp; omega
    · simp
theorem goN_all (p : UInt8 → Bool) : ∀ l : List UInt8, (l.take (goN p l)).all p = true
  | [] => rfl
  | c :: l => by
    by_cases h : p c = true
    · rw [goN_yes l h, List.take_succ_cons, List.all_cons, h, goN_all p l]; rfl
    · rw [goN_no l (by simpa using h)]; rfl
/-- Is it so of the first byte? -/
def hdB (p : UInt8 → Bool) : List UInt8 → Bool
  | [] => false
  | c :: _ => p c
theorem goN_stop (p : UInt8 → Bool) : ∀ l : List UInt8, hdB p (l.drop (goN p l)) = false
  | [] => rfl
  | c :: l => by
    by_cases h : p c = true
    · rw [goN_yes l h, List.drop_succ_cons]; exact goN_stop p l
    · have h' : p c = false := by simpa using h
      rw [goN_no l h', List.drop_zero]; exact h'
theorem goN_app (p : UInt8 → Bool) : ∀ (t r : List UInt8), t.all p = true → hdB p r = false → goN p (t ++ r) = t.length
  | [], [], _, _ => rfl
  | [], c :: r, _, h => goN_no r h
  | c :: t, r, ht, h => by
    rw [List.all_cons, Bool.and_eq_true] at ht
    rw [List.cons_append, goN_yes _ ht.1, goN_app p t r ht.2 h]; rfl
theorem goN_zero (p : UInt8 → Bool) (l : List UInt8) (h : hdB p l = false) : goN p l = 0 := by
  cases l with
  | nil => rfl
  | cons c l => exact goN_no l h
theorem goN_skip (p : UInt8 → Bool) : ∀ (t r : List UInt8), t.all p = true → goN p (t ++ r) = t.length + goN p r
  | [], r, _ => by simp
  | c :: t, r, ht => by
    rw [List.all_cons, Bool.and_eq_true] at ht
    rw [List.cons_append, goN_yes _ ht.1, goN_skip p t r ht.2, List.length_cons]; omega

/-- The signs, a longer one ahead of those with which it begins. -/
def signsL : List (List UInt8) := [[60, 62], [60, 61], [62, 61], [60], [62], [61], [40], [41], [44], [43], [45], [42], [47], [37]]
/-- How many bytes the first sign has with which a text begins; 0: there is none. -/
def sgN : List (List UInt8) → List UInt8 → Nat
  | [], _ => 0
  | g :: gs, l => if Lib.hasPrefix l g = true then g.length else sgN gs l
/-- How many bytes there are up to the end of a Quote, behind its first; none: it does not end. -/
def qscan : List UInt8 → Option Nat
  | [] => none
  | c :: l =>
    if c = 39 then
      match l with
      | [] => some 1
      | d :: r => if d = 39 then (qscan r).map (· + 2) else some 1
    else (qscan l).map (· + 1)
theorem qscan_ne (c : UInt8) (l : List UInt8) (h : c ≠ 39) : qscan (c :: l) = (qscan l).map (· + 1) := by cases l <;> simp [qscan, h]
theorem qscan_two (r : List UInt8) : qscan (39 :: 39 :: r) = (qscan r).map (· + 2) := by simp [qscan]
theorem qscan_end (l : List UInt8) (h : l.head? ≠ some 39) : qscan (39 :: l) = some 1 := by
  cases l with
  | nil => simp [qscan]
  | cons d r => simp at h; simp [qscan, h]
/-- The fault of what stands behind the first byte of a Quote, up to its end. -/
def qE (l : List UInt8) : Int := match rd l with
  | none => 2
  | some x => if plainB x = false then 2 else if 40 < x.length then 4 else 0
/-- How many bytes a Number has, and its fault. -/
def numTok (l : List UInt8) : Nat × Int :=
  if hdB letB (l.drop (goN digB l)) = true ∨ (1 < goN digB l ∧ l.head? = some 48) then (0, 2)
  else if 9223372036854775807 < val10 (l.take (goN digB l)) then (0, 1) else (goN digB l, 0)
/-- How many bytes a Quote has, by what stands behind its first one, and its fault. -/
def quoTok (l : List UInt8) : Nat × Int := match qscan l with
  | none => (0, 2)
  | some k => if qE (l.take k) = 0 then (k + 1, 0) else (0, qE (l.take k))
/-- The kind of the word with which a text begins, how many bytes it has, and its fault. -/
def tokAt : List UInt8 → Int × Nat × Int
  | [] => (4, 0, 2)
  | c :: l =>
    if letB c = true then (1, goN ldB (c :: l), 0)
    else if digB c = true then (2, numTok (c :: l))
    else if c = 39 then (3, quoTok l)
    else (4, sgN signsL (c :: l), if sgN signsL (c :: l) = 0 then 2 else 0)
abbrev Tok := Int × ByteArray × Nat
/-- The words of a text that does not begin with a blank; the fault, and where. -/
def lexN : Nat → Nat → List UInt8 → List Tok × Int × Nat
  | 0, _, _ => ([], 0, 0)
  | f + 1, a, l =>
    if l = [] then ([], 0, 0)
    else if (tokAt l).2.2 ≠ 0 then ([], (tokAt l).2.2, a)
    else
      if (lexN f (a + (tokAt l).2.1 + goN blB (l.drop (tokAt l).2.1)) ((l.drop (tokAt l).2.1).drop (goN blB (l.drop (tokAt l).2.1)))).2.1 = 0 then
        (((tokAt l).1, ⟨(l.take (tokAt l).2.1).toArray⟩, a) :: (lexN f (a + (tokAt l).2.1 + goN blB (l.drop (tokAt l).2.1)) ((l.drop (tokAt l).2.1).drop (goN blB (l.drop (tokAt l).2.1)))).1, 0, 0)
      else ([], (lexN f (a + (tokAt l).2.1 + goN blB (l.drop (tokAt l).2.1)) ((l.drop (tokAt l).2.1).drop (goN blB (l.drop (tokAt l).2.1)))).2)
/-- The words behind those that were read. -/
def lexA (f a : Nat) (l : List UInt8) (acc : List Tok) : List Tok × Int × Nat := if (lexN f a l).2.1 = 0 then (acc ++ (lexN f a l).1, 0, 0) else ([], (lexN f a l).2)
/-- The same, of a text that may begin with blanks. -/
def lexS (f a : Nat) (l : List UInt8) (acc : List Tok) : List Tok × Int × Nat := lexA f (a + goN blB l) (l.drop (goN blB l)) acc
/-- All words of a text. -/
def lexAll (l : List UInt8) : List Tok × Int × Nat := if 400 < l.length then ([], 4, 0) else lexS (l.length + 1) 0 l []
theorem lexA_nil (f a : Nat) (acc : List Tok) : lexA (f + 1) a [] acc = (acc, 0, 0) := by simp [lexA, lexN]
theorem lexA_bad (f a : Nat) (l : List UInt8) (acc : List Tok) (hl : l ≠ []) {k : Int} {n : Nat} {e : Int} (h : tokAt l = (k, n, e)) (he : e ≠ 0) : lexA (f + 1) a l acc = ([], e, a) := by
  have : lexN (f + 1) a l = ([], e, a) := by
    rw [lexN, if_neg hl, h, if_pos he]
  rw [lexA, this, if_neg he]
theorem lexA_tok (f a : Nat) (l : List UInt8) (acc : List Tok) (hl : l ≠ []) {k : Int} {n : Nat} (h : tokAt l = (k, n, 0)) : lexA (f + 1) a l acc = lexS f (a + n) (l.drop n) (acc ++ [(k, ⟨(l.take n).toArray⟩, a)]) := by
  have hN : lexN (f + 1) a l = if (lexN f (a + n + goN blB (l.drop n)) ((l.drop n).drop (goN blB (l.drop n)))).2.1 = 0 then ((k, ⟨(l.take n).toArray⟩, a) :: (lexN f (a + n + goN blB (l.drop n)) ((l.drop n).drop (goN blB (l.drop n)))).1, 0, 0) else ([], (lexN f (a + n + goN blB (l.drop n)) ((l.drop n).drop (goN blB (l.drop n)))).2) := by
    rw [lexN, if_neg hl, h, if_neg (by simp)]
  rw [lexS, lexA, lexA, hN]
  generalize lexN f (a + n + goN blB (l.drop n)) ((l.drop n).drop (goN blB (l.drop n))) = R
  by_cases h0 : R.2.1 = 0
  · simp only [if_pos h0, if_true, List.append_assoc, List.singleton_append]
  · simp only [if_neg h0]
theorem lexS_blank (f a : Nat) (c : UInt8) (l : List UInt8) (acc : List Tok) (h : blB c = true) : lexS f a (c :: l) acc = lexS f (a + 1) l acc := by
  rw [lexS, lexS, goN_yes l h, List.drop_succ_cons, show a + (goN blB l + 1) = a + 1 + goN blB l from by omega]
theorem lexS_no (f a : Nat) (l : List UInt8) (acc : List Tok) (h : hdB blB l = false) : lexS f a l acc = lexA f a l acc := by
  rw [lexS, goN_zero _ _ h]; rfl
theorem lexS_nil (f a : Nat) (acc : List Tok) : lexS (f + 1) a [] acc = (acc, 0, 0) := by rw [lexS_no _ _ _ _ rfl, lexA_nil]

theorem sgN_mem : ∀ (gs : List (List UInt8)) (l : List UInt8), sgN gs l ≠ 0 → ∃ g ∈ gs, Lib.hasPrefix l g = true ∧ sgN gs l = g.length
  | [], _, h => absurd rfl h
  | g :: gs, l, h => by
    rw [sgN] at h ⊢
    by_cases hp : Lib.hasPrefix l g = true
    · rw [if_pos hp]; exact ⟨g, List.mem_cons_self, hp, rfl⟩
    · rw [if_neg hp] at h ⊢
      obtain ⟨g', hm, h1, h2⟩ := sgN_mem gs l h
      exact ⟨g', List.mem_cons_of_mem _ hm, h1, h2⟩
theorem qscan_le : ∀ (n : Nat) (l : List UInt8) (k : Nat), l.length ≤ n → qscan l = some k → 1 ≤ k ∧ k ≤ l.length
  | _, [], k, _, h => by simp [qscan] at h
  | 0, _ :: _, _, hn, _ => by simp at hn
  | n + 1, c :: l, k, hn, h => by
    by_cases hc : c = 39
    · subst hc
      cases l with
      | nil => simp [qscan] at h; subst h; simp
      | cons d r =>
        by_cases hd : d = 39
        · subst hd
          rw [qscan_two, Option.map_eq_some_iff] at h
          obtain ⟨j, hj, rfl⟩ := h
          have := qscan_le n r j (by simp at hn; omega) hj
          simp; omega
        · rw [qscan_end _ (by simpa using hd)] at h
          cases h; simp
    · rw [qscan_ne c l hc, Option.map_eq_some_iff] at h
      obtain ⟨j, hj, rfl⟩ := h
      have := qscan_le n l j (by simp at hn; omega) hj
      simp; omega
theorem hasPre_len {l g : List UInt8} (h : Lib.hasPrefix l g = true) : g.length ≤ l.length ∧ l.take g.length = g := by
  have : g <+: l := List.isPrefixOf_iff_prefix.1 h
  exact ⟨this.length_le, (List.prefix_iff_eq_take.1 this).symm⟩
/-- A word that is right has a byte, and no more than there are. -/
theorem tokAt_len {l : List UInt8} {k : Int} {n : Nat} (h : tokAt l = (k, n, 0)) : 1 ≤ n ∧ n ≤ l.length := by
  cases l with
  | nil => simp [tokAt] at h
  | cons c l =>
    rw [tokAt] at h
    split at h
    · rename_i hc
      cases h
      have : ldB c = true := by simp [ldB, hc]
      rw [goN_yes l this]
      have := goN_le ldB l
      simp; omega
    · split at h
      · rename_i hd
        injection h with _ h
        rw [numTok] at h
        split at h
        · cases h
        · split at h
          · cases h
          · cases h
            rw [goN_yes l hd]
            have := goN_le digB l
            simp; omega
      · split at h
        · injection h with _ h
          rw [quoTok] at h
          split at h
          · cases h
          · rename_i j hj
            split at h
            · cases h
              have := qscan_le _ l j (Nat.le_refl _) hj
              simp; omega
            · rename_i h0
              exact absurd (Prod.mk.inj h).2 h0
        · injection h with _ h
          injection h with h1 h2
          subst h1
          have hne : sgN signsL (c :: l) ≠ 0 := fun e => by rw [if_pos e] at h2; cases h2
          obtain ⟨g, hm, hp, hl⟩ := sgN_mem _ _ hne
          rw [hl]
          have := (hasPre_len hp).1
          exact ⟨by omega, this⟩
theorem tokAt_fault {l : List UInt8} : (tokAt l).2.2 = 0 ∨ (tokAt l).2.2 = 1 ∨ (tokAt l).2.2 = 2 ∨ (tokAt l).2.2 = 4 := by
  have hq : ∀ x, qE x = 0 ∨ qE x = 2 ∨ qE x = 4 := fun x => by
    rw [qE]
    split
    · simp
    · split
      · simp
      · split <;> simp
  cases l with
  | nil => simp [tokAt]
  | cons c l =>
    rw [tokAt]
    split
    · simp
    · split
      · rw [numTok]
        split
        · simp
        · split <;> simp
      · split
        · rw [quoTok]
          split
          · simp
          · rename_i j _
            have := hq (l.take j)
            split
            · simp
            · simp only; omega
        · simp only
          split <;> simp
--END
end Go.Proofs.YtkoejkpjkcejcabDoor
