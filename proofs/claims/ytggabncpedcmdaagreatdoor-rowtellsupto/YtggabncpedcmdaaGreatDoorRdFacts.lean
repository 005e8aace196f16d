/-
  Plain facts behind the document's reading of a value: between quotes byte by byte, and numbers.
-/
import Derived.Test.YtggabncpedcmdaaGreatDoorBack
import Derived.Test.YtggabncpedcmdaaGreatDoorNumFacts
namespace Go.Proofs.YtggabncpedcmdaaGreatDoor
open Go.RowKit

/-- What stands behind the first quote, up to the last one. -/
def rd : List UInt8 → Option (List UInt8)
  | [] => none
  | c :: l =>
    if c = 39 then
      match l with
      | [] => some []
      | d :: r => if d = 39 then (rd r).map (39 :: ·) else none
    else (rd l).map (c :: ·)
theorem rd_nil : rd [] = none := by simp [rd]
theorem rd_ne (c : UInt8) (l : List UInt8) (h : c ≠ 39) : rd (c :: l) = (rd l).map (c :: ·) := by cases l <;> simp [rd, h]
theorem rd_two (r : List UInt8) : rd (39 :: 39 :: r) = (rd r).map (39 :: ·) := by simp [rd]
theorem rd_bad (d : UInt8) (r : List UInt8) (h : d ≠ 39) : rd (39 :: d :: r) = none := by simp [rd, h]
theorem rd_one : rd [39] = some [] := by simp [rd]
theorem rd_app (k : Nat) : ∀ m : List UInt8, m.length ≤ k → rd (m ++ [39]) = unq m ∧ ∀ c, c ≠ 39 → rd (m ++ [c]) = none := by
  induction k with
  | zero =>
    intro m hm
    obtain rfl : m = [] := List.length_eq_zero_iff.1 (by omega)
    exact ⟨by simp [rd_one, unq], fun c hc => by rw [List.nil_append, rd_ne c [] hc, rd_nil]; rfl⟩
  | succ k ih =>
    intro m hm
    cases m with
    | nil => exact ⟨by simp [rd_one, unq], fun c hc => by rw [List.nil_append, rd_ne c [] hc, rd_nil]; rfl⟩
    | cons a m =>
      by_cases ha : a = 39
      · subst ha
        cases m with
        | nil => exact ⟨by rw [unq_one]; exact (rd_two []).trans (by rw [rd_nil]; rfl), fun c hc => rd_bad c [] hc⟩
        | cons d r =>
          by_cases hd : d = 39
          · subst hd
            obtain ⟨i1, i2⟩ := ih r (by simp at hm; omega)
            exact ⟨by rw [unq_two, ← i1]; exact rd_two _, fun c hc => (rd_two (r ++ [c])).trans (by rw [i2 c hc]; rfl)⟩
          · exact ⟨by rw [unq_bad d r hd]; exact rd_bad d _ hd, fun c hc => rd_bad d _ hd⟩
      · obtain ⟨i1, i2⟩ := ih m (by simp at hm; omega)
        exact ⟨by rw [unq_ne a m ha, ← i1]; exact rd_ne a _ ha, fun c hc => (rd_ne a (m ++ [c]) ha).trans (by rw [i2 c hc]; rfl)⟩
theorem drop_rest (s : ByteArray) (h : 2 ≤ s.size) : s.data.toList.drop 1 = rest s 1 ++ [s[s.size - 1]] := by
  have hl : s.data.toList.length = s.size := by simp
  rw [rest]
  apply List.ext_getElem
  · simp; omega
  · intro i h1 h2
    by_cases hk : i + 2 < s.size
    · rw [List.getElem_append_left (by simp; omega)]
      simp
    · rw [List.getElem_append_right (by simp; omega)]
      simp only [List.getElem_singleton, List.getElem_drop]
      have hi : 1 + i = s.size - 1 := by simp at h1; omega
      simp only [hi]
      rfl
theorem unqT_rd (s : ByteArray) (h1 : 0 < s.size) (h0 : (s[0].toNat : Int) = 39) : unqT s = rd (s.data.toList.drop 1) := by
  have hl : s.data.toList.length = s.size := by simp
  by_cases h2 : 2 ≤ s.size
  · rw [drop_rest s h2, unqT, dif_pos h2]
    obtain ⟨i1, i2⟩ := rd_app _ (rest s 1) (Nat.le_refl _)
    by_cases hz : (s[s.size - 1].toNat : Int) = 39
    · rw [if_pos ⟨h0, hz⟩]
      have : s[s.size - 1] = 39 := UInt8.toNat_inj.1 (by rw [show (39 : UInt8).toNat = 39 from rfl]; omega)
      rw [this, i1]
    · rw [if_neg (fun e => hz e.2), i2 _ (fun e => hz (by rw [e]; rfl))]
  · rw [unqT, dif_neg h2]
    have : s.data.toList.drop 1 = [] := List.drop_eq_nil_of_le (by omega)
    rw [this, rd_nil]
/-- So far T has been read. -/
def Had (s : ByteArray) (j : Nat) (T : ByteArray) : Prop := rd (s.data.toList.drop 1) = (rd (s.data.toList.drop j)).map (T.data.toList ++ ·)
theorem drop_cons (s : ByteArray) (j : Nat) (h : j < s.size) : s.data.toList.drop j = s[j] :: s.data.toList.drop (j + 1) := by
  rw [List.drop_eq_getElem_cons (by simpa using h)]; rfl
theorem had_start (s : ByteArray) : Had s 1 ⟨#[]⟩ := by simp [Had]
theorem had_plain {s T X : ByteArray} {j : Nat} (h : j < s.size) (hc : s[j] ≠ 39) (hX : X.data.toList = [s[j]]) (g : Had s j T) : Had s (j + 1) (T ++ X) := by
  rw [Had, drop_cons s j h, rd_ne _ _ hc, Option.map_map] at g
  rw [Had, g]
  congr 1
  funext x
  simp [hX]
theorem had_two {s T X : ByteArray} {j : Nat} (h : j + 1 < s.size) (hc : s[j] = 39) (hd : s[j + 1] = 39) (hX : X.data.toList = [s[j + 1]]) (g : Had s j T) : Had s (j + 2) (T ++ X) := by
  rw [Had, drop_cons s j (by omega), drop_cons s (j + 1) h, hc, hd, rd_two, Option.map_map] at g
  rw [Had, g]
  congr 1
  funext x
  simp [hX, hd]
theorem had_bad {s T : ByteArray} {j : Nat} (h : j + 1 < s.size) (hc : s[j] = 39) (hd : s[j + 1] ≠ 39) (g : Had s j T) : rd (s.data.toList.drop 1) = none := by
  rw [Had, drop_cons s j (by omega), drop_cons s (j + 1) h, hc, rd_bad _ _ hd] at g
  rw [g]; rfl
theorem had_end {s T : ByteArray} {j : Nat} (h : j + 1 = s.size) (hc : s[j]'(by omega) = 39) (g : Had s j T) : rd (s.data.toList.drop 1) = some T.data.toList := by
  have : s.data.toList.drop (j + 1) = [] := List.drop_eq_nil_of_le (by simp; omega)
  rw [Had, drop_cons s j (by omega), hc, this, rd_one] at g
  rw [g]; simp
theorem had_out {s T : ByteArray} {j : Nat} (h : s.size ≤ j) (g : Had s j T) : rd (s.data.toList.drop 1) = none := by
  have : s.data.toList.drop j = [] := List.drop_eq_nil_of_le (by simp; omega)
  rw [Had, this, rd_nil] at g
  rw [g]; rfl

theorem pre_iff (s : ByteArray) (h : 0 < s.size) : Lib.hasPrefix s.data.toList [39] = true ↔ (s[0].toNat : Int) = 39 := by
  have e : s.data.toList = s[0] :: s.data.toList.drop 1 := by have := drop_cons s 0 h; simpa using this
  rw [e]
  constructor
  · intro hh
    have : (39 : UInt8) = s[0] := by simpa [Lib.hasPrefix, List.isPrefixOf] using hh
    rw [← this]; rfl
  · intro hh
    have : s[0] = 39 := UInt8.toNat_inj.1 (by rw [show (39 : UInt8).toNat = 39 from rfl]; omega)
    rw [this]; simp [Lib.hasPrefix, List.isPrefixOf]
theorem read_rd_none {s : ByteArray} (h1 : s.data.toList ≠ [116, 114, 117, 101]) (h2 : s.data.toList ≠ [102, 97, 108, 115, 101]) (hp : 0 < s.size) (h0 : (s[0].toNat : Int) = 39) (h : rd (s.data.toList.drop 1) = none) : readV s = (0, 0, [], 2) := by
  rw [readV, if_neg h1, if_neg h2, if_pos ((pre_iff s hp).2 h0), unqT_rd s hp h0, h]
theorem read_rd_some {s : ByteArray} {l : List UInt8} (h1 : s.data.toList ≠ [116, 114, 117, 101]) (h2 : s.data.toList ≠ [102, 97, 108, 115, 101]) (hp : 0 < s.size) (h0 : (s[0].toNat : Int) = 39) (h : rd (s.data.toList.drop 1) = some l) : readV s = if plainB l = false then (0, 0, [], 2) else if 40 < l.length then (0, 0, [], 4) else (3, 0, l, 0) := by
  rw [readV, if_neg h1, if_neg h2, if_pos ((pre_iff s hp).2 h0), unqT_rd s hp h0, h]
theorem read_int_ok {s : ByteArray} {n : Int} (h1 : s.data.toList ≠ [116, 114, 117, 101]) (h2 : s.data.toList ≠ [102, 97, 108, 115, 101]) (h3 : ¬ Lib.hasPrefix s.data.toList [39] = true) (hn : -9223372036854775808 ≤ n ∧ n ≤ 9223372036854775807) (h : Lib.itoa n = s.data.toList) : readV s = (1, n, [], 0) := by
  rw [readV, if_neg h1, if_neg h2, if_neg h3, ← h, atoi_itoa n hn]
  simp
theorem read_int_bad {s : ByteArray} (h1 : s.data.toList ≠ [116, 114, 117, 101]) (h2 : s.data.toList ≠ [102, 97, 108, 115, 101]) (h3 : ¬ Lib.hasPrefix s.data.toList [39] = true) (h : ∀ n, -9223372036854775808 ≤ n ∧ n ≤ 9223372036854775807 → Lib.itoa n ≠ s.data.toList) : readV s = (0, 0, [], 2) := by
  rw [readV, if_neg h1, if_neg h2, if_neg h3]
  cases ha : Lib.atoiAll s.data.toList
  · simp only []
    rw [if_neg (h _ (atoi_bounds ha))]
  · rfl
  · rfl
def minL : List UInt8 := [45, 57, 50, 50, 51, 51, 55, 50, 48, 51, 54, 56, 53, 52, 55, 55, 53, 56, 48, 56]
theorem itoa_min : Lib.itoa (-9223372036854775808) = minL := by
  have h := dec_val 18 [57, 50, 50, 51, 51, 55, 50, 48, 51, 54, 56, 53, 52, 55, 55, 53, 56, 48, 56] rfl (by decide) (fun r e => by injection e with e _; exact absurd e (by decide))
  rw [show val10 [57, 50, 50, 51, 51, 55, 50, 48, 51, 54, 56, 53, 52, 55, 55, 53, 56, 48, 56] = 9223372036854775808 from by decide] at h
  rw [Lib.itoa, if_pos (by decide), show (-9223372036854775808 : Int).natAbs = 9223372036854775808 from rfl, h]
  rfl
theorem read_neg {s : ByteArray} {r : List UInt8} (h1 : s.data.toList ≠ [116, 114, 117, 101]) (h2 : s.data.toList ≠ [102, 97, 108, 115, 101]) (h3 : ¬ Lib.hasPrefix s.data.toList [39] = true) (hm : s.data.toList ≠ minL) (h : s.data.toList = 45 :: r) :
    readV s = match numL r with
      | some n => if n = 0 then (0, 0, [], 2) else (1, -(n : Int), [], 0)
      | none => (0, 0, [], 2) := by
  have hbad : (∀ k : Nat, k ≠ 0 → k ≤ 9223372036854775807 → numL r ≠ some k) → readV s = (0, 0, [], 2) := fun hk => read_int_bad h1 h2 h3 fun n hn e => by
    rw [h, Lib.itoa] at e
    split at e
    · rename_i hneg
      injection e with _ e
      by_cases hmin : n = -9223372036854775808
      · subst hmin
        apply hm
        rw [h, ← itoa_min, Lib.itoa, if_pos (by decide), e]
      · refine hk n.natAbs (by omega) (by omega) ?_
        rw [← e]; exact numL_dec _ (by omega)
    · obtain ⟨c, q, hq, hc, _⟩ := digits_head n.toNat n.toNat (Nat.le_refl _)
      rw [hq] at e
      injection e with e _
      rw [e] at hc
      revert hc; decide
  cases hr : numL r with
  | none => exact hbad fun k _ _ e => by rw [hr] at e; cases e
  | some n =>
    simp only []
    by_cases h0 : n = 0
    · rw [if_pos h0]
      exact hbad fun k hk _ e => by rw [hr] at e; cases e; exact hk h0
    · rw [if_neg h0]
      obtain ⟨e1, e2⟩ := numL_some hr
      refine read_int_ok h1 h2 h3 (by omega) ?_
      rw [Lib.itoa, if_pos (by omega), h, show (-(n : Int)).natAbs = n from by omega, e1]
theorem read_pos {s : ByteArray} (h1 : s.data.toList ≠ [116, 114, 117, 101]) (h2 : s.data.toList ≠ [102, 97, 108, 115, 101]) (h3 : ¬ Lib.hasPrefix s.data.toList [39] = true) (h : ∀ r, s.data.toList ≠ 45 :: r) :
    readV s = match numL s.data.toList with
      | some n => (1, (n : Int), [], 0)
      | none => (0, 0, [], 2) := by
  cases hr : numL s.data.toList with
  | none =>
    refine read_int_bad h1 h2 h3 fun n hn e => ?_
    rw [Lib.itoa] at e
    split at e
    · exact h _ e.symm
    · rw [← e, numL_dec n.toNat (by omega)] at hr
      cases hr
  | some n =>
    obtain ⟨e1, e2⟩ := numL_some hr
    refine read_int_ok h1 h2 h3 (by omega) ?_
    rw [Lib.itoa, if_neg (by omega), show ((n : Int)).toNat = n from by omega, ← e1]
end Go.Proofs.YtggabncpedcmdaaGreatDoor
