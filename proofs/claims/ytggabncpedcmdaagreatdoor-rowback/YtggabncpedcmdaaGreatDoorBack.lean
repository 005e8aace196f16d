/-
  Plain facts behind sluicelaw1.ValBack: what is shown is read as it was, what is read is shown as it was, and values are in one order.
-/
import Derived.Test.YtggabncpedcmdaaGreatDoorParse
namespace Go.Proofs.YtggabncpedcmdaaGreatDoor
open Go.RowKit

theorem unqT_quoted (l : List UInt8) (s : ByteArray) (h : s.data.toList = 39 :: (esc l ++ [39])) : unqT s = some l := by
  obtain rfl : s = ⟨(39 :: (esc l ++ [39])).toArray⟩ := eq_of_list h
  have hsz : (⟨(39 :: (esc l ++ [39])).toArray⟩ : ByteArray).size = (esc l).length + 2 := by
    show (39 :: (esc l ++ [39])).toArray.size = _
    simp
  have hr : rest ⟨(39 :: (esc l ++ [39])).toArray⟩ 1 = esc l := by
    rw [rest, hsz]
    simp
  rw [unqT, dif_pos (by omega), if_pos, hr, unq_esc]
  refine ⟨rfl, ?_⟩
  have h2 : ((⟨(39 :: (esc l ++ [39])).toArray⟩ : ByteArray)[(⟨(39 :: (esc l ++ [39])).toArray⟩ : ByteArray).size - 1]'(by omega)) = 39 := by
    show (39 :: (esc l ++ [39])).toArray[(39 :: (esc l ++ [39])).toArray.size - 1]'_ = 39
    simp
  rw [h2]; rfl
theorem quoted_unqT (l : List UInt8) (s : ByteArray) (h : unqT s = some l) : s.data.toList = 39 :: (esc l ++ [39]) := by
  rw [unqT] at h
  split at h
  · rename_i h2
    split at h
    · rename_i h3
      have he := esc_of_unq _ _ l (Nat.le_refl _) h
      have a0 : s[0] = 39 := UInt8.toNat_inj.1 (by rw [show (39 : UInt8).toNat = 39 from rfl]; omega)
      have az : s[s.size - 1] = 39 := UInt8.toNat_inj.1 (by rw [show (39 : UInt8).toNat = 39 from rfl]; omega)
      rw [← he, rest]
      have hl : s.data.toList.length = s.size := by simp
      apply List.ext_getElem
      · simp; omega
      · intro i h1 h4
        rcases Nat.eq_zero_or_pos i with rfl | hi
        · exact a0
        · obtain ⟨k, rfl⟩ : ∃ k, i = k + 1 := ⟨i - 1, by omega⟩
          by_cases hk : k + 2 < s.size
          · rw [List.getElem_cons_succ, List.getElem_append_left (by simp; omega)]
            simp
          · have hk2 : k + 1 = s.size - 1 := by omega
            rw [List.getElem_cons_succ, List.getElem_append_right (by simp; omega)]
            simp only [List.getElem_singleton]
            have : s.data.toList[k + 1] = s[s.size - 1] := by
              simp only [hk2]
              rfl
            rw [this, az]
    · cases h
  · cases h

theorem read_shown (t n : Int) (l : List UInt8) (s : ByteArray) (hn : -9223372036854775808 ≤ n ∧ n ≤ 9223372036854775807) (hc : chk t n l = 0) (h : s.data.toList = shown t n l) : readV s = (t, n, l, 0) := by
  rcases chk_type hc with ⟨rfl, rfl⟩ | ⟨rfl, rfl, hb⟩ | ⟨rfl, rfl, hl, hp⟩
  · rw [shown, if_pos rfl] at h
    obtain ⟨c, r, hr, hcc⟩ := itoa_head n
    have h1 : s.data.toList ≠ [116, 114, 117, 101] := by rw [h, hr]; intro e; injection e with e _; subst e; revert hcc; decide
    have h2 : s.data.toList ≠ [102, 97, 108, 115, 101] := by rw [h, hr]; intro e; injection e with e _; subst e; revert hcc; decide
    have h3 : ¬ Lib.hasPrefix s.data.toList [39] = true := by
      rw [h, hr]
      intro e
      have e' : (39 : UInt8) = c := by simpa [Lib.hasPrefix, List.isPrefixOf] using e
      subst e'; revert hcc; decide
    rw [readV, if_neg h1, if_neg h2, if_neg h3, h, atoi_itoa n hn]
    simp
  · rw [shown, if_neg (by decide), if_pos rfl] at h
    rcases hb with rfl | rfl
    · rw [if_neg (by decide)] at h
      rw [readV, if_neg (by rw [h]; decide), if_pos h]
    · rw [if_pos rfl] at h
      rw [readV, if_pos h]
  · rw [shown, if_neg (by decide), if_neg (by decide)] at h
    have h1 : s.data.toList ≠ [116, 114, 117, 101] := by rw [h]; intro e; injection e with e _; revert e; decide
    have h2 : s.data.toList ≠ [102, 97, 108, 115, 101] := by rw [h]; intro e; injection e with e _; revert e; decide
    have h3 : Lib.hasPrefix s.data.toList [39] = true := by rw [h]; simp [Lib.hasPrefix, List.isPrefixOf]
    rw [readV, if_neg h1, if_neg h2, if_pos h3, unqT_quoted l s h]
    simp only []
    rw [if_neg (by simp [hp]), if_neg (by omega)]
theorem shown_read (t n : Int) (l : List UInt8) (s : ByteArray) (h : readV s = (t, n, l, 0)) : chk t n l = 0 ∧ shown t n l = s.data.toList ∧ l.length ≤ 40 ∧ -9223372036854775808 ≤ n ∧ n ≤ 9223372036854775807 := by
  rw [readV] at h
  split at h
  · rename_i h1
    injection h with e1 h; injection h with e2 h; injection h with e3 _
    subst e1 e2 e3
    exact ⟨by decide, by rw [h1]; rfl, by simp, by decide, by decide⟩
  · split at h
    · rename_i h1
      injection h with e1 h; injection h with e2 h; injection h with e3 _
      subst e1 e2 e3
      exact ⟨by decide, by rw [h1]; rfl, by simp, by decide, by decide⟩
    · split at h
      · split at h
        · injection h with e1 h; injection h with e2 h; injection h with e3 e4
          exact absurd e4 (by decide)
        · rename_i l' hu
          split at h
          · injection h with e1 h; injection h with e2 h; injection h with e3 e4
            exact absurd e4 (by decide)
          · rename_i hp
            split at h
            · injection h with e1 h; injection h with e2 h; injection h with e3 e4
              exact absurd e4 (by decide)
            · rename_i hl
              injection h with e1 h; injection h with e2 h; injection h with e3 _
              subst e1 e2 e3
              refine ⟨?_, ?_, by omega, by decide, by decide⟩
              · rw [chk, if_neg (by omega), if_neg (fun e => hl e.2), if_neg (fun e => hp e.2), if_neg (by omega)]
              · rw [shown, if_neg (by decide), if_neg (by decide), quoted_unqT _ s hu]
      · split at h
        · rename_i m ha
          split at h
          · rename_i hi
            injection h with e1 h; injection h with e2 h; injection h with e3 _
            subst e1 e2 e3
            have hb := atoi_bounds ha
            refine ⟨?_, ?_, by simp, hb.1, hb.2⟩
            · rw [chk, if_neg (by omega), if_neg (by simp), if_neg (by decide), if_neg (by simp)]
            · rw [shown, if_pos rfl, hi]
          · injection h with e1 h; injection h with e2 h; injection h with e3 e4
            exact absurd e4 (by decide)
        · injection h with e1 h; injection h with e2 h; injection h with e3 e4
          exact absurd e4 (by decide)

theorem cmpI_neg (x y : Int) : cmpI x y = -cmpI y x := by unfold cmpI; split <;> split <;> omega
theorem cmpI_zero (x y : Int) : cmpI x y = 0 ↔ x = y := by unfold cmpI; split <;> (try split) <;> omega
theorem cmpI_trans {x y z : Int} (h1 : cmpI x y ≤ 0) (h2 : cmpI y z ≤ 0) : cmpI x z ≤ 0 := by
  unfold cmpI at *; (repeat' split at h1) <;> (repeat' split at h2) <;> (repeat' split) <;> omega
theorem cmpS_cases (x y : List UInt8) : (x < y ∧ ¬ y < x ∧ cmpS x y = -1) ∨ (x = y ∧ cmpS x y = 0) ∨ (y < x ∧ ¬ x < y ∧ cmpS x y = 1) := by
  unfold cmpS
  by_cases h1 : x < y
  · exact Or.inl ⟨h1, fun h => List.lt_asymm h1 h, if_pos h1⟩
  · by_cases h2 : y < x
    · exact Or.inr (Or.inr ⟨h2, h1, by rw [if_neg h1, if_pos h2]⟩)
    · exact Or.inr (Or.inl ⟨List.le_antisymm (List.not_lt.1 h2) (List.not_lt.1 h1), by rw [if_neg h1, if_neg h2]⟩)
theorem cmpS_neg (x y : List UInt8) : cmpS x y = -cmpS y x := by
  rcases cmpS_cases x y with ⟨a, b, c⟩ | ⟨a, c⟩ | ⟨a, b, c⟩ <;> rcases cmpS_cases y x with ⟨a', b', c'⟩ | ⟨a', c'⟩ | ⟨a', b', c'⟩ <;> rw [c, c'] <;> first | rfl | contradiction | (subst a; exact absurd a' (List.lt_irrefl _)) | (subst a'; exact absurd a (List.lt_irrefl _))
theorem cmpS_zero (x y : List UInt8) : cmpS x y = 0 ↔ x = y := by
  rcases cmpS_cases x y with ⟨a, b, c⟩ | ⟨a, c⟩ | ⟨a, b, c⟩ <;> rw [c]
  · exact ⟨fun e => absurd e (by decide), fun e => by subst e; exact absurd a b⟩
  · exact ⟨fun _ => a, fun _ => rfl⟩
  · exact ⟨fun e => absurd e (by decide), fun e => by subst e; exact absurd a b⟩
theorem cmpS_le {x y : List UInt8} : cmpS x y ≤ 0 ↔ ¬ y < x := by
  rcases cmpS_cases x y with ⟨a, b, c⟩ | ⟨a, c⟩ | ⟨a, b, c⟩ <;> rw [c]
  · exact ⟨fun _ => b, fun _ => by decide⟩
  · exact ⟨fun _ => by subst a; exact List.lt_irrefl _, fun _ => by decide⟩
  · exact ⟨fun e => absurd e (by decide), fun e => absurd a e⟩
theorem cmpS_trans {x y z : List UInt8} (h1 : cmpS x y ≤ 0) (h2 : cmpS y z ≤ 0) : cmpS x z ≤ 0 := by
  rw [cmpS_le] at *
  exact List.not_lt.2 (List.le_trans (List.not_lt.1 h1) (List.not_lt.1 h2))
end Go.Proofs.YtggabncpedcmdaaGreatDoor
