/-
  What the document's answers on numbers come to: sluiceref1's plain, Val, parts, join, digits, Digits.
-/
import Derived.Test.YtggabncpedcmdaaGreatDoorVal1
import Derived.Test.YtggabncpedcmdaaGreatDoorText
import Derived.Lib.ItoaLen
namespace Go.Proofs.YtggabncpedcmdaaGreatDoor
open Go.RowKit
set_option linter.unusedVariables false

set_option maxHeartbeats 400000 in
theorem refPlain_any (s : ByteArray) (w : World) (hs : s.size ≤ maxLen) :
    Calls Tryz.prog 33 #[.string s] w fun e w' => e = .returned (.bool (plainB s.data.toList)) ∧ w' = w := by
  unfold maxLen at hs
  go_enter Tryz.func33, Tryz.ntmps33
  go_wp2
  go_loop [3] (fun i => ∃ k : Nat, k ≤ s.size ∧ i = .int .i64 k ∧ plainB (s.data.toList.take k) = true) (fun i => s.size - (intOf i).toNat)
  case atStart => exact ⟨0, Nat.zero_le _, rfl, rfl⟩
  case round =>
    obtain ⟨k, hk, rfl, hp⟩ := hrel
    have HP : Hid (plainB (s.data.toList.take k) = true) := hp
    clear hp
    by_cases hlt : k < s.size
    · have HN : Hid (∀ _ : (s[k].toNat : Int) < 32 ∨ 126 < (s[k].toNat : Int), plainB s.data.toList = false) := plain_not s k hlt
      have HT : Hid (plainB (s.data.toList.take (k + 1)) = (plainB (s.data.toList.take k) && (decide (32 ≤ (s[k].toNat : Int)) && decide ((s[k].toNat : Int) ≤ 126)))) := plain_take s k hlt
      go_wp2
      · go_ret
        exact ⟨ret_bool (HN.out (by omega)).symm, rfl⟩
      · go_round
        case rel =>
          refine ⟨k + 1, by omega, by go_num, ?_⟩
          rw [HT.out, HP.out]
          simp only [Bool.true_and, Bool.and_eq_true, decide_eq_true_eq]
          assumption
        case measure => simp [intOf]; omega
      · go_ret
        exact ⟨ret_bool (HN.out (by omega)).symm, rfl⟩
    · have HO := plain_of s k (by omega) HP.out
      go_wp2
      go_ret
      exact ⟨rfl, rfl⟩

set_option maxHeartbeats 1000000 in
theorem refVal_any (t n : Int) (s : ByteArray) (w : World) (hs : s.size ≤ maxLen) :
    Calls Tryz.prog 6 #[.agg #[.int .i64 t, .int .i64 n, .string s]] w fun e w' => e = .returned (.int .i64 (chk t n s.data.toList)) ∧ Below w.heap.size w w' := by
  have hs2 := hs
  unfold maxLen at hs2
  generalize hc : chk t n s.data.toList = c
  have HC : Hid (chk t n s.data.toList = c) := hc
  clear hc
  go_enter Tryz.func6, Tryz.ntmps6
  go_wp2_with (first | (go_at_call 33; refine (refPlain_any _ _ hs).mono ?_; rintro e w' ⟨rfl, rfl⟩))
  all_goals
    go_ret
    refine ⟨?_, by repeat (first | exact Below.refl _ _ | (refine Below.alloc ?_ (by simp) _))⟩
    have hd : s.data.toList.length = s.size := by simp
    have hc := HC.out
    clear HC hs
    rw [chk] at hc
    simp only [Lib.toList_data, bne_iff_ne, bne_eq_false_iff_eq, Bool.not_eq_true', Bool.not_eq_false'] at *
  all_goals
    repeat' split at hc
  all_goals subst hc
  all_goals first | rfl | (exfalso; omega) | (exfalso; simp_all; done) | (exfalso; simp_all; omega)

theorem ret_bi {b : Bool} {k : IntKind} {a c : Int} (h : a = c) : Ending.returned (.tuple #[.bool b, .int k a]) = .returned (.tuple #[.bool b, .int k c]) := by rw [h]
theorem ret_ib {b : Bool} {k : IntKind} {a c : Int} (h : a = c) : Ending.returned (.tuple #[.int k a, .bool b]) = .returned (.tuple #[.int k c, .bool b]) := by rw [h]
theorem parts_neg (n : Int) (w : World) (hn : -9223372036854775808 ≤ n ∧ n < 0) : Calls Tryz.prog 47 #[.int .i64 n] w fun e w' => e = .returned (.tuple #[.bool true, .int .u64 (-n)]) ∧ w' = w := by
  go_enter Tryz.func47, Tryz.ntmps47
  go_wp2
  go_ret2
  exact ⟨ret_bi (by omega), rfl⟩
theorem parts_pos (n : Int) (w : World) (hn : 0 ≤ n ∧ n ≤ 9223372036854775807) : Calls Tryz.prog 47 #[.int .i64 n] w fun e w' => e = .returned (.tuple #[.bool false, .int .u64 n]) ∧ w' = w := by
  go_enter Tryz.func47, Tryz.ntmps47
  go_wp2
  go_ret2
  exact ⟨rfl, rfl⟩
theorem join_neg (m : Int) (w : World) (hm : 0 ≤ m ∧ m ≤ 9223372036854775808) : Calls Tryz.prog 48 #[.bool true, .int .u64 m] w fun e w' => e = .returned (.tuple #[.int .i64 (-m), .bool true]) ∧ w' = w := by
  by_cases h0 : m = 0
  · subst h0
    go_enter Tryz.func48, Tryz.ntmps48
    go_wp2
    go_ret2
    exact ⟨rfl, rfl⟩
  · have h1 : 1 ≤ m := by omega
    have e0 : (m == 0) = false := by simpa using h0
    clear h0
    go_enter Tryz.func48, Tryz.ntmps48
    go_wp2
    go_ret2
    refine ⟨ret_ib ?_, rfl⟩
    first | omega | (unfold wrap64; omega)
theorem join_negx (m : Int) (w : World) (hm : 9223372036854775808 < m ∧ m ≤ 18446744073709551615) : Calls Tryz.prog 48 #[.bool true, .int .u64 m] w fun e w' => e = .returned (.tuple #[.int .i64 0, .bool false]) ∧ w' = w := by
  go_enter Tryz.func48, Tryz.ntmps48
  go_wp2
  go_ret2
  exact ⟨rfl, rfl⟩
theorem join_pos (m : Int) (w : World) (hm : 0 ≤ m ∧ m ≤ 9223372036854775807) : Calls Tryz.prog 48 #[.bool false, .int .u64 m] w fun e w' => e = .returned (.tuple #[.int .i64 m, .bool true]) ∧ w' = w := by
  go_enter Tryz.func48, Tryz.ntmps48
  go_wp2
  go_ret2
  refine ⟨ret_ib ?_, rfl⟩
  first | rfl | omega | (unfold wrap64; omega)
theorem join_posx (m : Int) (w : World) (hm : 9223372036854775807 < m ∧ m ≤ 18446744073709551615) : Calls Tryz.prog 48 #[.bool false, .int .u64 m] w fun e w' => e = .returned (.tuple #[.int .i64 0, .bool false]) ∧ w' = w := by
  go_enter Tryz.func48, Tryz.ntmps48
  go_wp2
  go_ret2
  exact ⟨rfl, rfl⟩

theorem dig_len (u : Nat) (h : u < 18446744073709551616) : (Lib.decDigits u).length ≤ 20 := by rw [Lib.decDigits_length]; exact Lib.nDigits_le20 u h
theorem ret_str {a c : ByteArray} (h : a = c) : Ending.returned (.string a) = .returned (.string c) := by rw [h]
theorem dig_snoc (u : Nat) (d : Nat) (c : UInt8) (h : ¬ u < 10) (hd : u % 10 = d) (hc : UInt8.ofNat (48 + d) = c) : (⟨(Lib.decDigits (u / 10)).toArray⟩ : ByteArray) ++ ⟨#[c]⟩ = ⟨(Lib.decDigits u).toArray⟩ := by
  rw [Lib.decDigits.eq_1 u, dif_neg h, hd, hc]
  rfl
set_option maxHeartbeats 1000000 in
theorem digits_small (u : Int) (w : World) (h0 : 0 ≤ u) (h : u < 10) :
    Calls Tryz.prog 67 #[.int .u64 u] w fun e w' => e = .returned (.string ⟨(Lib.decDigits u.toNat).toArray⟩) ∧ w' = w := by
  have hd : Lib.decDigits u.toNat = [UInt8.ofNat (48 + u.toNat)] := Lib.decDigits_one (by omega)
  rw [hd]
  have hc : u = 0 ∨ u = 1 ∨ u = 2 ∨ u = 3 ∨ u = 4 ∨ u = 5 ∨ u = 6 ∨ u = 7 ∨ u = 8 ∨ u = 9 := by omega
  clear hd h0 h
  rcases hc with rfl | rfl | rfl | rfl | rfl | rfl | rfl | rfl | rfl | rfl
  all_goals
    go_enter Tryz.func67, Tryz.ntmps67
    go_wp2
    go_ret
    exact ⟨rfl, rfl⟩
set_option maxHeartbeats 1000000 in
theorem digits_step (u : Int) (w : World) (D : List UInt8) (h1 : u ≤ 18446744073709551615) (h : ¬ u < 10) (hl : D.length ≤ 20)
    (IH : Hid (∀ (W : World), Calls Tryz.prog 67 #[.int .u64 (u / 10)] W fun e w' => e = .returned (.string ⟨D.toArray⟩) ∧ w' = W))
    (HD : Hid (∀ (d : Nat) (c : UInt8), u.toNat % 10 = d → UInt8.ofNat (48 + d) = c → (⟨D.toArray⟩ : ByteArray) ++ ⟨#[c]⟩ = ⟨(Lib.decDigits u.toNat).toArray⟩)) :
    Calls Tryz.prog 67 #[.int .u64 u] w fun e w' => e = .returned (.string ⟨(Lib.decDigits u.toNat).toArray⟩) ∧ w' = w := by
  generalize (⟨(Lib.decDigits u.toNat).toArray⟩ : ByteArray) = R at HD ⊢
  have hm : u % 10 = 0 ∨ u % 10 = 1 ∨ u % 10 = 2 ∨ u % 10 = 3 ∨ u % 10 = 4 ∨ u % 10 = 5 ∨ u % 10 = 6 ∨ u % 10 = 7 ∨ u % 10 = 8 ∨ u % 10 = 9 := by omega
  rcases hm with hm | hm | hm | hm | hm | hm | hm | hm | hm | hm
  all_goals
    go_enter Tryz.func67, Tryz.ntmps67
    go_wp2_with fail
    refine (IH.out _).mono ?_
    rintro e w1 ⟨rfl, rfl⟩
    go_wp2
    go_ret
    refine ⟨ret_str (HD.out (u % 10).toNat _ (by omega) ?_), rfl⟩
    rw [hm]; rfl
theorem digits_any (k : Nat) : ∀ (u : Int) (w : World), 0 ≤ u → u ≤ 18446744073709551615 → u.toNat ≤ k →
    Calls Tryz.prog 67 #[.int .u64 u] w fun e w' => e = .returned (.string ⟨(Lib.decDigits u.toNat).toArray⟩) ∧ w' = w := by
  induction k with
  | zero => exact fun u w h0 h1 hk => digits_small u w h0 (by omega)
  | succ k ih =>
    intro u w h0 h1 hk
    by_cases h : u < 10
    · exact digits_small u w h0 h
    · have hdiv : (u / 10).toNat = u.toNat / 10 := by omega
      exact digits_step u w (Lib.decDigits (u / 10).toNat) h1 h (dig_len _ (by omega)) (fun W => ih (u / 10) W (by omega) (by omega) (by omega))
        (fun d c hd hc => by rw [hdiv]; exact dig_snoc u.toNat d c (by omega) hd hc)
theorem Digits_any (n : Int) (w : World) (hn : -9223372036854775808 ≤ n ∧ n ≤ 9223372036854775807) :
    Calls Tryz.prog 37 #[.int .i64 n] w fun e w' => e = .returned (.string ⟨(Lib.itoa n).toArray⟩) ∧ w' = w := by
  by_cases h : n < 0
  · have hi : Lib.itoa n = 45 :: Lib.decDigits n.natAbs := by rw [Lib.itoa, if_pos h]
    have hl : (Lib.decDigits n.natAbs).length ≤ 20 := dig_len _ (by omega)
    have hq : ∀ W, Calls Tryz.prog 67 #[.int .u64 (-(n + 1) + 1)] W fun e w' => e = .returned (.string ⟨(Lib.decDigits n.natAbs).toArray⟩) ∧ w' = W := fun W => by
      have := digits_any n.natAbs (-n) W (by omega) (by omega) (by omega)
      rw [show (-n).toNat = n.natAbs from by omega] at this
      rw [show -(n + 1) + 1 = -n from by omega]
      exact this
    have HQ : Hid (∀ W, Calls Tryz.prog 67 #[.int .u64 (-(n + 1) + 1)] W fun e w' => e = .returned (.string ⟨(Lib.decDigits n.natAbs).toArray⟩) ∧ w' = W) := hq
    have HE : Hid ((⟨#[45]⟩ : ByteArray) ++ ⟨(Lib.decDigits n.natAbs).toArray⟩ = ⟨(Lib.itoa n).toArray⟩) := by rw [hi]; rfl
    generalize Lib.decDigits n.natAbs = D at *
    generalize Lib.itoa n = I at *
    clear hq hi
    go_enter Tryz.func37, Tryz.ntmps37
    go_wp2_with fail
    refine (HQ.out _).mono ?_
    rintro e w1 ⟨rfl, rfl⟩
    go_wp2
    go_ret
    exact ⟨ret_str HE.out, rfl⟩
  · have hi : Lib.itoa n = Lib.decDigits n.toNat := by rw [Lib.itoa, if_neg h]
    rw [hi]
    have HQ : Hid (∀ W, Calls Tryz.prog 67 #[.int .u64 n] W fun e w' => e = .returned (.string ⟨(Lib.decDigits n.toNat).toArray⟩) ∧ w' = W) := fun W => digits_any n.toNat n W (by omega) (by omega) (Nat.le_refl _)
    clear hi
    go_enter Tryz.func37, Tryz.ntmps37
    go_wp2_with fail
    refine (HQ.out _).mono ?_
    rintro e w1 ⟨rfl, rfl⟩
    go_wp2
    go_ret
    exact ⟨rfl, rfl⟩
end Go.Proofs.YtggabncpedcmdaaGreatDoor
