/-
  Ref1, Ref5, Ref6, Ref2, RefDo, in one text.
-/
import Derived.Test.YtknibfhoecgjlaaGreatDoorGrAa
import Derived.Lib.ItoaLen
import Derived.Test.YtknibfhoecgjlaaGreatDoorGrAj
import Derived.Test.YtknibfhoecgjlaaGreatDoorGrAk
import Derived.Test.YtknibfhoecgjlaaGreatDoorGrAb
import Derived.Test.YtknibfhoecgjlaaGreatDoorGrAm
import Derived.Deep.RegionWith
import Derived.Deep.DeepCutAuto
import Derived.Deep.QuietTactic
namespace Go.Proofs.YtknibfhoecgjlaaGreatDoor
open Go.RowKit
set_option linter.unusedVariables false

set_option maxHeartbeats 400000 in
theorem refPlain_any (s : ByteArray) (w : World) (hs : s.size ≤ maxLen) :
    Calls Tryz.prog 83 #[.string s] w fun e w' => e = .returned (.bool (plainB s.data.toList)) ∧ w' = w := by
  unfold maxLen at hs
  go_enter Tryz.func83, Tryz.ntmps83
  go_wp2
  go_loop [3] (fun i => ∃ k : Nat, k ≤ s.size ∧ i = .int .i64 k ∧ plainB (s.data.toList.take k) = true) (fun i => s.size - (intOf i).toNat)
  case atStart => exact ⟨0, Nat.zero_le _, rfl, rfl⟩
  case round =>
    obtain ⟨k, hk, rfl, hp⟩ := hrel
    have HP : Hid (plainB (s.data.toList.take k) = true) := hp
    clear hp
    by_cases hlt : k < s.size
    · have HN : Hid (∀ _ : (s[k].toNat : Int) < 32 ∨ 126 < (s[k].toNat : Int), plainB s.data.toList = false) := plain_not s k hlt
      have HT : Hid (plainB (s.data.toList.take (k + 1)) = (plainB (s.data.toList.take k) && (decide (32 ≤ (s[k].toNat : Int)) && decide ((s[k].toNat : Int) ≤ 126)))) := plain_take s k hlt
      go_wp2
      · go_ret
        exact ⟨ret_bool (HN.out (by omega)).symm, rfl⟩
      · go_round
        case rel =>
          refine ⟨k + 1, by omega, by go_num, ?_⟩
          rw [HT.out, HP.out]
          simp only [Bool.true_and, Bool.and_eq_true, decide_eq_true_eq]
          assumption
        case measure => simp [intOf]; omega
      · go_ret
        exact ⟨ret_bool (HN.out (by omega)).symm, rfl⟩
    · have HO := plain_of s k (by omega) HP.out
      go_wp2
      go_ret
      exact ⟨rfl, rfl⟩

set_option maxHeartbeats 1000000 in
theorem refVal_any (t n : Int) (s : ByteArray) (w : World) (hs : s.size ≤ maxLen) :
    Calls Tryz.prog 56 #[.agg #[.int .i64 t, .int .i64 n, .string s]] w fun e w' => e = .returned (.int .i64 (chk t n s.data.toList)) ∧ Below w.heap.size w w' := by
  have hs2 := hs
  unfold maxLen at hs2
  generalize hc : chk t n s.data.toList = c
  have HC : Hid (chk t n s.data.toList = c) := hc
  clear hc
  go_enter Tryz.func56, Tryz.ntmps56
  go_wp2_with (first | (go_at_call 83; refine (refPlain_any _ _ hs).mono ?_; rintro e w' ⟨rfl, rfl⟩))
  all_goals
    go_ret
    refine ⟨?_, by repeat (first | exact Below.refl _ _ | (refine Below.alloc ?_ (by simp) _))⟩
    have hd : s.data.toList.length = s.size := by simp
    have hc := HC.out
    clear HC hs
    rw [chk] at hc
    simp only [Lib.toList_data, bne_iff_ne, bne_eq_false_iff_eq, Bool.not_eq_true', Bool.not_eq_false'] at *
  all_goals
    repeat' split at hc
  all_goals subst hc
  all_goals first | rfl | (exfalso; omega) | (exfalso; simp_all; done) | (exfalso; simp_all; omega)

theorem ret_bi {b : Bool} {k : IntKind} {a c : Int} (h : a = c) : Ending.returned (.tuple #[.bool b, .int k a]) = .returned (.tuple #[.bool b, .int k c]) := by rw [h]
theorem ret_ib {b : Bool} {k : IntKind} {a c : Int} (h : a = c) : Ending.returned (.tuple #[.int k a, .bool b]) = .returned (.tuple #[.int k c, .bool b]) := by rw [h]
theorem parts_neg (n : Int) (w : World) (hn : -9223372036854775808 ≤ n ∧ n < 0) : Calls Tryz.prog 70 #[.int .i64 n] w fun e w' => e = .returned (.tuple #[.bool true, .int .u64 (-n)]) ∧ w' = w := by
  go_enter Tryz.func70, Tryz.ntmps70
  go_wp2
  go_ret2
  exact ⟨ret_bi (by omega), rfl⟩
theorem parts_pos (n : Int) (w : World) (hn : 0 ≤ n ∧ n ≤ 9223372036854775807) : Calls Tryz.prog 70 #[.int .i64 n] w fun e w' => e = .returned (.tuple #[.bool false, .int .u64 n]) ∧ w' = w := by
  go_enter Tryz.func70, Tryz.ntmps70
  go_wp2
  go_ret2
  exact ⟨rfl, rfl⟩
theorem join_neg (m : Int) (w : World) (hm : 0 ≤ m ∧ m ≤ 9223372036854775808) : Calls Tryz.prog 71 #[.bool true, .int .u64 m] w fun e w' => e = .returned (.tuple #[.int .i64 (-m), .bool true]) ∧ w' = w := by
  by_cases h0 : m = 0
  · subst h0
    go_enter Tryz.func71, Tryz.ntmps71
    go_wp2
    go_ret2
    exact ⟨rfl, rfl⟩
  · have h1 : 1 ≤ m := by omega
    have e0 : (m == 0) = false := by simpa using h0
    clear h0
    go_enter Tryz.func71, Tryz.ntmps71
    go_wp2
    go_ret2
    refine ⟨ret_ib ?_, rfl⟩
    first | omega | (unfold wrap64; omega)
theorem join_negx (m : Int) (w : World) (hm : 9223372036854775808 < m ∧ m ≤ 18446744073709551615) : Calls Tryz.prog 71 #[.bool true, .int .u64 m] w fun e w' => e = .returned (.tuple #[.int .i64 0, .bool false]) ∧ w' = w := by
  go_enter Tryz.func71, Tryz.ntmps71
  go_wp2
  go_ret2
  exact ⟨rfl, rfl⟩
theorem join_pos (m : Int) (w : World) (hm : 0 ≤ m ∧ m ≤ 9223372036854775807) : Calls Tryz.prog 71 #[.bool false, .int .u64 m] w fun e w' => e = .returned (.tuple #[.int .i64 m, .bool true]) ∧ w' = w := by
  go_enter Tryz.func71, Tryz.ntmps71
  go_wp2
  go_ret2
  refine ⟨ret_ib ?_, rfl⟩
  first | rfl | omega | (unfold wrap64; omega)
theorem join_posx (m : Int) (w : World) (hm : 9223372036854775807 < m ∧ m ≤ 18446744073709551615) : Calls Tryz.prog 71 #[.bool false, .int .u64 m] w fun e w' => e = .returned (.tuple #[.int .i64 0, .bool false]) ∧ w' = w := by
  go_enter Tryz.func71, Tryz.ntmps71
  go_wp2
  go_ret2
  exact ⟨rfl, rfl⟩

theorem dig_len (u : Nat) (h : u < 18446744073709551616) : (Lib.decDigits u).length ≤ 20 := by rw [Lib.decDigits_length]; exact Lib.nDigits_le20 u h
theorem ret_str {a c : ByteArray} (h : a = c) : Ending.returned (.string a) = .returned (.string c) := by rw [h]
theorem dig_snoc (u : Nat) (d : Nat) (c : UInt8) (h : ¬ u < 10) (hd : u % 10 = d) (hc : UInt8.ofNat (48 + d) = c) : (⟨(Lib.decDigits (u / 10)).toArray⟩ : ByteArray) ++ ⟨#[c]⟩ = ⟨(Lib.decDigits u).toArray⟩ := by
  rw [Lib.decDigits.eq_1 u, dif_neg h, hd, hc]
  rfl
end Go.Proofs.YtknibfhoecgjlaaGreatDoor
namespace Go.Proofs.YtknibfhoecgjlaaGreatDoor
open Go.RowKit
set_option linter.unusedVariables false

theorem div_bd (x y : Int) (hx : 0 ≤ x) (hy : 0 < y) : 0 ≤ x / y ∧ x / y ≤ x := ⟨Int.ediv_nonneg hx (by omega), Int.ediv_le_self _ hx⟩
theorem mod_bd (x y : Int) (hx : 0 ≤ x) (hy : 0 < y) : 0 ≤ x % y ∧ x % y ≤ x := ⟨Int.emod_nonneg _ (by omega), by
  have h1 := Int.mul_ediv_add_emod x y
  have h2 : 0 ≤ y * (x / y) := Int.mul_nonneg (by omega) (Int.ediv_nonneg hx (by omega))
  omega⟩
theorem parts_negx (x : Int) (w : World) (hx : 1 ≤ x ∧ x ≤ 9223372036854775808) : Calls Tryz.prog 70 #[.int .i64 (-x)] w fun e w' => e = .returned (.tuple #[.bool true, .int .u64 x]) ∧ w' = w :=
  (parts_neg (-x) w (by omega)).mono fun e w' h => ⟨by rw [h.1, Int.neg_neg], h.2⟩
set_option maxRecDepth 4000 in
theorem ra_pp (x y : Int) (w : World) (hx : 0 ≤ x ∧ x ≤ 9223372036854775807) (hy : 0 ≤ y ∧ y ≤ 9223372036854775807) (h : x + y ≤ 9223372036854775807) :
    Calls Tryz.prog 44 #[.string { data := #[43] }, .int .i64 x, .int .i64 y] w fun e w' => e = .returned (.tuple #[.int .i64 (x + y), .int .i64 0]) ∧ w' = w := by
  go_enter Tryz.func44, Tryz.ntmps44
  go_wp2_with fail
  refine (parts_pos x _ hx).mono ?_
  rintro e w1 ⟨rfl, rfl⟩
  go_wp2_with fail
  refine (parts_pos y _ hy).mono ?_
  rintro e w1 ⟨rfl, rfl⟩
  go_wp2_with fail
  refine (join_pos (x + y) _ (by omega)).mono ?_
  rintro e w1 ⟨rfl, rfl⟩
  go_wp2
  go_ret2
  exact ⟨rfl, rfl⟩
set_option maxRecDepth 4000 in
theorem ra_ppx (x y : Int) (w : World) (hx : 0 ≤ x ∧ x ≤ 9223372036854775807) (hy : 0 ≤ y ∧ y ≤ 9223372036854775807) (h : 9223372036854775807 < x + y) :
    Calls Tryz.prog 44 #[.string { data := #[43] }, .int .i64 x, .int .i64 y] w fun e w' => e = .returned (.tuple #[.int .i64 (0), .int .i64 9]) ∧ w' = w := by
  go_enter Tryz.func44, Tryz.ntmps44
  go_wp2_with fail
  refine (parts_pos x _ hx).mono ?_
  rintro e w1 ⟨rfl, rfl⟩
  go_wp2_with fail
  refine (parts_pos y _ hy).mono ?_
  rintro e w1 ⟨rfl, rfl⟩
  go_wp2_with fail
  refine (join_posx (x + y) _ (by omega)).mono ?_
  rintro e w1 ⟨rfl, rfl⟩
  go_wp2
  go_ret2
  exact ⟨rfl, rfl⟩
set_option maxRecDepth 4000 in
theorem ra_nn (x y : Int) (w : World) (hx : 1 ≤ x ∧ x ≤ 9223372036854775808) (hy : 1 ≤ y ∧ y ≤ 9223372036854775808) (h : x + y ≤ 9223372036854775808) :
    Calls Tryz.prog 44 #[.string { data := #[43] }, .int .i64 (-x), .int .i64 (-y)] w fun e w' => e = .returned (.tuple #[.int .i64 (-(x + y)), .int .i64 0]) ∧ w' = w := by
  go_enter Tryz.func44, Tryz.ntmps44
  go_wp2_with fail
  refine (parts_negx x _ hx).mono ?_
  rintro e w1 ⟨rfl, rfl⟩
  go_wp2_with fail
  refine (parts_negx y _ hy).mono ?_
  rintro e w1 ⟨rfl, rfl⟩
  go_wp2_with fail
  refine (join_neg (x + y) _ (by omega)).mono ?_
  rintro e w1 ⟨rfl, rfl⟩
  go_wp2
  go_ret2
  exact ⟨rfl, rfl⟩
set_option maxRecDepth 4000 in
theorem ra_nnx (x y : Int) (w : World) (hx : 1 ≤ x ∧ x ≤ 9223372036854775808) (hy : 1 ≤ y ∧ y ≤ 9223372036854775808) (h : 9223372036854775808 < x + y) (h' : x + y ≤ 18446744073709551615) :
    Calls Tryz.prog 44 #[.string { data := #[43] }, .int .i64 (-x), .int .i64 (-y)] w fun e w' => e = .returned (.tuple #[.int .i64 (0), .int .i64 9]) ∧ w' = w := by
  go_enter Tryz.func44, Tryz.ntmps44
  go_wp2_with fail
  refine (parts_negx x _ hx).mono ?_
  rintro e w1 ⟨rfl, rfl⟩
  go_wp2_with fail
  refine (parts_negx y _ hy).mono ?_
  rintro e w1 ⟨rfl, rfl⟩
  go_wp2_with fail
  refine (join_negx (x + y) _ (by omega)).mono ?_
  rintro e w1 ⟨rfl, rfl⟩
  go_wp2
  go_ret2
  exact ⟨rfl, rfl⟩
set_option maxRecDepth 4000 in
theorem ra_pn1 (x y : Int) (w : World) (hx : 0 ≤ x ∧ x ≤ 9223372036854775807) (hy : 1 ≤ y ∧ y ≤ 9223372036854775808) (h : y ≤ x) :
    Calls Tryz.prog 44 #[.string { data := #[43] }, .int .i64 x, .int .i64 (-y)] w fun e w' => e = .returned (.tuple #[.int .i64 (x - y), .int .i64 0]) ∧ w' = w := by
  go_enter Tryz.func44, Tryz.ntmps44
  go_wp2_with fail
  refine (parts_pos x _ hx).mono ?_
  rintro e w1 ⟨rfl, rfl⟩
  go_wp2_with fail
  refine (parts_negx y _ hy).mono ?_
  rintro e w1 ⟨rfl, rfl⟩
  go_wp2_with fail
  refine (join_pos (x - y) _ (by omega)).mono ?_
  rintro e w1 ⟨rfl, rfl⟩
  go_wp2
  go_ret2
  exact ⟨rfl, rfl⟩
set_option maxRecDepth 4000 in
theorem ra_pn2 (x y : Int) (w : World) (hx : 0 ≤ x ∧ x ≤ 9223372036854775807) (hy : 1 ≤ y ∧ y ≤ 9223372036854775808) (h : x < y) :
    Calls Tryz.prog 44 #[.string { data := #[43] }, .int .i64 x, .int .i64 (-y)] w fun e w' => e = .returned (.tuple #[.int .i64 (-(y - x)), .int .i64 0]) ∧ w' = w := by
  go_enter Tryz.func44, Tryz.ntmps44
  go_wp2_with fail
  refine (parts_pos x _ hx).mono ?_
  rintro e w1 ⟨rfl, rfl⟩
  go_wp2_with fail
  refine (parts_negx y _ hy).mono ?_
  rintro e w1 ⟨rfl, rfl⟩
  go_wp2_with fail
  refine (join_neg (y - x) _ (by omega)).mono ?_
  rintro e w1 ⟨rfl, rfl⟩
  go_wp2
  go_ret2
  exact ⟨rfl, rfl⟩
set_option maxRecDepth 4000 in
theorem ra_np1 (x y : Int) (w : World) (hx : 1 ≤ x ∧ x ≤ 9223372036854775808) (hy : 0 ≤ y ∧ y ≤ 9223372036854775807) (h : y ≤ x) :
    Calls Tryz.prog 44 #[.string { data := #[43] }, .int .i64 (-x), .int .i64 y] w fun e w' => e = .returned (.tuple #[.int .i64 (-(x - y)), .int .i64 0]) ∧ w' = w := by
  go_enter Tryz.func44, Tryz.ntmps44
  go_wp2_with fail
  refine (parts_negx x _ hx).mono ?_
  rintro e w1 ⟨rfl, rfl⟩
  go_wp2_with fail
  refine (parts_pos y _ hy).mono ?_
  rintro e w1 ⟨rfl, rfl⟩
  go_wp2_with fail
  refine (join_neg (x - y) _ (by omega)).mono ?_
  rintro e w1 ⟨rfl, rfl⟩
  go_wp2
  go_ret2
  exact ⟨rfl, rfl⟩
set_option maxRecDepth 4000 in
theorem ra_np2 (x y : Int) (w : World) (hx : 1 ≤ x ∧ x ≤ 9223372036854775808) (hy : 0 ≤ y ∧ y ≤ 9223372036854775807) (h : x < y) :
    Calls Tryz.prog 44 #[.string { data := #[43] }, .int .i64 (-x), .int .i64 y] w fun e w' => e = .returned (.tuple #[.int .i64 (y - x), .int .i64 0]) ∧ w' = w := by
  go_enter Tryz.func44, Tryz.ntmps44
  go_wp2_with fail
  refine (parts_negx x _ hx).mono ?_
  rintro e w1 ⟨rfl, rfl⟩
  go_wp2_with fail
  refine (parts_pos y _ hy).mono ?_
  rintro e w1 ⟨rfl, rfl⟩
  go_wp2_with fail
  refine (join_pos (y - x) _ (by omega)).mono ?_
  rintro e w1 ⟨rfl, rfl⟩
  go_wp2
  go_ret2
  exact ⟨rfl, rfl⟩
set_option maxRecDepth 4000 in
theorem rs_p0 (x y : Int) (w : World) (hx : 0 ≤ x ∧ x ≤ 9223372036854775807) (hy : 0 ≤ y ∧ y ≤ 9223372036854775807) (h : y = 0) :
    Calls Tryz.prog 44 #[.string { data := #[45] }, .int .i64 x, .int .i64 y] w fun e w' => e = .returned (.tuple #[.int .i64 (x), .int .i64 0]) ∧ w' = w := by
  subst h
  go_enter Tryz.func44, Tryz.ntmps44
  go_wp2_with fail
  refine (parts_pos x _ hx).mono ?_
  rintro e w1 ⟨rfl, rfl⟩
  go_wp2_with fail
  refine (parts_pos 0 _ (by decide)).mono ?_
  rintro e w1 ⟨rfl, rfl⟩
  go_wp2_with fail
  refine (join_pos (x) _ (by omega)).mono ?_
  rintro e w1 ⟨rfl, rfl⟩
  go_wp2
  go_ret2
  exact ⟨rfl, rfl⟩
set_option maxRecDepth 4000 in
theorem rs_n0 (x y : Int) (w : World) (hx : 1 ≤ x ∧ x ≤ 9223372036854775808) (hy : 0 ≤ y ∧ y ≤ 9223372036854775807) (h : y = 0) :
    Calls Tryz.prog 44 #[.string { data := #[45] }, .int .i64 (-x), .int .i64 y] w fun e w' => e = .returned (.tuple #[.int .i64 (-x), .int .i64 0]) ∧ w' = w := by
  subst h
  go_enter Tryz.func44, Tryz.ntmps44
  go_wp2_with fail
  refine (parts_negx x _ hx).mono ?_
  rintro e w1 ⟨rfl, rfl⟩
  go_wp2_with fail
  refine (parts_pos 0 _ (by decide)).mono ?_
  rintro e w1 ⟨rfl, rfl⟩
  go_wp2_with fail
  refine (join_neg (x) _ (by omega)).mono ?_
  rintro e w1 ⟨rfl, rfl⟩
  go_wp2
  go_ret2
  exact ⟨rfl, rfl⟩
set_option maxRecDepth 4000 in
theorem rs_pp1 (x y : Int) (w : World) (hx : 0 ≤ x ∧ x ≤ 9223372036854775807) (hy : 0 ≤ y ∧ y ≤ 9223372036854775807) (h0 : 0 < y) (h : y ≤ x) :
    Calls Tryz.prog 44 #[.string { data := #[45] }, .int .i64 x, .int .i64 y] w fun e w' => e = .returned (.tuple #[.int .i64 (x - y), .int .i64 0]) ∧ w' = w := by
  go_enter Tryz.func44, Tryz.ntmps44
  go_wp2_with fail
  refine (parts_pos x _ hx).mono ?_
  rintro e w1 ⟨rfl, rfl⟩
  go_wp2_with fail
  refine (parts_pos y _ hy).mono ?_
  rintro e w1 ⟨rfl, rfl⟩
  go_wp2_with fail
  refine (join_pos (x - y) _ (by omega)).mono ?_
  rintro e w1 ⟨rfl, rfl⟩
  go_wp2
  go_ret2
  exact ⟨rfl, rfl⟩
set_option maxRecDepth 4000 in
theorem rs_pp2 (x y : Int) (w : World) (hx : 0 ≤ x ∧ x ≤ 9223372036854775807) (hy : 0 ≤ y ∧ y ≤ 9223372036854775807) (h0 : 0 < y) (h : x < y) :
    Calls Tryz.prog 44 #[.string { data := #[45] }, .int .i64 x, .int .i64 y] w fun e w' => e = .returned (.tuple #[.int .i64 (-(y - x)), .int .i64 0]) ∧ w' = w := by
  go_enter Tryz.func44, Tryz.ntmps44
  go_wp2_with fail
  refine (parts_pos x _ hx).mono ?_
  rintro e w1 ⟨rfl, rfl⟩
  go_wp2_with fail
  refine (parts_pos y _ hy).mono ?_
  rintro e w1 ⟨rfl, rfl⟩
  go_wp2_with fail
  refine (join_neg (y - x) _ (by omega)).mono ?_
  rintro e w1 ⟨rfl, rfl⟩
  go_wp2
  go_ret2
  exact ⟨rfl, rfl⟩
set_option maxRecDepth 4000 in
theorem rs_np (x y : Int) (w : World) (hx : 1 ≤ x ∧ x ≤ 9223372036854775808) (hy : 0 ≤ y ∧ y ≤ 9223372036854775807) (h0 : 0 < y) (h : x + y ≤ 9223372036854775808) :
    Calls Tryz.prog 44 #[.string { data := #[45] }, .int .i64 (-x), .int .i64 y] w fun e w' => e = .returned (.tuple #[.int .i64 (-(x + y)), .int .i64 0]) ∧ w' = w := by
  go_enter Tryz.func44, Tryz.ntmps44
  go_wp2_with fail
  refine (parts_negx x _ hx).mono ?_
  rintro e w1 ⟨rfl, rfl⟩
  go_wp2_with fail
  refine (parts_pos y _ hy).mono ?_
  rintro e w1 ⟨rfl, rfl⟩
  go_wp2_with fail
  refine (join_neg (x + y) _ (by omega)).mono ?_
  rintro e w1 ⟨rfl, rfl⟩
  go_wp2
  go_ret2
  exact ⟨rfl, rfl⟩
set_option maxRecDepth 4000 in
theorem rs_npx (x y : Int) (w : World) (hx : 1 ≤ x ∧ x ≤ 9223372036854775808) (hy : 0 ≤ y ∧ y ≤ 9223372036854775807) (h0 : 0 < y) (h : 9223372036854775808 < x + y) :
    Calls Tryz.prog 44 #[.string { data := #[45] }, .int .i64 (-x), .int .i64 y] w fun e w' => e = .returned (.tuple #[.int .i64 (0), .int .i64 9]) ∧ w' = w := by
  go_enter Tryz.func44, Tryz.ntmps44
  go_wp2_with fail
  refine (parts_negx x _ hx).mono ?_
  rintro e w1 ⟨rfl, rfl⟩
  go_wp2_with fail
  refine (parts_pos y _ hy).mono ?_
  rintro e w1 ⟨rfl, rfl⟩
  go_wp2_with fail
  refine (join_negx (x + y) _ (by omega)).mono ?_
  rintro e w1 ⟨rfl, rfl⟩
  go_wp2
  go_ret2
  exact ⟨rfl, rfl⟩
set_option maxRecDepth 4000 in
theorem rs_pn (x y : Int) (w : World) (hx : 0 ≤ x ∧ x ≤ 9223372036854775807) (hy : 1 ≤ y ∧ y ≤ 9223372036854775808) (h0 : 0 < y) (h : x + y ≤ 9223372036854775807) :
    Calls Tryz.prog 44 #[.string { data := #[45] }, .int .i64 x, .int .i64 (-y)] w fun e w' => e = .returned (.tuple #[.int .i64 (x + y), .int .i64 0]) ∧ w' = w := by
  go_enter Tryz.func44, Tryz.ntmps44
  go_wp2_with fail
  refine (parts_pos x _ hx).mono ?_
  rintro e w1 ⟨rfl, rfl⟩
  go_wp2_with fail
  refine (parts_negx y _ hy).mono ?_
  rintro e w1 ⟨rfl, rfl⟩
  go_wp2_with fail
  refine (join_pos (x + y) _ (by omega)).mono ?_
  rintro e w1 ⟨rfl, rfl⟩
  go_wp2
  go_ret2
  exact ⟨rfl, rfl⟩
set_option maxRecDepth 4000 in
theorem rs_pnx (x y : Int) (w : World) (hx : 0 ≤ x ∧ x ≤ 9223372036854775807) (hy : 1 ≤ y ∧ y ≤ 9223372036854775808) (h0 : 0 < y) (h : 9223372036854775807 < x + y) :
    Calls Tryz.prog 44 #[.string { data := #[45] }, .int .i64 x, .int .i64 (-y)] w fun e w' => e = .returned (.tuple #[.int .i64 (0), .int .i64 9]) ∧ w' = w := by
  go_enter Tryz.func44, Tryz.ntmps44
  go_wp2_with fail
  refine (parts_pos x _ hx).mono ?_
  rintro e w1 ⟨rfl, rfl⟩
  go_wp2_with fail
  refine (parts_negx y _ hy).mono ?_
  rintro e w1 ⟨rfl, rfl⟩
  go_wp2_with fail
  refine (join_posx (x + y) _ (by omega)).mono ?_
  rintro e w1 ⟨rfl, rfl⟩
  go_wp2
  go_ret2
  exact ⟨rfl, rfl⟩
set_option maxRecDepth 4000 in
theorem rs_nn1 (x y : Int) (w : World) (hx : 1 ≤ x ∧ x ≤ 9223372036854775808) (hy : 1 ≤ y ∧ y ≤ 9223372036854775808) (h0 : 0 < y) (h : y ≤ x) :
    Calls Tryz.prog 44 #[.string { data := #[45] }, .int .i64 (-x), .int .i64 (-y)] w fun e w' => e = .returned (.tuple #[.int .i64 (-(x - y)), .int .i64 0]) ∧ w' = w := by
  go_enter Tryz.func44, Tryz.ntmps44
  go_wp2_with fail
  refine (parts_negx x _ hx).mono ?_
  rintro e w1 ⟨rfl, rfl⟩
  go_wp2_with fail
  refine (parts_negx y _ hy).mono ?_
  rintro e w1 ⟨rfl, rfl⟩
  go_wp2_with fail
  refine (join_neg (x - y) _ (by omega)).mono ?_
  rintro e w1 ⟨rfl, rfl⟩
  go_wp2
  go_ret2
  exact ⟨rfl, rfl⟩
set_option maxRecDepth 4000 in
theorem rs_nn2 (x y : Int) (w : World) (hx : 1 ≤ x ∧ x ≤ 9223372036854775808) (hy : 1 ≤ y ∧ y ≤ 9223372036854775808) (h0 : 0 < y) (h : x < y) :
    Calls Tryz.prog 44 #[.string { data := #[45] }, .int .i64 (-x), .int .i64 (-y)] w fun e w' => e = .returned (.tuple #[.int .i64 (y - x), .int .i64 0]) ∧ w' = w := by
  go_enter Tryz.func44, Tryz.ntmps44
  go_wp2_with fail
  refine (parts_negx x _ hx).mono ?_
  rintro e w1 ⟨rfl, rfl⟩
  go_wp2_with fail
  refine (parts_negx y _ hy).mono ?_
  rintro e w1 ⟨rfl, rfl⟩
  go_wp2_with fail
  refine (join_pos (y - x) _ (by omega)).mono ?_
  rintro e w1 ⟨rfl, rfl⟩
  go_wp2
  go_ret2
  exact ⟨rfl, rfl⟩
set_option maxRecDepth 4000 in
theorem rd_pp (x y : Int) (w : World) (hx : 0 ≤ x ∧ x ≤ 9223372036854775807) (hy : 0 ≤ y ∧ y ≤ 9223372036854775807) (h0 : 0 < y) (hm : x / y ≤ 9223372036854775807) :
    Calls Tryz.prog 44 #[.string { data := #[47] }, .int .i64 x, .int .i64 y] w fun e w' => e = .returned (.tuple #[.int .i64 (x / y), .int .i64 0]) ∧ w' = w := by
  have hq0 : 0 ≤ x / y ∧ x / y ≤ x := div_bd x y (by omega) (by omega)
  go_enter Tryz.func44, Tryz.ntmps44
  go_wp2_with fail
  refine (parts_pos x _ hx).mono ?_
  rintro e w1 ⟨rfl, rfl⟩
  go_wp2_with fail
  refine (parts_pos y _ hy).mono ?_
  rintro e w1 ⟨rfl, rfl⟩
  go_wp2_with fail
  refine (join_pos (x / y) _ (by omega)).mono ?_
  rintro e w1 ⟨rfl, rfl⟩
  go_wp2
  go_ret2
  exact ⟨rfl, rfl⟩
set_option maxRecDepth 4000 in
theorem rd_pn (x y : Int) (w : World) (hx : 0 ≤ x ∧ x ≤ 9223372036854775807) (hy : 1 ≤ y ∧ y ≤ 9223372036854775808) (h0 : 0 < y) :
    Calls Tryz.prog 44 #[.string { data := #[47] }, .int .i64 x, .int .i64 (-y)] w fun e w' => e = .returned (.tuple #[.int .i64 (-(x / y)), .int .i64 0]) ∧ w' = w := by
  have hq0 : 0 ≤ x / y ∧ x / y ≤ x := div_bd x y (by omega) (by omega)
  go_enter Tryz.func44, Tryz.ntmps44
  go_wp2_with fail
  refine (parts_pos x _ hx).mono ?_
  rintro e w1 ⟨rfl, rfl⟩
  go_wp2_with fail
  refine (parts_negx y _ hy).mono ?_
  rintro e w1 ⟨rfl, rfl⟩
  go_wp2_with fail
  refine (join_neg (x / y) _ (by omega)).mono ?_
  rintro e w1 ⟨rfl, rfl⟩
  go_wp2
  go_ret2
  exact ⟨rfl, rfl⟩
set_option maxRecDepth 4000 in
theorem rd_np (x y : Int) (w : World) (hx : 1 ≤ x ∧ x ≤ 9223372036854775808) (hy : 0 ≤ y ∧ y ≤ 9223372036854775807) (h0 : 0 < y) :
    Calls Tryz.prog 44 #[.string { data := #[47] }, .int .i64 (-x), .int .i64 y] w fun e w' => e = .returned (.tuple #[.int .i64 (-(x / y)), .int .i64 0]) ∧ w' = w := by
  have hq0 : 0 ≤ x / y ∧ x / y ≤ x := div_bd x y (by omega) (by omega)
  go_enter Tryz.func44, Tryz.ntmps44
  go_wp2_with fail
  refine (parts_negx x _ hx).mono ?_
  rintro e w1 ⟨rfl, rfl⟩
  go_wp2_with fail
  refine (parts_pos y _ hy).mono ?_
  rintro e w1 ⟨rfl, rfl⟩
  go_wp2_with fail
  refine (join_neg (x / y) _ (by omega)).mono ?_
  rintro e w1 ⟨rfl, rfl⟩
  go_wp2
  go_ret2
  exact ⟨rfl, rfl⟩
set_option maxRecDepth 4000 in
theorem rd_nn (x y : Int) (w : World) (hx : 1 ≤ x ∧ x ≤ 9223372036854775808) (hy : 1 ≤ y ∧ y ≤ 9223372036854775808) (h0 : 0 < y) (hm : x / y ≤ 9223372036854775807) :
    Calls Tryz.prog 44 #[.string { data := #[47] }, .int .i64 (-x), .int .i64 (-y)] w fun e w' => e = .returned (.tuple #[.int .i64 (x / y), .int .i64 0]) ∧ w' = w := by
  have hq0 : 0 ≤ x / y ∧ x / y ≤ x := div_bd x y (by omega) (by omega)
  go_enter Tryz.func44, Tryz.ntmps44
  go_wp2_with fail
  refine (parts_negx x _ hx).mono ?_
  rintro e w1 ⟨rfl, rfl⟩
  go_wp2_with fail
  refine (parts_negx y _ hy).mono ?_
  rintro e w1 ⟨rfl, rfl⟩
  go_wp2_with fail
  refine (join_pos (x / y) _ (by omega)).mono ?_
  rintro e w1 ⟨rfl, rfl⟩
  go_wp2
  go_ret2
  exact ⟨rfl, rfl⟩
set_option maxRecDepth 4000 in
theorem rd_nnx (x y : Int) (w : World) (hx : 1 ≤ x ∧ x ≤ 9223372036854775808) (hy : 1 ≤ y ∧ y ≤ 9223372036854775808) (h0 : 0 < y) (hm : 9223372036854775807 < x / y) :
    Calls Tryz.prog 44 #[.string { data := #[47] }, .int .i64 (-x), .int .i64 (-y)] w fun e w' => e = .returned (.tuple #[.int .i64 0, .int .i64 9]) ∧ w' = w := by
  have hq0 : 0 ≤ x / y ∧ x / y ≤ x := div_bd x y (by omega) (by omega)
  go_enter Tryz.func44, Tryz.ntmps44
  go_wp2_with fail
  refine (parts_negx x _ hx).mono ?_
  rintro e w1 ⟨rfl, rfl⟩
  go_wp2_with fail
  refine (parts_negx y _ hy).mono ?_
  rintro e w1 ⟨rfl, rfl⟩
  go_wp2_with fail
  refine (join_posx (x / y) _ (by omega)).mono ?_
  rintro e w1 ⟨rfl, rfl⟩
  go_wp2
  go_ret2
  exact ⟨rfl, rfl⟩
set_option maxRecDepth 4000 in
theorem rd_p0 (x y : Int) (w : World) (hx : 0 ≤ x ∧ x ≤ 9223372036854775807) (hy : 0 ≤ y ∧ y ≤ 9223372036854775807) (h : y = 0) :
    Calls Tryz.prog 44 #[.string { data := #[47] }, .int .i64 x, .int .i64 y] w fun e w' => e = .returned (.tuple #[.int .i64 (0), .int .i64 9]) ∧ w' = w := by
  subst h
  go_enter Tryz.func44, Tryz.ntmps44
  go_wp2_with fail
  refine (parts_pos x _ hx).mono ?_
  rintro e w1 ⟨rfl, rfl⟩
  go_wp2_with fail
  refine (parts_pos 0 _ (by decide)).mono ?_
  rintro e w1 ⟨rfl, rfl⟩
  go_wp2
  go_ret2
  exact ⟨rfl, rfl⟩
set_option maxRecDepth 4000 in
theorem rd_n0 (x y : Int) (w : World) (hx : 1 ≤ x ∧ x ≤ 9223372036854775808) (hy : 0 ≤ y ∧ y ≤ 9223372036854775807) (h : y = 0) :
    Calls Tryz.prog 44 #[.string { data := #[47] }, .int .i64 (-x), .int .i64 y] w fun e w' => e = .returned (.tuple #[.int .i64 (0), .int .i64 9]) ∧ w' = w := by
  subst h
  go_enter Tryz.func44, Tryz.ntmps44
  go_wp2_with fail
  refine (parts_negx x _ hx).mono ?_
  rintro e w1 ⟨rfl, rfl⟩
  go_wp2_with fail
  refine (parts_pos 0 _ (by decide)).mono ?_
  rintro e w1 ⟨rfl, rfl⟩
  go_wp2
  go_ret2
  exact ⟨rfl, rfl⟩
set_option maxRecDepth 4000 in
theorem rm_pp (x y : Int) (w : World) (hx : 0 ≤ x ∧ x ≤ 9223372036854775807) (hy : 0 ≤ y ∧ y ≤ 9223372036854775807) (h0 : 0 < y) (hm : x % y ≤ 9223372036854775807) :
    Calls Tryz.prog 44 #[.string { data := #[37] }, .int .i64 x, .int .i64 y] w fun e w' => e = .returned (.tuple #[.int .i64 (x % y), .int .i64 0]) ∧ w' = w := by
  have hq0 : 0 ≤ x % y ∧ x % y ≤ x := mod_bd x y (by omega) (by omega)
  go_enter Tryz.func44, Tryz.ntmps44
  go_wp2_with fail
  refine (parts_pos x _ hx).mono ?_
  rintro e w1 ⟨rfl, rfl⟩
  go_wp2_with fail
  refine (parts_pos y _ hy).mono ?_
  rintro e w1 ⟨rfl, rfl⟩
  go_wp2_with fail
  refine (join_pos (x % y) _ (by omega)).mono ?_
  rintro e w1 ⟨rfl, rfl⟩
  go_wp2
  go_ret2
  exact ⟨rfl, rfl⟩
set_option maxRecDepth 4000 in
theorem rm_pn (x y : Int) (w : World) (hx : 0 ≤ x ∧ x ≤ 9223372036854775807) (hy : 1 ≤ y ∧ y ≤ 9223372036854775808) (h0 : 0 < y) (hm : x % y ≤ 9223372036854775807) :
    Calls Tryz.prog 44 #[.string { data := #[37] }, .int .i64 x, .int .i64 (-y)] w fun e w' => e = .returned (.tuple #[.int .i64 (x % y), .int .i64 0]) ∧ w' = w := by
  have hq0 : 0 ≤ x % y ∧ x % y ≤ x := mod_bd x y (by omega) (by omega)
  go_enter Tryz.func44, Tryz.ntmps44
  go_wp2_with fail
  refine (parts_pos x _ hx).mono ?_
  rintro e w1 ⟨rfl, rfl⟩
  go_wp2_with fail
  refine (parts_negx y _ hy).mono ?_
  rintro e w1 ⟨rfl, rfl⟩
  go_wp2_with fail
  refine (join_pos (x % y) _ (by omega)).mono ?_
  rintro e w1 ⟨rfl, rfl⟩
  go_wp2
  go_ret2
  exact ⟨rfl, rfl⟩
set_option maxRecDepth 4000 in
theorem rm_np (x y : Int) (w : World) (hx : 1 ≤ x ∧ x ≤ 9223372036854775808) (hy : 0 ≤ y ∧ y ≤ 9223372036854775807) (h0 : 0 < y) :
    Calls Tryz.prog 44 #[.string { data := #[37] }, .int .i64 (-x), .int .i64 y] w fun e w' => e = .returned (.tuple #[.int .i64 (-(x % y)), .int .i64 0]) ∧ w' = w := by
  have hq0 : 0 ≤ x % y ∧ x % y ≤ x := mod_bd x y (by omega) (by omega)
  go_enter Tryz.func44, Tryz.ntmps44
  go_wp2_with fail
  refine (parts_negx x _ hx).mono ?_
  rintro e w1 ⟨rfl, rfl⟩
  go_wp2_with fail
  refine (parts_pos y _ hy).mono ?_
  rintro e w1 ⟨rfl, rfl⟩
  go_wp2_with fail
  refine (join_neg (x % y) _ (by omega)).mono ?_
  rintro e w1 ⟨rfl, rfl⟩
  go_wp2
  go_ret2
  exact ⟨rfl, rfl⟩
set_option maxRecDepth 4000 in
theorem rm_nn (x y : Int) (w : World) (hx : 1 ≤ x ∧ x ≤ 9223372036854775808) (hy : 1 ≤ y ∧ y ≤ 9223372036854775808) (h0 : 0 < y) :
    Calls Tryz.prog 44 #[.string { data := #[37] }, .int .i64 (-x), .int .i64 (-y)] w fun e w' => e = .returned (.tuple #[.int .i64 (-(x % y)), .int .i64 0]) ∧ w' = w := by
  have hq0 : 0 ≤ x % y ∧ x % y ≤ x := mod_bd x y (by omega) (by omega)
  go_enter Tryz.func44, Tryz.ntmps44
  go_wp2_with fail
  refine (parts_negx x _ hx).mono ?_
  rintro e w1 ⟨rfl, rfl⟩
  go_wp2_with fail
  refine (parts_negx y _ hy).mono ?_
  rintro e w1 ⟨rfl, rfl⟩
  go_wp2_with fail
  refine (join_neg (x % y) _ (by omega)).mono ?_
  rintro e w1 ⟨rfl, rfl⟩
  go_wp2
  go_ret2
  exact ⟨rfl, rfl⟩
set_option maxRecDepth 4000 in
theorem rm_p0 (x y : Int) (w : World) (hx : 0 ≤ x ∧ x ≤ 9223372036854775807) (hy : 0 ≤ y ∧ y ≤ 9223372036854775807) (h : y = 0) :
    Calls Tryz.prog 44 #[.string { data := #[37] }, .int .i64 x, .int .i64 y] w fun e w' => e = .returned (.tuple #[.int .i64 (0), .int .i64 9]) ∧ w' = w := by
  subst h
  go_enter Tryz.func44, Tryz.ntmps44
  go_wp2_with fail
  refine (parts_pos x _ hx).mono ?_
  rintro e w1 ⟨rfl, rfl⟩
  go_wp2_with fail
  refine (parts_pos 0 _ (by decide)).mono ?_
  rintro e w1 ⟨rfl, rfl⟩
  go_wp2
  go_ret2
  exact ⟨rfl, rfl⟩
set_option maxRecDepth 4000 in
theorem rm_n0 (x y : Int) (w : World) (hx : 1 ≤ x ∧ x ≤ 9223372036854775808) (hy : 0 ≤ y ∧ y ≤ 9223372036854775807) (h : y = 0) :
    Calls Tryz.prog 44 #[.string { data := #[37] }, .int .i64 (-x), .int .i64 y] w fun e w' => e = .returned (.tuple #[.int .i64 (0), .int .i64 9]) ∧ w' = w := by
  subst h
  go_enter Tryz.func44, Tryz.ntmps44
  go_wp2_with fail
  refine (parts_negx x _ hx).mono ?_
  rintro e w1 ⟨rfl, rfl⟩
  go_wp2_with fail
  refine (parts_pos 0 _ (by decide)).mono ?_
  rintro e w1 ⟨rfl, rfl⟩
  go_wp2
  go_ret2
  exact ⟨rfl, rfl⟩
set_option maxRecDepth 4000 in
theorem rt_pp (x y : Int) (w : World) (hx : 0 ≤ x ∧ x ≤ 9223372036854775807) (hy : 0 ≤ y ∧ y ≤ 9223372036854775807) (h0 : 1 ≤ x) (h : y ≤ 9223372036854775808 / x) (hp : 0 ≤ x * y ∧ x * y ≤ 9223372036854775808) (hm : x * y ≤ 9223372036854775807) :
    Calls Tryz.prog 44 #[.string { data := #[42] }, .int .i64 x, .int .i64 y] w fun e w' => e = .returned (.tuple #[.int .i64 (x * y), .int .i64 0]) ∧ w' = w := by
  have e0 : (x != 0) = true := by simp; omega
  go_enter Tryz.func44, Tryz.ntmps44
  go_wp2_with fail
  refine (parts_pos x _ hx).mono ?_
  rintro e w1 ⟨rfl, rfl⟩
  go_wp2_with fail
  refine (parts_pos y _ hy).mono ?_
  rintro e w1 ⟨rfl, rfl⟩
  go_wp2_with fail
  refine (join_pos (x * y) _ (by omega)).mono ?_
  rintro e w1 ⟨rfl, rfl⟩
  go_wp2
  go_ret2
  exact ⟨rfl, rfl⟩
set_option maxRecDepth 4000 in
theorem rt_ppm (x y : Int) (w : World) (hx : 0 ≤ x ∧ x ≤ 9223372036854775807) (hy : 0 ≤ y ∧ y ≤ 9223372036854775807) (h0 : 1 ≤ x) (h : y ≤ 9223372036854775808 / x) (hp : 0 ≤ x * y ∧ x * y ≤ 9223372036854775808) (hm : 9223372036854775807 < x * y) :
    Calls Tryz.prog 44 #[.string { data := #[42] }, .int .i64 x, .int .i64 y] w fun e w' => e = .returned (.tuple #[.int .i64 (0), .int .i64 9]) ∧ w' = w := by
  have e0 : (x != 0) = true := by simp; omega
  go_enter Tryz.func44, Tryz.ntmps44
  go_wp2_with fail
  refine (parts_pos x _ hx).mono ?_
  rintro e w1 ⟨rfl, rfl⟩
  go_wp2_with fail
  refine (parts_pos y _ hy).mono ?_
  rintro e w1 ⟨rfl, rfl⟩
  go_wp2_with fail
  refine (join_posx (x * y) _ (by omega)).mono ?_
  rintro e w1 ⟨rfl, rfl⟩
  go_wp2
  go_ret2
  exact ⟨rfl, rfl⟩
set_option maxRecDepth 4000 in
theorem rt_ppx (x y : Int) (w : World) (hx : 0 ≤ x ∧ x ≤ 9223372036854775807) (hy : 0 ≤ y ∧ y ≤ 9223372036854775807) (h0 : 1 ≤ x) (h : 9223372036854775808 / x < y) :
    Calls Tryz.prog 44 #[.string { data := #[42] }, .int .i64 x, .int .i64 y] w fun e w' => e = .returned (.tuple #[.int .i64 (0), .int .i64 9]) ∧ w' = w := by
  have e0 : (x != 0) = true := by simp; omega
  go_enter Tryz.func44, Tryz.ntmps44
  go_wp2_with fail
  refine (parts_pos x _ hx).mono ?_
  rintro e w1 ⟨rfl, rfl⟩
  go_wp2_with fail
  refine (parts_pos y _ hy).mono ?_
  rintro e w1 ⟨rfl, rfl⟩
  go_wp2
  go_ret2
  exact ⟨rfl, rfl⟩
set_option maxRecDepth 4000 in
theorem rt_pn (x y : Int) (w : World) (hx : 0 ≤ x ∧ x ≤ 9223372036854775807) (hy : 1 ≤ y ∧ y ≤ 9223372036854775808) (h0 : 1 ≤ x) (h : y ≤ 9223372036854775808 / x) (hp : 0 ≤ x * y ∧ x * y ≤ 9223372036854775808) :
    Calls Tryz.prog 44 #[.string { data := #[42] }, .int .i64 x, .int .i64 (-y)] w fun e w' => e = .returned (.tuple #[.int .i64 (-(x * y)), .int .i64 0]) ∧ w' = w := by
  have e0 : (x != 0) = true := by simp; omega
  go_enter Tryz.func44, Tryz.ntmps44
  go_wp2_with fail
  refine (parts_pos x _ hx).mono ?_
  rintro e w1 ⟨rfl, rfl⟩
  go_wp2_with fail
  refine (parts_negx y _ hy).mono ?_
  rintro e w1 ⟨rfl, rfl⟩
  go_wp2_with fail
  refine (join_neg (x * y) _ (by omega)).mono ?_
  rintro e w1 ⟨rfl, rfl⟩
  go_wp2
  go_ret2
  exact ⟨rfl, rfl⟩
set_option maxRecDepth 4000 in
theorem rt_pnx (x y : Int) (w : World) (hx : 0 ≤ x ∧ x ≤ 9223372036854775807) (hy : 1 ≤ y ∧ y ≤ 9223372036854775808) (h0 : 1 ≤ x) (h : 9223372036854775808 / x < y) :
    Calls Tryz.prog 44 #[.string { data := #[42] }, .int .i64 x, .int .i64 (-y)] w fun e w' => e = .returned (.tuple #[.int .i64 (0), .int .i64 9]) ∧ w' = w := by
  have e0 : (x != 0) = true := by simp; omega
  go_enter Tryz.func44, Tryz.ntmps44
  go_wp2_with fail
  refine (parts_pos x _ hx).mono ?_
  rintro e w1 ⟨rfl, rfl⟩
  go_wp2_with fail
  refine (parts_negx y _ hy).mono ?_
  rintro e w1 ⟨rfl, rfl⟩
  go_wp2
  go_ret2
  exact ⟨rfl, rfl⟩
set_option maxRecDepth 4000 in
theorem rt_np (x y : Int) (w : World) (hx : 1 ≤ x ∧ x ≤ 9223372036854775808) (hy : 0 ≤ y ∧ y ≤ 9223372036854775807) (h0 : 1 ≤ x) (h : y ≤ 9223372036854775808 / x) (hp : 0 ≤ x * y ∧ x * y ≤ 9223372036854775808) :
    Calls Tryz.prog 44 #[.string { data := #[42] }, .int .i64 (-x), .int .i64 y] w fun e w' => e = .returned (.tuple #[.int .i64 (-(x * y)), .int .i64 0]) ∧ w' = w := by
  have e0 : (x != 0) = true := by simp; omega
  go_enter Tryz.func44, Tryz.ntmps44
  go_wp2_with fail
  refine (parts_negx x _ hx).mono ?_
  rintro e w1 ⟨rfl, rfl⟩
  go_wp2_with fail
  refine (parts_pos y _ hy).mono ?_
  rintro e w1 ⟨rfl, rfl⟩
  go_wp2_with fail
  refine (join_neg (x * y) _ (by omega)).mono ?_
  rintro e w1 ⟨rfl, rfl⟩
  go_wp2
  go_ret2
  exact ⟨rfl, rfl⟩
set_option maxRecDepth 4000 in
theorem rt_npx (x y : Int) (w : World) (hx : 1 ≤ x ∧ x ≤ 9223372036854775808) (hy : 0 ≤ y ∧ y ≤ 9223372036854775807) (h0 : 1 ≤ x) (h : 9223372036854775808 / x < y) :
    Calls Tryz.prog 44 #[.string { data := #[42] }, .int .i64 (-x), .int .i64 y] w fun e w' => e = .returned (.tuple #[.int .i64 (0), .int .i64 9]) ∧ w' = w := by
  have e0 : (x != 0) = true := by simp; omega
  go_enter Tryz.func44, Tryz.ntmps44
  go_wp2_with fail
  refine (parts_negx x _ hx).mono ?_
  rintro e w1 ⟨rfl, rfl⟩
  go_wp2_with fail
  refine (parts_pos y _ hy).mono ?_
  rintro e w1 ⟨rfl, rfl⟩
  go_wp2
  go_ret2
  exact ⟨rfl, rfl⟩
set_option maxRecDepth 4000 in
theorem rt_nn (x y : Int) (w : World) (hx : 1 ≤ x ∧ x ≤ 9223372036854775808) (hy : 1 ≤ y ∧ y ≤ 9223372036854775808) (h0 : 1 ≤ x) (h : y ≤ 9223372036854775808 / x) (hp : 0 ≤ x * y ∧ x * y ≤ 9223372036854775808) (hm : x * y ≤ 9223372036854775807) :
    Calls Tryz.prog 44 #[.string { data := #[42] }, .int .i64 (-x), .int .i64 (-y)] w fun e w' => e = .returned (.tuple #[.int .i64 (x * y), .int .i64 0]) ∧ w' = w := by
  have e0 : (x != 0) = true := by simp; omega
  go_enter Tryz.func44, Tryz.ntmps44
  go_wp2_with fail
  refine (parts_negx x _ hx).mono ?_
  rintro e w1 ⟨rfl, rfl⟩
  go_wp2_with fail
  refine (parts_negx y _ hy).mono ?_
  rintro e w1 ⟨rfl, rfl⟩
  go_wp2_with fail
  refine (join_pos (x * y) _ (by omega)).mono ?_
  rintro e w1 ⟨rfl, rfl⟩
  go_wp2
  go_ret2
  exact ⟨rfl, rfl⟩
set_option maxRecDepth 4000 in
theorem rt_nnm (x y : Int) (w : World) (hx : 1 ≤ x ∧ x ≤ 9223372036854775808) (hy : 1 ≤ y ∧ y ≤ 9223372036854775808) (h0 : 1 ≤ x) (h : y ≤ 9223372036854775808 / x) (hp : 0 ≤ x * y ∧ x * y ≤ 9223372036854775808) (hm : 9223372036854775807 < x * y) :
    Calls Tryz.prog 44 #[.string { data := #[42] }, .int .i64 (-x), .int .i64 (-y)] w fun e w' => e = .returned (.tuple #[.int .i64 (0), .int .i64 9]) ∧ w' = w := by
  have e0 : (x != 0) = true := by simp; omega
  go_enter Tryz.func44, Tryz.ntmps44
  go_wp2_with fail
  refine (parts_negx x _ hx).mono ?_
  rintro e w1 ⟨rfl, rfl⟩
  go_wp2_with fail
  refine (parts_negx y _ hy).mono ?_
  rintro e w1 ⟨rfl, rfl⟩
  go_wp2_with fail
  refine (join_posx (x * y) _ (by omega)).mono ?_
  rintro e w1 ⟨rfl, rfl⟩
  go_wp2
  go_ret2
  exact ⟨rfl, rfl⟩
set_option maxRecDepth 4000 in
theorem rt_nnx (x y : Int) (w : World) (hx : 1 ≤ x ∧ x ≤ 9223372036854775808) (hy : 1 ≤ y ∧ y ≤ 9223372036854775808) (h0 : 1 ≤ x) (h : 9223372036854775808 / x < y) :
    Calls Tryz.prog 44 #[.string { data := #[42] }, .int .i64 (-x), .int .i64 (-y)] w fun e w' => e = .returned (.tuple #[.int .i64 (0), .int .i64 9]) ∧ w' = w := by
  have e0 : (x != 0) = true := by simp; omega
  go_enter Tryz.func44, Tryz.ntmps44
  go_wp2_with fail
  refine (parts_negx x _ hx).mono ?_
  rintro e w1 ⟨rfl, rfl⟩
  go_wp2_with fail
  refine (parts_negx y _ hy).mono ?_
  rintro e w1 ⟨rfl, rfl⟩
  go_wp2
  go_ret2
  exact ⟨rfl, rfl⟩
set_option maxRecDepth 4000 in
theorem rt_0p (y : Int) (w : World) (hy : 0 ≤ y ∧ y ≤ 9223372036854775807) :
    Calls Tryz.prog 44 #[.string { data := #[42] }, .int .i64 0, .int .i64 y] w fun e w' => e = .returned (.tuple #[.int .i64 0, .int .i64 0]) ∧ w' = w := by
  go_enter Tryz.func44, Tryz.ntmps44
  go_wp2_with fail
  refine (parts_pos 0 _ (by decide)).mono ?_
  rintro e w1 ⟨rfl, rfl⟩
  go_wp2_with fail
  refine (parts_pos y _ hy).mono ?_
  rintro e w1 ⟨rfl, rfl⟩
  go_wp2_with fail
  refine (join_pos 0 _ (by decide)).mono ?_
  rintro e w1 ⟨rfl, rfl⟩
  go_wp2
  go_ret2
  exact ⟨rfl, rfl⟩
set_option maxRecDepth 4000 in
theorem rt_0n (y : Int) (w : World) (hy : 1 ≤ y ∧ y ≤ 9223372036854775808) :
    Calls Tryz.prog 44 #[.string { data := #[42] }, .int .i64 0, .int .i64 (-y)] w fun e w' => e = .returned (.tuple #[.int .i64 0, .int .i64 0]) ∧ w' = w := by
  go_enter Tryz.func44, Tryz.ntmps44
  go_wp2_with fail
  refine (parts_pos 0 _ (by decide)).mono ?_
  rintro e w1 ⟨rfl, rfl⟩
  go_wp2_with fail
  refine (parts_negx y _ hy).mono ?_
  rintro e w1 ⟨rfl, rfl⟩
  go_wp2_with fail
  refine (join_neg 0 _ (by decide)).mono ?_
  rintro e w1 ⟨rfl, rfl⟩
  go_wp2
  go_ret2
  exact ⟨rfl, rfl⟩
set_option maxRecDepth 4000 in
theorem ra_min (w : World) :
    Calls Tryz.prog 44 #[.string { data := #[43] }, .int .i64 (-9223372036854775808), .int .i64 (-9223372036854775808)] w fun e w' => e = .returned (.tuple #[.int .i64 0, .int .i64 9]) ∧ w' = w := by
  go_enter Tryz.func44, Tryz.ntmps44
  go_wp2_with fail
  refine (parts_negx 9223372036854775808 _ (by decide)).mono ?_
  rintro e w1 ⟨rfl, rfl⟩
  go_wp2_with fail
  refine (parts_negx 9223372036854775808 _ (by decide)).mono ?_
  rintro e w1 ⟨rfl, rfl⟩
  go_wp2_with fail
  refine (join_neg 0 _ (by decide)).mono ?_
  rintro e w1 ⟨rfl, rfl⟩
  go_wp2
  go_ret2
  exact ⟨rfl, rfl⟩
theorem parts_some (a : Int) (w : World) (ha : -9223372036854775808 ≤ a ∧ a ≤ 9223372036854775807) : Calls Tryz.prog 70 #[.int .i64 a] w fun e w' => (∃ (b : Bool) (m : Int), e = .returned (.tuple #[.bool b, .int .u64 m])) ∧ w' = w := by
  by_cases h : a < 0
  · exact (parts_neg a w ⟨ha.1, h⟩).mono fun e w' hh => ⟨⟨_, _, hh.1⟩, hh.2⟩
  · exact (parts_pos a w ⟨by omega, ha.2⟩).mono fun e w' hh => ⟨⟨_, _, hh.1⟩, hh.2⟩
set_option maxRecDepth 4000 in
theorem rk_none (op : ByteArray) (a b : Int) (w : World) (ha : -9223372036854775808 ≤ a ∧ a ≤ 9223372036854775807) (hb : -9223372036854775808 ≤ b ∧ b ≤ 9223372036854775807)
    (h1 : op.data.toList ≠ [43]) (h2 : op.data.toList ≠ [45]) (h3 : op.data.toList ≠ [42]) (h4 : op.data.toList ≠ [47]) (h5 : op.data.toList ≠ [37]) :
    Calls Tryz.prog 44 #[.string op, .int .i64 a, .int .i64 b] w fun e w' => e = .returned (.tuple #[.int .i64 0, .int .i64 1]) ∧ w' = w := by
  have q1 : (op.toList == [43]) = false := by rw [Lib.toList_data]; simpa using h1
  have q2 : (op.toList == [45]) = false := by rw [Lib.toList_data]; simpa using h2
  have q3 : (op.toList == [42]) = false := by rw [Lib.toList_data]; simpa using h3
  have q4 : (op.toList == [47]) = false := by rw [Lib.toList_data]; simpa using h4
  have q5 : (op.toList == [37]) = false := by rw [Lib.toList_data]; simpa using h5
  clear h1 h2 h3 h4 h5
  go_enter Tryz.func44, Tryz.ntmps44
  go_wp2_with fail
  refine (parts_some a _ ha).mono ?_
  rintro e w1 ⟨⟨p, x, rfl⟩, rfl⟩
  go_wp2_with fail
  refine (parts_some b _ hb).mono ?_
  rintro e w1 ⟨⟨q, y, rfl⟩, rfl⟩
  go_wp2
  go_ret2
  exact ⟨rfl, rfl⟩
end Go.Proofs.YtknibfhoecgjlaaGreatDoor
namespace Go.Proofs.YtknibfhoecgjlaaGreatDoor
open Go.RowKit
set_option linter.unusedVariables false

/-- What an operation comes to: the number, and the fault. -/
def rkQ (op : List UInt8) (a b : Int) : Int × Int :=
  if op = [43] then (if -9223372036854775808 ≤ a + b ∧ a + b ≤ 9223372036854775807 then (a + b, 0) else (0, 9))
  else if op = [45] then (if -9223372036854775808 ≤ a - b ∧ a - b ≤ 9223372036854775807 then (a - b, 0) else (0, 9))
  else if op = [42] then (if -9223372036854775808 ≤ a * b ∧ a * b ≤ 9223372036854775807 then (a * b, 0) else (0, 9))
  else if op = [47] then (if b = 0 ∨ (a = -9223372036854775808 ∧ b = -1) then (0, 9) else (a.tdiv b, 0))
  else if op = [37] then (if b = 0 then (0, 9) else (a.tmod b, 0))
  else (0, 1)
def RefSays (op : ByteArray) (a b : Int) (r : Int × Int) : Prop :=
  ∀ w : World, Calls Tryz.prog 44 #[.string op, .int .i64 a, .int .i64 b] w fun e w' => e = .returned (.tuple #[.int .i64 r.1, .int .i64 r.2]) ∧ w' = w
theorem says_eq {op : ByteArray} {a b a' b' : Int} {r r' : Int × Int} (h : RefSays op a b r) (ha : a' = a) (hb : b' = b) (hr : r' = r) : RefSays op a' b' r' := by subst ha hb hr; exact h

theorem split (a : Int) (ha : -9223372036854775808 ≤ a ∧ a ≤ 9223372036854775807) : (∃ x, a = x ∧ 0 ≤ x ∧ x ≤ 9223372036854775807) ∨ (∃ x, a = -x ∧ 1 ≤ x ∧ x ≤ 9223372036854775808) := by
  by_cases h : a < 0
  · exact Or.inr ⟨-a, by omega, by omega, by omega⟩
  · exact Or.inl ⟨a, rfl, by omega, by omega⟩
theorem ref_add (a b : Int) (ha : -9223372036854775808 ≤ a ∧ a ≤ 9223372036854775807) (hb : -9223372036854775808 ≤ b ∧ b ≤ 9223372036854775807) : RefSays ⟨#[43]⟩ a b (rkQ [43] a b) := by
  have hv : rkQ [43] a b = if -9223372036854775808 ≤ a + b ∧ a + b ≤ 9223372036854775807 then (a + b, 0) else (0, 9) := by rw [rkQ, if_pos rfl]
  rw [hv]
  rcases split a ha with ⟨x, rfl, hx⟩ | ⟨x, rfl, hx⟩ <;> rcases split b hb with ⟨y, rfl, hy⟩ | ⟨y, rfl, hy⟩
  · by_cases h : a + b ≤ 9223372036854775807
    · exact says_eq (fun w => ra_pp a b w hx hy h) rfl rfl (by rw [if_pos ⟨by omega, h⟩])
    · exact says_eq (fun w => ra_ppx a b w hx hy (by omega)) rfl rfl (by rw [if_neg (by omega)]) (r := (0, 9))
  · by_cases h : y ≤ a
    · exact says_eq (fun w => ra_pn1 a y w hx hy h) rfl rfl (by rw [if_pos (by omega), show a + -y = a - y from by omega]) (r := (a - y, 0))
    · exact says_eq (fun w => ra_pn2 a y w hx hy (by omega)) rfl rfl (by rw [if_pos (by omega), show a + -y = -(y - a) from by omega]) (r := (-(y - a), 0))
  · by_cases h : b ≤ x
    · exact says_eq (fun w => ra_np1 x b w hx hy h) rfl rfl (by rw [if_pos (by omega), show -x + b = -(x - b) from by omega]) (r := (-(x - b), 0))
    · exact says_eq (fun w => ra_np2 x b w hx hy (by omega)) rfl rfl (by rw [if_pos (by omega), show -x + b = b - x from by omega]) (r := (b - x, 0))
  · by_cases h : x + y ≤ 9223372036854775808
    · exact says_eq (fun w => ra_nn x y w hx hy h) rfl rfl (by rw [if_pos (by omega), show -x + -y = -(x + y) from by omega]) (r := (-(x + y), 0))
    · by_cases h' : x + y ≤ 18446744073709551615
      · exact says_eq (fun w => ra_nnx x y w hx hy (by omega) h') rfl rfl (by rw [if_neg (by omega)]) (r := (0, 9))
      · obtain rfl : x = 9223372036854775808 := by omega
        obtain rfl : y = 9223372036854775808 := by omega
        exact says_eq (fun w => ra_min w) rfl rfl (by rw [if_neg (by omega)]) (r := (0, 9))
theorem ref_sub (a b : Int) (ha : -9223372036854775808 ≤ a ∧ a ≤ 9223372036854775807) (hb : -9223372036854775808 ≤ b ∧ b ≤ 9223372036854775807) : RefSays ⟨#[45]⟩ a b (rkQ [45] a b) := by
  have hv : rkQ [45] a b = if -9223372036854775808 ≤ a - b ∧ a - b ≤ 9223372036854775807 then (a - b, 0) else (0, 9) := by rw [rkQ, if_neg (by decide), if_pos rfl]
  rw [hv]
  rcases split a ha with ⟨x, rfl, hx⟩ | ⟨x, rfl, hx⟩ <;> rcases split b hb with ⟨y, rfl, hy⟩ | ⟨y, rfl, hy⟩
  · by_cases h0 : b = 0
    · exact says_eq (fun w => rs_p0 a b w hx hy h0) rfl rfl (by rw [if_pos (by omega), show a - b = a from by omega]) (r := (a, 0))
    · by_cases h : b ≤ a
      · exact says_eq (fun w => rs_pp1 a b w hx hy (by omega) h) rfl rfl (by rw [if_pos (by omega)]) (r := (a - b, 0))
      · exact says_eq (fun w => rs_pp2 a b w hx hy (by omega) (by omega)) rfl rfl (by rw [if_pos (by omega), show a - b = -(b - a) from by omega]) (r := (-(b - a), 0))
  · by_cases h : a + y ≤ 9223372036854775807
    · exact says_eq (fun w => rs_pn a y w hx hy (by omega) h) rfl rfl (by rw [if_pos (by omega), show a - -y = a + y from by omega]) (r := (a + y, 0))
    · exact says_eq (fun w => rs_pnx a y w hx hy (by omega) (by omega)) rfl rfl (by rw [if_neg (by omega)]) (r := (0, 9))
  · by_cases h0 : b = 0
    · exact says_eq (fun w => rs_n0 x b w hx hy h0) rfl rfl (by rw [if_pos (by omega), show -x - b = -x from by omega]) (r := (-x, 0))
    · by_cases h : x + b ≤ 9223372036854775808
      · exact says_eq (fun w => rs_np x b w hx hy (by omega) h) rfl rfl (by rw [if_pos (by omega), show -x - b = -(x + b) from by omega]) (r := (-(x + b), 0))
      · exact says_eq (fun w => rs_npx x b w hx hy (by omega) (by omega)) rfl rfl (by rw [if_neg (by omega)]) (r := (0, 9))
  · by_cases h : y ≤ x
    · exact says_eq (fun w => rs_nn1 x y w hx hy (by omega) h) rfl rfl (by rw [if_pos (by omega), show -x - -y = -(x - y) from by omega]) (r := (-(x - y), 0))
    · exact says_eq (fun w => rs_nn2 x y w hx hy (by omega) (by omega)) rfl rfl (by rw [if_pos (by omega), show -x - -y = y - x from by omega]) (r := (y - x, 0))
theorem mul_le (x y : Int) (hx : 1 ≤ x) (hy : 0 ≤ y) (h : y ≤ 9223372036854775808 / x) : 0 ≤ x * y ∧ x * y ≤ 9223372036854775808 := by
  refine ⟨Int.mul_nonneg (by omega) hy, ?_⟩
  have h1 : x * y ≤ x * (9223372036854775808 / x) := Int.mul_le_mul_of_nonneg_left h (by omega)
  have h2 := Int.mul_ediv_self_le (x := 9223372036854775808) (k := x) (by omega)
  omega
theorem mul_gt (x y : Int) (hx : 1 ≤ x) (h : 9223372036854775808 / x < y) : 9223372036854775808 < x * y := by
  have h1 := Int.lt_mul_ediv_self_add (x := 9223372036854775808) (k := x) (by omega)
  have h2 : x * (9223372036854775808 / x + 1) ≤ x * y := Int.mul_le_mul_of_nonneg_left (by omega) (by omega)
  rw [Int.mul_add, Int.mul_one] at h2
  omega
theorem ref_mul (a b : Int) (ha : -9223372036854775808 ≤ a ∧ a ≤ 9223372036854775807) (hb : -9223372036854775808 ≤ b ∧ b ≤ 9223372036854775807) : RefSays ⟨#[42]⟩ a b (rkQ [42] a b) := by
  have hv : rkQ [42] a b = if -9223372036854775808 ≤ a * b ∧ a * b ≤ 9223372036854775807 then (a * b, 0) else (0, 9) := by rw [rkQ, if_neg (by decide), if_neg (by decide), if_pos rfl]
  rw [hv]
  rcases split a ha with ⟨x, rfl, hx⟩ | ⟨x, rfl, hx⟩ <;> rcases split b hb with ⟨y, rfl, hy⟩ | ⟨y, rfl, hy⟩
  · by_cases h0 : a = 0
    · subst h0
      exact says_eq (fun w => rt_0p b w hy) rfl rfl (by rw [Int.zero_mul, if_pos (by decide)]) (r := (0, 0))
    · by_cases h : b ≤ 9223372036854775808 / a
      · have hp := mul_le a b (by omega) (by omega) h
        by_cases hm : a * b ≤ 9223372036854775807
        · exact says_eq (fun w => rt_pp a b w hx hy (by omega) h hp hm) rfl rfl (by rw [if_pos (by omega)]) (r := (a * b, 0))
        · exact says_eq (fun w => rt_ppm a b w hx hy (by omega) h hp (by omega)) rfl rfl (by rw [if_neg (by omega)]) (r := (0, 9))
      · have hg := mul_gt a b (by omega) (by omega)
        exact says_eq (fun w => rt_ppx a b w hx hy (by omega) (by omega)) rfl rfl (by rw [if_neg (by omega)]) (r := (0, 9))
  · by_cases h0 : a = 0
    · subst h0
      exact says_eq (fun w => rt_0n y w hy) rfl rfl (by rw [Int.zero_mul, if_pos (by decide)]) (r := (0, 0))
    · have e : a * -y = -(a * y) := Int.mul_neg a y
      rw [e]
      by_cases h : y ≤ 9223372036854775808 / a
      · have hp := mul_le a y (by omega) (by omega) h
        exact says_eq (fun w => rt_pn a y w hx hy (by omega) h hp) rfl rfl (by rw [if_pos (by omega)]) (r := (-(a * y), 0))
      · have hg := mul_gt a y (by omega) (by omega)
        exact says_eq (fun w => rt_pnx a y w hx hy (by omega) (by omega)) rfl rfl (by rw [if_neg (by omega)]) (r := (0, 9))
  · have e : -x * b = -(x * b) := Int.neg_mul x b
    rw [e]
    by_cases h : b ≤ 9223372036854775808 / x
    · have hp := mul_le x b (by omega) (by omega) h
      exact says_eq (fun w => rt_np x b w hx hy (by omega) h hp) rfl rfl (by rw [if_pos (by omega)]) (r := (-(x * b), 0))
    · have hg := mul_gt x b (by omega) (by omega)
      exact says_eq (fun w => rt_npx x b w hx hy (by omega) (by omega)) rfl rfl (by rw [if_neg (by omega)]) (r := (0, 9))
  · have e : -x * -y = x * y := Int.neg_mul_neg x y
    rw [e]
    by_cases h : y ≤ 9223372036854775808 / x
    · have hp := mul_le x y (by omega) (by omega) h
      by_cases hm : x * y ≤ 9223372036854775807
      · exact says_eq (fun w => rt_nn x y w hx hy (by omega) h hp hm) rfl rfl (by rw [if_pos (by omega)]) (r := (x * y, 0))
      · exact says_eq (fun w => rt_nnm x y w hx hy (by omega) h hp (by omega)) rfl rfl (by rw [if_neg (by omega)]) (r := (0, 9))
    · have hg := mul_gt x y (by omega) (by omega)
      exact says_eq (fun w => rt_nnx x y w hx hy (by omega) (by omega)) rfl rfl (by rw [if_neg (by omega)]) (r := (0, 9))
theorem ref_div (a b : Int) (ha : -9223372036854775808 ≤ a ∧ a ≤ 9223372036854775807) (hb : -9223372036854775808 ≤ b ∧ b ≤ 9223372036854775807) : RefSays ⟨#[47]⟩ a b (rkQ [47] a b) := by
  have hv : rkQ [47] a b = if b = 0 ∨ (a = -9223372036854775808 ∧ b = -1) then (0, 9) else (a.tdiv b, 0) := by rw [rkQ, if_neg (by decide), if_neg (by decide), if_neg (by decide), if_pos rfl]
  rw [hv]
  rcases split a ha with ⟨x, rfl, hx⟩ | ⟨x, rfl, hx⟩ <;> rcases split b hb with ⟨y, rfl, hy⟩ | ⟨y, rfl, hy⟩
  · by_cases h0 : b = 0
    · exact says_eq (fun w => rd_p0 a b w hx hy h0) rfl rfl (by rw [if_pos (Or.inl h0)]) (r := (0, 9))
    · have hd := div_bd a b (by omega) (by omega)
      exact says_eq (fun w => rd_pp a b w hx hy (by omega) (by omega)) rfl rfl (by rw [if_neg (by omega), Int.tdiv_eq_ediv_of_nonneg (by omega)]) (r := (a / b, 0))
  · exact says_eq (fun w => rd_pn a y w hx hy (by omega)) rfl rfl (by rw [if_neg (by omega), Int.tdiv_neg, Int.tdiv_eq_ediv_of_nonneg (by omega)]) (r := (-(a / y), 0))
  · by_cases h0 : b = 0
    · exact says_eq (fun w => rd_n0 x b w hx hy h0) rfl rfl (by rw [if_pos (Or.inl h0)]) (r := (0, 9))
    · exact says_eq (fun w => rd_np x b w hx hy (by omega)) rfl rfl (by rw [if_neg (by omega), Int.neg_tdiv, Int.tdiv_eq_ediv_of_nonneg (by omega)]) (r := (-(x / b), 0))
  · have hd := div_bd x y (by omega) (by omega)
    by_cases hm : x / y ≤ 9223372036854775807
    · have hnm : ¬ (-x = -9223372036854775808 ∧ -y = -1) := by
        rintro ⟨e1, e2⟩
        obtain rfl : x = 9223372036854775808 := by omega
        obtain rfl : y = 1 := by omega
        revert hm; decide
      exact says_eq (fun w => rd_nn x y w hx hy (by omega) hm) rfl rfl (by rw [if_neg (by omega), Int.neg_tdiv, Int.tdiv_neg, Int.neg_neg, Int.tdiv_eq_ediv_of_nonneg (by omega)]) (r := (x / y, 0))
    · have hx2 : x = 9223372036854775808 := by omega
      have hy1 : y = 1 := by
        rcases Int.lt_or_le 1 y with h2 | h2
        · exfalso
          have h3 := Int.mul_ediv_self_le (x := x) (k := y) (by omega)
          have h4 : 2 * (x / y) ≤ y * (x / y) := Int.mul_le_mul_of_nonneg_right (by omega) hd.1
          omega
        · omega
      exact says_eq (fun w => rd_nnx x y w hx hy (by omega) (by omega)) rfl rfl (by rw [if_pos (Or.inr ⟨by omega, by omega⟩)]) (r := (0, 9))
theorem ref_rem (a b : Int) (ha : -9223372036854775808 ≤ a ∧ a ≤ 9223372036854775807) (hb : -9223372036854775808 ≤ b ∧ b ≤ 9223372036854775807) : RefSays ⟨#[37]⟩ a b (rkQ [37] a b) := by
  have hv : rkQ [37] a b = if b = 0 then (0, 9) else (a.tmod b, 0) := by rw [rkQ, if_neg (by decide), if_neg (by decide), if_neg (by decide), if_neg (by decide), if_pos rfl]
  rw [hv]
  rcases split a ha with ⟨x, rfl, hx⟩ | ⟨x, rfl, hx⟩ <;> rcases split b hb with ⟨y, rfl, hy⟩ | ⟨y, rfl, hy⟩
  · by_cases h0 : b = 0
    · exact says_eq (fun w => rm_p0 a b w hx hy h0) rfl rfl (by rw [if_pos h0]) (r := (0, 9))
    · have hd := mod_bd a b (by omega) (by omega)
      exact says_eq (fun w => rm_pp a b w hx hy (by omega) (by omega)) rfl rfl (by rw [if_neg (by omega), Int.tmod_eq_emod_of_nonneg (by omega)]) (r := (a % b, 0))
  · have hd := mod_bd a y (by omega) (by omega)
    exact says_eq (fun w => rm_pn a y w hx hy (by omega) (by omega)) rfl rfl (by rw [if_neg (by omega), Int.tmod_neg, Int.tmod_eq_emod_of_nonneg (by omega)]) (r := (a % y, 0))
  · by_cases h0 : b = 0
    · exact says_eq (fun w => rm_n0 x b w hx hy h0) rfl rfl (by rw [if_pos h0]) (r := (0, 9))
    · exact says_eq (fun w => rm_np x b w hx hy (by omega)) rfl rfl (by rw [if_neg (by omega), Int.neg_tmod, Int.tmod_eq_emod_of_nonneg (by omega)]) (r := (-(x % b), 0))
  · exact says_eq (fun w => rm_nn x y w hx hy (by omega)) rfl rfl (by rw [if_neg (by omega), Int.neg_tmod, Int.tmod_neg, Int.tmod_eq_emod_of_nonneg (by omega)]) (r := (-(x % y), 0))
end Go.Proofs.YtknibfhoecgjlaaGreatDoor
namespace Go.Proofs.YtknibfhoecgjlaaGreatDoor
open Go.RowKit
set_option linter.unusedVariables false

theorem head_iff (s : ByteArray) (h : 0 < s.size) : s.data.toList.head? = some 48 ↔ (s[0].toNat : Int) = 48 := by
  have hl : 0 < s.data.toList.length := by simpa using h
  have e : s.data.toList.head? = some s[0] := by
    rw [List.head?_eq_getElem?, List.getElem?_eq_getElem hl]; rfl
  rw [e]
  constructor
  · intro h; rw [Option.some.inj h]; rfl
  · intro h
    have : s[0] = 48 := UInt8.toNat_inj.1 (by rw [show (48 : UInt8).toNat = 48 from rfl]; omega)
    rw [this]
theorem all_takeR (s : ByteArray) (k : Nat) (h : k < s.size) : (s.data.toList.take (k + 1)).all digB = ((s.data.toList.take k).all digB && digB s[k]) ∧ val10 (s.data.toList.take (k + 1)) = val10 (s.data.toList.take k) * 10 + (s[k].toNat - 48) := by
  have e : s.data.toList.take (k + 1) = s.data.toList.take k ++ [s[k]] := by
    rw [List.take_succ_eq_append_getElem (by simpa using h)]; rfl
  rw [e]
  exact ⟨by simp [List.all_append], val10_snoc _ _⟩
theorem all_not (s : ByteArray) (k : Nat) (h : k < s.size) (hc : digB s[k] = false) : s.data.toList.all digB = false := by
  rw [List.all_eq_false]
  exact ⟨s[k], by rw [show s[k] = s.data.toList[k]'(by simpa using h) from rfl]; exact List.getElem_mem _, by simp [hc]⟩
theorem dig_false (c : UInt8) (h : (c.toNat : Int) < 48 ∨ 57 < (c.toNat : Int)) : digB c = false := by
  cases hd : digB c with
  | false => rfl
  | true => have := (digB_iff c).1 hd; omega
theorem dig_true (c : UInt8) (h : 48 ≤ (c.toNat : Int) ∧ (c.toNat : Int) ≤ 57) : digB c = true := (digB_iff c).2 (by omega)

def numV (o : Option Nat) : Value := match o with
  | some n => .tuple #[.int .i64 (n : Int), .bool true]
  | none => .tuple #[.int .i64 0, .bool false]
set_option maxHeartbeats 1000000 in
theorem order_int (t n n' : Int) (w : World) :
    Calls Tryz.prog 45 #[.agg #[.int .i64 t, .int .i64 n, .string ⟨#[]⟩], .agg #[.int .i64 t, .int .i64 n', .string ⟨#[]⟩]] w fun e w' => e = .returned (.int .i64 (cmpI n n')) ∧ Below w.heap.size w w' := by
  have hl : Op.bytesLess (⟨#[]⟩ : ByteArray).toList (⟨#[]⟩ : ByteArray).toList = false := by rw [bytesLess_lt]; simp
  have hr := fun W => (run_gtr_str ⟨#[]⟩ ⟨#[]⟩ W).trans (by rw [hl, beq_self_eq_true]; rfl : _ = .ok (.bool false) W)
  by_cases h1 : n < n'
  · have hc : cmpI n n' = -1 := by rw [cmpI, if_pos h1]
    rw [hc]
    clear hc
    go_enter Tryz.func45, Tryz.ntmps45
    go_wp2
    go_ret
    exact ⟨rfl, by repeat (first | exact Below.refl _ _ | (refine Below.alloc ?_ (by first | (simp; done) | (simp; omega)) _))⟩
  · by_cases h2 : n' < n
    · have hc : cmpI n n' = 1 := by rw [cmpI, if_neg h1, if_pos h2]
      rw [hc]
      clear hc
      go_enter Tryz.func45, Tryz.ntmps45
      go_wp2
      go_ret
      exact ⟨rfl, by repeat (first | exact Below.refl _ _ | (refine Below.alloc ?_ (by first | (simp; done) | (simp; omega)) _))⟩
    · have hc : cmpI n n' = 0 := by rw [cmpI, if_neg h1, if_neg h2]
      rw [hc]
      clear hc
      go_enter Tryz.func45, Tryz.ntmps45
      go_wp2
      go_ret
      exact ⟨rfl, by repeat (first | exact Below.refl _ _ | (refine Below.alloc ?_ (by first | (simp; done) | (simp; omega)) _))⟩

set_option maxHeartbeats 1000000 in
theorem order_str (x y : ByteArray) (w : World) :
    Calls Tryz.prog 45 #[.agg #[.int .i64 3, .int .i64 0, .string x], .agg #[.int .i64 3, .int .i64 0, .string y]] w fun e w' => e = .returned (.int .i64 (cmpS x.data.toList y.data.toList)) ∧ Below w.heap.size w w' := by
  by_cases h1 : x.data.toList < y.data.toList
  · have hc : cmpS x.data.toList y.data.toList = -1 := by rw [cmpS, if_pos h1]
    have hl : Op.bytesLess x.toList y.toList = true := by rw [bytesLess_lt, Lib.toList_data, Lib.toList_data]; simpa using h1
    rw [hc]
    clear h1 hc
    go_enter Tryz.func45, Tryz.ntmps45
    go_wp2
    go_ret
    exact ⟨rfl, by repeat (first | exact Below.refl _ _ | (refine Below.alloc ?_ (by first | (simp; done) | (simp; omega)) _))⟩
  · have hl : Op.bytesLess x.toList y.toList = false := by rw [bytesLess_lt, Lib.toList_data, Lib.toList_data]; simpa using h1
    by_cases h2 : y.data.toList < x.data.toList
    · have hc : cmpS x.data.toList y.data.toList = 1 := by rw [cmpS, if_neg h1, if_pos h2]
      have hm : ¬ x.toList = y.toList := by rw [Lib.toList_data, Lib.toList_data]; intro e; rw [e] at h2; exact List.lt_irrefl _ h2
      have hq : (x.toList == y.toList) = false := by simpa using hm
      have hr := fun W => (run_gtr_str x y W).trans (by rw [hl, hq]; rfl : _ = .ok (.bool true) W)
      rw [hc]
      clear h1 h2 hc hm hq
      go_enter Tryz.func45, Tryz.ntmps45
      go_wp2
      go_ret
      exact ⟨rfl, by repeat (first | exact Below.refl _ _ | (refine Below.alloc ?_ (by first | (simp; done) | (simp; omega)) _))⟩
    · have hc : cmpS x.data.toList y.data.toList = 0 := by rw [cmpS, if_neg h1, if_neg h2]
      have hm : x.data.toList = y.data.toList := List.le_antisymm (List.not_lt.1 h2) (List.not_lt.1 h1)
      obtain rfl : x = y := by cases x; cases y; simp_all
      have hr := fun W => (run_gtr_str x x W).trans (by rw [hl, beq_self_eq_true]; rfl : _ = .ok (.bool false) W)
      rw [hc]
      clear h1 h2 hc hm
      go_enter Tryz.func45, Tryz.ntmps45
      go_wp2
      go_ret
      exact ⟨rfl, by repeat (first | exact Below.refl _ _ | (refine Below.alloc ?_ (by first | (simp; done) | (simp; omega)) _))⟩

theorem order_any (t n : Int) (s : ByteArray) (t' n' : Int) (s' : ByteArray) (w : World) (h : cmpE t n s.data.toList t' n' s'.data.toList = 0) :
    Calls Tryz.prog 45 #[.agg #[.int .i64 t, .int .i64 n, .string s], .agg #[.int .i64 t', .int .i64 n', .string s']] w fun e w' => e = .returned (.int .i64 (cmpN t n s.data.toList t' n' s'.data.toList)) ∧ Below w.heap.size w w' := by
  have h1 : chk t n s.data.toList = 0 := Classical.byContradiction fun e => by rw [cmpE, if_pos e] at h; exact e h
  have h2 : chk t' n' s'.data.toList = 0 := Classical.byContradiction fun e => by rw [cmpE, if_neg (by simp [h1]), if_pos e] at h; exact e h
  have h3 : t = t' := Classical.byContradiction fun e => by rw [cmpE, if_neg (by simp [h1]), if_neg (by simp [h2]), if_pos e] at h; exact absurd h (by decide)
  subst h3
  have hN : cmpN t n s.data.toList t n' s'.data.toList = if t = 3 then cmpS s.data.toList s'.data.toList else cmpI n n' := by rw [cmpN, if_neg (by simp [h])]
  rw [hN]
  by_cases e3 : t = 3
  · subst e3
    obtain rfl : n = 0 := by rcases chk_type h1 with ⟨e, _⟩ | ⟨e, _⟩ | ⟨_, e, _⟩ <;> first | exact e | exact absurd e (by decide)
    obtain rfl : n' = 0 := by rcases chk_type h2 with ⟨e, _⟩ | ⟨e, _⟩ | ⟨_, e, _⟩ <;> first | exact e | exact absurd e (by decide)
    rw [if_pos rfl]
    exact order_str s s' w
  · have e1 : s.data.toList = [] := by rcases chk_type h1 with ⟨_, e⟩ | ⟨_, e, _⟩ | ⟨e, _⟩ <;> first | exact e | exact absurd e e3
    have e2 : s'.data.toList = [] := by rcases chk_type h2 with ⟨_, e⟩ | ⟨_, e, _⟩ | ⟨e, _⟩ <;> first | exact e | exact absurd e e3
    obtain rfl : s = ⟨#[]⟩ := by cases s; simp_all
    obtain rfl : s' = ⟨#[]⟩ := by cases s'; simp_all
    rw [if_neg e3]
    exact order_int t n n' w
end Go.Proofs.YtknibfhoecgjlaaGreatDoor
namespace Go.Proofs.YtknibfhoecgjlaaGreatDoor
open Go.RowKit
set_option linter.unusedVariables false

theorem refTruth_any (B : Bool) (w : World) :
    Calls Tryz.prog 43 #[.bool B] w fun e w' => e = .returned (.agg #[.int .i64 2, .int .i64 (if B = true then 1 else 0), .string ⟨#[]⟩]) ∧ Below w.heap.size w w' := by
  cases B
  · go_enter Tryz.func43, Tryz.ntmps43
    go_wp2
    refine bodyPost_ret (v := .agg #[.int .i64 2, .int .i64 0, .string ⟨#[]⟩]) (by simp [results, Tryz.results43, go_sem]) rfl ⟨rfl, ?_⟩
    exact (Below.refl _ w).alloc (Nat.le_refl _) _
  · go_enter Tryz.func43, Tryz.ntmps43
    go_wp2
    refine bodyPost_ret (v := .agg #[.int .i64 2, .int .i64 1, .string ⟨#[]⟩]) (by simp [results, Tryz.results43, go_sem]) rfl ⟨rfl, ?_⟩
    exact (Below.refl _ w).alloc (Nat.le_refl _) _
/-- A value of three cells, read as one. -/
theorem refRk (op : ByteArray) (a b : Int) (ho : ops5.contains op.data.toList = true) (ha : inB a) (hb : inB b) : RefSays op a b (rkP op.data.toList a b) := by
  simp only [ops5, List.contains_cons, List.contains_nil, Bool.or_false, Bool.or_eq_true, beq_iff_eq] at ho
  obtain ⟨⟨l⟩⟩ := op
  simp only at ho ⊢
  rcases ho with rfl | rfl | rfl | rfl | rfl
  · exact says_eq (ref_add a b ha hb) rfl rfl rfl
  · exact says_eq (ref_sub a b ha hb) rfl rfl rfl
  · exact says_eq (ref_mul a b ha hb) rfl rfl rfl
  · exact says_eq (ref_div a b ha hb) rfl rfl rfl
  · exact says_eq (ref_rem a b ha hb) rfl rfl rfl
theorem rkP_form {op : List UInt8} {a b : Int} {t k : Int} {s : ByteArray} {e : Int} (h : rkV op a b = ((t, k, s), e)) (ha : inB a) (hb : inB b) : ∃ n, rkP op a b = (n, e) ∧ ((e = 0 ∧ t = 1 ∧ k = n ∧ s = ⟨#[]⟩) ∨ (e = 9 ∧ t = 0 ∧ k = 0 ∧ s = ⟨#[]⟩)) := by
  rw [rkV] at h
  rcases rkP_bd op a b ha hb with ⟨h0, _⟩ | h9
  · rw [if_neg (by simpa using h0)] at h
    simp only [Prod.mk.injEq] at h
    obtain ⟨⟨rfl, rfl, rfl⟩, rfl⟩ := h
    exact ⟨(rkP op a b).1, Prod.ext rfl h0, .inl ⟨rfl, rfl, rfl, rfl⟩⟩
  · rw [h9, if_pos (by decide)] at h
    simp only [noV, Prod.mk.injEq] at h
    obtain ⟨⟨rfl, rfl, rfl⟩, rfl⟩ := h
    exact ⟨0, h9, .inr ⟨rfl, rfl, rfl, rfl⟩⟩
set_option maxRecDepth 20000 in
set_option maxHeartbeats 1000000 in
theorem rd_or (b off c n : Nat) (hn : 2 ≤ n) (t0 n0 t1 n1 : Int) (s0 s1 : ByteArray) (w : World) (hb : b < w.heap.size) (h0 : One w b off t0 n0 s0) (h1 : One w b (off + 3) t1 n1 s1) (N : Int) (hN : (if (n0 == 1 || n1 == 1) = true then (1 : Int) else 0) = N) :
    Calls Tryz.prog 21 #[.string ⟨#[111, 114]⟩, .slice (some ⟨b, off, none⟩) n c] w fun e w' => e = .returned (.tuple #[.agg #[.int .i64 2, .int .i64 N, .string ⟨#[]⟩], .int .i64 0]) ∧ Below w.heap.size w w' := by
  obtain ⟨b1, box⟩ := box_res w
  have hbn : b < (w.alloc (.cells #[.int .i64 0, .int .i64 0, .string ⟨#[]⟩] 23)).heap.size := by simp; omega
  obtain ⟨e0, e1, e2⟩ := h0.on hb b1
  obtain ⟨e3, e4, e5⟩ := h1.on hb b1
  have hz1 : (1 : Int) < (n : Int) := by omega
  have hz0 : (0 : Int) < (n : Int) := by omega
  by_cases q0 : n0 = 1
  · have qb : (n0 == 1) = true := by simpa using q0
    rw [qb] at hN
    have cT := refTruth_any true
    subst hN
    simp only [if_true, Bool.true_or] at cT ⊢
    clear q0
    go_enter Tryz.func21, Tryz.ntmps21
    go_wp2_with fail
    refine (cT _).mono ?_
    rintro e w3 ⟨rfl, b4⟩
    obtain ⟨⟨f0, f1, f2, ff, hl⟩, b5⟩ := box w3 (b4.mono (by simp))
    clear box b4 b1
    go_wp2
    refine bodyPost_ret (v := .tuple #[.agg #[.int .i64 2, .int .i64 1, .string ⟨#[]⟩], .int .i64 0]) (by simp [results, Tryz.results21, go_sem, World.cell?_setCell_other, World.cell?_setCell_same, f0, f1, f2]) rfl ⟨rfl, ?_⟩
    exact below3 b5 (Nat.le_refl _) _ _ _
  · have qb : (n0 == 1) = false := by simpa using q0
    obtain ⟨B1, hB1⟩ : ∃ B, (n1 == 1) = B := ⟨_, rfl⟩
    rw [qb, hB1, Bool.false_or] at hN
    have cT := refTruth_any B1
    rw [hN] at cT
    clear q0 hN
    go_enter Tryz.func21, Tryz.ntmps21
    go_wp2_with fail
    refine (cT _).mono ?_
    rintro e w3 ⟨rfl, b4⟩
    obtain ⟨⟨f0, f1, f2, ff, hl⟩, b5⟩ := box w3 (b4.mono (by simp))
    clear box b4 b1
    go_wp2
    refine bodyPost_ret (v := .tuple #[.agg #[.int .i64 2, .int .i64 N, .string ⟨#[]⟩], .int .i64 0]) (by simp [results, Tryz.results21, go_sem, World.cell?_setCell_other, World.cell?_setCell_same, f0, f1, f2]) rfl ⟨rfl, ?_⟩
    exact below3 b5 (Nat.le_refl _) _ _ _
set_option maxRecDepth 20000 in
set_option maxHeartbeats 1000000 in
theorem rd_and (b off c n : Nat) (hn : 2 ≤ n) (t0 n0 t1 n1 : Int) (s0 s1 : ByteArray) (w : World) (hb : b < w.heap.size) (h0 : One w b off t0 n0 s0) (h1 : One w b (off + 3) t1 n1 s1) (N : Int) (hN : (if (n0 == 1 && n1 == 1) = true then (1 : Int) else 0) = N) :
    Calls Tryz.prog 21 #[.string ⟨#[97, 110, 100]⟩, .slice (some ⟨b, off, none⟩) n c] w fun e w' => e = .returned (.tuple #[.agg #[.int .i64 2, .int .i64 N, .string ⟨#[]⟩], .int .i64 0]) ∧ Below w.heap.size w w' := by
  obtain ⟨b1, box⟩ := box_res w
  have hbn : b < (w.alloc (.cells #[.int .i64 0, .int .i64 0, .string ⟨#[]⟩] 23)).heap.size := by simp; omega
  obtain ⟨e0, e1, e2⟩ := h0.on hb b1
  obtain ⟨e3, e4, e5⟩ := h1.on hb b1
  have hz1 : (1 : Int) < (n : Int) := by omega
  have hz0 : (0 : Int) < (n : Int) := by omega
  by_cases q0 : n0 = 1
  · have qb : (n0 == 1) = true := by simpa using q0
    obtain ⟨B1, hB1⟩ : ∃ B, (n1 == 1) = B := ⟨_, rfl⟩
    rw [qb, hB1, Bool.true_and] at hN
    have cT := refTruth_any B1
    rw [hN] at cT
    clear q0 hN
    go_enter Tryz.func21, Tryz.ntmps21
    go_wp2_with fail
    refine (cT _).mono ?_
    rintro e w3 ⟨rfl, b4⟩
    obtain ⟨⟨f0, f1, f2, ff, hl⟩, b5⟩ := box w3 (b4.mono (by simp))
    clear box b4 b1
    go_wp2
    refine bodyPost_ret (v := .tuple #[.agg #[.int .i64 2, .int .i64 N, .string ⟨#[]⟩], .int .i64 0]) (by simp [results, Tryz.results21, go_sem, World.cell?_setCell_other, World.cell?_setCell_same, f0, f1, f2]) rfl ⟨rfl, ?_⟩
    exact below3 b5 (Nat.le_refl _) _ _ _
  · have qb : (n0 == 1) = false := by simpa using q0
    rw [qb] at hN
    have cT := refTruth_any false
    subst hN
    simp only [Bool.false_and, Bool.false_eq_true, if_false] at cT ⊢
    clear q0
    go_enter Tryz.func21, Tryz.ntmps21
    go_wp2_with fail
    refine (cT _).mono ?_
    rintro e w3 ⟨rfl, b4⟩
    obtain ⟨⟨f0, f1, f2, ff, hl⟩, b5⟩ := box w3 (b4.mono (by simp))
    clear box b4 b1
    go_wp2
    refine bodyPost_ret (v := .tuple #[.agg #[.int .i64 2, .int .i64 0, .string ⟨#[]⟩], .int .i64 0]) (by simp [results, Tryz.results21, go_sem, World.cell?_setCell_other, World.cell?_setCell_same, f0, f1, f2]) rfl ⟨rfl, ?_⟩
    exact below3 b5 (Nat.le_refl _) _ _ _
set_option maxRecDepth 20000 in
set_option maxHeartbeats 1000000 in
theorem rd_not (b off c n : Nat) (hn : 1 ≤ n) (t0 n0 : Int) (s0 : ByteArray) (w : World) (hb : b < w.heap.size) (h0 : One w b off t0 n0 s0) (h01 : n0 = 0 ∨ n0 = 1) (N : Int) (hN : (if (!(n0 == 1)) = true then (1 : Int) else 0) = N) :
    Calls Tryz.prog 21 #[.string ⟨#[110, 111, 116]⟩, .slice (some ⟨b, off, none⟩) n c] w fun e w' => e = .returned (.tuple #[.agg #[.int .i64 2, .int .i64 N, .string ⟨#[]⟩], .int .i64 0]) ∧ Below w.heap.size w w' := by
  obtain ⟨b1, box⟩ := box_res w
  have hbn : b < (w.alloc (.cells #[.int .i64 0, .int .i64 0, .string ⟨#[]⟩] 23)).heap.size := by simp; omega
  obtain ⟨e0, e1, e2⟩ := h0.on hb b1
  have hz0 : (0 : Int) < (n : Int) := by omega
  have cT := refTruth_any (n0 == 0)
  have hq : (if (n0 == 0) = true then (1 : Int) else 0) = N := by rw [← hN]; rcases h01 with rfl | rfl <;> rfl
  rw [hq] at cT
  clear hN hq h01
  go_enter Tryz.func21, Tryz.ntmps21
  go_wp2_with fail
  refine (cT _).mono ?_
  rintro e w3 ⟨rfl, b4⟩
  obtain ⟨⟨f0, f1, f2, ff, hl⟩, b5⟩ := box w3 (b4.mono (by simp))
  clear box b4 b1
  go_wp2
  refine bodyPost_ret (v := .tuple #[.agg #[.int .i64 2, .int .i64 N, .string ⟨#[]⟩], .int .i64 0]) (by simp [results, Tryz.results21, go_sem, World.cell?_setCell_other, World.cell?_setCell_same, f0, f1, f2]) rfl ⟨rfl, ?_⟩
  exact below3 b5 (Nat.le_refl _) _ _ _
set_option maxRecDepth 20000 in
set_option maxHeartbeats 1000000 in
theorem rd_len (b off c n : Nat) (hn : 1 ≤ n) (t0 n0 : Int) (s0 : ByteArray) (w : World) (hb : b < w.heap.size) (h0 : One w b off t0 n0 s0) :
    Calls Tryz.prog 21 #[.string ⟨#[108, 101, 110]⟩, .slice (some ⟨b, off, none⟩) n c] w fun e w' => e = .returned (.tuple #[.agg #[.int .i64 1, .int .i64 s0.size, .string ⟨#[]⟩], .int .i64 0]) ∧ Below w.heap.size w w' := by
  obtain ⟨b1, box⟩ := box_res w
  have hbn : b < (w.alloc (.cells #[.int .i64 0, .int .i64 0, .string ⟨#[]⟩] 23)).heap.size := by simp; omega
  obtain ⟨e0, e1, e2⟩ := h0.on hb b1
  have hz0 : (0 : Int) < (n : Int) := by omega
  clear box
  go_enter Tryz.func21, Tryz.ntmps21
  go_wp2
  refine bodyPost_ret (v := .tuple #[.agg #[.int .i64 1, .int .i64 s0.size, .string ⟨#[]⟩], .int .i64 0]) (by simp [results, Tryz.results21, go_sem]) rfl ⟨rfl, ?_⟩
  exact (Below.refl _ w).alloc (Nat.le_refl _) _
set_option maxRecDepth 20000 in
set_option maxHeartbeats 1000000 in
theorem rd_if (b off c n : Nat) (hn : 3 ≤ n) (t0 n0 t1 n1 t2 n2 : Int) (s0 s1 s2 : ByteArray) (w : World) (hb : b < w.heap.size) (h0 : One w b off t0 n0 s0) (h1 : One w b (off + 3) t1 n1 s1) (h2 : One w b (off + 6) t2 n2 s2) (h01 : n0 = 0 ∨ n0 = 1) :
    Calls Tryz.prog 21 #[.string ⟨#[105, 102]⟩, .slice (some ⟨b, off, none⟩) n c] w fun e' w' => e' = .returned (.tuple #[if (n0 == 1) = true then .agg #[.int .i64 t1, .int .i64 n1, .string s1] else .agg #[.int .i64 t2, .int .i64 n2, .string s2], .int .i64 0]) ∧ Below w.heap.size w w' := by
  obtain ⟨b1, box⟩ := box_res w
  have hbn : b < (w.alloc (.cells #[.int .i64 0, .int .i64 0, .string ⟨#[]⟩] 23)).heap.size := by simp; omega
  obtain ⟨e0, e1, e2⟩ := h0.on hb b1
  obtain ⟨e3, e4, e5⟩ := h1.on hb b1
  obtain ⟨e6, e7, e8⟩ := h2.on hb b1
  have hz0 : (0 : Int) < (n : Int) := by omega
  have hz1 : (1 : Int) < (n : Int) := by omega
  have hz2 : (2 : Int) < (n : Int) := by omega
  clear box
  rcases h01 with rfl | rfl
  · rw [if_neg (by decide)]
    go_enter Tryz.func21, Tryz.ntmps21
    go_wp2
    refine bodyPost_ret (v := .tuple #[.agg #[.int .i64 t2, .int .i64 n2, .string s2], .int .i64 0]) (by simp [results, Tryz.results21, go_sem]) rfl ⟨rfl, ?_⟩
    exact (Below.refl _ w).alloc (Nat.le_refl _) _
  · rw [if_pos (by decide)]
    go_enter Tryz.func21, Tryz.ntmps21
    go_wp2
    refine bodyPost_ret (v := .tuple #[.agg #[.int .i64 t1, .int .i64 n1, .string s1], .int .i64 0]) (by simp [results, Tryz.results21, go_sem]) rfl ⟨rfl, ?_⟩
    exact (Below.refl _ w).alloc (Nat.le_refl _) _
set_option maxRecDepth 20000 in
set_option maxHeartbeats 1000000 in
theorem rd_neg (b off c n : Nat) (hn : 1 ≤ n) (t0 n0 : Int) (s0 : ByteArray) (w : World) (hb : b < w.heap.size) (h0 : One w b off t0 n0 s0) (hi : inB n0) (t k : Int) (s : ByteArray) (e : Int) (hr : rkV [45] 0 n0 = ((t, k, s), e)) :
    Calls Tryz.prog 21 #[.string ⟨#[110, 101, 103]⟩, .slice (some ⟨b, off, none⟩) n c] w fun e' w' => e' = .returned (.tuple #[.agg #[.int .i64 t, .int .i64 k, .string s], .int .i64 e]) ∧ Below w.heap.size w w' := by
  obtain ⟨b1, box⟩ := box_res w
  have hbn : b < (w.alloc (.cells #[.int .i64 0, .int .i64 0, .string ⟨#[]⟩] 23)).heap.size := by simp; omega
  obtain ⟨e0, e1, e2⟩ := h0.on hb b1
  have hz0 : (0 : Int) < (n : Int) := by omega
  have cR := refRk ⟨#[45]⟩ 0 n0 (by decide) (by unfold inB; omega) hi
  obtain ⟨r, hr1, hr2⟩ := rkP_form hr (by unfold inB; omega) hi
  have hr3 : rkP (⟨#[45]⟩ : ByteArray).data.toList 0 n0 = (r, e) := hr1
  rw [hr3] at cR
  clear hr hr1 hr3
  rcases hr2 with ⟨rfl, rfl, rfl, rfl⟩ | ⟨rfl, rfl, rfl, rfl⟩
  · go_enter Tryz.func21, Tryz.ntmps21
    go_wp2_with fail
    refine (cR _).mono ?_
    rintro e w3 ⟨rfl, rfl⟩
    clear box
    go_wp2
    refine bodyPost_ret (v := .tuple #[.agg #[.int .i64 1, .int .i64 k, .string ⟨#[]⟩], .int .i64 0]) (by simp [results, Tryz.results21, go_sem]) rfl ⟨rfl, ?_⟩
    exact (Below.refl _ w).alloc (Nat.le_refl _) _
  · go_enter Tryz.func21, Tryz.ntmps21
    go_wp2_with fail
    refine (cR _).mono ?_
    rintro e w3 ⟨rfl, rfl⟩
    clear box
    go_wp2
    refine bodyPost_ret (v := .tuple #[.agg #[.int .i64 0, .int .i64 0, .string ⟨#[]⟩], .int .i64 9]) (by simp [results, Tryz.results21, go_sem]) rfl ⟨rfl, ?_⟩
    exact (Below.refl _ w).alloc (Nat.le_refl _) _
end Go.Proofs.YtknibfhoecgjlaaGreatDoor
