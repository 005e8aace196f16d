/-
  What Reckon of package val comes to at all numbers: the number, or ErrOver and 0; nothing in memory turns.
-/
import Derived.Test.YtggabncpedcmdaaGreatDoorProg
import Derived.Test.YtggabncpedcmdaaGreatDoorArith
import Derived.WalkKit
import Derived.Lib.Strings
namespace Go.Proofs.YtggabncpedcmdaaGreatDoor
open Go.RowKit
set_option linter.unusedVariables false

theorem ret2 {k : IntKind} {a b : Int} {x : Value} (h : a = b) : Ending.returned (.tuple #[.int k a, x]) = .returned (.tuple #[.int k b, x]) := by rw [h]
theorem add_ok (a b : Int) (w : World) (ha : -9223372036854775808 ≤ a ∧ a ≤ 9223372036854775807) (hb : -9223372036854775808 ≤ b ∧ b ≤ 9223372036854775807)
    (hn : -9223372036854775808 ≤ a + b ∧ a + b ≤ 9223372036854775807) :
    Calls Tryz.prog 49 #[.int .i64 a, .int .i64 b] w fun e w' => e = .returned (.tuple #[.int .i64 (a + b), .nilIface]) ∧ w' = w := by
  go_enter Tryz.func49, Tryz.ntmps49
  go_wp2
  all_goals first | (exfalso; omega) | (go_ret2; exact ⟨rfl, rfl⟩)
theorem add_over (a b : Int) (w : World) (ha : -9223372036854775808 ≤ a ∧ a ≤ 9223372036854775807) (hb : -9223372036854775808 ≤ b ∧ b ≤ 9223372036854775807)
    (hn : ¬ (-9223372036854775808 ≤ a + b ∧ a + b ≤ 9223372036854775807)) :
    Calls Tryz.prog 49 #[.int .i64 a, .int .i64 b] w fun e w' => e = .returned (.tuple #[.int .i64 0, .iface 69 (.int .i64 9)]) ∧ w' = w := by
  have hw : (b < 0 ∧ a < wrap64 (a + b)) ∨ (0 < b ∧ wrap64 (a + b) < a) := by unfold wrap64; omega
  rcases hw with ⟨h1, h2⟩ | ⟨h1, h2⟩
  all_goals
    go_enter Tryz.func49, Tryz.ntmps49
    go_wp2
    all_goals first | (exfalso; omega) | (go_ret2; exact ⟨rfl, rfl⟩)
theorem sub_ok (a b : Int) (w : World) (ha : -9223372036854775808 ≤ a ∧ a ≤ 9223372036854775807) (hb : -9223372036854775808 ≤ b ∧ b ≤ 9223372036854775807)
    (hn : -9223372036854775808 ≤ a - b ∧ a - b ≤ 9223372036854775807) :
    Calls Tryz.prog 50 #[.int .i64 a, .int .i64 b] w fun e w' => e = .returned (.tuple #[.int .i64 (a - b), .nilIface]) ∧ w' = w := by
  go_enter Tryz.func50, Tryz.ntmps50
  go_wp2
  all_goals first | (exfalso; omega) | (go_ret2; exact ⟨rfl, rfl⟩)
theorem sub_over (a b : Int) (w : World) (ha : -9223372036854775808 ≤ a ∧ a ≤ 9223372036854775807) (hb : -9223372036854775808 ≤ b ∧ b ≤ 9223372036854775807)
    (hn : ¬ (-9223372036854775808 ≤ a - b ∧ a - b ≤ 9223372036854775807)) :
    Calls Tryz.prog 50 #[.int .i64 a, .int .i64 b] w fun e w' => e = .returned (.tuple #[.int .i64 0, .iface 69 (.int .i64 9)]) ∧ w' = w := by
  have hw : (b < 0 ∧ wrap64 (a - b) < a) ∨ (0 < b ∧ a < wrap64 (a - b)) := by unfold wrap64; omega
  rcases hw with ⟨h1, h2⟩ | ⟨h1, h2⟩
  all_goals
    go_enter Tryz.func50, Tryz.ntmps50
    go_wp2
    all_goals first | (exfalso; omega) | (go_ret2; exact ⟨rfl, rfl⟩)
theorem div_ok (a b : Int) (w : World) (ha : -9223372036854775808 ≤ a ∧ a ≤ 9223372036854775807) (hb : -9223372036854775808 ≤ b ∧ b ≤ 9223372036854775807)
    (h0 : b ≠ 0) (hm : ¬ (a = -9223372036854775808 ∧ b = -1)) :
    Calls Tryz.prog 52 #[.int .i64 a, .int .i64 b] w fun e w' => e = .returned (.tuple #[.int .i64 (a.tdiv b), .nilIface]) ∧ w' = w := by
  have hq : wrap64 (a.tdiv b) = a.tdiv b := wrap_in _ (tdiv_bd a b ha hm)
  have e0 : (b == 0) = false := by simpa using h0
  by_cases h1 : a = -9223372036854775808
  · subst h1
    have e1 : (b == -1) = false := by simpa using hm
    have hq2 := hq
    rw [Int.neg_tdiv] at hq2
    go_enter Tryz.func52, Tryz.ntmps52
    go_wp2
    go_ret2; exact ⟨rfl, rfl⟩
  · have e1 : (a == -9223372036854775808) = false := by simpa using h1
    go_enter Tryz.func52, Tryz.ntmps52
    go_wp2
    go_ret2; exact ⟨ret2 hq, rfl⟩
theorem div_over (a b : Int) (w : World) (ha : -9223372036854775808 ≤ a ∧ a ≤ 9223372036854775807) (hb : -9223372036854775808 ≤ b ∧ b ≤ 9223372036854775807)
    (h0 : b = 0 ∨ (a = -9223372036854775808 ∧ b = -1)) :
    Calls Tryz.prog 52 #[.int .i64 a, .int .i64 b] w fun e w' => e = .returned (.tuple #[.int .i64 0, .iface 69 (.int .i64 9)]) ∧ w' = w := by
  rcases h0 with rfl | ⟨rfl, rfl⟩
  all_goals
    go_enter Tryz.func52, Tryz.ntmps52
    go_wp2
    go_ret2; exact ⟨rfl, rfl⟩
theorem mul_okC (a b : Int) (w : World) (ha : -9223372036854775808 ≤ a ∧ a ≤ 9223372036854775807) (hb : -9223372036854775808 ≤ b ∧ b ≤ 9223372036854775807)
    (hn : -9223372036854775808 ≤ a * b ∧ a * b ≤ 9223372036854775807) :
    Calls Tryz.prog 51 #[.int .i64 a, .int .i64 b] w fun e w' => e = .returned (.tuple #[.int .i64 (a * b), .nilIface]) ∧ w' = w := by
  by_cases h0 : b = 0
  · subst h0
    go_enter Tryz.func51, Tryz.ntmps51
    go_wp2
    go_ret2; exact ⟨by simp, rfl⟩
  · have e0 : (b == 0) = false := by simpa using h0
    have h1 := mul_back a b ha h0 hn
    have h2 := wrap_in _ hn
    have h3 := mul_min a b hn
    rw [h2] at h1
    by_cases hm : a = -9223372036854775808
    · subst hm
      have e1 : (b == -1) = false := by simpa using h3
      go_enter Tryz.func51, Tryz.ntmps51
      go_wp2
      go_ret2; exact ⟨rfl, rfl⟩
    · have e1 : (a == -9223372036854775808) = false := by simpa using hm
      go_enter Tryz.func51, Tryz.ntmps51
      go_wp2
      go_ret2; exact ⟨rfl, rfl⟩
theorem mul_overC (a b : Int) (w : World) (ha : -9223372036854775808 ≤ a ∧ a ≤ 9223372036854775807) (hb : -9223372036854775808 ≤ b ∧ b ≤ 9223372036854775807)
    (hn : ¬ (-9223372036854775808 ≤ a * b ∧ a * b ≤ 9223372036854775807)) :
    Calls Tryz.prog 51 #[.int .i64 a, .int .i64 b] w fun e w' => e = .returned (.tuple #[.int .i64 0, .iface 69 (.int .i64 9)]) ∧ w' = w := by
  have h0 : b ≠ 0 := by rintro rfl; omega
  have e0 : (b == 0) = false := by simpa using h0
  by_cases hm : a = -9223372036854775808 ∧ b = -1
  · obtain ⟨rfl, rfl⟩ := hm
    clear hn
    go_enter Tryz.func51, Tryz.ntmps51
    go_wp2
    all_goals first | (go_ret2; exact ⟨rfl, rfl⟩)
  · have h1 := mul_over a b ha hb h0 hn hm
    clear hn hm
    go_enter Tryz.func51, Tryz.ntmps51
    go_wp2
    all_goals first | contradiction | (go_ret2; exact ⟨rfl, rfl⟩)
theorem rem_ok (a b : Int) (w : World) (ha : -9223372036854775808 ≤ a ∧ a ≤ 9223372036854775807) (hb : -9223372036854775808 ≤ b ∧ b ≤ 9223372036854775807)
    (h0 : b ≠ 0) :
    Calls Tryz.prog 53 #[.int .i64 a, .int .i64 b] w fun e w' => e = .returned (.tuple #[.int .i64 (a.tmod b), .nilIface]) ∧ w' = w := by
  have e0 : (b == 0) = false := by simpa using h0
  go_enter Tryz.func53, Tryz.ntmps53
  go_wp2
  go_ret2; exact ⟨rfl, rfl⟩
theorem rem_over (a : Int) (w : World) (ha : -9223372036854775808 ≤ a ∧ a ≤ 9223372036854775807) :
    Calls Tryz.prog 53 #[.int .i64 a, .int .i64 0] w fun e w' => e = .returned (.tuple #[.int .i64 0, .iface 69 (.int .i64 9)]) ∧ w' = w := by
  go_enter Tryz.func53, Tryz.ntmps53
  go_wp2
  go_ret2; exact ⟨rfl, rfl⟩
theorem rk_remx (a : Int) (w : World) (ha : -9223372036854775808 ≤ a ∧ a ≤ 9223372036854775807) :
    Calls Tryz.prog 16 #[.string { data := #[37] }, .int .i64 a, .int .i64 0] w fun e w' => e = .returned (.tuple #[.int .i64 0, .iface 69 (.int .i64 9)]) ∧ w' = w := by
  go_enter Tryz.func16, Tryz.ntmps16
  go_wp2_with (first | (go_at_call 53; refine (rem_over a _ ha).mono ?_; rintro e w' ⟨rfl, rfl⟩))
  go_ret2; exact ⟨rfl, rfl⟩
theorem rk_add (a b : Int) (w : World) (ha : -9223372036854775808 ≤ a ∧ a ≤ 9223372036854775807) (hb : -9223372036854775808 ≤ b ∧ b ≤ 9223372036854775807)
    (hn : -9223372036854775808 ≤ a + b ∧ a + b ≤ 9223372036854775807) :
    Calls Tryz.prog 16 #[.string { data := #[43] }, .int .i64 a, .int .i64 b] w fun e w' => e = .returned (.tuple #[.int .i64 (a + b), .nilIface]) ∧ w' = w := by
  go_enter Tryz.func16, Tryz.ntmps16
  go_wp2_with (first | (go_at_call 49; refine (add_ok a b _ ha hb hn).mono ?_; rintro e w' ⟨rfl, rfl⟩))
  go_ret2; exact ⟨rfl, rfl⟩
theorem rk_addx (a b : Int) (w : World) (ha : -9223372036854775808 ≤ a ∧ a ≤ 9223372036854775807) (hb : -9223372036854775808 ≤ b ∧ b ≤ 9223372036854775807)
    (hn : ¬ (-9223372036854775808 ≤ a + b ∧ a + b ≤ 9223372036854775807)) :
    Calls Tryz.prog 16 #[.string { data := #[43] }, .int .i64 a, .int .i64 b] w fun e w' => e = .returned (.tuple #[.int .i64 0, .iface 69 (.int .i64 9)]) ∧ w' = w := by
  go_enter Tryz.func16, Tryz.ntmps16
  go_wp2_with (first | (go_at_call 49; refine (add_over a b _ ha hb hn).mono ?_; rintro e w' ⟨rfl, rfl⟩))
  go_ret2; exact ⟨rfl, rfl⟩
theorem rk_sub (a b : Int) (w : World) (ha : -9223372036854775808 ≤ a ∧ a ≤ 9223372036854775807) (hb : -9223372036854775808 ≤ b ∧ b ≤ 9223372036854775807)
    (hn : -9223372036854775808 ≤ a - b ∧ a - b ≤ 9223372036854775807) :
    Calls Tryz.prog 16 #[.string { data := #[45] }, .int .i64 a, .int .i64 b] w fun e w' => e = .returned (.tuple #[.int .i64 (a - b), .nilIface]) ∧ w' = w := by
  go_enter Tryz.func16, Tryz.ntmps16
  go_wp2_with (first | (go_at_call 50; refine (sub_ok a b _ ha hb hn).mono ?_; rintro e w' ⟨rfl, rfl⟩))
  go_ret2; exact ⟨rfl, rfl⟩
theorem rk_mul (a b : Int) (w : World) (ha : -9223372036854775808 ≤ a ∧ a ≤ 9223372036854775807) (hb : -9223372036854775808 ≤ b ∧ b ≤ 9223372036854775807)
    (hn : -9223372036854775808 ≤ a * b ∧ a * b ≤ 9223372036854775807) :
    Calls Tryz.prog 16 #[.string { data := #[42] }, .int .i64 a, .int .i64 b] w fun e w' => e = .returned (.tuple #[.int .i64 (a * b), .nilIface]) ∧ w' = w := by
  go_enter Tryz.func16, Tryz.ntmps16
  go_wp2_with (first | (go_at_call 51; refine (mul_okC a b _ ha hb hn).mono ?_; rintro e w' ⟨rfl, rfl⟩))
  go_ret2; exact ⟨rfl, rfl⟩
theorem rk_mulx (a b : Int) (w : World) (ha : -9223372036854775808 ≤ a ∧ a ≤ 9223372036854775807) (hb : -9223372036854775808 ≤ b ∧ b ≤ 9223372036854775807)
    (hn : ¬ (-9223372036854775808 ≤ a * b ∧ a * b ≤ 9223372036854775807)) :
    Calls Tryz.prog 16 #[.string { data := #[42] }, .int .i64 a, .int .i64 b] w fun e w' => e = .returned (.tuple #[.int .i64 0, .iface 69 (.int .i64 9)]) ∧ w' = w := by
  go_enter Tryz.func16, Tryz.ntmps16
  go_wp2_with (first | (go_at_call 51; refine (mul_overC a b _ ha hb hn).mono ?_; rintro e w' ⟨rfl, rfl⟩))
  go_ret2; exact ⟨rfl, rfl⟩
theorem rk_div (a b : Int) (w : World) (ha : -9223372036854775808 ≤ a ∧ a ≤ 9223372036854775807) (hb : -9223372036854775808 ≤ b ∧ b ≤ 9223372036854775807)
    (h0 : b ≠ 0) (hm : ¬ (a = -9223372036854775808 ∧ b = -1)) :
    Calls Tryz.prog 16 #[.string { data := #[47] }, .int .i64 a, .int .i64 b] w fun e w' => e = .returned (.tuple #[.int .i64 (a.tdiv b), .nilIface]) ∧ w' = w := by
  go_enter Tryz.func16, Tryz.ntmps16
  go_wp2_with (first | (go_at_call 52; refine (div_ok a b _ ha hb h0 hm).mono ?_; rintro e w' ⟨rfl, rfl⟩))
  go_ret2; exact ⟨rfl, rfl⟩
theorem rk_divx (a b : Int) (w : World) (ha : -9223372036854775808 ≤ a ∧ a ≤ 9223372036854775807) (hb : -9223372036854775808 ≤ b ∧ b ≤ 9223372036854775807)
    (h0 : b = 0 ∨ (a = -9223372036854775808 ∧ b = -1)) :
    Calls Tryz.prog 16 #[.string { data := #[47] }, .int .i64 a, .int .i64 b] w fun e w' => e = .returned (.tuple #[.int .i64 0, .iface 69 (.int .i64 9)]) ∧ w' = w := by
  go_enter Tryz.func16, Tryz.ntmps16
  go_wp2_with (first | (go_at_call 52; refine (div_over a b _ ha hb h0).mono ?_; rintro e w' ⟨rfl, rfl⟩))
  go_ret2; exact ⟨rfl, rfl⟩
theorem rk_rem (a b : Int) (w : World) (ha : -9223372036854775808 ≤ a ∧ a ≤ 9223372036854775807) (hb : -9223372036854775808 ≤ b ∧ b ≤ 9223372036854775807)
    (h0 : b ≠ 0) :
    Calls Tryz.prog 16 #[.string { data := #[37] }, .int .i64 a, .int .i64 b] w fun e w' => e = .returned (.tuple #[.int .i64 (a.tmod b), .nilIface]) ∧ w' = w := by
  go_enter Tryz.func16, Tryz.ntmps16
  go_wp2_with (first | (go_at_call 53; refine (rem_ok a b _ ha hb h0).mono ?_; rintro e w' ⟨rfl, rfl⟩))
  go_ret2; exact ⟨rfl, rfl⟩
theorem rk_subx (a b : Int) (w : World) (ha : -9223372036854775808 ≤ a ∧ a ≤ 9223372036854775807) (hb : -9223372036854775808 ≤ b ∧ b ≤ 9223372036854775807)
    (hn : ¬ (-9223372036854775808 ≤ a - b ∧ a - b ≤ 9223372036854775807)) :
    Calls Tryz.prog 16 #[.string { data := #[45] }, .int .i64 a, .int .i64 b] w fun e w' => e = .returned (.tuple #[.int .i64 0, .iface 69 (.int .i64 9)]) ∧ w' = w := by
  go_enter Tryz.func16, Tryz.ntmps16
  go_wp2_with (first | (go_at_call 50; refine (sub_over a b _ ha hb hn).mono ?_; rintro e w' ⟨rfl, rfl⟩))
  go_ret2; exact ⟨rfl, rfl⟩
theorem rk_other (op : ByteArray) (a b : Int) (w : World)
    (h1 : op.data.toList ≠ [43]) (h2 : op.data.toList ≠ [45]) (h3 : op.data.toList ≠ [42]) (h4 : op.data.toList ≠ [47]) (h5 : op.data.toList ≠ [37]) :
    Calls Tryz.prog 16 #[.string op, .int .i64 a, .int .i64 b] w fun e w' => e = .returned (.tuple #[.int .i64 0, .iface 69 (.int .i64 1)]) ∧ w' = w := by
  have q1 : (op.toList == [43]) = false := by rw [Lib.toList_data]; simpa using h1
  have q2 : (op.toList == [45]) = false := by rw [Lib.toList_data]; simpa using h2
  have q3 : (op.toList == [42]) = false := by rw [Lib.toList_data]; simpa using h3
  have q4 : (op.toList == [47]) = false := by rw [Lib.toList_data]; simpa using h4
  have q5 : (op.toList == [37]) = false := by rw [Lib.toList_data]; simpa using h5
  clear h1 h2 h3 h4 h5
  go_enter Tryz.func16, Tryz.ntmps16
  go_wp2
  go_ret2; exact ⟨rfl, rfl⟩
/-- Either way: a number within bounds, and an error or none. -/
theorem rk_addany (a b : Int) (w : World) (ha : -9223372036854775808 ≤ a ∧ a ≤ 9223372036854775807) (hb : -9223372036854775808 ≤ b ∧ b ≤ 9223372036854775807) :
    Calls Tryz.prog 16 #[.string { data := #[43] }, .int .i64 a, .int .i64 b] w fun e w' => ∃ (n : Int) (x : Value), e = .returned (.tuple #[.int .i64 n, x]) ∧ w' = w ∧ -9223372036854775808 ≤ n ∧ n ≤ 9223372036854775807 := by
  by_cases hn : -9223372036854775808 ≤ a + b ∧ a + b ≤ 9223372036854775807
  · exact (rk_add a b w ha hb hn).mono fun e w' h => ⟨_, _, h.1, h.2, hn.1, hn.2⟩
  · exact (rk_addx a b w ha hb hn).mono fun e w' h => ⟨_, _, h.1, h.2, by omega, by omega⟩
theorem rk_mulany (a b : Int) (w : World) (ha : -9223372036854775808 ≤ a ∧ a ≤ 9223372036854775807) (hb : -9223372036854775808 ≤ b ∧ b ≤ 9223372036854775807) :
    Calls Tryz.prog 16 #[.string { data := #[42] }, .int .i64 a, .int .i64 b] w fun e w' => ∃ (n : Int) (x : Value), e = .returned (.tuple #[.int .i64 n, x]) ∧ w' = w ∧ -9223372036854775808 ≤ n ∧ n ≤ 9223372036854775807 := by
  by_cases hn : -9223372036854775808 ≤ a * b ∧ a * b ≤ 9223372036854775807
  · exact (rk_mul a b w ha hb hn).mono fun e w' h => ⟨_, _, h.1, h.2, hn.1, hn.2⟩
  · exact (rk_mulx a b w ha hb hn).mono fun e w' h => ⟨_, _, h.1, h.2, by omega, by omega⟩
end Go.Proofs.YtggabncpedcmdaaGreatDoor
