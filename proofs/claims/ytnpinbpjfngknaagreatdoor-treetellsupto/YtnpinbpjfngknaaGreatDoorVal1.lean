/-
  What Check of package val says of any value: the number of its first fault; what was in memory stays.
-/
import Derived.Test.YtnpinbpjfngknaaGreatDoorProg
import Derived.WalkKit
import Derived.Below
import Derived.Lib.Strings
namespace Go.Proofs.YtnpinbpjfngknaaGreatDoor
open Go.RowKit

theorem ret_int {k : IntKind} {a b : Int} (h : a = b) : Ending.returned (.int k a) = .returned (.int k b) := by rw [h]
theorem ret_bool {a b : Bool} (h : a = b) : Ending.returned (.bool a) = .returned (.bool b) := by rw [h]

/-- Has a text just the bytes that it may? -/
def plainB (l : List UInt8) : Bool := l.all fun c => decide (32 ≤ (c.toNat : Int)) && decide ((c.toNat : Int) ≤ 126)
theorem plain_take (s : ByteArray) (k : Nat) (h : k < s.size) : plainB (s.data.toList.take (k + 1)) = (plainB (s.data.toList.take k) && (decide (32 ≤ (s[k].toNat : Int)) && decide ((s[k].toNat : Int) ≤ 126))) := by
  rw [List.take_succ_eq_append_getElem (by simpa using h)]
  simp only [plainB, List.all_append, List.all_cons, List.all_nil, Bool.and_true]
  rfl
theorem plain_not (s : ByteArray) (k : Nat) (h : k < s.size) (hc : (s[k].toNat : Int) < 32 ∨ 126 < (s[k].toNat : Int)) : plainB s.data.toList = false := by
  have h2 : plainB (s.data.toList.take (k + 1)) = false := by
    rw [plain_take s k h]
    have : (decide (32 ≤ (s[k].toNat : Int)) && decide ((s[k].toNat : Int) ≤ 126)) = false := by
      rw [Bool.and_eq_false_iff, decide_eq_false_iff_not, decide_eq_false_iff_not]; omega
    rw [this, Bool.and_false]
  cases hp : plainB s.data.toList with
  | false => rfl
  | true =>
    exfalso
    have h3 : plainB (s.data.toList.take (k + 1)) = true := by
      simp only [plainB, List.all_eq_true] at hp ⊢
      exact fun x hx => hp x (List.mem_of_mem_take hx)
    rw [h2] at h3; exact Bool.noConfusion h3
theorem plain_of (s : ByteArray) (k : Nat) (h : s.size ≤ k) (hp : plainB (s.data.toList.take k) = true) : plainB s.data.toList = true := by
  rwa [List.take_of_length_le (by simpa using h)] at hp

set_option maxHeartbeats 400000 in
theorem hasTextBytes_any (s : ByteArray) (w : World) (hs : s.size ≤ maxLen) :
    Calls Tryz.prog 119 #[.string s] w fun e w' => e = .returned (.bool (plainB s.data.toList)) ∧ w' = w := by
  unfold maxLen at hs
  go_enter Tryz.func119, Tryz.ntmps119
  go_wp2
  go_loop [3] (fun i => ∃ k : Nat, k ≤ s.size ∧ i = .int .i64 k ∧ plainB (s.data.toList.take k) = true) (fun i => s.size - (intOf i).toNat)
  case atStart => exact ⟨0, Nat.zero_le _, rfl, rfl⟩
  case round =>
    obtain ⟨k, hk, rfl, hp⟩ := hrel
    have HP : Hid (plainB (s.data.toList.take k) = true) := hp
    clear hp
    by_cases hlt : k < s.size
    · have HN : Hid (∀ _ : (s[k].toNat : Int) < 32 ∨ 126 < (s[k].toNat : Int), plainB s.data.toList = false) := plain_not s k hlt
      have HT : Hid (plainB (s.data.toList.take (k + 1)) = (plainB (s.data.toList.take k) && (decide (32 ≤ (s[k].toNat : Int)) && decide ((s[k].toNat : Int) ≤ 126)))) := plain_take s k hlt
      go_wp2
      · go_ret
        exact ⟨ret_bool (HN.out (by omega)).symm, rfl⟩
      · go_round
        case rel =>
          refine ⟨k + 1, by omega, by go_num, ?_⟩
          rw [HT.out, HP.out]
          simp only [Bool.true_and, Bool.and_eq_true, decide_eq_true_eq]
          assumption
        case measure => simp [intOf]; omega
      · go_ret
        exact ⟨ret_bool (HN.out (by omega)).symm, rfl⟩
    · have HO := plain_of s k (by omega) HP.out
      go_wp2
      go_ret
      exact ⟨rfl, rfl⟩
/-- The fault of a value. -/
def chk (t n : Int) (l : List UInt8) : Int :=
  if ¬ (t = 1 ∨ t = 2 ∨ t = 3) ∨ (t = 2 ∧ n ≠ 0 ∧ n ≠ 1) then 1
  else if t = 3 ∧ 40 < l.length then 4
  else if t = 3 ∧ plainB l = false then 2
  else if (t ≠ 3 ∧ l ≠ []) ∨ (t = 3 ∧ n ≠ 0) then 3 else 0
/-- An error by its number. -/
def errV (k : Int) : Value := if k = 0 then .nilIface else .iface 29 (.int .i64 k)

theorem isType_yes (t : Int) (w : World) (h : t = 1 ∨ t = 2 ∨ t = 3) : Calls Tryz.prog 105 #[.int .i64 t] w fun e w' => e = .returned (.bool true) ∧ w' = w := by
  rcases h with rfl | rfl | rfl
  all_goals
    go_enter Tryz.func105, Tryz.ntmps105
    go_wp2
    go_ret
    exact ⟨rfl, rfl⟩
theorem isType_no (t : Int) (w : World) (h : ¬ (t = 1 ∨ t = 2 ∨ t = 3)) : Calls Tryz.prog 105 #[.int .i64 t] w fun e w' => e = .returned (.bool false) ∧ w' = w := by
  have h1 : (t == 1) = false := by simp; omega
  have h2 : (t == 2) = false := by simp; omega
  have h3 : (t == 3) = false := by simp; omega
  go_enter Tryz.func105, Tryz.ntmps105
  go_wp2
  go_ret
  exact ⟨rfl, rfl⟩

theorem errV_eq {k j : Int} (h : k = j) (hj : j ≠ 0) : Ending.returned (.iface 29 (.int .i64 j)) = .returned (errV k) := by
  rw [errV, if_neg (by omega), h]
theorem errV_nil {k : Int} (h : k = 0) : Ending.returned .nilIface = .returned (errV k) := by
  rw [errV, if_pos h]

def chkT (n : Int) (l : List UInt8) : Int := if 40 < l.length then 4 else if plainB l = false then 2 else if n ≠ 0 then 3 else 0
theorem chk_text (n : Int) (l : List UInt8) : chk 3 n l = chkT n l := by
  rw [chk, chkT, if_neg (by simp)]
  simp
set_option maxHeartbeats 1000000 in
theorem checkText_any (t n : Int) (s : ByteArray) (w : World) (hs : s.size ≤ maxLen) :
    Calls Tryz.prog 106 #[.agg #[.int .i64 t, .int .i64 n, .string s]] w fun e w' => e = .returned (errV (chkT n s.data.toList)) ∧ Below w.heap.size w w' := by
  have hs2 := hs
  unfold maxLen at hs2
  generalize hc : chkT n s.data.toList = c
  have HC : Hid (chkT n s.data.toList = c) := hc
  clear hc
  go_enter Tryz.func106, Tryz.ntmps106
  go_wp2_with (first | (go_at_call 119; refine (hasTextBytes_any _ _ hs).mono ?_; rintro e w' ⟨rfl, rfl⟩))
  all_goals
    go_ret
    refine ⟨?_, by repeat (first | exact Below.refl _ _ | (refine Below.alloc ?_ (by simp) _))⟩
    have hd : s.data.toList.length = s.size := by simp
    have hc := HC.out
    clear HC hs
    rw [chkT] at hc
    simp only [bne_iff_ne, bne_eq_false_iff_eq, Bool.not_eq_true', Bool.not_eq_false'] at *
  all_goals
    repeat' split at hc
  all_goals subst hc
  all_goals first | exact errV_eq rfl (by decide) | exact errV_nil rfl | (exfalso; omega) | (exfalso; simp_all; done) | (exfalso; simp_all; omega)
set_option maxHeartbeats 1000000 in
theorem check_any (t n : Int) (s : ByteArray) (w : World) (hs : s.size ≤ maxLen) :
    Calls Tryz.prog 85 #[.agg #[.int .i64 t, .int .i64 n, .string s]] w fun e w' => e = .returned (errV (chk t n s.data.toList)) ∧ Below w.heap.size w w' := by
  have hs2 := hs
  unfold maxLen at hs2
  by_cases h3 : t = 3
  · subst h3
    rw [chk_text]
    go_enter Tryz.func85, Tryz.ntmps85
    go_wp2_with (first | (go_at_call 105; refine (isType_yes _ _ (by omega)).mono ?_; rintro e w' ⟨rfl, rfl⟩) | (go_at_call 106; refine (checkText_any _ _ _ _ hs).mono ?_; rintro e w' ⟨rfl, hbT⟩))
    go_ret
    exact ⟨rfl, (((Below.refl _ _).alloc (Nat.le_refl _) _)).trans (hbT.mono (by simp))⟩
  · by_cases ht : t = 1 ∨ t = 2 ∨ t = 3
    · generalize hc : chk t n s.data.toList = c
      have HC : Hid (chk t n s.data.toList = c) := hc
      clear hc
      have e3 : (t == 3) = false := by simpa using h3
      have HT : Hid (t = 1 ∨ t = 2 ∨ t = 3) := ht
      go_enter Tryz.func85, Tryz.ntmps85
      go_wp2_with (first | (go_at_call 105; refine (isType_yes _ _ HT.out).mono ?_; rintro e w' ⟨rfl, rfl⟩))
      all_goals
        go_ret
        refine ⟨?_, by repeat (first | exact Below.refl _ _ | (refine Below.alloc ?_ (by simp) _))⟩
        have hd : s.data.toList.length = s.size := by simp
        have hc := HC.out
        have htt := HT.out
        clear HC HT hs
        rw [chk] at hc
        simp only [Lib.toList_data, bne_iff_ne, bne_eq_false_iff_eq, Bool.not_eq_true', Bool.not_eq_false'] at *
      all_goals
        repeat' split at hc
      all_goals subst hc
      all_goals first | exact errV_eq rfl (by decide) | exact errV_nil rfl | (exfalso; omega) | (exfalso; simp_all; done) | (exfalso; simp_all; omega)
    · have hc : chk t n s.data.toList = 1 := by rw [chk, if_pos (Or.inl ht)]
      have HC : Hid (chk t n s.data.toList = 1) := hc
      clear hc
      have HT : Hid (¬ (t = 1 ∨ t = 2 ∨ t = 3)) := ht
      clear ht h3
      go_enter Tryz.func85, Tryz.ntmps85
      go_wp2_with (first | (go_at_call 105; refine (isType_no _ _ HT.out).mono ?_; rintro e w' ⟨rfl, rfl⟩))
      go_ret
      exact ⟨errV_eq HC.out (by omega), by repeat (first | exact Below.refl _ _ | (refine Below.alloc ?_ (by simp) _))⟩
end Go.Proofs.YtnpinbpjfngknaaGreatDoor
