/-
  Ref1, Ref2, in one text.
-/
import Derived.Test.YtnpinbpjfngknaaGreatDoorVal1
import Derived.Test.YtnpinbpjfngknaaGreatDoorLo1
import Derived.Lib.ItoaLen
import Derived.Test.YtnpinbpjfngknaaGreatDoorCmp
namespace Go.Proofs.YtnpinbpjfngknaaGreatDoor
open Go.RowKit
set_option linter.unusedVariables false

set_option maxHeartbeats 400000 in
theorem refPlain_any (s : ByteArray) (w : World) (hs : s.size ≤ maxLen) :
    Calls Tryz.prog 61 #[.string s] w fun e w' => e = .returned (.bool (plainB s.data.toList)) ∧ w' = w := by
  unfold maxLen at hs
  go_enter Tryz.func61, Tryz.ntmps61
  go_wp2
  go_loop [3] (fun i => ∃ k : Nat, k ≤ s.size ∧ i = .int .i64 k ∧ plainB (s.data.toList.take k) = true) (fun i => s.size - (intOf i).toNat)
  case atStart => exact ⟨0, Nat.zero_le _, rfl, rfl⟩
  case round =>
    obtain ⟨k, hk, rfl, hp⟩ := hrel
    have HP : Hid (plainB (s.data.toList.take k) = true) := hp
    clear hp
    by_cases hlt : k < s.size
    · have HN : Hid (∀ _ : (s[k].toNat : Int) < 32 ∨ 126 < (s[k].toNat : Int), plainB s.data.toList = false) := plain_not s k hlt
      have HT : Hid (plainB (s.data.toList.take (k + 1)) = (plainB (s.data.toList.take k) && (decide (32 ≤ (s[k].toNat : Int)) && decide ((s[k].toNat : Int) ≤ 126)))) := plain_take s k hlt
      go_wp2
      · go_ret
        exact ⟨ret_bool (HN.out (by omega)).symm, rfl⟩
      · go_round
        case rel =>
          refine ⟨k + 1, by omega, by go_num, ?_⟩
          rw [HT.out, HP.out]
          simp only [Bool.true_and, Bool.and_eq_true, decide_eq_true_eq]
          assumption
        case measure => simp [intOf]; omega
      · go_ret
        exact ⟨ret_bool (HN.out (by omega)).symm, rfl⟩
    · have HO := plain_of s k (by omega) HP.out
      go_wp2
      go_ret
      exact ⟨rfl, rfl⟩

set_option maxHeartbeats 1000000 in
theorem refVal_any (t n : Int) (s : ByteArray) (w : World) (hs : s.size ≤ maxLen) :
    Calls Tryz.prog 51 #[.agg #[.int .i64 t, .int .i64 n, .string s]] w fun e w' => e = .returned (.int .i64 (chk t n s.data.toList)) ∧ Below w.heap.size w w' := by
  have hs2 := hs
  unfold maxLen at hs2
  generalize hc : chk t n s.data.toList = c
  have HC : Hid (chk t n s.data.toList = c) := hc
  clear hc
  go_enter Tryz.func51, Tryz.ntmps51
  go_wp2_with (first | (go_at_call 61; refine (refPlain_any _ _ hs).mono ?_; rintro e w' ⟨rfl, rfl⟩))
  all_goals
    go_ret
    refine ⟨?_, by repeat (first | exact Below.refl _ _ | (refine Below.alloc ?_ (by simp) _))⟩
    have hd : s.data.toList.length = s.size := by simp
    have hc := HC.out
    clear HC hs
    rw [chk] at hc
    simp only [Lib.toList_data, bne_iff_ne, bne_eq_false_iff_eq, Bool.not_eq_true', Bool.not_eq_false'] at *
  all_goals
    repeat' split at hc
  all_goals subst hc
  all_goals first | rfl | (exfalso; omega) | (exfalso; simp_all; done) | (exfalso; simp_all; omega)

theorem ret_bi {b : Bool} {k : IntKind} {a c : Int} (h : a = c) : Ending.returned (.tuple #[.bool b, .int k a]) = .returned (.tuple #[.bool b, .int k c]) := by rw [h]
theorem ret_ib {b : Bool} {k : IntKind} {a c : Int} (h : a = c) : Ending.returned (.tuple #[.int k a, .bool b]) = .returned (.tuple #[.int k c, .bool b]) := by rw [h]
theorem dig_len (u : Nat) (h : u < 18446744073709551616) : (Lib.decDigits u).length ≤ 20 := by rw [Lib.decDigits_length]; exact Lib.nDigits_le20 u h
theorem ret_str {a c : ByteArray} (h : a = c) : Ending.returned (.string a) = .returned (.string c) := by rw [h]
theorem dig_snoc (u : Nat) (d : Nat) (c : UInt8) (h : ¬ u < 10) (hd : u % 10 = d) (hc : UInt8.ofNat (48 + d) = c) : (⟨(Lib.decDigits (u / 10)).toArray⟩ : ByteArray) ++ ⟨#[c]⟩ = ⟨(Lib.decDigits u).toArray⟩ := by
  rw [Lib.decDigits.eq_1 u, dif_neg h, hd, hc]
  rfl
set_option maxHeartbeats 1000000 in
theorem digits_small (u : Int) (w : World) (h0 : 0 ≤ u) (h : u < 10) :
    Calls Tryz.prog 86 #[.int .u64 u] w fun e w' => e = .returned (.string ⟨(Lib.decDigits u.toNat).toArray⟩) ∧ w' = w := by
  have hd : Lib.decDigits u.toNat = [UInt8.ofNat (48 + u.toNat)] := Lib.decDigits_one (by omega)
  rw [hd]
  have hc : u = 0 ∨ u = 1 ∨ u = 2 ∨ u = 3 ∨ u = 4 ∨ u = 5 ∨ u = 6 ∨ u = 7 ∨ u = 8 ∨ u = 9 := by omega
  clear hd h0 h
  rcases hc with rfl | rfl | rfl | rfl | rfl | rfl | rfl | rfl | rfl | rfl
  all_goals
    go_enter Tryz.func86, Tryz.ntmps86
    go_wp2
    go_ret
    exact ⟨rfl, rfl⟩
set_option maxHeartbeats 1000000 in
theorem digits_step (u : Int) (w : World) (D : List UInt8) (h1 : u ≤ 18446744073709551615) (h : ¬ u < 10) (hl : D.length ≤ 20)
    (IH : Hid (∀ (W : World), Calls Tryz.prog 86 #[.int .u64 (u / 10)] W fun e w' => e = .returned (.string ⟨D.toArray⟩) ∧ w' = W))
    (HD : Hid (∀ (d : Nat) (c : UInt8), u.toNat % 10 = d → UInt8.ofNat (48 + d) = c → (⟨D.toArray⟩ : ByteArray) ++ ⟨#[c]⟩ = ⟨(Lib.decDigits u.toNat).toArray⟩)) :
    Calls Tryz.prog 86 #[.int .u64 u] w fun e w' => e = .returned (.string ⟨(Lib.decDigits u.toNat).toArray⟩) ∧ w' = w := by
  generalize (⟨(Lib.decDigits u.toNat).toArray⟩ : ByteArray) = R at HD ⊢
  have hm : u % 10 = 0 ∨ u % 10 = 1 ∨ u % 10 = 2 ∨ u % 10 = 3 ∨ u % 10 = 4 ∨ u % 10 = 5 ∨ u % 10 = 6 ∨ u % 10 = 7 ∨ u % 10 = 8 ∨ u % 10 = 9 := by omega
  rcases hm with hm | hm | hm | hm | hm | hm | hm | hm | hm | hm
  all_goals
    go_enter Tryz.func86, Tryz.ntmps86
    go_wp2_with fail
    refine (IH.out _).mono ?_
    rintro e w1 ⟨rfl, rfl⟩
    go_wp2
    go_ret
    refine ⟨ret_str (HD.out (u % 10).toNat _ (by omega) ?_), rfl⟩
    rw [hm]; rfl
theorem digits_any (k : Nat) : ∀ (u : Int) (w : World), 0 ≤ u → u ≤ 18446744073709551615 → u.toNat ≤ k →
    Calls Tryz.prog 86 #[.int .u64 u] w fun e w' => e = .returned (.string ⟨(Lib.decDigits u.toNat).toArray⟩) ∧ w' = w := by
  induction k with
  | zero => exact fun u w h0 h1 hk => digits_small u w h0 (by omega)
  | succ k ih =>
    intro u w h0 h1 hk
    by_cases h : u < 10
    · exact digits_small u w h0 h
    · have hdiv : (u / 10).toNat = u.toNat / 10 := by omega
      exact digits_step u w (Lib.decDigits (u / 10).toNat) h1 h (dig_len _ (by omega)) (fun W => ih (u / 10) W (by omega) (by omega) (by omega))
        (fun d c hd hc => by rw [hdiv]; exact dig_snoc u.toNat d c (by omega) hd hc)
theorem Digits_any (n : Int) (w : World) (hn : -9223372036854775808 ≤ n ∧ n ≤ 9223372036854775807) :
    Calls Tryz.prog 56 #[.int .i64 n] w fun e w' => e = .returned (.string ⟨(Lib.itoa n).toArray⟩) ∧ w' = w := by
  by_cases h : n < 0
  · have hi : Lib.itoa n = 45 :: Lib.decDigits n.natAbs := by rw [Lib.itoa, if_pos h]
    have hl : (Lib.decDigits n.natAbs).length ≤ 20 := dig_len _ (by omega)
    have hq : ∀ W, Calls Tryz.prog 86 #[.int .u64 (-(n + 1) + 1)] W fun e w' => e = .returned (.string ⟨(Lib.decDigits n.natAbs).toArray⟩) ∧ w' = W := fun W => by
      have := digits_any n.natAbs (-n) W (by omega) (by omega) (by omega)
      rw [show (-n).toNat = n.natAbs from by omega] at this
      rw [show -(n + 1) + 1 = -n from by omega]
      exact this
    have HQ : Hid (∀ W, Calls Tryz.prog 86 #[.int .u64 (-(n + 1) + 1)] W fun e w' => e = .returned (.string ⟨(Lib.decDigits n.natAbs).toArray⟩) ∧ w' = W) := hq
    have HE : Hid ((⟨#[45]⟩ : ByteArray) ++ ⟨(Lib.decDigits n.natAbs).toArray⟩ = ⟨(Lib.itoa n).toArray⟩) := by rw [hi]; rfl
    generalize Lib.decDigits n.natAbs = D at *
    generalize Lib.itoa n = I at *
    clear hq hi
    go_enter Tryz.func56, Tryz.ntmps56
    go_wp2_with fail
    refine (HQ.out _).mono ?_
    rintro e w1 ⟨rfl, rfl⟩
    go_wp2
    go_ret
    exact ⟨ret_str HE.out, rfl⟩
  · have hi : Lib.itoa n = Lib.decDigits n.toNat := by rw [Lib.itoa, if_neg h]
    rw [hi]
    have HQ : Hid (∀ W, Calls Tryz.prog 86 #[.int .u64 n] W fun e w' => e = .returned (.string ⟨(Lib.decDigits n.toNat).toArray⟩) ∧ w' = W) := fun W => digits_any n.toNat n W (by omega) (by omega) (Nat.le_refl _)
    clear hi
    go_enter Tryz.func56, Tryz.ntmps56
    go_wp2_with fail
    refine (HQ.out _).mono ?_
    rintro e w1 ⟨rfl, rfl⟩
    go_wp2
    go_ret
    exact ⟨rfl, rfl⟩
end Go.Proofs.YtnpinbpjfngknaaGreatDoor
namespace Go.Proofs.YtnpinbpjfngknaaGreatDoor
open Go.RowKit
set_option linter.unusedVariables false

theorem head_iff (s : ByteArray) (h : 0 < s.size) : s.data.toList.head? = some 48 ↔ (s[0].toNat : Int) = 48 := by
  have hl : 0 < s.data.toList.length := by simpa using h
  have e : s.data.toList.head? = some s[0] := by
    rw [List.head?_eq_getElem?, List.getElem?_eq_getElem hl]; rfl
  rw [e]
  constructor
  · intro h; rw [Option.some.inj h]; rfl
  · intro h
    have : s[0] = 48 := UInt8.toNat_inj.1 (by rw [show (48 : UInt8).toNat = 48 from rfl]; omega)
    rw [this]
theorem all_take (s : ByteArray) (k : Nat) (h : k < s.size) : (s.data.toList.take (k + 1)).all digB = ((s.data.toList.take k).all digB && digB s[k]) ∧ val10 (s.data.toList.take (k + 1)) = val10 (s.data.toList.take k) * 10 + (s[k].toNat - 48) := by
  have e : s.data.toList.take (k + 1) = s.data.toList.take k ++ [s[k]] := by
    rw [List.take_succ_eq_append_getElem (by simpa using h)]; rfl
  rw [e]
  exact ⟨by simp [List.all_append], val10_snoc _ _⟩
theorem all_not (s : ByteArray) (k : Nat) (h : k < s.size) (hc : digB s[k] = false) : s.data.toList.all digB = false := by
  rw [List.all_eq_false]
  exact ⟨s[k], by rw [show s[k] = s.data.toList[k]'(by simpa using h) from rfl]; exact List.getElem_mem _, by simp [hc]⟩
theorem dig_false (c : UInt8) (h : (c.toNat : Int) < 48 ∨ 57 < (c.toNat : Int)) : digB c = false := by
  cases hd : digB c with
  | false => rfl
  | true => have := (digB_iff c).1 hd; omega
theorem dig_true (c : UInt8) (h : 48 ≤ (c.toNat : Int) ∧ (c.toNat : Int) ≤ 57) : digB c = true := (digB_iff c).2 (by omega)

set_option maxHeartbeats 1000000 in
theorem number_early (s : ByteArray) (w : World) (hs : s.size ≤ maxLen) (h : s.data.toList = [] ∨ (s.data.toList.head? = some 48 ∧ 1 < s.data.toList.length) ∨ 19 < s.data.toList.length) :
    Calls Tryz.prog 34 #[.string s] w fun e w' => e = .returned (.tuple #[.int .i64 0, .bool false]) ∧ w' = w := by
  unfold maxLen at hs
  have hl : s.data.toList.length = s.size := by simp
  by_cases h0 : s.size = 0
  · have he : s.toList = [] := by rw [Lib.toList_data]; exact List.length_eq_zero_iff.1 (by omega)
    clear h hl
    go_enter Tryz.func34, Tryz.ntmps34
    go_wp2
    go_ret2
    exact ⟨rfl, rfl⟩
  · have hp : 0 < s.size := by omega
    have hne : ¬ s.toList = [] := by rw [Lib.toList_data]; intro e; rw [e] at hl; simp at hl; omega
    have h' : ((s[0].toNat : Int) = 48 ∧ 1 < s.size) ∨ 19 < s.size := by
      rcases h with h | h | h
      · rw [h] at hl; simp at hl; omega
      · exact Or.inl ⟨(head_iff s hp).1 h.1, by omega⟩
      · exact Or.inr (by omega)
    clear h hl
    by_cases hz : (s[0].toNat : Int) = 48
    · have hzb : ((s[0].toNat : Int) == 48) = true := by simpa using hz
      have h1 : (1 : Int) < s.size := by omega
      clear hz h'
      go_enter Tryz.func34, Tryz.ntmps34
      go_wp2
      go_ret2
      exact ⟨rfl, rfl⟩
    · have hzb : ((s[0].toNat : Int) == 48) = false := by simpa using hz
      have h1 : (19 : Int) < s.size := by omega
      clear hz h'
      go_enter Tryz.func34, Tryz.ntmps34
      go_wp2
      go_ret2
      exact ⟨rfl, rfl⟩
def numV (o : Option Nat) : Value := match o with
  | some n => .tuple #[.int .i64 (n : Int), .bool true]
  | none => .tuple #[.int .i64 0, .bool false]
set_option maxRecDepth 4000 in
set_option maxHeartbeats 1000000 in
theorem number_late (s : ByteArray) (w : World) (h : ¬ (s.data.toList = [] ∨ (s.data.toList.head? = some 48 ∧ 1 < s.data.toList.length) ∨ 19 < s.data.toList.length)) :
    Calls Tryz.prog 34 #[.string s] w fun e w' => e = .returned (numV (numL s.data.toList)) ∧ w' = w := by
  have hn : numL s.data.toList = if s.data.toList.all digB = true then (if 9223372036854775807 < val10 s.data.toList then none else some (val10 s.data.toList)) else none := by rw [numL, if_neg h]
  have HN : Hid (numL s.data.toList = if s.data.toList.all digB = true then (if 9223372036854775807 < val10 s.data.toList then none else some (val10 s.data.toList)) else none) := hn
  have hl : s.data.toList.length = s.size := by simp
  have hp : 0 < s.size := by
    rcases Nat.eq_zero_or_pos s.size with e | e
    · exact absurd (Or.inl (List.length_eq_zero_iff.1 (by omega))) h
    · exact e
  have hne : ¬ s.toList = [] := by rw [Lib.toList_data]; exact fun e => h (Or.inl e)
  have h19 : s.size ≤ 19 := by
    rcases Nat.lt_or_ge 19 s.size with e | e
    · exact absurd (Or.inr (Or.inr (by omega))) h
    · exact e
  have hzz : ((s[0].toNat : Int) == 48) = false ∨ s.size = 1 := by
    by_cases hz : (s[0].toNat : Int) = 48
    · right
      rcases Nat.lt_or_ge 1 s.size with e | e
      · exact absurd (Or.inr (Or.inl ⟨(head_iff s hp).2 hz, by omega⟩)) h
      · omega
    · left; simpa using hz
  clear h hn hl
  have hpre : ((s[0].toNat : Int) == 48) = false ∨ (((s[0].toNat : Int) == 48) = true ∧ (s.size : Int) ≤ 1) := by
    rcases hzz with e | e
    · exact Or.inl e
    · cases hb : ((s[0].toNat : Int) == 48)
      · exact Or.inl rfl
      · exact Or.inr ⟨rfl, by omega⟩
  clear hzz
  have hem : s.toList.isEmpty = false := by rw [List.isEmpty_eq_false_iff]; exact hne
  have hd19 : decide ((19 : Int) < (s.size : Int)) = false := by simp; omega
  clear hne
  go_enter Tryz.func34, Tryz.ntmps34
  rcases hpre with hz | ⟨hz, h1⟩
  all_goals
    go_wp2
    go_loop [4, 5] (fun n i => ∃ (k : Nat) (a : Int), k ≤ s.size ∧ i = .int .i64 k ∧ n = .int .u64 a ∧ Hid (a = (val10 (s.data.toList.take k) : Int)) ∧ Hid ((s.data.toList.take k).all digB = true)) (fun _ i => s.size - (intOf i).toNat)
    case atStart => exact ⟨0, 0, Nat.zero_le _, rfl, rfl, rfl, rfl⟩
    case round =>
      obtain ⟨k, a, hk, rfl, rfl, HA, HD⟩ := hrel
      have hlt10 := val10_lt (s.data.toList.take k).length (s.data.toList.take k) rfl HD.out
      have hlk : (s.data.toList.take k).length = k := by simp; omega
      rw [hlk] at hlt10
      by_cases hlt : k < s.size
      · have hpow : 10 ^ k ≤ 10 ^ 18 := Nat.pow_le_pow_right (by decide) (by omega)
        have ha0 : 0 ≤ a := by have := HA.out; omega
        have ha1 : a ≤ 999999999999999999 := by have := HA.out; omega
        have HT : Hid ((s.data.toList.take (k + 1)).all digB = ((s.data.toList.take k).all digB && digB s[k]) ∧ val10 (s.data.toList.take (k + 1)) = val10 (s.data.toList.take k) * 10 + (s[k].toNat - 48)) := all_take s k hlt
        have hc256 : (s[k].toNat : Int) < 256 := by have := s[k].toNat_lt; omega
        have hc0 : 0 ≤ (s[k].toNat : Int) := by omega
        clear hlt10 hlk hpow
        by_cases hd : (s[k].toNat : Int) < 48 ∨ 57 < (s[k].toNat : Int)
        · have HF : Hid (s.data.toList.all digB = false) := all_not s k hlt (dig_false _ hd)
          go_wp2
          all_goals first | (exfalso; omega) | skip
          all_goals
            go_ret2
            exact ⟨by rw [HN.out, HF.out]; rfl, rfl⟩
        · have hd1 : 48 ≤ (s[k].toNat : Int) := by omega
          have hd2 : (s[k].toNat : Int) ≤ 57 := by omega
          clear hd
          go_wp2
          go_round
          case rel =>
            refine ⟨k + 1, _, by omega, by go_num, rfl, ?_, ?_⟩
            · show _ = _
              rw [HT.out.2]
              have := HA.out
              omega
            · show _ = _
              rw [HT.out.1, HD.out, dig_true _ ⟨hd1, hd2⟩]; rfl
          case measure => simp [intOf]; omega
      · have hall : s.data.toList.take k = s.data.toList := List.take_of_length_le (by simp; omega)
        have HV : Hid (a = (val10 s.data.toList : Int)) := by have := HA.out; rw [hall] at this; exact this
        have HL : Hid (s.data.toList.all digB = true) := by have := HD.out; rw [hall] at this; exact this
        have ha0 : 0 ≤ a := by have := HV.out; omega
        have ha1 : a ≤ 9999999999999999999 := by
          have := HA.out
          have hpow : 10 ^ k ≤ 10 ^ 19 := Nat.pow_le_pow_right (by decide) (by omega)
          omega
        clear hall hlt10 hlk HA HD
        by_cases hbig : 9223372036854775807 < a
        · go_wp2
          go_ret2
          refine ⟨?_, rfl⟩
          rw [HN.out, if_pos HL.out, if_pos (by have := HV.out; omega)]; rfl
        · go_wp2
          go_ret2
          refine ⟨?_, rfl⟩
          rw [HN.out, if_pos HL.out, if_neg (by have := HV.out; omega), numV, ← HV.out]
          exact ret_ib (by first | rfl | (unfold wrap64; omega))
theorem number_any (s : ByteArray) (w : World) (hs : s.size ≤ maxLen) :
    Calls Tryz.prog 34 #[.string s] w fun e w' => e = .returned (numV (numL s.data.toList)) ∧ w' = w := by
  by_cases h : s.data.toList = [] ∨ (s.data.toList.head? = some 48 ∧ 1 < s.data.toList.length) ∨ 19 < s.data.toList.length
  · have hn : numL s.data.toList = none := by rw [numL, if_pos h]
    rw [hn]
    exact number_early s w hs h
  · exact number_late s w h

end Go.Proofs.YtnpinbpjfngknaaGreatDoor
