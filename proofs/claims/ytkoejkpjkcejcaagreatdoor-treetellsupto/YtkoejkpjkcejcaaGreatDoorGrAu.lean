/-
  Ref1, Ref2, Ref3, Ref4, TreeOv, in one text.
-/
import Derived.Test.YtkoejkpjkcejcaaGreatDoorGrAa
import Derived.Lib.ItoaLen
import Derived.Test.YtkoejkpjkcejcaaGreatDoorGrAb
import Derived.Test.YtkoejkpjkcejcaaGreatDoorGrAc
import Derived.Test.YtkoejkpjkcejcaaGreatDoorGrAt
import Derived.BigQuiet
namespace Go.Proofs.YtkoejkpjkcejcaaGreatDoor
open Go.RowKit
set_option linter.unusedVariables false

set_option maxHeartbeats 400000 in
theorem refPlain_any (s : ByteArray) (w : World) (hs : s.size ≤ maxLen) :
    Calls Tryz.prog 61 #[.string s] w fun e w' => e = .returned (.bool (plainB s.data.toList)) ∧ w' = w := by
  unfold maxLen at hs
  go_enter Tryz.func61, Tryz.ntmps61
  go_wp2
  go_loop [3] (fun i => ∃ k : Nat, k ≤ s.size ∧ i = .int .i64 k ∧ plainB (s.data.toList.take k) = true) (fun i => s.size - (intOf i).toNat)
  case atStart => exact ⟨0, Nat.zero_le _, rfl, rfl⟩
  case round =>
    obtain ⟨k, hk, rfl, hp⟩ := hrel
    have HP : Hid (plainB (s.data.toList.take k) = true) := hp
    clear hp
    by_cases hlt : k < s.size
    · have HN : Hid (∀ _ : (s[k].toNat : Int) < 32 ∨ 126 < (s[k].toNat : Int), plainB s.data.toList = false) := plain_not s k hlt
      have HT : Hid (plainB (s.data.toList.take (k + 1)) = (plainB (s.data.toList.take k) && (decide (32 ≤ (s[k].toNat : Int)) && decide ((s[k].toNat : Int) ≤ 126)))) := plain_take s k hlt
      go_wp2
      · go_ret
        exact ⟨ret_bool (HN.out (by omega)).symm, rfl⟩
      · go_round
        case rel =>
          refine ⟨k + 1, by omega, by go_num, ?_⟩
          rw [HT.out, HP.out]
          simp only [Bool.true_and, Bool.and_eq_true, decide_eq_true_eq]
          assumption
        case measure => simp [intOf]; omega
      · go_ret
        exact ⟨ret_bool (HN.out (by omega)).symm, rfl⟩
    · have HO := plain_of s k (by omega) HP.out
      go_wp2
      go_ret
      exact ⟨rfl, rfl⟩

set_option maxHeartbeats 1000000 in
theorem refVal_any (t n : Int) (s : ByteArray) (w : World) (hs : s.size ≤ maxLen) :
    Calls Tryz.prog 51 #[.agg #[.int .i64 t, .int .i64 n, .string s]] w fun e w' => e = .returned (.int .i64 (chk t n s.data.toList)) ∧ Below w.heap.size w w' := by
  have hs2 := hs
  unfold maxLen at hs2
  generalize hc : chk t n s.data.toList = c
  have HC : Hid (chk t n s.data.toList = c) := hc
  clear hc
  go_enter Tryz.func51, Tryz.ntmps51
  go_wp2_with (first | (go_at_call 61; refine (refPlain_any _ _ hs).mono ?_; rintro e w' ⟨rfl, rfl⟩))
  all_goals
    go_ret
    refine ⟨?_, by repeat (first | exact Below.refl _ _ | (refine Below.alloc ?_ (by simp) _))⟩
    have hd : s.data.toList.length = s.size := by simp
    have hc := HC.out
    clear HC hs
    rw [chk] at hc
    simp only [Lib.toList_data, bne_iff_ne, bne_eq_false_iff_eq, Bool.not_eq_true', Bool.not_eq_false'] at *
  all_goals
    repeat' split at hc
  all_goals subst hc
  all_goals first | rfl | (exfalso; omega) | (exfalso; simp_all; done) | (exfalso; simp_all; omega)

theorem ret_bi {b : Bool} {k : IntKind} {a c : Int} (h : a = c) : Ending.returned (.tuple #[.bool b, .int k a]) = .returned (.tuple #[.bool b, .int k c]) := by rw [h]
theorem ret_ib {b : Bool} {k : IntKind} {a c : Int} (h : a = c) : Ending.returned (.tuple #[.int k a, .bool b]) = .returned (.tuple #[.int k c, .bool b]) := by rw [h]
theorem dig_len (u : Nat) (h : u < 18446744073709551616) : (Lib.decDigits u).length ≤ 20 := by rw [Lib.decDigits_length]; exact Lib.nDigits_le20 u h
theorem ret_str {a c : ByteArray} (h : a = c) : Ending.returned (.string a) = .returned (.string c) := by rw [h]
theorem dig_snoc (u : Nat) (d : Nat) (c : UInt8) (h : ¬ u < 10) (hd : u % 10 = d) (hc : UInt8.ofNat (48 + d) = c) : (⟨(Lib.decDigits (u / 10)).toArray⟩ : ByteArray) ++ ⟨#[c]⟩ = ⟨(Lib.decDigits u).toArray⟩ := by
  rw [Lib.decDigits.eq_1 u, dif_neg h, hd, hc]
  rfl
set_option maxHeartbeats 1000000 in
theorem digits_small (u : Int) (w : World) (h0 : 0 ≤ u) (h : u < 10) :
    Calls Tryz.prog 83 #[.int .u64 u] w fun e w' => e = .returned (.string ⟨(Lib.decDigits u.toNat).toArray⟩) ∧ w' = w := by
  have hd : Lib.decDigits u.toNat = [UInt8.ofNat (48 + u.toNat)] := Lib.decDigits_one (by omega)
  rw [hd]
  have hc : u = 0 ∨ u = 1 ∨ u = 2 ∨ u = 3 ∨ u = 4 ∨ u = 5 ∨ u = 6 ∨ u = 7 ∨ u = 8 ∨ u = 9 := by omega
  clear hd h0 h
  rcases hc with rfl | rfl | rfl | rfl | rfl | rfl | rfl | rfl | rfl | rfl
  all_goals
    go_enter Tryz.func83, Tryz.ntmps83
    go_wp2
    go_ret
    exact ⟨rfl, rfl⟩
set_option maxHeartbeats 1000000 in
theorem digits_step (u : Int) (w : World) (D : List UInt8) (h1 : u ≤ 18446744073709551615) (h : ¬ u < 10) (hl : D.length ≤ 20)
    (IH : Hid (∀ (W : World), Calls Tryz.prog 83 #[.int .u64 (u / 10)] W fun e w' => e = .returned (.string ⟨D.toArray⟩) ∧ w' = W))
    (HD : Hid (∀ (d : Nat) (c : UInt8), u.toNat % 10 = d → UInt8.ofNat (48 + d) = c → (⟨D.toArray⟩ : ByteArray) ++ ⟨#[c]⟩ = ⟨(Lib.decDigits u.toNat).toArray⟩)) :
    Calls Tryz.prog 83 #[.int .u64 u] w fun e w' => e = .returned (.string ⟨(Lib.decDigits u.toNat).toArray⟩) ∧ w' = w := by
  generalize (⟨(Lib.decDigits u.toNat).toArray⟩ : ByteArray) = R at HD ⊢
  have hm : u % 10 = 0 ∨ u % 10 = 1 ∨ u % 10 = 2 ∨ u % 10 = 3 ∨ u % 10 = 4 ∨ u % 10 = 5 ∨ u % 10 = 6 ∨ u % 10 = 7 ∨ u % 10 = 8 ∨ u % 10 = 9 := by omega
  rcases hm with hm | hm | hm | hm | hm | hm | hm | hm | hm | hm
  all_goals
    go_enter Tryz.func83, Tryz.ntmps83
    go_wp2_with fail
    refine (IH.out _).mono ?_
    rintro e w1 ⟨rfl, rfl⟩
    go_wp2
    go_ret
    refine ⟨ret_str (HD.out (u % 10).toNat _ (by omega) ?_), rfl⟩
    rw [hm]; rfl
theorem digits_any (k : Nat) : ∀ (u : Int) (w : World), 0 ≤ u → u ≤ 18446744073709551615 → u.toNat ≤ k →
    Calls Tryz.prog 83 #[.int .u64 u] w fun e w' => e = .returned (.string ⟨(Lib.decDigits u.toNat).toArray⟩) ∧ w' = w := by
  induction k with
  | zero => exact fun u w h0 h1 hk => digits_small u w h0 (by omega)
  | succ k ih =>
    intro u w h0 h1 hk
    by_cases h : u < 10
    · exact digits_small u w h0 h
    · have hdiv : (u / 10).toNat = u.toNat / 10 := by omega
      exact digits_step u w (Lib.decDigits (u / 10).toNat) h1 h (dig_len _ (by omega)) (fun W => ih (u / 10) W (by omega) (by omega) (by omega))
        (fun d c hd hc => by rw [hdiv]; exact dig_snoc u.toNat d c (by omega) hd hc)
theorem Digits_any (n : Int) (w : World) (hn : -9223372036854775808 ≤ n ∧ n ≤ 9223372036854775807) :
    Calls Tryz.prog 56 #[.int .i64 n] w fun e w' => e = .returned (.string ⟨(Lib.itoa n).toArray⟩) ∧ w' = w := by
  by_cases h : n < 0
  · have hi : Lib.itoa n = 45 :: Lib.decDigits n.natAbs := by rw [Lib.itoa, if_pos h]
    have hl : (Lib.decDigits n.natAbs).length ≤ 20 := dig_len _ (by omega)
    have hq : ∀ W, Calls Tryz.prog 83 #[.int .u64 (-(n + 1) + 1)] W fun e w' => e = .returned (.string ⟨(Lib.decDigits n.natAbs).toArray⟩) ∧ w' = W := fun W => by
      have := digits_any n.natAbs (-n) W (by omega) (by omega) (by omega)
      rw [show (-n).toNat = n.natAbs from by omega] at this
      rw [show -(n + 1) + 1 = -n from by omega]
      exact this
    have HQ : Hid (∀ W, Calls Tryz.prog 83 #[.int .u64 (-(n + 1) + 1)] W fun e w' => e = .returned (.string ⟨(Lib.decDigits n.natAbs).toArray⟩) ∧ w' = W) := hq
    have HE : Hid ((⟨#[45]⟩ : ByteArray) ++ ⟨(Lib.decDigits n.natAbs).toArray⟩ = ⟨(Lib.itoa n).toArray⟩) := by rw [hi]; rfl
    generalize Lib.decDigits n.natAbs = D at *
    generalize Lib.itoa n = I at *
    clear hq hi
    go_enter Tryz.func56, Tryz.ntmps56
    go_wp2_with fail
    refine (HQ.out _).mono ?_
    rintro e w1 ⟨rfl, rfl⟩
    go_wp2
    go_ret
    exact ⟨ret_str HE.out, rfl⟩
  · have hi : Lib.itoa n = Lib.decDigits n.toNat := by rw [Lib.itoa, if_neg h]
    rw [hi]
    have HQ : Hid (∀ W, Calls Tryz.prog 83 #[.int .u64 n] W fun e w' => e = .returned (.string ⟨(Lib.decDigits n.toNat).toArray⟩) ∧ w' = W) := fun W => digits_any n.toNat n W (by omega) (by omega) (Nat.le_refl _)
    clear hi
    go_enter Tryz.func56, Tryz.ntmps56
    go_wp2_with fail
    refine (HQ.out _).mono ?_
    rintro e w1 ⟨rfl, rfl⟩
    go_wp2
    go_ret
    exact ⟨rfl, rfl⟩
end Go.Proofs.YtkoejkpjkcejcaaGreatDoor
namespace Go.Proofs.YtkoejkpjkcejcaaGreatDoor
open Go.RowKit
set_option linter.unusedVariables false

theorem head_iff (s : ByteArray) (h : 0 < s.size) : s.data.toList.head? = some 48 ↔ (s[0].toNat : Int) = 48 := by
  have hl : 0 < s.data.toList.length := by simpa using h
  have e : s.data.toList.head? = some s[0] := by
    rw [List.head?_eq_getElem?, List.getElem?_eq_getElem hl]; rfl
  rw [e]
  constructor
  · intro h; rw [Option.some.inj h]; rfl
  · intro h
    have : s[0] = 48 := UInt8.toNat_inj.1 (by rw [show (48 : UInt8).toNat = 48 from rfl]; omega)
    rw [this]
theorem all_takeR (s : ByteArray) (k : Nat) (h : k < s.size) : (s.data.toList.take (k + 1)).all digB = ((s.data.toList.take k).all digB && digB s[k]) ∧ val10 (s.data.toList.take (k + 1)) = val10 (s.data.toList.take k) * 10 + (s[k].toNat - 48) := by
  have e : s.data.toList.take (k + 1) = s.data.toList.take k ++ [s[k]] := by
    rw [List.take_succ_eq_append_getElem (by simpa using h)]; rfl
  rw [e]
  exact ⟨by simp [List.all_append], val10_snoc _ _⟩
theorem all_not (s : ByteArray) (k : Nat) (h : k < s.size) (hc : digB s[k] = false) : s.data.toList.all digB = false := by
  rw [List.all_eq_false]
  exact ⟨s[k], by rw [show s[k] = s.data.toList[k]'(by simpa using h) from rfl]; exact List.getElem_mem _, by simp [hc]⟩
theorem dig_false (c : UInt8) (h : (c.toNat : Int) < 48 ∨ 57 < (c.toNat : Int)) : digB c = false := by
  cases hd : digB c with
  | false => rfl
  | true => have := (digB_iff c).1 hd; omega
theorem dig_true (c : UInt8) (h : 48 ≤ (c.toNat : Int) ∧ (c.toNat : Int) ≤ 57) : digB c = true := (digB_iff c).2 (by omega)

set_option maxHeartbeats 1000000 in
theorem number_early (s : ByteArray) (w : World) (hs : s.size ≤ maxLen) (h : s.data.toList = [] ∨ (s.data.toList.head? = some 48 ∧ 1 < s.data.toList.length) ∨ 19 < s.data.toList.length) :
    Calls Tryz.prog 37 #[.string s] w fun e w' => e = .returned (.tuple #[.int .i64 0, .bool false]) ∧ w' = w := by
  unfold maxLen at hs
  have hl : s.data.toList.length = s.size := by simp
  by_cases h0 : s.size = 0
  · have he : s.toList = [] := by rw [Lib.toList_data]; exact List.length_eq_zero_iff.1 (by omega)
    clear h hl
    go_enter Tryz.func37, Tryz.ntmps37
    go_wp2
    go_ret2
    exact ⟨rfl, rfl⟩
  · have hp : 0 < s.size := by omega
    have hne : ¬ s.toList = [] := by rw [Lib.toList_data]; intro e; rw [e] at hl; simp at hl; omega
    have h' : ((s[0].toNat : Int) = 48 ∧ 1 < s.size) ∨ 19 < s.size := by
      rcases h with h | h | h
      · rw [h] at hl; simp at hl; omega
      · exact Or.inl ⟨(head_iff s hp).1 h.1, by omega⟩
      · exact Or.inr (by omega)
    clear h hl
    by_cases hz : (s[0].toNat : Int) = 48
    · have hzb : ((s[0].toNat : Int) == 48) = true := by simpa using hz
      have h1 : (1 : Int) < s.size := by omega
      clear hz h'
      go_enter Tryz.func37, Tryz.ntmps37
      go_wp2
      go_ret2
      exact ⟨rfl, rfl⟩
    · have hzb : ((s[0].toNat : Int) == 48) = false := by simpa using hz
      have h1 : (19 : Int) < s.size := by omega
      clear hz h'
      go_enter Tryz.func37, Tryz.ntmps37
      go_wp2
      go_ret2
      exact ⟨rfl, rfl⟩
def numV (o : Option Nat) : Value := match o with
  | some n => .tuple #[.int .i64 (n : Int), .bool true]
  | none => .tuple #[.int .i64 0, .bool false]
set_option maxRecDepth 4000 in
set_option maxHeartbeats 1000000 in
theorem number_late (s : ByteArray) (w : World) (h : ¬ (s.data.toList = [] ∨ (s.data.toList.head? = some 48 ∧ 1 < s.data.toList.length) ∨ 19 < s.data.toList.length)) :
    Calls Tryz.prog 37 #[.string s] w fun e w' => e = .returned (numV (numL s.data.toList)) ∧ w' = w := by
  have hn : numL s.data.toList = if s.data.toList.all digB = true then (if 9223372036854775807 < val10 s.data.toList then none else some (val10 s.data.toList)) else none := by rw [numL, if_neg h]
  have HN : Hid (numL s.data.toList = if s.data.toList.all digB = true then (if 9223372036854775807 < val10 s.data.toList then none else some (val10 s.data.toList)) else none) := hn
  have hl : s.data.toList.length = s.size := by simp
  have hp : 0 < s.size := by
    rcases Nat.eq_zero_or_pos s.size with e | e
    · exact absurd (Or.inl (List.length_eq_zero_iff.1 (by omega))) h
    · exact e
  have hne : ¬ s.toList = [] := by rw [Lib.toList_data]; exact fun e => h (Or.inl e)
  have h19 : s.size ≤ 19 := by
    rcases Nat.lt_or_ge 19 s.size with e | e
    · exact absurd (Or.inr (Or.inr (by omega))) h
    · exact e
  have hzz : ((s[0].toNat : Int) == 48) = false ∨ s.size = 1 := by
    by_cases hz : (s[0].toNat : Int) = 48
    · right
      rcases Nat.lt_or_ge 1 s.size with e | e
      · exact absurd (Or.inr (Or.inl ⟨(head_iff s hp).2 hz, by omega⟩)) h
      · omega
    · left; simpa using hz
  clear h hn hl
  have hpre : ((s[0].toNat : Int) == 48) = false ∨ (((s[0].toNat : Int) == 48) = true ∧ (s.size : Int) ≤ 1) := by
    rcases hzz with e | e
    · exact Or.inl e
    · cases hb : ((s[0].toNat : Int) == 48)
      · exact Or.inl rfl
      · exact Or.inr ⟨rfl, by omega⟩
  clear hzz
  have hem : s.toList.isEmpty = false := by rw [List.isEmpty_eq_false_iff]; exact hne
  have hd19 : decide ((19 : Int) < (s.size : Int)) = false := by simp; omega
  clear hne
  go_enter Tryz.func37, Tryz.ntmps37
  rcases hpre with hz | ⟨hz, h1⟩
  all_goals
    go_wp2
    go_loop [4, 5] (fun n i => ∃ (k : Nat) (a : Int), k ≤ s.size ∧ i = .int .i64 k ∧ n = .int .u64 a ∧ Hid (a = (val10 (s.data.toList.take k) : Int)) ∧ Hid ((s.data.toList.take k).all digB = true)) (fun _ i => s.size - (intOf i).toNat)
    case atStart => exact ⟨0, 0, Nat.zero_le _, rfl, rfl, rfl, rfl⟩
    case round =>
      obtain ⟨k, a, hk, rfl, rfl, HA, HD⟩ := hrel
      have hlt10 := val10_lt (s.data.toList.take k).length (s.data.toList.take k) rfl HD.out
      have hlk : (s.data.toList.take k).length = k := by simp; omega
      rw [hlk] at hlt10
      by_cases hlt : k < s.size
      · have hpow : 10 ^ k ≤ 10 ^ 18 := Nat.pow_le_pow_right (by decide) (by omega)
        have ha0 : 0 ≤ a := by have := HA.out; omega
        have ha1 : a ≤ 999999999999999999 := by have := HA.out; omega
        have HT : Hid ((s.data.toList.take (k + 1)).all digB = ((s.data.toList.take k).all digB && digB s[k]) ∧ val10 (s.data.toList.take (k + 1)) = val10 (s.data.toList.take k) * 10 + (s[k].toNat - 48)) := all_takeR s k hlt
        have hc256 : (s[k].toNat : Int) < 256 := by have := s[k].toNat_lt; omega
        have hc0 : 0 ≤ (s[k].toNat : Int) := by omega
        clear hlt10 hlk hpow
        by_cases hd : (s[k].toNat : Int) < 48 ∨ 57 < (s[k].toNat : Int)
        · have HF : Hid (s.data.toList.all digB = false) := all_not s k hlt (dig_false _ hd)
          go_wp2
          all_goals first | (exfalso; omega) | skip
          all_goals
            go_ret2
            exact ⟨by rw [HN.out, HF.out]; rfl, rfl⟩
        · have hd1 : 48 ≤ (s[k].toNat : Int) := by omega
          have hd2 : (s[k].toNat : Int) ≤ 57 := by omega
          clear hd
          go_wp2
          go_round
          case rel =>
            refine ⟨k + 1, _, by omega, by go_num, rfl, ?_, ?_⟩
            · show _ = _
              rw [HT.out.2]
              have := HA.out
              omega
            · show _ = _
              rw [HT.out.1, HD.out, dig_true _ ⟨hd1, hd2⟩]; rfl
          case measure => simp [intOf]; omega
      · have hall : s.data.toList.take k = s.data.toList := List.take_of_length_le (by simp; omega)
        have HV : Hid (a = (val10 s.data.toList : Int)) := by have := HA.out; rw [hall] at this; exact this
        have HL : Hid (s.data.toList.all digB = true) := by have := HD.out; rw [hall] at this; exact this
        have ha0 : 0 ≤ a := by have := HV.out; omega
        have ha1 : a ≤ 9999999999999999999 := by
          have := HA.out
          have hpow : 10 ^ k ≤ 10 ^ 19 := Nat.pow_le_pow_right (by decide) (by omega)
          omega
        clear hall hlt10 hlk HA HD
        by_cases hbig : 9223372036854775807 < a
        · go_wp2
          go_ret2
          refine ⟨?_, rfl⟩
          rw [HN.out, if_pos HL.out, if_pos (by have := HV.out; omega)]; rfl
        · go_wp2
          go_ret2
          refine ⟨?_, rfl⟩
          rw [HN.out, if_pos HL.out, if_neg (by have := HV.out; omega), numV, ← HV.out]
          exact ret_ib (by first | rfl | (unfold wrap64; omega))
theorem number_any (s : ByteArray) (w : World) (hs : s.size ≤ maxLen) :
    Calls Tryz.prog 37 #[.string s] w fun e w' => e = .returned (numV (numL s.data.toList)) ∧ w' = w := by
  by_cases h : s.data.toList = [] ∨ (s.data.toList.head? = some 48 ∧ 1 < s.data.toList.length) ∨ 19 < s.data.toList.length
  · have hn : numL s.data.toList = none := by rw [numL, if_pos h]
    rw [hn]
    exact number_early s w hs h
  · exact number_late s w h

end Go.Proofs.YtkoejkpjkcejcaaGreatDoor
namespace Go.Proofs.YtkoejkpjkcejcaaGreatDoor
open Go.RowKit
set_option linter.unusedVariables false

theorem esc_take (s : ByteArray) (k : Nat) (h : k < s.size) : esc (s.data.toList.take (k + 1)) = esc (s.data.toList.take k) ++ (if s[k] = 39 then [39, 39] else [s[k]]) := by
  have e : s.data.toList.take (k + 1) = s.data.toList.take k ++ [s[k]] := by
    rw [List.take_succ_eq_append_getElem (by simpa using h)]; rfl
  rw [e]; simp [esc]

theorem slice_one (s : ByteArray) (k : Nat) (h : k < s.size) : ∃ X : ByteArray, (∀ W : World, Sem.run Tryz.prog (Instr.slice 9 (.string s) (some (.int .i64 (k : Int))) (some (.int .i64 ((k : Int) + 1))) none) W = .ok (.string X) W) ∧ X.data.toList = [s[k]] ∧ X.size = 1 := by
  refine ⟨s.extract k (k + 1), fun W => ?_, ?_, ?_⟩
  · have := run_slice_string (P := Tryz.prog) W 9 s .i64 .i64 (k : Int) ((k : Int) + 1) Tryz.underlying9 (by omega) (by omega) (by omega)
    rw [this]
    have e1 : ((k : Int)).toNat = k := by omega
    have e2 : ((k : Int) + 1).toNat = k + 1 := by omega
    rw [e1, e2]
  · have hl : k < s.data.toList.length := by simpa using h
    have : (s.extract k (k + 1)).data.toList = (s.data.toList.drop k).take 1 := by simp
    rw [this, List.drop_eq_getElem_cons hl]
    rfl
  · simp; omega
theorem app_list (a b : ByteArray) : (a ++ b).data.toList = a.data.toList ++ b.data.toList := by simp
theorem app_size (a b : ByteArray) : (a ++ b).size = a.size + b.size := by simp
theorem u8_39 {c : UInt8} : (c.toNat : Int) = 39 ↔ c = 39 :=
  ⟨fun h => UInt8.toNat_inj.1 (by rw [show (39 : UInt8).toNat = 39 from rfl]; omega), fun h => by rw [h]; rfl⟩

set_option maxRecDepth 20000 in
set_option maxHeartbeats 1000000 in
theorem show_text (s : ByteArray) (w : World) (hs : s.size ≤ 40) :
    Calls Tryz.prog 31 #[.agg #[.int .i64 3, .int .i64 0, .string s]] w fun e w' => e = .returned (.string ⟨(39 :: (esc s.data.toList ++ [39])).toArray⟩) ∧ Below w.heap.size w w' := by
  go_enter Tryz.func31, Tryz.ntmps31
  go_wp2
  go_loop [3, 4] (fun v i => ∃ (k : Nat) (T : ByteArray), k ≤ s.size ∧ i = .int .i64 k ∧ v = .string T ∧ Hid (T.data.toList = 39 :: esc (s.data.toList.take k)) ∧ T.size ≤ 2 * k + 1) (fun _ i => s.size - (intOf i).toNat)
  case atStart => exact ⟨0, ⟨#[39]⟩, Nat.zero_le _, rfl, rfl, rfl, by decide⟩
  case round =>
    obtain ⟨k, T, hk, rfl, rfl, HT, hT⟩ := hrel
    by_cases hlt : k < s.size
    · obtain ⟨X, hX, hX1, hX2⟩ := slice_one s k hlt
      have HX : Hid (X.data.toList = [s[k]]) := hX1
      have HS : Hid (esc (s.data.toList.take (k + 1)) = esc (s.data.toList.take k) ++ (if s[k] = 39 then [39, 39] else [s[k]])) := esc_take s k hlt
      have hXle : X.size ≤ 1 := by omega
      clear hX1 hX2
      by_cases hc : (s[k].toNat : Int) = 39
      · have hcb : ((s[k].toNat : Int) == 39) = true := by simpa using hc
        have HC : Hid (s[k] = 39) := u8_39.1 hc
        clear hc
        have hsz : (T ++ X).size ≤ 2 * k + 2 := by rw [app_size]; omega
        go_wp2
        go_round
        case rel =>
          refine ⟨k + 1, _, by omega, by go_num, rfl, ?_, ?_⟩
          · show _ = _
            rw [app_list, app_list, HT.out, HX.out, HS.out, if_pos HC.out, HC.out]; simp
          · rw [app_size]
            have : (⟨#[39]⟩ : ByteArray).size = 1 := rfl
            omega
        case measure => simp [intOf]; omega
      · have hcb : ((s[k].toNat : Int) == 39) = false := by simpa using hc
        have HC : Hid (¬ s[k] = 39) := fun e => hc (u8_39.2 e)
        clear hc
        have hsz : (T ++ X).size ≤ 2 * k + 2 := by rw [app_size]; omega
        go_wp2
        go_round
        case rel =>
          refine ⟨k + 1, _, by omega, by go_num, rfl, ?_, ?_⟩
          · show _ = _
            rw [app_list, HT.out, HX.out, HS.out, if_neg HC.out]; simp
          · omega
        case measure => simp [intOf]; omega
    · have hall : s.data.toList.take k = s.data.toList := List.take_of_length_le (by simp; omega)
      have HE : Hid (T ++ ⟨#[39]⟩ = ⟨(39 :: (esc s.data.toList ++ [39])).toArray⟩) := eq_of_list (by rw [app_list, HT.out, hall]; simp)
      clear hall
      go_wp2
      go_ret
      exact ⟨by rw [HE.out]; rfl, (Below.refl _ _).alloc (Nat.le_refl _) _⟩
theorem show_any (t n : Int) (s : ByteArray) (w : World) (hn : -9223372036854775808 ≤ n ∧ n ≤ 9223372036854775807) (h : chk t n s.data.toList = 0) :
    Calls Tryz.prog 31 #[.agg #[.int .i64 t, .int .i64 n, .string s]] w fun e w' => e = .returned (.string ⟨(shown t n s.data.toList).toArray⟩) ∧ Below w.heap.size w w' := by
  rcases chk_type h with ⟨rfl, _⟩ | ⟨rfl, _, hb⟩ | ⟨rfl, rfl, hl, _⟩
  · have hsh : shown 1 n s.data.toList = Lib.itoa n := by rw [shown, if_pos rfl]
    rw [hsh]
    clear h hsh
    go_enter Tryz.func31, Tryz.ntmps31
    go_wp2_with fail
    refine (Digits_any n _ hn).mono ?_
    rintro e w1 ⟨rfl, rfl⟩
    go_wp2
    go_ret
    exact ⟨rfl, (Below.refl _ _).alloc (Nat.le_refl _) _⟩
  · have hsh : shown 2 n s.data.toList = if n = 1 then [116, 114, 117, 101] else [102, 97, 108, 115, 101] := by rw [shown, if_neg (by decide), if_pos rfl]
    rw [hsh]
    clear h hsh
    rcases hb with rfl | rfl
    all_goals
      go_enter Tryz.func31, Tryz.ntmps31
      go_wp2
      go_ret
      exact ⟨rfl, (Below.refl _ _).alloc (Nat.le_refl _) _⟩
  · have hsh : shown 3 0 s.data.toList = 39 :: (esc s.data.toList ++ [39]) := by rw [shown, if_neg (by decide), if_neg (by decide)]
    rw [hsh]
    exact show_text s w (by simpa using hl)
end Go.Proofs.YtkoejkpjkcejcaaGreatDoor
namespace Go.Proofs.YtkoejkpjkcejcaaGreatDoor
open Go.RowKit
set_option linter.unusedVariables false

def refR (r : Int × Int × List UInt8 × Int) : Value := .tuple #[.agg #[.int .i64 r.1, .int .i64 r.2.1, .string ⟨r.2.2.1.toArray⟩], .int .i64 r.2.2.2]
theorem not_empty (s : ByteArray) (hp : 0 < s.size) : s.toList.isEmpty = false := by
  rw [Lib.toList_data, List.isEmpty_eq_false_iff]
  intro e
  have : s.data.toList.length = s.size := by simp
  rw [e] at this; simp at this; omega
theorem drop_cons0 (s : ByteArray) (h : 0 < s.size) : s.data.toList = s[0] :: s.data.toList.drop 1 := by have := drop_cons s 0 h; simpa using this
theorem data_of (T : ByteArray) : (⟨T.data.toList.toArray⟩ : ByteArray) = T := by simp

set_option maxRecDepth 20000 in
set_option maxHeartbeats 2000000 in
theorem readT_any (s : ByteArray) (w : World) (hs : s.size ≤ 140737488355328) (h1 : s.data.toList ≠ [116, 114, 117, 101]) (h2 : s.data.toList ≠ [102, 97, 108, 115, 101]) (hp : 0 < s.size) (h0 : (s[0].toNat : Int) = 39) :
    Calls Tryz.prog 38 #[.string s] w fun e w' => e = .returned (refR (readV s)) ∧ Below w.heap.size w w' := by
  have RN : Hid (rd (s.data.toList.drop 1) = none → readV s = (0, 0, [], 2)) := read_rd_none h1 h2 hp h0
  have RS : Hid (∀ l, rd (s.data.toList.drop 1) = some l → readV s = if plainB l = false then (0, 0, [], 2) else if 40 < l.length then (0, 0, [], 4) else (3, 0, l, 0)) := fun l => read_rd_some h1 h2 hp h0
  have q1 : (s.toList == [116, 114, 117, 101]) = false := by rw [Lib.toList_data]; simpa using h1
  have q2 : (s.toList == [102, 97, 108, 115, 101]) = false := by rw [Lib.toList_data]; simpa using h2
  have q3 := not_empty s hp
  have q4 : ((s[0].toNat : Int) == 39) = true := by simpa using h0
  clear h1 h2 h0
  go_enter Tryz.func38, Tryz.ntmps38
  go_wp2
  go_loop [4, 5] (fun v i => ∃ (j : Nat) (T : ByteArray), 1 ≤ j ∧ j ≤ s.size ∧ i = .int .i64 (j : Nat) ∧ v = .string T ∧ Hid (Had s j T) ∧ T.size < j) (fun _ i => s.size - (intOf i).toNat)
  case atStart => exact ⟨1, ⟨#[]⟩, Nat.le_refl _, by omega, rfl, rfl, had_start s, by decide⟩
  case round =>
    obtain ⟨j, T, hj1, hj2, rfl, rfl, HG, hT⟩ := hrel
    have hTm : T.size ≤ maxLen := by unfold maxLen; omega
    by_cases hlt : j < s.size
    · by_cases hc : (s[j].toNat : Int) = 39
      · have HC : Hid (s[j] = 39) := u8_39.1 hc
        have hcb : ((s[j].toNat : Int) == 39) = true := by simpa using hc
        clear hc
        by_cases hl : j + 1 = s.size
        · have HE : Hid (readV s = if plainB T.data.toList = false then (0, 0, [], 2) else if 40 < T.data.toList.length then (0, 0, [], 4) else (3, 0, T.data.toList, 0)) := RS.out _ (had_end hl HC.out HG.out)
          have hle : ((j : Int) + 1 == (s.size : Int)) = true := by simp; omega
          have hji : (j : Int) < (s.size : Int) := by omega
          have hTl : T.data.toList.length = T.size := by simp
          cases hpl : plainB T.data.toList
          · have HF : Hid (readV s = (0, 0, [], 2)) := by have := HE.out; rw [if_pos hpl] at this; exact this
            have HPL : Hid (plainB T.data.toList = false) := hpl
            clear hpl hTl
            go_wp2_with fail
            refine (refPlain_any T _ hTm).mono ?_
            rintro e w1 ⟨rfl, rfl⟩
            rw [HPL.out]
            go_wp2
            exact bodyPost_ret (v := .tuple #[.agg #[.int .i64 0, .int .i64 0, .string ⟨#[]⟩], .int .i64 2]) (by simp [results, Tryz.results38, go_sem]) rfl ⟨by rw [HF.out]; rfl, (Below.refl _ _).alloc (Nat.le_refl _) _⟩
          · have HPL : Hid (plainB T.data.toList = true) := hpl
            by_cases h40 : (40 : Int) < T.size
            · have HF : Hid (readV s = (0, 0, [], 4)) := by have := HE.out; rw [if_neg (by rw [hpl]; decide), if_pos (by omega)] at this; exact this
              clear hpl hTl
              go_wp2_with fail
              refine (refPlain_any T _ hTm).mono ?_
              rintro e w1 ⟨rfl, rfl⟩
              rw [HPL.out]
              go_wp2
              exact bodyPost_ret (v := .tuple #[.agg #[.int .i64 0, .int .i64 0, .string ⟨#[]⟩], .int .i64 4]) (by simp [results, Tryz.results38, go_sem]) rfl ⟨by rw [HF.out]; rfl, (Below.refl _ _).alloc (Nat.le_refl _) _⟩
            · have HF : Hid (readV s = (3, 0, T.data.toList, 0)) := by have := HE.out; rw [if_neg (by rw [hpl]; decide), if_neg (by omega)] at this; exact this
              clear hpl hTl
              go_wp2_with fail
              refine (refPlain_any T _ hTm).mono ?_
              rintro e w1 ⟨rfl, rfl⟩
              rw [HPL.out]
              go_wp2
              exact bodyPost_ret (v := .tuple #[.agg #[.int .i64 3, .int .i64 0, .string T], .int .i64 0]) (by simp [results, Tryz.results38, go_sem]) rfl ⟨by rw [HF.out, refR, data_of], (Below.refl _ _).alloc (Nat.le_refl _) _⟩
        · have hle : ((j : Int) + 1 == (s.size : Int)) = false := by simp; omega
          have hj2s : j + 1 < s.size := by omega
          by_cases hd : (s[j + 1].toNat : Int) = 39
          · have HD : Hid (s[j + 1] = 39) := u8_39.1 hd
            have hdb : ((s[j + 1].toNat : Int) != 39) = false := by simpa using hd
            obtain ⟨X, hX, hX1, hX2⟩ := slice_one s (j + 1) hj2s
            have hX' : ∀ W : World, Sem.run Tryz.prog (Instr.slice 9 (.string s) (some (.int .i64 ((j : Int) + 1))) (some (.int .i64 ((j : Int) + 1 + 1))) none) W = .ok (.string X) W := hX
            have HX : Hid (X.data.toList = [s[j + 1]]) := hX1
            have hsz : (T ++ X).size < j + 2 := by rw [app_size]; omega
            have hXle : X.size ≤ 1 := by omega
            clear hd hX1 hX2 hX
            go_wp2
            go_round
            case rel => exact ⟨j + 2, _, by omega, by omega, by go_num, rfl, had_two hj2s HC.out HD.out HX.out HG.out, hsz⟩
            case measure => simp [intOf]; omega
          · have HD : Hid (¬ s[j + 1] = 39) := fun e => hd (u8_39.2 e)
            have hdb : ((s[j + 1].toNat : Int) != 39) = true := by simpa using hd
            have HF : Hid (readV s = (0, 0, [], 2)) := RN.out (had_bad hj2s HC.out HD.out HG.out)
            clear hd
            go_wp2
            exact bodyPost_ret (v := .tuple #[.agg #[.int .i64 0, .int .i64 0, .string ⟨#[]⟩], .int .i64 2]) (by simp [results, Tryz.results38, go_sem]) rfl ⟨by rw [HF.out]; rfl, (Below.refl _ _).alloc (Nat.le_refl _) _⟩
      · have HC : Hid (¬ s[j] = 39) := fun e => hc (u8_39.2 e)
        have hcb : ((s[j].toNat : Int) == 39) = false := by simpa using hc
        obtain ⟨X, hX, hX1, hX2⟩ := slice_one s j hlt
        have HX : Hid (X.data.toList = [s[j]]) := hX1
        have hsz : (T ++ X).size < j + 1 := by rw [app_size]; omega
        have hXle : X.size ≤ 1 := by omega
        clear hc hX1 hX2
        go_wp2
        go_round
        case rel => exact ⟨j + 1, _, by omega, by omega, by go_num, rfl, had_plain hlt HC.out HX.out HG.out, hsz⟩
        case measure => simp [intOf]; omega
    · have HF : Hid (readV s = (0, 0, [], 2)) := RN.out (had_out (by omega) HG.out)
      go_wp2_with fail
      refine (refPlain_any T _ hTm).mono ?_
      rintro e w1 ⟨rfl, rfl⟩
      generalize plainB T.data.toList = bb
      go_wp2
      all_goals
        exact bodyPost_ret (v := .tuple #[.agg #[.int .i64 0, .int .i64 0, .string ⟨#[]⟩], .int .i64 2]) (by simp [results, Tryz.results38, go_sem]) rfl ⟨by rw [HF.out]; rfl, (Below.refl _ _).alloc (Nat.le_refl _) _⟩
set_option maxHeartbeats 1000000 in
theorem read_true (s : ByteArray) (w : World) (h : s.data.toList = [116, 114, 117, 101]) :
    Calls Tryz.prog 38 #[.string s] w fun e w' => e = .returned (refR (2, 1, [], 0)) ∧ Below w.heap.size w w' := by
  obtain rfl : s = ⟨#[116, 114, 117, 101]⟩ := eq_of_list h
  clear h
  go_enter Tryz.func38, Tryz.ntmps38
  go_wp2
  exact bodyPost_ret (v := .tuple #[.agg #[.int .i64 2, .int .i64 1, .string ⟨#[]⟩], .int .i64 0]) (by simp [results, Tryz.results38, go_sem]) rfl ⟨rfl, (Below.refl _ _).alloc (Nat.le_refl _) _⟩
set_option maxHeartbeats 1000000 in
theorem read_false (s : ByteArray) (w : World) (h : s.data.toList = [102, 97, 108, 115, 101]) :
    Calls Tryz.prog 38 #[.string s] w fun e w' => e = .returned (refR (2, 0, [], 0)) ∧ Below w.heap.size w w' := by
  obtain rfl : s = ⟨#[102, 97, 108, 115, 101]⟩ := eq_of_list h
  clear h
  go_enter Tryz.func38, Tryz.ntmps38
  go_wp2
  exact bodyPost_ret (v := .tuple #[.agg #[.int .i64 2, .int .i64 0, .string ⟨#[]⟩], .int .i64 0]) (by simp [results, Tryz.results38, go_sem]) rfl ⟨rfl, (Below.refl _ _).alloc (Nat.le_refl _) _⟩
set_option maxHeartbeats 1000000 in
theorem read_none (w : World) :
    Calls Tryz.prog 38 #[.string ⟨#[]⟩] w fun e w' => e = .returned (refR (0, 0, [], 2)) ∧ Below w.heap.size w w' := by
  go_enter Tryz.func38, Tryz.ntmps38
  go_wp2
  exact bodyPost_ret (v := .tuple #[.agg #[.int .i64 0, .int .i64 0, .string ⟨#[]⟩], .int .i64 2]) (by simp [results, Tryz.results38, go_sem]) rfl ⟨rfl, (Below.refl _ _).alloc (Nat.le_refl _) _⟩
set_option maxHeartbeats 1000000 in
set_option maxRecDepth 20000 in
theorem read_min (w : World) :
    Calls Tryz.prog 38 #[.string ⟨#[45, 57, 50, 50, 51, 51, 55, 50, 48, 51, 54, 56, 53, 52, 55, 55, 53, 56, 48, 56]⟩] w fun e w' => e = .returned (refR (1, -9223372036854775808, [], 0)) ∧ Below w.heap.size w w' := by
  go_enter Tryz.func38, Tryz.ntmps38
  go_wp2
  exact bodyPost_ret (v := .tuple #[.agg #[.int .i64 1, .int .i64 (-9223372036854775808), .string ⟨#[]⟩], .int .i64 0]) (by simp [results, Tryz.results38, go_sem]) rfl ⟨rfl, (Below.refl _ _).alloc (Nat.le_refl _) _⟩
theorem slice_from (s : ByteArray) (h : 0 < s.size) : ∃ X : ByteArray, (∀ W : World, Sem.run Tryz.prog (Instr.slice 9 (.string s) (some (.int .i64 1)) none none) W = .ok (.string X) W) ∧ X.data.toList = s.data.toList.drop 1 ∧ X.size ≤ s.size := by
  refine ⟨s.extract 1 s.size, fun W => ?_, ?_, ?_⟩
  · exact run_slice_string_l (P := Tryz.prog) W 9 s Tryz.underlying9 .i64 1 (by decide) (by omega)
  · have : (s.extract 1 s.size).data.toList = (s.data.toList.drop 1).take (s.size - 1) := by simp
    rw [this, List.take_of_length_le (by simp)]
  · simp
set_option maxRecDepth 20000 in
set_option maxHeartbeats 1000000 in
theorem read_negC (s : ByteArray) (w : World) (hs : s.size ≤ maxLen) (h1 : s.data.toList ≠ [116, 114, 117, 101]) (h2 : s.data.toList ≠ [102, 97, 108, 115, 101]) (hp : 0 < s.size) (h0 : (s[0].toNat : Int) ≠ 39) (hm : s.data.toList ≠ minL) (h45 : (s[0].toNat : Int) = 45) :
    Calls Tryz.prog 38 #[.string s] w fun e w' => e = .returned (refR (match numL (s.data.toList.drop 1) with
      | some n => if n = 0 then (0, 0, [], 2) else (1, -(n : Int), [], 0)
      | none => (0, 0, [], 2))) ∧ Below w.heap.size w w' := by
  have q1 : (s.toList == [116, 114, 117, 101]) = false := by rw [Lib.toList_data]; simpa using h1
  have q2 : (s.toList == [102, 97, 108, 115, 101]) = false := by rw [Lib.toList_data]; simpa using h2
  have q3 := not_empty s hp
  have q4 : ((s[0].toNat : Int) == 39) = false := by simpa using h0
  have q5 : (s.toList == [45, 57, 50, 50, 51, 51, 55, 50, 48, 51, 54, 56, 53, 52, 55, 55, 53, 56, 48, 56]) = false := by rw [Lib.toList_data, beq_eq_false_iff_ne]; exact hm
  have q6 : ((s[0].toNat : Int) == 45) = true := by simpa using h45
  obtain ⟨X, hX, hX1, hX2⟩ := slice_from s hp
  have HX : Hid (X.data.toList = s.data.toList.drop 1) := hX1
  have hXm : X.size ≤ maxLen := by omega
  clear h1 h2 h0 hm h45 hX1 hX2
  cases hn : numL (s.data.toList.drop 1) with
  | none =>
    have HN : Hid (numL X.data.toList = none) := by rw [HX.out]; exact hn
    clear hn
    go_enter Tryz.func38, Tryz.ntmps38
    go_wp2_with fail
    refine (number_any X _ hXm).mono ?_
    rintro e w1 ⟨rfl, rfl⟩
    rw [HN.out, numV]
    go_wp2
    exact bodyPost_ret (v := .tuple #[.agg #[.int .i64 0, .int .i64 0, .string ⟨#[]⟩], .int .i64 2]) (by simp [results, Tryz.results38, go_sem]) rfl ⟨rfl, (Below.refl _ _).alloc (Nat.le_refl _) _⟩
  | some n =>
    have HN : Hid (numL X.data.toList = some n) := by rw [HX.out]; exact hn
    have hb := (numL_some hn).2
    clear hn
    by_cases h0 : n = 0
    · subst h0
      go_enter Tryz.func38, Tryz.ntmps38
      go_wp2_with fail
      refine (number_any X _ hXm).mono ?_
      rintro e w1 ⟨rfl, rfl⟩
      rw [HN.out, numV]
      go_wp2
      exact bodyPost_ret (v := .tuple #[.agg #[.int .i64 0, .int .i64 0, .string ⟨#[]⟩], .int .i64 2]) (by simp [results, Tryz.results38, go_sem]) rfl ⟨rfl, (Below.refl _ _).alloc (Nat.le_refl _) _⟩
    · obtain ⟨m, hm⟩ : ∃ m : Int, m = (n : Int) := ⟨_, rfl⟩
      have hm1 : 1 ≤ m := by omega
      have hm2 : m ≤ 9223372036854775807 := by omega
      have hm0 : (m == 0) = false := by simp; omega
      have HM : Hid (m = (n : Int)) := hm
      have HI : Hid (¬ n = 0) := h0
      clear hm h0 hb
      go_enter Tryz.func38, Tryz.ntmps38
      go_wp2_with fail
      refine (number_any X _ hXm).mono ?_
      rintro e w1 ⟨rfl, rfl⟩
      rw [HN.out, numV, ← HM.out]
      go_wp2
      exact bodyPost_ret (v := .tuple #[.agg #[.int .i64 1, .int .i64 (-m), .string ⟨#[]⟩], .int .i64 0]) (by simp [results, Tryz.results38, go_sem]) rfl ⟨by rw [← HM.out]; rfl, (Below.refl _ _).alloc (Nat.le_refl _) _⟩
set_option maxRecDepth 20000 in
set_option maxHeartbeats 1000000 in
theorem read_posC (s : ByteArray) (w : World) (hs : s.size ≤ maxLen) (h1 : s.data.toList ≠ [116, 114, 117, 101]) (h2 : s.data.toList ≠ [102, 97, 108, 115, 101]) (hp : 0 < s.size) (h0 : (s[0].toNat : Int) ≠ 39) (h45 : (s[0].toNat : Int) ≠ 45) :
    Calls Tryz.prog 38 #[.string s] w fun e w' => e = .returned (refR (match numL s.data.toList with
      | some n => (1, (n : Int), [], 0)
      | none => (0, 0, [], 2))) ∧ Below w.heap.size w w' := by
  have q1 : (s.toList == [116, 114, 117, 101]) = false := by rw [Lib.toList_data]; simpa using h1
  have q2 : (s.toList == [102, 97, 108, 115, 101]) = false := by rw [Lib.toList_data]; simpa using h2
  have q3 := not_empty s hp
  have q4 : ((s[0].toNat : Int) == 39) = false := by simpa using h0
  have q5 : (s.toList == [45, 57, 50, 50, 51, 51, 55, 50, 48, 51, 54, 56, 53, 52, 55, 55, 53, 56, 48, 56]) = false := by
    rw [Lib.toList_data, drop_cons0 s hp]
    rw [beq_eq_false_iff_ne]
    intro e
    injection e with e _
    exact h45 (by rw [e]; rfl)
  have q6 : ((s[0].toNat : Int) == 45) = false := by simpa using h45
  clear h1 h2 h0 h45
  cases hn : numL s.data.toList with
  | none =>
    have HN : Hid (numL s.data.toList = none) := hn
    clear hn
    go_enter Tryz.func38, Tryz.ntmps38
    go_wp2_with fail
    refine (number_any s _ hs).mono ?_
    rintro e w1 ⟨rfl, rfl⟩
    rw [HN.out, numV]
    go_wp2
    exact bodyPost_ret (v := .tuple #[.agg #[.int .i64 0, .int .i64 0, .string ⟨#[]⟩], .int .i64 2]) (by simp [results, Tryz.results38, go_sem]) rfl ⟨rfl, (Below.refl _ _).alloc (Nat.le_refl _) _⟩
  | some n =>
    have HN : Hid (numL s.data.toList = some n) := hn
    clear hn
    go_enter Tryz.func38, Tryz.ntmps38
    go_wp2_with fail
    refine (number_any s _ hs).mono ?_
    rintro e w1 ⟨rfl, rfl⟩
    rw [HN.out, numV]
    go_wp2
    exact bodyPost_ret (v := .tuple #[.agg #[.int .i64 1, .int .i64 (n : Int), .string ⟨#[]⟩], .int .i64 0]) (by simp [results, Tryz.results38, go_sem]) rfl ⟨rfl, (Below.refl _ _).alloc (Nat.le_refl _) _⟩

theorem read_any (s : ByteArray) (w : World) (hs : s.size ≤ 140737488355328) :
    Calls Tryz.prog 38 #[.string s] w fun e w' => e = .returned (refR (readV s)) ∧ Below w.heap.size w w' := by
  have hm : s.size ≤ maxLen := by unfold maxLen; omega
  by_cases h1 : s.data.toList = [116, 114, 117, 101]
  · rw [readV, if_pos h1]; exact read_true s w h1
  · by_cases h2 : s.data.toList = [102, 97, 108, 115, 101]
    · rw [readV, if_neg h1, if_pos h2]; exact read_false s w h2
    · by_cases hp : 0 < s.size
      · by_cases h0 : (s[0].toNat : Int) = 39
        · exact readT_any s w hs h1 h2 hp h0
        · have h3 : ¬ Lib.hasPrefix s.data.toList [39] = true := fun e => h0 ((pre_iff s hp).1 e)
          by_cases h45 : (s[0].toNat : Int) = 45
          · have e45 : s[0] = 45 := UInt8.toNat_inj.1 (by rw [show (45 : UInt8).toNat = 45 from rfl]; omega)
            by_cases hmn : s.data.toList = minL
            · rw [read_int_ok (n := -9223372036854775808) h1 h2 h3 (by decide) (by rw [hmn]; exact itoa_min)]
              obtain rfl : s = ⟨#[45, 57, 50, 50, 51, 51, 55, 50, 48, 51, 54, 56, 53, 52, 55, 55, 53, 56, 48, 56]⟩ := eq_of_list hmn
              exact read_min w
            · rw [read_neg h1 h2 h3 hmn (r := s.data.toList.drop 1) (by rw [← e45]; exact drop_cons0 s hp)]
              exact read_negC s w hm h1 h2 hp h0 hmn h45
          · rw [read_pos h1 h2 h3 (fun r e => h45 (by
              rw [drop_cons0 s hp] at e
              injection e with e _
              rw [e]; rfl))]
            exact read_posC s w hm h1 h2 hp h0 h45
      · obtain rfl : s = ⟨#[]⟩ := by
          have hl : s.data.toList.length = s.size := by simp
          exact eq_of_list (List.length_eq_zero_iff.1 (by omega))
        rw [read_int_bad h1 h2 (by decide) (fun n _ e => by
          obtain ⟨c, r, hr, _⟩ := itoa_head n
          rw [hr] at e; cases e)]
        exact read_none w
end Go.Proofs.YtkoejkpjkcejcaaGreatDoor
namespace Go.Proofs.YtkoejkpjkcejcaaGreatDoor
open Go.RowKit
set_option linter.unusedVariables false
set_option linter.unusedSimpArgs false

theorem Box7.next {w : World} {b r : Nat} {a0 a1 a2 a3 a4 a5 a6 : Value} (h : Box7 w b a0 a1 a2 a3 a4 a5 a6) (hr : b ≠ r) (v : Value) : Box7 (w.setCell ⟨r, 1, none⟩ v) b a0 a1 a2 a3 a4 a5 a6 := by
  obtain ⟨c0, c1, c2, c3, c4, c5, c6, fz, lt⟩ := h
  refine ⟨?_, ?_, ?_, ?_, ?_, ?_, ?_, fun o => by simpa using fz o, by simpa [World.setCell] using lt⟩
  all_goals simp [World.cell?_setCell_other, c0, c1, c2, c3, c4, c5, c6]
set_option maxHeartbeats 8000000 in
set_option maxRecDepth 20000 in
theorem one_val (r : Nat) (tp : Option Addr) (tc : Nat) (ts : List Tok) (en : Nat) (st : St) (hn : ts.length ≤ 400) (hi : st.i ≤ 1000) (hb1 : isT ts st [40] = false) (hb2 : isT ts st [108, 101, 110] = false) (hb3 : isT ts st [105, 102] = false) (hbad : st.bad < 0) (hlt : st.i < ts.length) (hv : valT ts[st.i] = true) (cR : ∀ W, Calls Tryz.prog 38 #[.string ts[st.i].2.1] W fun e w' => e = .returned (refR (readV ts[st.i].2.1)) ∧ Below W.heap.size W w') (hsz : (readV ts[st.i].2.1).2.2.1.length ≤ 400) :
  GivesO r tp tc ts en st (.node ⟨#[118, 97, 108]⟩ ⟨#[]⟩ (readV ts[st.i].2.1).1 (readV ts[st.i].2.1).2.1 ⟨(readV ts[st.i].2.1).2.2.1.toArray⟩ (posAt ts en st.i) []) (adv st) := by
  intro w h
  rcases h.toks with h9 | ⟨tb, off, rfl, hbr, hin⟩
  · exact absurd h9 (by omega)
  have hltz : (st.i : Int) < (ts.length : Int) := by omega
  have i0 : (0 : Int) ≤ (st.i : Int) := by omega
  have hltn : decide ((st.i : Int) < (ts.length : Int)) = true := decide_eq_true hltz
  have hbdd : decide (st.bad < 0) = true := decide_eq_true hbad
  obtain ⟨hz, bz, hrl⟩ := in_z h
  have hT : TokNe (some ⟨tb, off, none⟩) ts w.heap.size := h.ne (Nat.le_refl _)
  have cA := in_at _ r (some ⟨tb, off, none⟩) tc ts en st hz hn (by omega)
  have cH1 := fun q => has_no ((w.alloc zE).drewN q) r (some ⟨tb, off, none⟩) tc ts en st ⟨#[40]⟩ (hz.same rfl) hn hi hb1
  have cH2 := fun W hW => has_no W r (some ⟨tb, off, none⟩) tc ts en st ⟨#[108, 101, 110]⟩ hW hn hi hb2
  have cH3 := fun W hW => has_no W r (some ⟨tb, off, none⟩) tc ts en st ⟨#[105, 102]⟩ hW hn hi hb3
  have X0 : Box7 (w.alloc zE) w.heap.size (.string ⟨#[]⟩) (.string ⟨#[]⟩) (.int .i64 0) (.int .i64 0) (.string ⟨#[]⟩) (.slice none 0 0) (.int .i64 0) := box7_alloc w _ _ _ _ _ _ _ _
  clear hb1 hb2 hb3 h hz
  have hD : ∀ W, InAt W r (some ⟨tb, off, none⟩) tc ts en st → W.cell? ⟨tb, off + st.i * 3, none⟩ = some (.int .i64 ts[st.i].1) ∧ W.cell? ⟨tb, off + st.i * 3 + 1, none⟩ = some (.string ts[st.i].2.1) ∧ W.cell? ⟨tb, off + st.i * 3 + 2, none⟩ = some (.int .i64 (ts[st.i].2.2 : Int)) ∧ tb < W.heap.size := fun W hW => by
    rcases hW.toks with h9 | ⟨b2, o2, e2, _, h2⟩
    · exact absurd h9 (by omega)
    · simp only [Option.some.injEq, Addr.mk.injEq] at e2
      obtain ⟨rfl, rfl, _⟩ := e2
      exact ⟨(h2.2 _ hlt).1, (h2.2 _ hlt).2.1, (h2.2 _ hlt).2.2, h2.1⟩
  generalize ts[st.i] = y at hD cR hv hsz ⊢
  obtain ⟨yk, yx, ya⟩ := y
  simp only at hD cR hsz ⊢
  simp only [valT, Bool.or_eq_true, Bool.and_eq_true, decide_eq_true_eq, beq_iff_eq] at hv
  obtain ⟨RT, RN, RS, RE, hR⟩ : ∃ a b c d, readV yx = (a, b, c, d) := ⟨_, _, _, _, rfl⟩
  rw [hR] at cR hsz ⊢
  simp only [refR] at cR hsz ⊢
  clear hR hin
  rcases hv with (h2 | h3) | ⟨h1, h4 | h4⟩
  · have k2 : (yk == 2) = true := by simpa using h2
    clear h2
    go_enter Tryz.func41, Tryz.ntmps41
    go_wp2_with fail
    refine cA.mono ?_
    rintro e w1 ⟨rfl, q, rfl⟩
    go_wp2_with fail
    refine (cH1 q).mono ?_
    rintro e w2 ⟨rfl, h2, b2⟩
    go_wp2_with fail
    refine (cH2 w2 h2).mono ?_
    rintro e w3 ⟨rfl, h3, b3⟩
    go_wp2_with fail
    refine (cH3 w3 h3).mono ?_
    rintro e w4 ⟨rfl, h4, b4⟩
    have B4 : But r w w4 := (((bz.drewN q).trans b2).trans b3).trans b4
    have Z4 : But r (w.alloc zE) w4 := ((((But.refl r _).drewN q).trans b2).trans b3).trans b4
    have X4 := X0.but Z4 (by omega)
    have hz4 : w.heap.size + 1 ≤ w4.heap.size := by have := Z4.size; simpa [zE] using this
    clear b2 b3 b4 h2 h3 cH1 cH2 cH3 cA bz X0 Z4
    have H4 := h4
    obtain ⟨g0, g1, g2, g3, gf1, gf3, glt, _⟩ := h4
    go_wp2
    go_big_quiet (fail)
    go_wp2
    obtain ⟨W5, hW5⟩ : ∃ W5, w4.drewN nq = W5 := ⟨_, rfl⟩
    have H5 : InAt W5 r (some ⟨tb, off, none⟩) tc ts en st := by rw [← hW5]; exact H4.same rfl
    have X5 : Box7 W5 w.heap.size (.string ⟨#[]⟩) (.string ⟨#[]⟩) (.int .i64 0) (.int .i64 0) (.string ⟨#[]⟩) (.slice none 0 0) (.int .i64 0) := by rw [← hW5]; exact ⟨X4.c0, X4.c1, X4.c2, X4.c3, X4.c4, X4.c5, X4.c6, X4.fz, X4.lt⟩
    have B5 : But r w W5 := by rw [← hW5]; exact B4.drewN nq
    have hz5 : w.heap.size + 1 ≤ W5.heap.size := by rw [← hW5]; exact hz4
    rw [hW5]
    clear hW5 H4 g0 g1 g2 g3 gf1 gf3 glt X4 B4 hz4
    have K5 := H5
    obtain ⟨g0, g1, g2, g3, gf1, gf3, glt, _⟩ := K5
    obtain ⟨q0, q1, q2, q3⟩ := hD W5 H5
    have hrn : r ≠ W5.heap.size := by omega
    have htn : tb ≠ W5.heap.size := by omega
    clear hD
    go_region
    obtain ⟨W6, hW6⟩ : ∃ W6, (W5.alloc (.cells #[.int .i64 yk, .string yx, .int .i64 (ya : Int)] 83)).drew = W6 := ⟨_, rfl⟩
    have b6 : Below W5.heap.size W5 W6 := by rw [← hW6]; exact Below.drew ((Below.refl _ _).alloc (Nat.le_refl _) _)
    have T6 : ∀ i, W6.cell? ⟨W5.heap.size, i, none⟩ = (#[.int .i64 yk, .string yx, .int .i64 (ya : Int)] : Array Value)[i]? := fun i => by rw [← hW6]; exact World.cell?_alloc_at _ _ _ _ rfl
    have t0 : W6.cell? ⟨W5.heap.size, 0, none⟩ = some (.int .i64 yk) := T6 0
    have t1 : W6.cell? ⟨W5.heap.size, 1, none⟩ = some (.string yx) := T6 1
    have hz6 : W5.heap.size + 1 ≤ W6.heap.size := by rw [← hW6]; simp [World.drew]
    rw [hW6]
    have H6 := H5.on b6
    have X6 := X5.on b6
    have B6 : But r w W6 := B5.trans (But.of_below b6 (by omega))
    clear hW6 T6 H5 g0 g1 g2 g3 gf1 gf3 glt X5 B5 q0 q1 q2 q3 hrn htn b6
    go_wp2_with fail
    refine (cR _).mono ?_
    rintro e w7 ⟨rfl, b7⟩
    have H7 := H6.on b7
    have X7 := X6.on b7
    have B7 : But r w w7 := B6.trans (But.of_below b7 (by omega))
    have hz7 := b7.size
    clear H6 X6 B6 b7 t0 t1 cR
    have K7 := H7
    obtain ⟨g0, g1, g2, g3, gf1, gf3, glt, _⟩ := K7
    obtain ⟨d0, d1, d2, d3, d4, d5, d6, df, dl⟩ := X7
    have df0 := df 0
    have df1 := df 1
    have df2 := df 2
    have df3 := df 3
    have df4 := df 4
    have df5 := df 5
    have df6 := df 6
    clear df
    go_wp2
    refine bodyPost_ret (v := .agg #[.string ⟨#[118, 97, 108]⟩, .string ⟨#[]⟩, .int .i64 RT, .int .i64 RN, .string ⟨RS.toArray⟩, .slice none 0 0, .int .i64 (posAt ts en st.i)]) (by simp [results, Tryz.results41, go_sem, d0, d1, d2, d3, d4, d5, d6, dl]) rfl ⟨_, rfl, ?_, ?_, ?_⟩
    · exact ex_leaf (by decide) (by decide) (by rw [show (⟨RS.toArray⟩ : ByteArray).size = RS.length from by simp [ByteArray.size]]; unfold maxLen; omega)
    · exact (H7.next.set7 (by omega) hT _ _ _ _ _ _ _).on ((Below.refl _ _).alloc (Nat.le_refl _) _)
    · exact ((B7.set 1 _).set7 (Nat.le_refl _) (by omega) _ _ _ _ _ _ _).on ((Below.refl _ _).alloc (Nat.le_refl _) _) hrl
  · have k2 : (yk == 2) = false := by rw [h3]; decide
    have k3 : (yk == 3) = true := by simpa using h3
    clear h3
    go_enter Tryz.func41, Tryz.ntmps41
    go_wp2_with fail
    refine cA.mono ?_
    rintro e w1 ⟨rfl, q, rfl⟩
    go_wp2_with fail
    refine (cH1 q).mono ?_
    rintro e w2 ⟨rfl, h2, b2⟩
    go_wp2_with fail
    refine (cH2 w2 h2).mono ?_
    rintro e w3 ⟨rfl, h3, b3⟩
    go_wp2_with fail
    refine (cH3 w3 h3).mono ?_
    rintro e w4 ⟨rfl, h4, b4⟩
    have B4 : But r w w4 := (((bz.drewN q).trans b2).trans b3).trans b4
    have Z4 : But r (w.alloc zE) w4 := ((((But.refl r _).drewN q).trans b2).trans b3).trans b4
    have X4 := X0.but Z4 (by omega)
    have hz4 : w.heap.size + 1 ≤ w4.heap.size := by have := Z4.size; simpa [zE] using this
    clear b2 b3 b4 h2 h3 cH1 cH2 cH3 cA bz X0 Z4
    have H4 := h4
    obtain ⟨g0, g1, g2, g3, gf1, gf3, glt, _⟩ := h4
    go_wp2
    go_big_quiet (fail)
    go_wp2
    obtain ⟨W5, hW5⟩ : ∃ W5, w4.drewN nq = W5 := ⟨_, rfl⟩
    have H5 : InAt W5 r (some ⟨tb, off, none⟩) tc ts en st := by rw [← hW5]; exact H4.same rfl
    have X5 : Box7 W5 w.heap.size (.string ⟨#[]⟩) (.string ⟨#[]⟩) (.int .i64 0) (.int .i64 0) (.string ⟨#[]⟩) (.slice none 0 0) (.int .i64 0) := by rw [← hW5]; exact ⟨X4.c0, X4.c1, X4.c2, X4.c3, X4.c4, X4.c5, X4.c6, X4.fz, X4.lt⟩
    have B5 : But r w W5 := by rw [← hW5]; exact B4.drewN nq
    have hz5 : w.heap.size + 1 ≤ W5.heap.size := by rw [← hW5]; exact hz4
    rw [hW5]
    clear hW5 H4 g0 g1 g2 g3 gf1 gf3 glt X4 B4 hz4
    have K5 := H5
    obtain ⟨g0, g1, g2, g3, gf1, gf3, glt, _⟩ := K5
    obtain ⟨q0, q1, q2, q3⟩ := hD W5 H5
    have hrn : r ≠ W5.heap.size := by omega
    have htn : tb ≠ W5.heap.size := by omega
    clear hD
    go_region
    obtain ⟨W6, hW6⟩ : ∃ W6, (W5.alloc (.cells #[.int .i64 yk, .string yx, .int .i64 (ya : Int)] 83)).drew = W6 := ⟨_, rfl⟩
    have b6 : Below W5.heap.size W5 W6 := by rw [← hW6]; exact Below.drew ((Below.refl _ _).alloc (Nat.le_refl _) _)
    have T6 : ∀ i, W6.cell? ⟨W5.heap.size, i, none⟩ = (#[.int .i64 yk, .string yx, .int .i64 (ya : Int)] : Array Value)[i]? := fun i => by rw [← hW6]; exact World.cell?_alloc_at _ _ _ _ rfl
    have t0 : W6.cell? ⟨W5.heap.size, 0, none⟩ = some (.int .i64 yk) := T6 0
    have t1 : W6.cell? ⟨W5.heap.size, 1, none⟩ = some (.string yx) := T6 1
    have hz6 : W5.heap.size + 1 ≤ W6.heap.size := by rw [← hW6]; simp [World.drew]
    rw [hW6]
    have H6 := H5.on b6
    have X6 := X5.on b6
    have B6 : But r w W6 := B5.trans (But.of_below b6 (by omega))
    clear hW6 T6 H5 g0 g1 g2 g3 gf1 gf3 glt X5 B5 q0 q1 q2 q3 hrn htn b6
    go_wp2_with fail
    refine (cR _).mono ?_
    rintro e w7 ⟨rfl, b7⟩
    have H7 := H6.on b7
    have X7 := X6.on b7
    have B7 : But r w w7 := B6.trans (But.of_below b7 (by omega))
    have hz7 := b7.size
    clear H6 X6 B6 b7 t0 t1 cR
    have K7 := H7
    obtain ⟨g0, g1, g2, g3, gf1, gf3, glt, _⟩ := K7
    obtain ⟨d0, d1, d2, d3, d4, d5, d6, df, dl⟩ := X7
    have df0 := df 0
    have df1 := df 1
    have df2 := df 2
    have df3 := df 3
    have df4 := df 4
    have df5 := df 5
    have df6 := df 6
    clear df
    go_wp2
    refine bodyPost_ret (v := .agg #[.string ⟨#[118, 97, 108]⟩, .string ⟨#[]⟩, .int .i64 RT, .int .i64 RN, .string ⟨RS.toArray⟩, .slice none 0 0, .int .i64 (posAt ts en st.i)]) (by simp [results, Tryz.results41, go_sem, d0, d1, d2, d3, d4, d5, d6, dl]) rfl ⟨_, rfl, ?_, ?_, ?_⟩
    · exact ex_leaf (by decide) (by decide) (by rw [show (⟨RS.toArray⟩ : ByteArray).size = RS.length from by simp [ByteArray.size]]; unfold maxLen; omega)
    · exact (H7.next.set7 (by omega) hT _ _ _ _ _ _ _).on ((Below.refl _ _).alloc (Nat.le_refl _) _)
    · exact ((B7.set 1 _).set7 (Nat.le_refl _) (by omega) _ _ _ _ _ _ _).on ((Below.refl _ _).alloc (Nat.le_refl _) _) hrl
  · have k2 : (yk == 2) = false := by rw [h1]; decide
    have k3 : (yk == 3) = false := by rw [h1]; decide
    have k1 : (yk == 1) = true := by simpa using h1
    have s1 : (yx.toList == [116, 114, 117, 101]) = true := by rw [Lib.toList_data, h4]; decide
    clear h1 h4
    go_enter Tryz.func41, Tryz.ntmps41
    go_wp2_with fail
    refine cA.mono ?_
    rintro e w1 ⟨rfl, q, rfl⟩
    go_wp2_with fail
    refine (cH1 q).mono ?_
    rintro e w2 ⟨rfl, h2, b2⟩
    go_wp2_with fail
    refine (cH2 w2 h2).mono ?_
    rintro e w3 ⟨rfl, h3, b3⟩
    go_wp2_with fail
    refine (cH3 w3 h3).mono ?_
    rintro e w4 ⟨rfl, h4, b4⟩
    have B4 : But r w w4 := (((bz.drewN q).trans b2).trans b3).trans b4
    have Z4 : But r (w.alloc zE) w4 := ((((But.refl r _).drewN q).trans b2).trans b3).trans b4
    have X4 := X0.but Z4 (by omega)
    have hz4 : w.heap.size + 1 ≤ w4.heap.size := by have := Z4.size; simpa [zE] using this
    clear b2 b3 b4 h2 h3 cH1 cH2 cH3 cA bz X0 Z4
    have H4 := h4
    obtain ⟨g0, g1, g2, g3, gf1, gf3, glt, _⟩ := h4
    go_wp2
    go_big_quiet (fail)
    go_wp2
    obtain ⟨W5, hW5⟩ : ∃ W5, w4.drewN nq = W5 := ⟨_, rfl⟩
    have H5 : InAt W5 r (some ⟨tb, off, none⟩) tc ts en st := by rw [← hW5]; exact H4.same rfl
    have X5 : Box7 W5 w.heap.size (.string ⟨#[]⟩) (.string ⟨#[]⟩) (.int .i64 0) (.int .i64 0) (.string ⟨#[]⟩) (.slice none 0 0) (.int .i64 0) := by rw [← hW5]; exact ⟨X4.c0, X4.c1, X4.c2, X4.c3, X4.c4, X4.c5, X4.c6, X4.fz, X4.lt⟩
    have B5 : But r w W5 := by rw [← hW5]; exact B4.drewN nq
    have hz5 : w.heap.size + 1 ≤ W5.heap.size := by rw [← hW5]; exact hz4
    rw [hW5]
    clear hW5 H4 g0 g1 g2 g3 gf1 gf3 glt X4 B4 hz4
    have K5 := H5
    obtain ⟨g0, g1, g2, g3, gf1, gf3, glt, _⟩ := K5
    obtain ⟨q0, q1, q2, q3⟩ := hD W5 H5
    have hrn : r ≠ W5.heap.size := by omega
    have htn : tb ≠ W5.heap.size := by omega
    clear hD
    go_region
    obtain ⟨W6, hW6⟩ : ∃ W6, (W5.alloc (.cells #[.int .i64 yk, .string yx, .int .i64 (ya : Int)] 83)).drew = W6 := ⟨_, rfl⟩
    have b6 : Below W5.heap.size W5 W6 := by rw [← hW6]; exact Below.drew ((Below.refl _ _).alloc (Nat.le_refl _) _)
    have T6 : ∀ i, W6.cell? ⟨W5.heap.size, i, none⟩ = (#[.int .i64 yk, .string yx, .int .i64 (ya : Int)] : Array Value)[i]? := fun i => by rw [← hW6]; exact World.cell?_alloc_at _ _ _ _ rfl
    have t0 : W6.cell? ⟨W5.heap.size, 0, none⟩ = some (.int .i64 yk) := T6 0
    have t1 : W6.cell? ⟨W5.heap.size, 1, none⟩ = some (.string yx) := T6 1
    have hz6 : W5.heap.size + 1 ≤ W6.heap.size := by rw [← hW6]; simp [World.drew]
    rw [hW6]
    have H6 := H5.on b6
    have X6 := X5.on b6
    have B6 : But r w W6 := B5.trans (But.of_below b6 (by omega))
    clear hW6 T6 H5 g0 g1 g2 g3 gf1 gf3 glt X5 B5 q0 q1 q2 q3 hrn htn b6
    go_wp2_with fail
    refine (cR _).mono ?_
    rintro e w7 ⟨rfl, b7⟩
    have H7 := H6.on b7
    have X7 := X6.on b7
    have B7 : But r w w7 := B6.trans (But.of_below b7 (by omega))
    have hz7 := b7.size
    clear H6 X6 B6 b7 t0 t1 cR
    have K7 := H7
    obtain ⟨g0, g1, g2, g3, gf1, gf3, glt, _⟩ := K7
    obtain ⟨d0, d1, d2, d3, d4, d5, d6, df, dl⟩ := X7
    have df0 := df 0
    have df1 := df 1
    have df2 := df 2
    have df3 := df 3
    have df4 := df 4
    have df5 := df 5
    have df6 := df 6
    clear df
    go_wp2
    refine bodyPost_ret (v := .agg #[.string ⟨#[118, 97, 108]⟩, .string ⟨#[]⟩, .int .i64 RT, .int .i64 RN, .string ⟨RS.toArray⟩, .slice none 0 0, .int .i64 (posAt ts en st.i)]) (by simp [results, Tryz.results41, go_sem, d0, d1, d2, d3, d4, d5, d6, dl]) rfl ⟨_, rfl, ?_, ?_, ?_⟩
    · exact ex_leaf (by decide) (by decide) (by rw [show (⟨RS.toArray⟩ : ByteArray).size = RS.length from by simp [ByteArray.size]]; unfold maxLen; omega)
    · exact (H7.next.set7 (by omega) hT _ _ _ _ _ _ _).on ((Below.refl _ _).alloc (Nat.le_refl _) _)
    · exact ((B7.set 1 _).set7 (Nat.le_refl _) (by omega) _ _ _ _ _ _ _).on ((Below.refl _ _).alloc (Nat.le_refl _) _) hrl
  · have k2 : (yk == 2) = false := by rw [h1]; decide
    have k3 : (yk == 3) = false := by rw [h1]; decide
    have k1 : (yk == 1) = true := by simpa using h1
    have s1 : (yx.toList == [116, 114, 117, 101]) = false := by rw [Lib.toList_data, h4]; decide
    have s2 : (yx.toList == [102, 97, 108, 115, 101]) = true := by rw [Lib.toList_data, h4]; decide
    clear h1 h4
    go_enter Tryz.func41, Tryz.ntmps41
    go_wp2_with fail
    refine cA.mono ?_
    rintro e w1 ⟨rfl, q, rfl⟩
    go_wp2_with fail
    refine (cH1 q).mono ?_
    rintro e w2 ⟨rfl, h2, b2⟩
    go_wp2_with fail
    refine (cH2 w2 h2).mono ?_
    rintro e w3 ⟨rfl, h3, b3⟩
    go_wp2_with fail
    refine (cH3 w3 h3).mono ?_
    rintro e w4 ⟨rfl, h4, b4⟩
    have B4 : But r w w4 := (((bz.drewN q).trans b2).trans b3).trans b4
    have Z4 : But r (w.alloc zE) w4 := ((((But.refl r _).drewN q).trans b2).trans b3).trans b4
    have X4 := X0.but Z4 (by omega)
    have hz4 : w.heap.size + 1 ≤ w4.heap.size := by have := Z4.size; simpa [zE] using this
    clear b2 b3 b4 h2 h3 cH1 cH2 cH3 cA bz X0 Z4
    have H4 := h4
    obtain ⟨g0, g1, g2, g3, gf1, gf3, glt, _⟩ := h4
    go_wp2
    go_big_quiet (fail)
    go_wp2
    obtain ⟨W5, hW5⟩ : ∃ W5, w4.drewN nq = W5 := ⟨_, rfl⟩
    have H5 : InAt W5 r (some ⟨tb, off, none⟩) tc ts en st := by rw [← hW5]; exact H4.same rfl
    have X5 : Box7 W5 w.heap.size (.string ⟨#[]⟩) (.string ⟨#[]⟩) (.int .i64 0) (.int .i64 0) (.string ⟨#[]⟩) (.slice none 0 0) (.int .i64 0) := by rw [← hW5]; exact ⟨X4.c0, X4.c1, X4.c2, X4.c3, X4.c4, X4.c5, X4.c6, X4.fz, X4.lt⟩
    have B5 : But r w W5 := by rw [← hW5]; exact B4.drewN nq
    have hz5 : w.heap.size + 1 ≤ W5.heap.size := by rw [← hW5]; exact hz4
    rw [hW5]
    clear hW5 H4 g0 g1 g2 g3 gf1 gf3 glt X4 B4 hz4
    have K5 := H5
    obtain ⟨g0, g1, g2, g3, gf1, gf3, glt, _⟩ := K5
    obtain ⟨q0, q1, q2, q3⟩ := hD W5 H5
    have hrn : r ≠ W5.heap.size := by omega
    have htn : tb ≠ W5.heap.size := by omega
    clear hD
    go_region
    obtain ⟨W6, hW6⟩ : ∃ W6, (W5.alloc (.cells #[.int .i64 yk, .string yx, .int .i64 (ya : Int)] 83)).drew = W6 := ⟨_, rfl⟩
    have b6 : Below W5.heap.size W5 W6 := by rw [← hW6]; exact Below.drew ((Below.refl _ _).alloc (Nat.le_refl _) _)
    have T6 : ∀ i, W6.cell? ⟨W5.heap.size, i, none⟩ = (#[.int .i64 yk, .string yx, .int .i64 (ya : Int)] : Array Value)[i]? := fun i => by rw [← hW6]; exact World.cell?_alloc_at _ _ _ _ rfl
    have t0 : W6.cell? ⟨W5.heap.size, 0, none⟩ = some (.int .i64 yk) := T6 0
    have t1 : W6.cell? ⟨W5.heap.size, 1, none⟩ = some (.string yx) := T6 1
    have hz6 : W5.heap.size + 1 ≤ W6.heap.size := by rw [← hW6]; simp [World.drew]
    rw [hW6]
    have H6 := H5.on b6
    have X6 := X5.on b6
    have B6 : But r w W6 := B5.trans (But.of_below b6 (by omega))
    clear hW6 T6 H5 g0 g1 g2 g3 gf1 gf3 glt X5 B5 q0 q1 q2 q3 hrn htn b6
    go_wp2_with fail
    refine (cR _).mono ?_
    rintro e w7 ⟨rfl, b7⟩
    have H7 := H6.on b7
    have X7 := X6.on b7
    have B7 : But r w w7 := B6.trans (But.of_below b7 (by omega))
    have hz7 := b7.size
    clear H6 X6 B6 b7 t0 t1 cR
    have K7 := H7
    obtain ⟨g0, g1, g2, g3, gf1, gf3, glt, _⟩ := K7
    obtain ⟨d0, d1, d2, d3, d4, d5, d6, df, dl⟩ := X7
    have df0 := df 0
    have df1 := df 1
    have df2 := df 2
    have df3 := df 3
    have df4 := df 4
    have df5 := df 5
    have df6 := df 6
    clear df
    go_wp2
    refine bodyPost_ret (v := .agg #[.string ⟨#[118, 97, 108]⟩, .string ⟨#[]⟩, .int .i64 RT, .int .i64 RN, .string ⟨RS.toArray⟩, .slice none 0 0, .int .i64 (posAt ts en st.i)]) (by simp [results, Tryz.results41, go_sem, d0, d1, d2, d3, d4, d5, d6, dl]) rfl ⟨_, rfl, ?_, ?_, ?_⟩
    · exact ex_leaf (by decide) (by decide) (by rw [show (⟨RS.toArray⟩ : ByteArray).size = RS.length from by simp [ByteArray.size]]; unfold maxLen; omega)
    · exact (H7.next.set7 (by omega) hT _ _ _ _ _ _ _).on ((Below.refl _ _).alloc (Nat.le_refl _) _)
    · exact ((B7.set 1 _).set7 (Nat.le_refl _) (by omega) _ _ _ _ _ _ _).on ((Below.refl _ _).alloc (Nat.le_refl _) _) hrl
end Go.Proofs.YtkoejkpjkcejcaaGreatDoor
