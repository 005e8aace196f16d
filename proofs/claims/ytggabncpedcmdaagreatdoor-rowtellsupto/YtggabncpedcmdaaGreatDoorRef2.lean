/-
  What the document's answers on texts of numbers, on order and on how a value is shown come to: sluiceref1's Number, Order, Show.
-/
import Derived.Test.YtggabncpedcmdaaGreatDoorRef1
import Derived.Test.YtggabncpedcmdaaGreatDoorNumFacts
import Derived.Test.YtggabncpedcmdaaGreatDoorCmp
import Derived.Test.YtggabncpedcmdaaGreatDoorPrint
namespace Go.Proofs.YtggabncpedcmdaaGreatDoor
open Go.RowKit
set_option linter.unusedVariables false

theorem head_iff (s : ByteArray) (h : 0 < s.size) : s.data.toList.head? = some 48 ↔ (s[0].toNat : Int) = 48 := by
  have hl : 0 < s.data.toList.length := by simpa using h
  have e : s.data.toList.head? = some s[0] := by
    rw [List.head?_eq_getElem?, List.getElem?_eq_getElem hl]; rfl
  rw [e]
  constructor
  · intro h; rw [Option.some.inj h]; rfl
  · intro h
    have : s[0] = 48 := UInt8.toNat_inj.1 (by rw [show (48 : UInt8).toNat = 48 from rfl]; omega)
    rw [this]
theorem all_take (s : ByteArray) (k : Nat) (h : k < s.size) : (s.data.toList.take (k + 1)).all digB = ((s.data.toList.take k).all digB && digB s[k]) ∧ val10 (s.data.toList.take (k + 1)) = val10 (s.data.toList.take k) * 10 + (s[k].toNat - 48) := by
  have e : s.data.toList.take (k + 1) = s.data.toList.take k ++ [s[k]] := by
    rw [List.take_succ_eq_append_getElem (by simpa using h)]; rfl
  rw [e]
  exact ⟨by simp [List.all_append], val10_snoc _ _⟩
theorem all_not (s : ByteArray) (k : Nat) (h : k < s.size) (hc : digB s[k] = false) : s.data.toList.all digB = false := by
  rw [List.all_eq_false]
  exact ⟨s[k], by rw [show s[k] = s.data.toList[k]'(by simpa using h) from rfl]; exact List.getElem_mem _, by simp [hc]⟩
theorem dig_false (c : UInt8) (h : (c.toNat : Int) < 48 ∨ 57 < (c.toNat : Int)) : digB c = false := by
  cases hd : digB c with
  | false => rfl
  | true => have := (digB_iff c).1 hd; omega
theorem dig_true (c : UInt8) (h : 48 ≤ (c.toNat : Int) ∧ (c.toNat : Int) ≤ 57) : digB c = true := (digB_iff c).2 (by omega)

set_option maxHeartbeats 1000000 in
theorem number_early (s : ByteArray) (w : World) (hs : s.size ≤ maxLen) (h : s.data.toList = [] ∨ (s.data.toList.head? = some 48 ∧ 1 < s.data.toList.length) ∨ 19 < s.data.toList.length) :
    Calls Tryz.prog 43 #[.string s] w fun e w' => e = .returned (.tuple #[.int .i64 0, .bool false]) ∧ w' = w := by
  unfold maxLen at hs
  have hl : s.data.toList.length = s.size := by simp
  by_cases h0 : s.size = 0
  · have he : s.toList = [] := by rw [Lib.toList_data]; exact List.length_eq_zero_iff.1 (by omega)
    clear h hl
    go_enter Tryz.func43, Tryz.ntmps43
    go_wp2
    go_ret2
    exact ⟨rfl, rfl⟩
  · have hp : 0 < s.size := by omega
    have hne : ¬ s.toList = [] := by rw [Lib.toList_data]; intro e; rw [e] at hl; simp at hl; omega
    have h' : ((s[0].toNat : Int) = 48 ∧ 1 < s.size) ∨ 19 < s.size := by
      rcases h with h | h | h
      · rw [h] at hl; simp at hl; omega
      · exact Or.inl ⟨(head_iff s hp).1 h.1, by omega⟩
      · exact Or.inr (by omega)
    clear h hl
    by_cases hz : (s[0].toNat : Int) = 48
    · have hzb : ((s[0].toNat : Int) == 48) = true := by simpa using hz
      have h1 : (1 : Int) < s.size := by omega
      clear hz h'
      go_enter Tryz.func43, Tryz.ntmps43
      go_wp2
      go_ret2
      exact ⟨rfl, rfl⟩
    · have hzb : ((s[0].toNat : Int) == 48) = false := by simpa using hz
      have h1 : (19 : Int) < s.size := by omega
      clear hz h'
      go_enter Tryz.func43, Tryz.ntmps43
      go_wp2
      go_ret2
      exact ⟨rfl, rfl⟩
def numV (o : Option Nat) : Value := match o with
  | some n => .tuple #[.int .i64 (n : Int), .bool true]
  | none => .tuple #[.int .i64 0, .bool false]
set_option maxRecDepth 4000 in
set_option maxHeartbeats 1000000 in
theorem number_late (s : ByteArray) (w : World) (h : ¬ (s.data.toList = [] ∨ (s.data.toList.head? = some 48 ∧ 1 < s.data.toList.length) ∨ 19 < s.data.toList.length)) :
    Calls Tryz.prog 43 #[.string s] w fun e w' => e = .returned (numV (numL s.data.toList)) ∧ w' = w := by
  have hn : numL s.data.toList = if s.data.toList.all digB = true then (if 9223372036854775807 < val10 s.data.toList then none else some (val10 s.data.toList)) else none := by rw [numL, if_neg h]
  have HN : Hid (numL s.data.toList = if s.data.toList.all digB = true then (if 9223372036854775807 < val10 s.data.toList then none else some (val10 s.data.toList)) else none) := hn
  have hl : s.data.toList.length = s.size := by simp
  have hp : 0 < s.size := by
    rcases Nat.eq_zero_or_pos s.size with e | e
    · exact absurd (Or.inl (List.length_eq_zero_iff.1 (by omega))) h
    · exact e
  have hne : ¬ s.toList = [] := by rw [Lib.toList_data]; exact fun e => h (Or.inl e)
  have h19 : s.size ≤ 19 := by
    rcases Nat.lt_or_ge 19 s.size with e | e
    · exact absurd (Or.inr (Or.inr (by omega))) h
    · exact e
  have hzz : ((s[0].toNat : Int) == 48) = false ∨ s.size = 1 := by
    by_cases hz : (s[0].toNat : Int) = 48
    · right
      rcases Nat.lt_or_ge 1 s.size with e | e
      · exact absurd (Or.inr (Or.inl ⟨(head_iff s hp).2 hz, by omega⟩)) h
      · omega
    · left; simpa using hz
  clear h hn hl
  have hpre : ((s[0].toNat : Int) == 48) = false ∨ (((s[0].toNat : Int) == 48) = true ∧ (s.size : Int) ≤ 1) := by
    rcases hzz with e | e
    · exact Or.inl e
    · cases hb : ((s[0].toNat : Int) == 48)
      · exact Or.inl rfl
      · exact Or.inr ⟨rfl, by omega⟩
  clear hzz
  have hem : s.toList.isEmpty = false := by rw [List.isEmpty_eq_false_iff]; exact hne
  have hd19 : decide ((19 : Int) < (s.size : Int)) = false := by simp; omega
  clear hne
  go_enter Tryz.func43, Tryz.ntmps43
  rcases hpre with hz | ⟨hz, h1⟩
  all_goals
    go_wp2
    go_loop [4, 5] (fun n i => ∃ (k : Nat) (a : Int), k ≤ s.size ∧ i = .int .i64 k ∧ n = .int .u64 a ∧ Hid (a = (val10 (s.data.toList.take k) : Int)) ∧ Hid ((s.data.toList.take k).all digB = true)) (fun _ i => s.size - (intOf i).toNat)
    case atStart => exact ⟨0, 0, Nat.zero_le _, rfl, rfl, rfl, rfl⟩
    case round =>
      obtain ⟨k, a, hk, rfl, rfl, HA, HD⟩ := hrel
      have hlt10 := val10_lt (s.data.toList.take k).length (s.data.toList.take k) rfl HD.out
      have hlk : (s.data.toList.take k).length = k := by simp; omega
      rw [hlk] at hlt10
      by_cases hlt : k < s.size
      · have hpow : 10 ^ k ≤ 10 ^ 18 := Nat.pow_le_pow_right (by decide) (by omega)
        have ha0 : 0 ≤ a := by have := HA.out; omega
        have ha1 : a ≤ 999999999999999999 := by have := HA.out; omega
        have HT : Hid ((s.data.toList.take (k + 1)).all digB = ((s.data.toList.take k).all digB && digB s[k]) ∧ val10 (s.data.toList.take (k + 1)) = val10 (s.data.toList.take k) * 10 + (s[k].toNat - 48)) := all_take s k hlt
        have hc256 : (s[k].toNat : Int) < 256 := by have := s[k].toNat_lt; omega
        have hc0 : 0 ≤ (s[k].toNat : Int) := by omega
        clear hlt10 hlk hpow
        by_cases hd : (s[k].toNat : Int) < 48 ∨ 57 < (s[k].toNat : Int)
        · have HF : Hid (s.data.toList.all digB = false) := all_not s k hlt (dig_false _ hd)
          go_wp2
          all_goals first | (exfalso; omega) | skip
          all_goals
            go_ret2
            exact ⟨by rw [HN.out, HF.out]; rfl, rfl⟩
        · have hd1 : 48 ≤ (s[k].toNat : Int) := by omega
          have hd2 : (s[k].toNat : Int) ≤ 57 := by omega
          clear hd
          go_wp2
          go_round
          case rel =>
            refine ⟨k + 1, _, by omega, by go_num, rfl, ?_, ?_⟩
            · show _ = _
              rw [HT.out.2]
              have := HA.out
              omega
            · show _ = _
              rw [HT.out.1, HD.out, dig_true _ ⟨hd1, hd2⟩]; rfl
          case measure => simp [intOf]; omega
      · have hall : s.data.toList.take k = s.data.toList := List.take_of_length_le (by simp; omega)
        have HV : Hid (a = (val10 s.data.toList : Int)) := by have := HA.out; rw [hall] at this; exact this
        have HL : Hid (s.data.toList.all digB = true) := by have := HD.out; rw [hall] at this; exact this
        have ha0 : 0 ≤ a := by have := HV.out; omega
        have ha1 : a ≤ 9999999999999999999 := by
          have := HA.out
          have hpow : 10 ^ k ≤ 10 ^ 19 := Nat.pow_le_pow_right (by decide) (by omega)
          omega
        clear hall hlt10 hlk HA HD
        by_cases hbig : 9223372036854775807 < a
        · go_wp2
          go_ret2
          refine ⟨?_, rfl⟩
          rw [HN.out, if_pos HL.out, if_pos (by have := HV.out; omega)]; rfl
        · go_wp2
          go_ret2
          refine ⟨?_, rfl⟩
          rw [HN.out, if_pos HL.out, if_neg (by have := HV.out; omega), numV, ← HV.out]
          exact ret_ib (by first | rfl | (unfold wrap64; omega))
theorem number_any (s : ByteArray) (w : World) (hs : s.size ≤ maxLen) :
    Calls Tryz.prog 43 #[.string s] w fun e w' => e = .returned (numV (numL s.data.toList)) ∧ w' = w := by
  by_cases h : s.data.toList = [] ∨ (s.data.toList.head? = some 48 ∧ 1 < s.data.toList.length) ∨ 19 < s.data.toList.length
  · have hn : numL s.data.toList = none := by rw [numL, if_pos h]
    rw [hn]
    exact number_early s w hs h
  · exact number_late s w h

set_option maxHeartbeats 1000000 in
theorem order_int (t n n' : Int) (w : World) :
    Calls Tryz.prog 11 #[.agg #[.int .i64 t, .int .i64 n, .string ⟨#[]⟩], .agg #[.int .i64 t, .int .i64 n', .string ⟨#[]⟩]] w fun e w' => e = .returned (.int .i64 (cmpI n n')) ∧ Below w.heap.size w w' := by
  have hl : Op.bytesLess (⟨#[]⟩ : ByteArray).toList (⟨#[]⟩ : ByteArray).toList = false := by rw [bytesLess_lt]; simp
  have hr := fun W => (run_gtr_str ⟨#[]⟩ ⟨#[]⟩ W).trans (by rw [hl, beq_self_eq_true]; rfl : _ = .ok (.bool false) W)
  by_cases h1 : n < n'
  · have hc : cmpI n n' = -1 := by rw [cmpI, if_pos h1]
    rw [hc]
    clear hc
    go_enter Tryz.func11, Tryz.ntmps11
    go_wp2
    go_ret
    exact ⟨rfl, by repeat (first | exact Below.refl _ _ | (refine Below.alloc ?_ (by first | (simp; done) | (simp; omega)) _))⟩
  · by_cases h2 : n' < n
    · have hc : cmpI n n' = 1 := by rw [cmpI, if_neg h1, if_pos h2]
      rw [hc]
      clear hc
      go_enter Tryz.func11, Tryz.ntmps11
      go_wp2
      go_ret
      exact ⟨rfl, by repeat (first | exact Below.refl _ _ | (refine Below.alloc ?_ (by first | (simp; done) | (simp; omega)) _))⟩
    · have hc : cmpI n n' = 0 := by rw [cmpI, if_neg h1, if_neg h2]
      rw [hc]
      clear hc
      go_enter Tryz.func11, Tryz.ntmps11
      go_wp2
      go_ret
      exact ⟨rfl, by repeat (first | exact Below.refl _ _ | (refine Below.alloc ?_ (by first | (simp; done) | (simp; omega)) _))⟩

set_option maxHeartbeats 1000000 in
theorem order_str (x y : ByteArray) (w : World) :
    Calls Tryz.prog 11 #[.agg #[.int .i64 3, .int .i64 0, .string x], .agg #[.int .i64 3, .int .i64 0, .string y]] w fun e w' => e = .returned (.int .i64 (cmpS x.data.toList y.data.toList)) ∧ Below w.heap.size w w' := by
  by_cases h1 : x.data.toList < y.data.toList
  · have hc : cmpS x.data.toList y.data.toList = -1 := by rw [cmpS, if_pos h1]
    have hl : Op.bytesLess x.toList y.toList = true := by rw [bytesLess_lt, Lib.toList_data, Lib.toList_data]; simpa using h1
    rw [hc]
    clear h1 hc
    go_enter Tryz.func11, Tryz.ntmps11
    go_wp2
    go_ret
    exact ⟨rfl, by repeat (first | exact Below.refl _ _ | (refine Below.alloc ?_ (by first | (simp; done) | (simp; omega)) _))⟩
  · have hl : Op.bytesLess x.toList y.toList = false := by rw [bytesLess_lt, Lib.toList_data, Lib.toList_data]; simpa using h1
    by_cases h2 : y.data.toList < x.data.toList
    · have hc : cmpS x.data.toList y.data.toList = 1 := by rw [cmpS, if_neg h1, if_pos h2]
      have hm : ¬ x.toList = y.toList := by rw [Lib.toList_data, Lib.toList_data]; intro e; rw [e] at h2; exact List.lt_irrefl _ h2
      have hq : (x.toList == y.toList) = false := by simpa using hm
      have hr := fun W => (run_gtr_str x y W).trans (by rw [hl, hq]; rfl : _ = .ok (.bool true) W)
      rw [hc]
      clear h1 h2 hc hm hq
      go_enter Tryz.func11, Tryz.ntmps11
      go_wp2
      go_ret
      exact ⟨rfl, by repeat (first | exact Below.refl _ _ | (refine Below.alloc ?_ (by first | (simp; done) | (simp; omega)) _))⟩
    · have hc : cmpS x.data.toList y.data.toList = 0 := by rw [cmpS, if_neg h1, if_neg h2]
      have hm : x.data.toList = y.data.toList := List.le_antisymm (List.not_lt.1 h2) (List.not_lt.1 h1)
      obtain rfl : x = y := by cases x; cases y; simp_all
      have hr := fun W => (run_gtr_str x x W).trans (by rw [hl, beq_self_eq_true]; rfl : _ = .ok (.bool false) W)
      rw [hc]
      clear h1 h2 hc hm
      go_enter Tryz.func11, Tryz.ntmps11
      go_wp2
      go_ret
      exact ⟨rfl, by repeat (first | exact Below.refl _ _ | (refine Below.alloc ?_ (by first | (simp; done) | (simp; omega)) _))⟩

theorem order_any (t n : Int) (s : ByteArray) (t' n' : Int) (s' : ByteArray) (w : World) (h : cmpE t n s.data.toList t' n' s'.data.toList = 0) :
    Calls Tryz.prog 11 #[.agg #[.int .i64 t, .int .i64 n, .string s], .agg #[.int .i64 t', .int .i64 n', .string s']] w fun e w' => e = .returned (.int .i64 (cmpN t n s.data.toList t' n' s'.data.toList)) ∧ Below w.heap.size w w' := by
  have h1 : chk t n s.data.toList = 0 := Classical.byContradiction fun e => by rw [cmpE, if_pos e] at h; exact e h
  have h2 : chk t' n' s'.data.toList = 0 := Classical.byContradiction fun e => by rw [cmpE, if_neg (by simp [h1]), if_pos e] at h; exact e h
  have h3 : t = t' := Classical.byContradiction fun e => by rw [cmpE, if_neg (by simp [h1]), if_neg (by simp [h2]), if_pos e] at h; exact absurd h (by decide)
  subst h3
  have hN : cmpN t n s.data.toList t n' s'.data.toList = if t = 3 then cmpS s.data.toList s'.data.toList else cmpI n n' := by rw [cmpN, if_neg (by simp [h])]
  rw [hN]
  by_cases e3 : t = 3
  · subst e3
    obtain rfl : n = 0 := by rcases chk_type h1 with ⟨e, _⟩ | ⟨e, _⟩ | ⟨_, e, _⟩ <;> first | exact e | exact absurd e (by decide)
    obtain rfl : n' = 0 := by rcases chk_type h2 with ⟨e, _⟩ | ⟨e, _⟩ | ⟨_, e, _⟩ <;> first | exact e | exact absurd e (by decide)
    rw [if_pos rfl]
    exact order_str s s' w
  · have e1 : s.data.toList = [] := by rcases chk_type h1 with ⟨_, e⟩ | ⟨_, e, _⟩ | ⟨e, _⟩ <;> first | exact e | exact absurd e e3
    have e2 : s'.data.toList = [] := by rcases chk_type h2 with ⟨_, e⟩ | ⟨_, e, _⟩ | ⟨e, _⟩ <;> first | exact e | exact absurd e e3
    obtain rfl : s = ⟨#[]⟩ := by cases s; simp_all
    obtain rfl : s' = ⟨#[]⟩ := by cases s'; simp_all
    rw [if_neg e3]
    exact order_int t n n' w
end Go.Proofs.YtggabncpedcmdaaGreatDoor
