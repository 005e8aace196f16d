/-
  What the document's answers on texts of numbers, on order and on how a value is shown come to: sluiceref1's Number, Order, Show.
-/
import Derived.Test.YtfonalmgdjboeaaDoorGrAi
import Derived.Test.YtfonalmgdjboeaaDoorGrAa
namespace Go.Proofs.YtfonalmgdjboeaaDoor
open Go.RowKit
set_option linter.unusedVariables false

theorem head_iff (s : ByteArray) (h : 0 < s.size) : s.data.toList.head? = some 48 ↔ (s[0].toNat : Int) = 48 := by
  have hl : 0 < s.data.toList.length := by simpa using h
  have e : s.data.toList.head? = some s[0] := by
    rw [List.head?_eq_getElem?, List.getElem?_eq_getElem hl]; rfl
  rw [e]
  constructor
  · intro h; rw [Option.some.inj h]; rfl
  · intro h
    have : s[0] = 48 := UInt8.toNat_inj.1 (by rw [show (48 : UInt8).toNat = 48 from rfl]; omega)
    rw [this]
theorem all_takeR (s : ByteArray) (k : Nat) (h : k < s.size) : (s.data.toList.take (k + 1)).all digB = ((s.data.toList.take k).all digB && digB s[k]) ∧ val10 (s.data.toList.take (k + 1)) = val10 (s.data.toList.take k) * 10 + (s[k].toNat - 48) := by
  have e : s.data.toList.take (k + 1) = s.data.toList.take k ++ [s[k]] := by
    rw [List.take_succ_eq_append_getElem (by simpa using h)]; rfl
  rw [e]
  exact ⟨by simp [List.all_append], val10_snoc _ _⟩
theorem all_not (s : ByteArray) (k : Nat) (h : k < s.size) (hc : digB s[k] = false) : s.data.toList.all digB = false := by
  rw [List.all_eq_false]
  exact ⟨s[k], by rw [show s[k] = s.data.toList[k]'(by simpa using h) from rfl]; exact List.getElem_mem _, by simp [hc]⟩
theorem dig_false (c : UInt8) (h : (c.toNat : Int) < 48 ∨ 57 < (c.toNat : Int)) : digB c = false := by
  cases hd : digB c with
  | false => rfl
  | true => have := (digB_iff c).1 hd; omega
theorem dig_true (c : UInt8) (h : 48 ≤ (c.toNat : Int) ∧ (c.toNat : Int) ≤ 57) : digB c = true := (digB_iff c).2 (by omega)

def numV (o : Option Nat) : Value := match o with
  | some n => .tuple #[.int .i64 (n : Int), .bool true]
  | none => .tuple #[.int .i64 0, .bool false]
set_option maxHeartbeats 1000000 in
theorem order_int (t n n' : Int) (w : World) :
    Calls Tryd.prog 29 #[.agg #[.int .i64 t, .int .i64 n, .string ⟨#[]⟩], .agg #[.int .i64 t, .int .i64 n', .string ⟨#[]⟩]] w fun e w' => e = .returned (.int .i64 (cmpI n n')) ∧ Below w.heap.size w w' := by
  have hl : Op.bytesLess (⟨#[]⟩ : ByteArray).toList (⟨#[]⟩ : ByteArray).toList = false := by rw [bytesLess_lt]; simp
  have hr := fun W => (run_gtr_str ⟨#[]⟩ ⟨#[]⟩ W).trans (by rw [hl, beq_self_eq_true]; rfl : _ = .ok (.bool false) W)
  by_cases h1 : n < n'
  · have hc : cmpI n n' = -1 := by rw [cmpI, if_pos h1]
    rw [hc]
    clear hc
    go_enter Tryd.func29, Tryd.ntmps29
    go_wp2
    go_ret
    exact ⟨rfl, by repeat (first | exact Below.refl _ _ | (refine Below.alloc ?_ (by first | (simp; done) | (simp; omega)) _))⟩
  · by_cases h2 : n' < n
    · have hc : cmpI n n' = 1 := by rw [cmpI, if_neg h1, if_pos h2]
      rw [hc]
      clear hc
      go_enter Tryd.func29, Tryd.ntmps29
      go_wp2
      go_ret
      exact ⟨rfl, by repeat (first | exact Below.refl _ _ | (refine Below.alloc ?_ (by first | (simp; done) | (simp; omega)) _))⟩
    · have hc : cmpI n n' = 0 := by rw [cmpI, if_neg h1, if_neg h2]
      rw [hc]
      clear hc
      go_enter Tryd.func29, Tryd.ntmps29
      go_wp2
      go_ret
      exact ⟨rfl, by repeat (first | exact Below.refl _ _ | (refine Below.alloc ?_ (by first | (simp; done) | (simp; omega)) _))⟩

set_option maxHeartbeats 1000000 in
theorem order_str (x y : ByteArray) (w : World) :
    Calls Tryd.prog 29 #[.agg #[.int .i64 3, .int .i64 0, .string x], .agg #[.int .i64 3, .int .i64 0, .string y]] w fun e w' => e = .returned (.int .i64 (cmpS x.data.toList y.data.toList)) ∧ Below w.heap.size w w' := by
  by_cases h1 : x.data.toList < y.data.toList
  · have hc : cmpS x.data.toList y.data.toList = -1 := by rw [cmpS, if_pos h1]
    have hl : Op.bytesLess x.toList y.toList = true := by rw [bytesLess_lt, Lib.toList_data, Lib.toList_data]; simpa using h1
    rw [hc]
    clear h1 hc
    go_enter Tryd.func29, Tryd.ntmps29
    go_wp2
    go_ret
    exact ⟨rfl, by repeat (first | exact Below.refl _ _ | (refine Below.alloc ?_ (by first | (simp; done) | (simp; omega)) _))⟩
  · have hl : Op.bytesLess x.toList y.toList = false := by rw [bytesLess_lt, Lib.toList_data, Lib.toList_data]; simpa using h1
    by_cases h2 : y.data.toList < x.data.toList
    · have hc : cmpS x.data.toList y.data.toList = 1 := by rw [cmpS, if_neg h1, if_pos h2]
      have hm : ¬ x.toList = y.toList := by rw [Lib.toList_data, Lib.toList_data]; intro e; rw [e] at h2; exact List.lt_irrefl _ h2
      have hq : (x.toList == y.toList) = false := by simpa using hm
      have hr := fun W => (run_gtr_str x y W).trans (by rw [hl, hq]; rfl : _ = .ok (.bool true) W)
      rw [hc]
      clear h1 h2 hc hm hq
      go_enter Tryd.func29, Tryd.ntmps29
      go_wp2
      go_ret
      exact ⟨rfl, by repeat (first | exact Below.refl _ _ | (refine Below.alloc ?_ (by first | (simp; done) | (simp; omega)) _))⟩
    · have hc : cmpS x.data.toList y.data.toList = 0 := by rw [cmpS, if_neg h1, if_neg h2]
      have hm : x.data.toList = y.data.toList := List.le_antisymm (List.not_lt.1 h2) (List.not_lt.1 h1)
      obtain rfl : x = y := by cases x; cases y; simp_all
      have hr := fun W => (run_gtr_str x x W).trans (by rw [hl, beq_self_eq_true]; rfl : _ = .ok (.bool false) W)
      rw [hc]
      clear h1 h2 hc hm
      go_enter Tryd.func29, Tryd.ntmps29
      go_wp2
      go_ret
      exact ⟨rfl, by repeat (first | exact Below.refl _ _ | (refine Below.alloc ?_ (by first | (simp; done) | (simp; omega)) _))⟩

theorem order_any (t n : Int) (s : ByteArray) (t' n' : Int) (s' : ByteArray) (w : World) (h : cmpE t n s.data.toList t' n' s'.data.toList = 0) :
    Calls Tryd.prog 29 #[.agg #[.int .i64 t, .int .i64 n, .string s], .agg #[.int .i64 t', .int .i64 n', .string s']] w fun e w' => e = .returned (.int .i64 (cmpN t n s.data.toList t' n' s'.data.toList)) ∧ Below w.heap.size w w' := by
  have h1 : chk t n s.data.toList = 0 := Classical.byContradiction fun e => by rw [cmpE, if_pos e] at h; exact e h
  have h2 : chk t' n' s'.data.toList = 0 := Classical.byContradiction fun e => by rw [cmpE, if_neg (by simp [h1]), if_pos e] at h; exact e h
  have h3 : t = t' := Classical.byContradiction fun e => by rw [cmpE, if_neg (by simp [h1]), if_neg (by simp [h2]), if_pos e] at h; exact absurd h (by decide)
  subst h3
  have hN : cmpN t n s.data.toList t n' s'.data.toList = if t = 3 then cmpS s.data.toList s'.data.toList else cmpI n n' := by rw [cmpN, if_neg (by simp [h])]
  rw [hN]
  by_cases e3 : t = 3
  · subst e3
    obtain rfl : n = 0 := by rcases chk_type h1 with ⟨e, _⟩ | ⟨e, _⟩ | ⟨_, e, _⟩ <;> first | exact e | exact absurd e (by decide)
    obtain rfl : n' = 0 := by rcases chk_type h2 with ⟨e, _⟩ | ⟨e, _⟩ | ⟨_, e, _⟩ <;> first | exact e | exact absurd e (by decide)
    rw [if_pos rfl]
    exact order_str s s' w
  · have e1 : s.data.toList = [] := by rcases chk_type h1 with ⟨_, e⟩ | ⟨_, e, _⟩ | ⟨e, _⟩ <;> first | exact e | exact absurd e e3
    have e2 : s'.data.toList = [] := by rcases chk_type h2 with ⟨_, e⟩ | ⟨_, e, _⟩ | ⟨e, _⟩ <;> first | exact e | exact absurd e e3
    obtain rfl : s = ⟨#[]⟩ := by cases s; simp_all
    obtain rfl : s' = ⟨#[]⟩ := by cases s'; simp_all
    rw [if_neg e3]
    exact order_int t n n' w
end Go.Proofs.YtfonalmgdjboeaaDoor
