/-
  WdP, Val1, WdA, WdC, WdR, in one text.
-/
import Derived.Test.YtogndffocijinaaDoorProg
import Derived.RowKit
import Derived.WalkKit
import Derived.Below
import Derived.Lib.Strings
import Derived.OwnWalk
import Derived.Laws.AppendOwnNone
import Derived.Laws.OwnMore
import Derived.WalkSmall
import Derived.BigQuiet
import Derived.Deep.QuietTactic
import Derived.Deep.LoopGhost
import Derived.Lib.OthersKept
namespace Go.Proofs.YtogndffocijinaaDoor
open Go.RowKit
set_option linter.unusedVariables false

/-- Numbers that rise by d, from s on, n of them. -/
def prg (s d : Int) (n : Nat) : List Int := (List.range n).map fun (i : Nat) => s + (i : Int) * d
theorem prg_len (s d : Int) (n : Nat) : (prg s d n).length = n := by simp [prg]
theorem prg_at {s d : Int} {n i : Nat} (h : i < (prg s d n).length) : (prg s d n)[i] = s + (i : Int) * d := by simp [prg]
theorem prg_zero (s d : Int) : prg s d 0 = [] := rfl
theorem prg_snoc (s d : Int) (n : Nat) : prg s d (n + 1) = prg s d n ++ [s + (n : Int) * d] := by simp [prg, List.range_succ]
theorem prg_cons (s d : Int) (n : Nat) : prg s d (n + 1) = s :: prg (s + d) d n := by
  apply List.ext_getElem
  · simp [prg]
  · intro i h1 h2
    cases i with
    | zero => simp [prg]
    | succ i =>
      simp only [prg, List.getElem_map, List.getElem_range, List.getElem_cons_succ]
      have : ((i + 1 : Nat) : Int) * d = (i : Int) * d + d := by
        rw [Int.natCast_add, Int.add_mul]; simp
      rw [this]; omega
theorem prg_app (s d : Int) (n m : Nat) : prg s d n ++ prg (s + (n : Int) * d) d m = prg s d (n + m) := by
  induction m with
  | zero => simp [prg_zero]
  | succ m ih =>
    rw [prg_snoc, ← List.append_assoc, ih, ← Nat.add_assoc, prg_snoc]
    congr 2
    rw [Int.natCast_add, Int.add_mul]; omega
/-- May a size and a slide be so? -/
def wdB (size slide : Int) : Prop := 1 ≤ size ∧ size ≤ 1000 ∧ 1 ≤ slide ∧ slide ≤ size ∧ size ≤ 10 * slide
instance (size slide : Int) : Decidable (wdB size slide) := by unfold wdB; infer_instance
def wdE (size slide : Int) : Int := if wdB size slide then 0 else 1
/-- How many windows hold a time; where the first one begins. -/
def stN (at_ size slide : Int) : Nat := min (at_ / slide + 1).toNat ((size - 1 - at_ % slide) / slide + 1).toNat
def stS (at_ size slide : Int) : Int := (at_ / slide + 1 - (stN at_ size slide : Int)) * slide
def stP (at_ size slide : Int) : List Int := prg (stS at_ size slide) slide (stN at_ size slide)
/-- The error of Starts. -/
def stE (at_ size slide : Int) : Int := if wdB size slide ∧ 0 ≤ at_ ∧ at_ ≤ 1000000 then 0 else 1
/-- The number of the first window that ends above a; how many of these end at most at b. -/
def dnK (a size slide : Int) : Int := if a < size then 0 else (a - size) / slide + 1
def dnN (a b size slide : Int) : Nat := if b < size then 0 else ((b - size) / slide + 1 - dnK a size slide).toNat
def dnP (a b size slide : Int) : List Int := prg (dnK a size slide * slide) slide (dnN a b size slide)
def dnR (a b : Int) : Prop := -1 ≤ a ∧ a ≤ 1000000 ∧ a ≤ b ∧ b ≤ 1001000
instance (a b : Int) : Decidable (dnR a b) := by unfold dnR; infer_instance
/-- The error of Done. -/
def dnE (a b size slide : Int) : Int := if wdB size slide ∧ dnR a b then (if 300 < dnN a b size slide then 4 else 0) else 1
theorem div_mul_le {a d : Int} (hd : 0 < d) : a / d * d ≤ a ∧ a < a / d * d + d := by
  have h1 := Int.emod_add_mul_ediv a d
  have h2 := Int.emod_nonneg a (by omega : d ≠ 0)
  have h3 := Int.emod_lt_of_pos a hd
  rw [Int.mul_comm] at h1
  omega
/-- Which numbers of windows hold a time. -/
theorem st_iff {at_ size slide : Int} (hw : wdB size slide) (h0 : 0 ≤ at_) (k : Int) :
    (at_ / slide + 1 - (stN at_ size slide : Int) ≤ k ∧ k ≤ at_ / slide) ↔ (0 ≤ k ∧ k * slide ≤ at_ ∧ at_ < k * slide + size) := by
  obtain ⟨s1, s2, s3, s4, s5⟩ := hw
  have hd : 0 < slide := by omega
  obtain ⟨d1, d2⟩ := div_mul_le (a := at_) hd
  have q0 : 0 ≤ at_ / slide := Int.ediv_nonneg h0 (by omega)
  have hr : at_ % slide = at_ - at_ / slide * slide := by
    have := Int.emod_add_mul_ediv at_ slide
    rw [Int.mul_comm] at this
    omega
  obtain ⟨r1, r2⟩ := div_mul_le (a := size - 1 - at_ % slide) hd
  have rq : 0 ≤ (size - 1 - at_ % slide) / slide := Int.ediv_nonneg (by omega) (by omega)
  have hN : (stN at_ size slide : Int) = min (at_ / slide + 1) ((size - 1 - at_ % slide) / slide + 1) := by
    rw [stN]; omega
  generalize hQ : at_ / slide = Q at *
  generalize hV : (size - 1 - at_ % slide) / slide = V at *
  rw [hN]
  have up : k ≤ Q ↔ k * slide ≤ at_ := by
    constructor
    · intro h
      have := Int.mul_le_mul_of_nonneg_right h (by omega : 0 ≤ slide)
      omega
    · intro h
      by_cases hk : k ≤ Q
      · exact hk
      · have := Int.mul_le_mul_of_nonneg_right (show Q + 1 ≤ k by omega) (by omega : 0 ≤ slide)
        rw [Int.add_mul] at this
        omega
  have dn : Q - V ≤ k ↔ at_ < k * slide + size := by
    have key : (Q - V) * slide = Q * slide - V * slide := Int.sub_mul ..
    constructor
    · intro h
      have := Int.mul_le_mul_of_nonneg_right h (by omega : 0 ≤ slide)
      rw [key] at this
      omega
    · intro h
      by_cases hk : Q - V ≤ k
      · exact hk
      · have := Int.mul_le_mul_of_nonneg_right (show k ≤ Q - V - 1 by omega) (by omega : 0 ≤ slide)
        rw [Int.sub_mul, key] at this
        omega
  constructor
  · rintro ⟨h1, h2⟩
    exact ⟨by omega, up.1 h2, dn.1 (by omega)⟩
  · rintro ⟨h1, h2, h3⟩
    have hu := up.2 h2
    have hd' := dn.2 h3
    exact ⟨by omega, hu⟩
theorem st_pos {at_ size slide : Int} (hw : wdB size slide) (h0 : 0 ≤ at_) : 1 ≤ stN at_ size slide := by
  have hd : 0 < slide := by have := hw.2.2.1; omega
  obtain ⟨d1, d2⟩ := div_mul_le (a := at_) hd
  have q0 : 0 ≤ at_ / slide := Int.ediv_nonneg h0 (by omega)
  have := (st_iff hw h0 (at_ / slide)).2 ⟨q0, d1, by have := hw.2.2.2.1; omega⟩
  omega
/-- Numbers that rise by the slide, and are just those of the windows that hold a time. -/
theorem st_unique {at_ size slide : Int} (hw : wdB size slide) (h0 : 0 ≤ at_) {k : Int} {n : Nat} (hn : 1 ≤ n) (hl : k + (n : Int) = at_ / slide + 1) (hk : 0 ≤ k) (hin : at_ < k * slide + size) (hout : k = 0 ∨ (k - 1) * slide + size ≤ at_) : prg (k * slide) slide n = stP at_ size slide := by
  have hd : 0 < slide := by have := hw.2.2.1; omega
  obtain ⟨d1, d2⟩ := div_mul_le (a := at_) hd
  have hm : k * slide ≤ at_ := by
    have := Int.mul_le_mul_of_nonneg_right (show k ≤ at_ / slide by omega) (by omega : 0 ≤ slide)
    omega
  have h1 := (st_iff hw h0 k).2 ⟨hk, hm, hin⟩
  have h2 := st_pos hw h0
  have h3 : (stN at_ size slide : Int) ≤ (n : Int) := by
    rcases hout with h | h
    · have := (st_iff hw h0 (at_ / slide + 1 - (stN at_ size slide : Int))).1 ⟨by omega, by omega⟩
      omega
    · by_cases hc : (stN at_ size slide : Int) ≤ (n : Int)
      · exact hc
      · have := (st_iff hw h0 (k - 1)).1 ⟨by omega, by omega⟩
        omega
  have hN : stN at_ size slide = n := by omega
  rw [stP, stS, hN]
  congr 1
  congr 1
  omega
/-- Which numbers of windows end above a, and at most at b. -/
theorem dn_iff {a b size slide : Int} (hw : wdB size slide) (k : Int) : (dnK a size slide ≤ k ∧ k < dnK a size slide + (dnN a b size slide : Int)) ↔ (0 ≤ k ∧ a < k * slide + size ∧ k * slide + size ≤ b ∧ dnK a size slide ≤ k) := by
  obtain ⟨s1, s2, s3, s4, s5⟩ := hw
  have hd : 0 < slide := by omega
  have k0 : 0 ≤ dnK a size slide := by
    rw [dnK]
    split
    · omega
    · have : 0 ≤ (a - size) / slide := Int.ediv_nonneg (by omega) (by omega)
      omega
  have lo : dnK a size slide ≤ k → a < k * slide + size := fun h => by
    rw [dnK] at h
    split at h
    · have := Int.mul_le_mul_of_nonneg_right h (by omega : 0 ≤ slide)
      omega
    · obtain ⟨e1, e2⟩ := div_mul_le (a := a - size) hd
      have := Int.mul_le_mul_of_nonneg_right h (by omega : 0 ≤ slide)
      rw [Int.add_mul] at this
      omega
  constructor
  · rintro ⟨h1, h2⟩
    refine ⟨by omega, lo h1, ?_, h1⟩
    rw [dnN] at h2
    split at h2
    · omega
    · obtain ⟨e1, e2⟩ := div_mul_le (a := b - size) hd
      have := Int.mul_le_mul_of_nonneg_right (show k ≤ (b - size) / slide by omega) (by omega : 0 ≤ slide)
      omega
  · rintro ⟨h1, h2, h3, h4⟩
    refine ⟨h4, ?_⟩
    have hk0 := Int.mul_nonneg h1 (by omega : 0 ≤ slide)
    rw [dnN, if_neg (by omega)]
    obtain ⟨e1, e2⟩ := div_mul_le (a := b - size) hd
    have : k ≤ (b - size) / slide := by
      by_cases hc : k ≤ (b - size) / slide
      · exact hc
      · have := Int.mul_le_mul_of_nonneg_right (show (b - size) / slide + 1 ≤ k by omega) (by omega : 0 ≤ slide)
        rw [Int.add_mul] at this
        omega
    omega
theorem dn_low {a size slide : Int} (hw : wdB size slide) (k : Int) : dnK a size slide ≤ k ↔ (0 ≤ k ∧ a < k * slide + size) := by
  obtain ⟨s1, s2, s3, s4, s5⟩ := hw
  have hd : 0 < slide := by omega
  constructor
  · intro h
    rw [dnK] at h
    split at h
    · have := Int.mul_le_mul_of_nonneg_right h (by omega : 0 ≤ slide)
      omega
    · obtain ⟨e1, e2⟩ := div_mul_le (a := a - size) hd
      have : 0 ≤ (a - size) / slide := Int.ediv_nonneg (by omega) (by omega)
      have := Int.mul_le_mul_of_nonneg_right h (by omega : 0 ≤ slide)
      rw [Int.add_mul] at this
      omega
  · rintro ⟨h1, h2⟩
    rw [dnK]
    split
    · exact h1
    · obtain ⟨e1, e2⟩ := div_mul_le (a := a - size) hd
      by_cases hc : (a - size) / slide + 1 ≤ k
      · exact hc
      · have := Int.mul_le_mul_of_nonneg_right (show k ≤ (a - size) / slide by omega) (by omega : 0 ≤ slide)
        omega
theorem dn_count {a b size slide : Int} (hw : wdB size slide) (n : Nat) (h1 : n = 0 ∨ (dnK a size slide + (n : Int) - 1) * slide + size ≤ b) (h2 : b < (dnK a size slide + (n : Int)) * slide + size) : dnN a b size slide = n := by
  have k0 := ((dn_low hw (dnK a size slide)).1 (Int.le_refl _)).1
  have key := fun k => dn_iff (a := a) (b := b) hw k
  have hlo := fun k => dn_low (a := a) hw k
  by_cases hc : dnN a b size slide = n
  · exact hc
  · exfalso
    rcases Nat.lt_or_gt_of_ne hc with h | h
    · rcases h1 with h1 | h1
      · omega
      · have hk := (hlo (dnK a size slide + (n : Int) - 1)).1 (by omega)
        have := (key (dnK a size slide + (n : Int) - 1)).2 ⟨hk.1, hk.2, h1, by omega⟩
        omega
    · have := (key (dnK a size slide + (n : Int))).1 ⟨by omega, by omega⟩
      omega
theorem dnN_eq (a b size slide : Int) (hw : wdB size slide) : dnN a b size slide = (dnK b size slide - dnK a size slide).toNat := by
  have k0 := ((dn_low (a := a) hw (dnK a size slide)).1 (Int.le_refl _)).1
  rw [dnN]
  split
  · rename_i h
    rw [dnK.eq_def b, if_pos h]
    omega
  · rename_i h
    rw [dnK.eq_def b, if_neg h]
theorem dnK_mono {a b size slide : Int} (hw : wdB size slide) (h : a ≤ b) : dnK a size slide ≤ dnK b size slide := by
  have h1 := (dn_low (a := b) hw (dnK b size slide)).1 (Int.le_refl _)
  exact (dn_low hw _).2 ⟨h1.1, by omega⟩
/-- Each window is done at one time. -/
theorem dn_join {a m b size slide : Int} (hw : wdB size slide) (h1 : a ≤ m) (h2 : m ≤ b) : dnP a m size slide ++ dnP m b size slide = dnP a b size slide := by
  have g1 := dnK_mono hw h1
  have g2 := dnK_mono hw h2
  have e1 := dnN_eq a m size slide hw
  have e2 := dnN_eq m b size slide hw
  have e3 := dnN_eq a b size slide hw
  have hk : dnK m size slide * slide = dnK a size slide * slide + (dnN a m size slide : Int) * slide := by
    rw [← Int.add_mul]
    congr 1
    omega
  rw [dnP, dnP, dnP, hk, prg_app]
  congr 1
  omega
theorem stK_eq {at_ size slide : Int} (hw : wdB size slide) (h0 : 0 ≤ at_) : dnK at_ size slide = at_ / slide + 1 - (stN at_ size slide : Int) := by
  have hp := st_pos hw h0
  have h1 := (st_iff hw h0 (at_ / slide + 1 - (stN at_ size slide : Int))).1 ⟨by omega, by omega⟩
  have h2 := (dn_low (a := at_) hw _).2 ⟨h1.1, h1.2.2⟩
  have h3 := (dn_low (a := at_) hw _).1 (Int.le_refl _)
  have hm : dnK at_ size slide * slide ≤ at_ := by
    have := Int.mul_le_mul_of_nonneg_right h2 (show 0 ≤ slide by have := hw.2.2.1; omega)
    omega
  have h4 := (st_iff hw h0 _).2 ⟨h3.1, hm, h3.2⟩
  omega
theorem stN_le {at_ size slide : Int} (hw : wdB size slide) (h0 : 0 ≤ at_) : stN at_ size slide ≤ 10 := by
  obtain ⟨s1, s2, s3, s4, s5⟩ := hw
  have hd : 0 < slide := by omega
  have hr := Int.emod_nonneg at_ (by omega : slide ≠ 0)
  have hq : (size - 1 - at_ % slide) / slide < 10 := Int.ediv_lt_of_lt_mul hd (by omega)
  rw [stN]
  omega
/-- What is done from a time on, and in a size more, is what holds it. -/
theorem dn_st {at_ size slide : Int} (hw : wdB size slide) (h0 : 0 ≤ at_) : dnP at_ (at_ + size) size slide = stP at_ size slide := by
  have hk := stK_eq hw h0
  have hn : dnN at_ (at_ + size) size slide = stN at_ size slide := by
    rw [dnN, if_neg (by omega), hk, show at_ + size - size = at_ by omega]
    omega
  rw [dnP, stP, stS, hn, hk]
/-- What holds a time: of each, and of the ends. -/
theorem st_each {at_ size slide : Int} (hw : wdB size slide) (h0 : 0 ≤ at_) {i : Nat} (h : i < stN at_ size slide) : 0 ≤ stS at_ size slide + (i : Int) * slide ∧ stS at_ size slide + (i : Int) * slide ≤ at_ ∧ at_ < stS at_ size slide + (i : Int) * slide + size := by
  have := (st_iff hw h0 (at_ / slide + 1 - (stN at_ size slide : Int) + (i : Int))).1 ⟨by omega, by omega⟩
  rw [Int.add_mul] at this
  have hnn := Int.mul_nonneg this.1 (show 0 ≤ slide by have := hw.2.2.1; omega)
  rw [Int.add_mul] at hnn
  rw [stS]
  exact ⟨hnn, this.2.1, this.2.2⟩
theorem st_first {at_ size slide : Int} (hw : wdB size slide) (h0 : 0 ≤ at_) (h : slide ≤ stS at_ size slide) : stS at_ size slide - slide + size ≤ at_ := by
  have hd : 0 < slide := by have := hw.2.2.1; omega
  have hp := st_pos hw h0
  have hk : 1 ≤ at_ / slide + 1 - (stN at_ size slide : Int) := by
    rw [stS] at h
    by_cases hc : 1 ≤ at_ / slide + 1 - (stN at_ size slide : Int)
    · exact hc
    · have := Int.mul_le_mul_of_nonneg_right (show at_ / slide + 1 - (stN at_ size slide : Int) ≤ 0 by omega) (by omega : 0 ≤ slide)
      omega
  by_cases hc : stS at_ size slide - slide + size ≤ at_
  · exact hc
  · exfalso
    have h1 := (st_iff hw h0 (at_ / slide + 1 - (stN at_ size slide : Int))).1 ⟨by omega, by omega⟩
    have e : (at_ / slide + 1 - (stN at_ size slide : Int) - 1) * slide = stS at_ size slide - slide := by rw [Int.sub_mul, stS]; omega
    have := (st_iff hw h0 (at_ / slide + 1 - (stN at_ size slide : Int) - 1)).2 ⟨by omega, by rw [e]; rw [stS]; omega, by rw [e]; omega⟩
    omega
theorem st_last {at_ size slide : Int} (hw : wdB size slide) : at_ < stS at_ size slide + ((stN at_ size slide : Int) - 1) * slide + slide := by
  have hd : 0 < slide := by have := hw.2.2.1; omega
  obtain ⟨d1, d2⟩ := div_mul_le (a := at_) hd
  have e : stS at_ size slide + ((stN at_ size slide : Int) - 1) * slide = at_ / slide * slide := by
    rw [stS, ← Int.add_mul]
    congr 1
    omega
  rw [e]
  exact d2
/-- What is done ends at most at the time. -/
theorem dn_each {a b size slide : Int} (hw : wdB size slide) {i : Nat} (h : i < dnN a b size slide) : dnK a size slide * slide + (i : Int) * slide + size ≤ b := by
  have := ((dn_iff (a := a) (b := b) hw (dnK a size slide + (i : Int))).1 ⟨by omega, by omega⟩).2.2.1
  rw [Int.add_mul] at this
  exact this
/-- Of a size that is so many slides. -/
theorem st_many {at_ slide many : Int} (hs : 1 ≤ slide) (h0 : 0 ≤ at_) (hm : 1 ≤ many) : (stN at_ (slide * many) slide : Int) = min (at_ / slide + 1) many := by
  have hd : 0 < slide := by omega
  have hr0 := Int.emod_nonneg at_ (by omega : slide ≠ 0)
  have hr1 := Int.emod_lt_of_pos at_ hd
  have q0 : 0 ≤ at_ / slide := Int.ediv_nonneg h0 (by omega)
  have e : (slide * many - 1 - at_ % slide) / slide = many - 1 := by
    obtain ⟨e1, e2⟩ := div_mul_le (a := slide * many - 1 - at_ % slide) hd
    generalize (slide * many - 1 - at_ % slide) / slide = V at *
    have hc : slide * many = many * slide := Int.mul_comm ..
    rw [hc] at e1 e2
    have u1 : V < many := by
      by_cases hh : V < many
      · exact hh
      · have := Int.mul_le_mul_of_nonneg_right (show many ≤ V by omega) (by omega : 0 ≤ slide)
        omega
    have u2 : many - 2 < V := by
      by_cases hh : many - 2 < V
      · exact hh
      · have := Int.mul_le_mul_of_nonneg_right (show V ≤ many - 2 by omega) (by omega : 0 ≤ slide)
        rw [Int.sub_mul] at this
        omega
    omega
  rw [stN, e]
  omega
end Go.Proofs.YtogndffocijinaaDoor
namespace Go.Proofs.YtogndffocijinaaDoor
open Go.RowKit

theorem ret_int {k : IntKind} {a b : Int} (h : a = b) : Ending.returned (.int k a) = .returned (.int k b) := by rw [h]
theorem ret_bool {a b : Bool} (h : a = b) : Ending.returned (.bool a) = .returned (.bool b) := by rw [h]

/-- Has a text just the bytes that it may? -/
def plainB (l : List UInt8) : Bool := l.all fun c => decide (32 ≤ (c.toNat : Int)) && decide ((c.toNat : Int) ≤ 126)
theorem plain_take (s : ByteArray) (k : Nat) (h : k < s.size) : plainB (s.data.toList.take (k + 1)) = (plainB (s.data.toList.take k) && (decide (32 ≤ (s[k].toNat : Int)) && decide ((s[k].toNat : Int) ≤ 126))) := by
  rw [List.take_succ_eq_append_getElem (by simpa using h)]
  simp only [plainB, List.all_append, List.all_cons, List.all_nil, Bool.and_true]
  rfl
theorem plain_not (s : ByteArray) (k : Nat) (h : k < s.size) (hc : (s[k].toNat : Int) < 32 ∨ 126 < (s[k].toNat : Int)) : plainB s.data.toList = false := by
  have h2 : plainB (s.data.toList.take (k + 1)) = false := by
    rw [plain_take s k h]
    have : (decide (32 ≤ (s[k].toNat : Int)) && decide ((s[k].toNat : Int) ≤ 126)) = false := by
      rw [Bool.and_eq_false_iff, decide_eq_false_iff_not, decide_eq_false_iff_not]; omega
    rw [this, Bool.and_false]
  cases hp : plainB s.data.toList with
  | false => rfl
  | true =>
    exfalso
    have h3 : plainB (s.data.toList.take (k + 1)) = true := by
      simp only [plainB, List.all_eq_true] at hp ⊢
      exact fun x hx => hp x (List.mem_of_mem_take hx)
    rw [h2] at h3; exact Bool.noConfusion h3
theorem plain_of (s : ByteArray) (k : Nat) (h : s.size ≤ k) (hp : plainB (s.data.toList.take k) = true) : plainB s.data.toList = true := by
  rwa [List.take_of_length_le (by simpa using h)] at hp

/-- The fault of a value. -/
def chk (t n : Int) (l : List UInt8) : Int :=
  if ¬ (t = 1 ∨ t = 2 ∨ t = 3) ∨ (t = 2 ∧ n ≠ 0 ∧ n ≠ 1) then 1
  else if t = 3 ∧ 40 < l.length then 4
  else if t = 3 ∧ plainB l = false then 2
  else if (t ≠ 3 ∧ l ≠ []) ∨ (t = 3 ∧ n ≠ 0) then 3 else 0
/-- An error by its number. -/
def errV (k : Int) : Value := if k = 0 then .nilIface else .iface 38 (.int .i64 k)

theorem errV_eq {k j : Int} (h : k = j) (hj : j ≠ 0) : Ending.returned (.iface 38 (.int .i64 j)) = .returned (errV k) := by
  rw [errV, if_neg (by omega), h]
theorem errV_nil {k : Int} (h : k = 0) : Ending.returned .nilIface = .returned (errV k) := by
  rw [errV, if_pos h]

def chkT (n : Int) (l : List UInt8) : Int := if 40 < l.length then 4 else if plainB l = false then 2 else if n ≠ 0 then 3 else 0
theorem chk_text (n : Int) (l : List UInt8) : chk 3 n l = chkT n l := by
  rw [chk, chkT, if_neg (by simp)]
  simp
end Go.Proofs.YtogndffocijinaaDoor
namespace Go.Proofs.YtogndffocijinaaDoor
open Go.RowKit
set_option linter.unusedVariables false

theorem info_intA : (Tryd.prog.info? 3).map (fun i => (i.zero, i.size, i.bytes)) = some (some (.int .i64 0), 1, 8) := by kernel_rfl
def intC (ts : List Int) : List Value := ts.map fun t => .int .i64 t
/-- Numbers one behind the other; none of them, and they may lie nowhere. -/
def IntA (w : World) (v : Value) (ts : List Int) : Prop := ∃ p c, v = .slice p ts.length c ∧ (ts.length ≤ c ∧ ts.length ≤ 1048576) ∧ (p = none → c = 0) ∧ ∀ a, p = some a → ∃ g off, a = ⟨g, off, none⟩ ∧ g < w.heap.size ∧ ∀ j (h : j < ts.length), w.cell? ⟨g, off + j, none⟩ = some (.int .i64 ts[j])
theorem IntA.on {w w' : World} {v : Value} {ts : List Int} (h : IntA w v ts) (hb : Below w.heap.size w w') : IntA w' v ts := by
  obtain ⟨p, c, e, h1, h2, h3⟩ := h
  refine ⟨p, c, e, h1, h2, fun a ha => ?_⟩
  obtain ⟨g, off, e2, h5, h6⟩ := h3 a ha
  exact ⟨g, off, e2, by have := hb.size; omega, fun j hj => by rw [hb.cell (p := ⟨g, off + j, none⟩) h5]; exact h6 j hj⟩
theorem IntA.nil (w : World) : IntA w (.slice none 0 0) [] := ⟨none, 0, rfl, ⟨Nat.le_refl _, Nat.zero_le _⟩, fun _ => rfl, fun a h => nomatch h⟩
theorem ints_own {w : World} {B : Nat} {v : Value} {n : Nat} {ts : List Int} (hn : ts.length = n) (hl : n ≤ 1048576) (h : w.ownsRow B 3 1 v n (intC ts)) : IntA w v ts := by
  subst hn
  rcases id h.2 with ⟨rfl, e⟩ | ⟨g, cap, cur, rfl, hb, hg, hm, hx, hs, ht⟩
  · exact ⟨none, 0, by rw [e], ⟨by omega, by omega⟩, fun _ => rfl, fun a ha => nomatch ha⟩
  · refine ⟨some ⟨g, 0, none⟩, cap, rfl, ⟨by omega, hl⟩, (fun hp => nomatch hp), fun a ha => ?_⟩
    injection ha with ha
    subst ha
    refine ⟨g, 0, rfl, (Array.getElem?_eq_some_iff.1 hg).1, fun j hj => ?_⟩
    have := h.cells (g := g) rfl j (.int .i64 ts[j]) (by rw [intC, List.getElem?_map, List.getElem?_eq_getElem hj]; rfl)
    rw [Go.WideShapes.add_plain] at this
    exact this
theorem ints_some {w : World} {q : Option Addr} {n c m : Nat} {bs : List Int} (h : IntA w (.slice q n c) bs) (hm : m < bs.length) : ∃ g off, q = some ⟨g, off, none⟩ ∧ g < w.heap.size ∧ ∀ j (h : j < bs.length), w.cell? ⟨g, off + j, none⟩ = some (.int .i64 bs[j]) := by
  obtain ⟨p', c', e, ⟨h1, h64⟩, h2, h3⟩ := h
  injection e with e1 e2 e3
  subst e1 e3
  cases q with
  | none => have := h2 rfl; omega
  | some a =>
    obtain ⟨g, off, rfl, h5, h6⟩ := h3 a rfl
    exact ⟨g, off, rfl, h5, h6⟩
theorem ints_slice_l {w : World} {p : Option Addr} {n c l : Nat} {ts : List Int} (h : IntA w (.slice p n c) ts) (hn : ts.length = n) (hl : l ≤ n) : ∃ p1 c1, (∀ W, Sem.run Tryd.prog (Instr.slice 28 (.slice p n c) (some (.int .i64 (l : Int))) none none) W = .ok (.slice p1 (n - l) c1) W) ∧ IntA w (.slice p1 (n - l) c1) (ts.drop l) := by
  subst hn
  obtain ⟨p', c', e, ⟨h1, h64⟩, h2, h3⟩ := h
  injection e with e1 e2 e3
  subst e1 e3
  have hr : ∀ W, Sem.run Tryd.prog (Instr.slice 28 (.slice p ts.length c) (some (.int .i64 (l : Int))) none none) W = .ok (sliced p l ts.length c 1) W := fun W => by
    have g0 : (0 : Int) ≤ (l : Int) := by omega
    have g1 : (l : Int) ≤ (ts.length : Int) := by omega
    have g2 : Sem.run Tryd.prog (Go.sizeOf (Tryd.prog.elem 28)) W = .ok 1 W := by kernel_rfl
    rw [run_slice_l W 28 p ts.length c (by kernel_rfl) .i64 l g0 g1, g2]
    rfl
  by_cases hcl : c = l
  · refine ⟨p, c - l, fun W => by rw [hr W, sliced, if_pos hcl], p, c - l, by rw [List.length_drop], ⟨by rw [List.length_drop]; omega, by rw [List.length_drop]; omega⟩, fun hp => by have := h2 hp; omega, fun a ha => ?_⟩
    obtain ⟨g, off, e2, h5, h6⟩ := h3 a ha
    exact ⟨g, off, e2, h5, fun j hj => absurd hj (by rw [List.length_drop]; omega)⟩
  · cases p with
    | none => exact absurd (h2 rfl) (by omega)
    | some a =>
      obtain ⟨g, off, rfl, h5, h6⟩ := h3 a rfl
      refine ⟨some ⟨g, off + l * 1, none⟩, c - l, fun W => by rw [hr W, sliced, if_neg hcl, Option.map_some, Go.WideShapes.add_plain], some ⟨g, off + l * 1, none⟩, c - l, by rw [List.length_drop], ⟨by rw [List.length_drop]; omega, by rw [List.length_drop]; omega⟩, (fun hp => nomatch hp), fun a ha => ?_⟩
      injection ha with ha
      subst ha
      refine ⟨g, off + l * 1, rfl, h5, fun j hj => ?_⟩
      rw [List.length_drop] at hj
      have := h6 (l + j) (by omega)
      rw [List.getElem_drop, show off + l * 1 + j = off + (l + j) by omega]
      exact this
theorem ints_slice_h {w : World} {p : Option Addr} {n c l : Nat} {ts : List Int} (h : IntA w (.slice p n c) ts) (hn : ts.length = n) (hl : l ≤ n) : ∃ p1 c1, (∀ W, Sem.run Tryd.prog (Instr.slice 28 (.slice p n c) none (some (.int .i64 (l : Int))) none) W = .ok (.slice p1 l c1) W) ∧ IntA w (.slice p1 l c1) (ts.take l) := by
  subst hn
  obtain ⟨p', c', e, ⟨h1, h64⟩, h2, h3⟩ := h
  injection e with e1 e2 e3
  subst e1 e3
  have hr : ∀ W, Sem.run Tryd.prog (Instr.slice 28 (.slice p ts.length c) none (some (.int .i64 (l : Int))) none) W = .ok (sliced p 0 l c 1) W := fun W => by
    have g0 : (0 : Int) ≤ (l : Int) := by omega
    have g1 : (l : Int) ≤ (c : Int) := by omega
    have g2 : Sem.run Tryd.prog (Go.sizeOf (Tryd.prog.elem 28)) W = .ok 1 W := by kernel_rfl
    rw [run_slice_h W 28 p ts.length c (by kernel_rfl) .i64 l g0 g1, g2]
    rfl
  have hlen : (ts.take l).length = l := by rw [List.length_take]; omega
  refine ⟨p, c, fun W => ?_, p, c, by rw [hlen], ⟨by omega, by omega⟩, h2, fun a ha => ?_⟩
  · rw [hr W, sliced]
    cases p with
    | none => simp
    | some a =>
      obtain ⟨g, off, rfl, -⟩ := h3 a rfl
      simp [Addr.add]
  · obtain ⟨g, off, e2, h5, h6⟩ := h3 a ha
    refine ⟨g, off, e2, h5, fun j hj => ?_⟩
    rw [List.getElem_take]
    exact h6 j (by omega)
/-- append of a list of numbers, which may lie nowhere, to one's own. -/
theorem wpList_append_ints {w : World} {ops : Array Oper} {rest : List Oper} {o : Oper} {a : Act} {Q : Exit → Act → World → Prop} (hgd : o.guard = none) (s x : Operand)
    (ho : o.op = .call { callee := .builtin .append, args := #[s, x], argTypes := #[28, 28] })
    (base : Nat) (v : Value) (n : Nat) (xs : List Int) (hs : a.eval s = v) (hown : w.ownsRow base 3 1 v n (intC xs))
    (u : Value) (ts : List Int) (hx : a.eval x = u) (hst : IntA w u ts) (n' : Nat) (cs' : List Value) (hn' : n + ts.length = n') (hcs : intC (xs ++ ts) = cs') (hsm : n' ≤ 1048576) (hbase : base ≤ w.heap.size)
    (h : ∀ v' w', w'.ownsRow base 3 1 v' n' cs' → Below base w w' → wpList Tryd.prog ops Q rest (a.put o.dst v') w') : wpList Tryd.prog ops Q (o :: rest) a w := by
  subst hn' hcs
  obtain ⟨i0, hi, hz0, hz1, hzz⟩ := info_parts info_intA
  obtain ⟨p, c, rfl, h1, h2, h3⟩ := hst
  cases p with
  | none =>
    have hc := h2 rfl
    subst hc
    have hl : ts.length = 0 := by omega
    have : ts = [] := List.length_eq_zero_iff.1 hl
    subst this
    refine wpList_append_own_none hgd s x 28 ho base 3 i0 1 Tryd.underlying28 hi v n (intC xs) hs hown hx (h v w ?_ (Below.refl _ _))
    simpa using hown
  | some ad =>
    obtain ⟨g, off, rfl, h5, h6⟩ := h3 ad rfl
    refine wpList_append_own w hgd s x 28 ho base 3 i0 (.int .i64 0) 1 8 Tryd.underlying28 hi hz0 hz1 hzz rfl (by decide) v n (intC xs) hs hown ⟨g, off, none⟩ ts.length c (intC ts) hx (by simp [intC]) (fun j y hy => ?_) (fun y hy => ?_) (by unfold maxLen; omega) (by omega) hbase (fun v' w' o1 o2 _ => ?_)
    · rw [intC, List.getElem?_map] at hy
      obtain ⟨t, ht, rfl⟩ := Option.map_eq_some_iff.1 hy
      obtain ⟨hj, rfl⟩ := List.getElem?_eq_some_iff.1 ht
      rw [Go.WideShapes.add_plain]
      exact h6 j hj
    · rw [intC, List.mem_map] at hy
      obtain ⟨t, _, rfl⟩ := hy
      rfl
    · refine h v' w' ?_ ((Below.refl _ w).grown o2 hbase (fun j hj => (hown.lt j hj).1))
      rw [intC, List.map_append]; exact o1
theorem ints_one (w : World) (s : Int) (g : Nat) (hg : g = w.heap.size) : IntA (w.alloc (.cells #[.int .i64 s] 3)) (.slice (some ⟨g, 0, none⟩) 1 1) [s] := by
  subst hg
  refine ⟨_, 1, rfl, ⟨Nat.le_refl _, by simp⟩, (fun hp => nomatch hp), fun a ha => ?_⟩
  injection ha with ha
  subst ha
  refine ⟨w.heap.size, 0, rfl, by simp, fun j hj => ?_⟩
  obtain rfl : j = 0 := by simp at hj; omega
  rw [World.cell?_alloc_at _ _ _ _ rfl]; rfl
theorem ints_form {w : World} {v : Value} {ts : List Int} (h : IntA w v ts) : ∃ q c, v = .slice q ts.length c := by
  obtain ⟨p, c, e, -⟩ := h
  exact ⟨p, c, e⟩
theorem own_form {w : World} {B : Nat} {e : TypeId} {size n : Nat} {v : Value} {xs : List Value} (h : w.ownsRow B e size v n xs) : ∃ q c, v = .slice q n c := by
  rcases h.2 with ⟨rfl, rfl⟩ | ⟨g, cap, cur, rfl, _⟩
  · exact ⟨_, _, rfl⟩
  · exact ⟨_, _, rfl⟩
set_option maxHeartbeats 2000000 in
theorem ints_eq (u v : Value) (bs : List Int) (w : World) (hu : IntA w u bs) (hv : IntA w v bs) :
    Calls Tryd.prog 11 #[u, v] w fun e w' => e = .returned (.bool true) ∧ Below w.heap.size w w' := by
  obtain ⟨p, c, rfl⟩ := ints_form hu
  obtain ⟨q, d, rfl⟩ := ints_form hv
  obtain ⟨N, hN⟩ : ∃ N, bs.length = N := ⟨_, rfl⟩
  have HN : Hid (bs.length = N) := hN
  simp only [hN] at hu hv ⊢
  have HU : Aside (IntA w (.slice p N c) bs) := hu
  have HV : Aside (IntA w (.slice q N d) bs) := hv
  have hN2 : N ≤ 1048576 := by
    obtain ⟨p', c', e, ⟨_, h⟩, _⟩ := hu
    omega
  have hNz : (N : Int) ≤ 1048576 := by omega
  have qn : ((N : Int) != (N : Int)) = false := by simp
  clear hu hv hN
  go_enter Tryd.func11, Tryd.ntmps11
  go_wp2
  go_loopg [5] N (fun gg s5 wr => ∃ kk : Nat, kk ≤ N ∧ N - kk ≤ gg ∧ s5 = .int .i64 kk ∧ Aside (Below w.heap.size w wr))
  case atStart => exact ⟨0, Nat.zero_le _, by omega, rfl, (show Aside _ from Below.refl _ _)⟩
  case round =>
    obtain ⟨kk, hkk, hg, rfl, BW⟩ := hrel
    by_cases hlt : kk < N
    · have hltz : (kk : Int) < (N : Int) := by omega
      have h0z : (0 : Int) ≤ (kk : Int) := by omega
      have hk2 : kk < bs.length := by rw [HN.out]; exact hlt
      obtain ⟨b1, o1, rfl, l1, h1⟩ := ints_some HU.out hk2
      obtain ⟨b2, o2, rfl, l2, h2⟩ := ints_some HV.out hk2
      have e1 : wr.cell? ⟨b1, o1 + kk, none⟩ = some (.int .i64 bs[kk]) := by rw [BW.out.cell (p := ⟨b1, _, none⟩) l1]; exact h1 kk hk2
      have e2 : wr.cell? ⟨b2, o2 + kk, none⟩ = some (.int .i64 bs[kk]) := by rw [BW.out.cell (p := ⟨b2, _, none⟩) l2]; exact h2 kk hk2
      clear h1 h2
      generalize bs[kk] = S at e1 e2
      have qs : (S != S) = false := by simp
      go_wp2
      go_quiet (fail)
      go_wp2
      go_roundg (N - (kk + 1))
      case measure => omega
      case rel => exact ⟨kk + 1, by omega, by omega, by go_num, (show Aside _ from below_drewN BW.out _)⟩
    · have hltz : ¬ (kk : Int) < (N : Int) := by omega
      go_wp2
      go_ret
      exact ⟨rfl, BW.out⟩
end Go.Proofs.YtogndffocijinaaDoor
namespace Go.Proofs.YtogndffocijinaaDoor
open Go.RowKit
set_option linter.unusedVariables false

/-- A machine's number. -/
def inM (x : Int) : Prop := -9223372036854775808 ≤ x ∧ x ≤ 9223372036854775807
def ChkC : Prop := ∀ (size slide : Int) (w : World), inM size → inM slide → Calls Tryd.prog 7 #[.int .i64 size, .int .i64 slide] w fun e w' => e = .returned (errV (wdE size slide)) ∧ Below w.heap.size w w'
def StC : Prop := ∀ (at_ size slide : Int) (w : World), inM at_ → inM size → inM slide → Calls Tryd.prog 10 #[.int .i64 at_, .int .i64 size, .int .i64 slide] w fun e w' => (∃ u, e = .returned (.tuple #[u, errV (stE at_ size slide)]) ∧ IntA w' u (if stE at_ size slide = 0 then stP at_ size slide else [])) ∧ Below w.heap.size w w'
def DnC : Prop := ∀ (a b size slide : Int) (w : World), inM a → inM b → inM size → inM slide → Calls Tryd.prog 13 #[.int .i64 a, .int .i64 b, .int .i64 size, .int .i64 slide] w fun e w' => (∃ u, e = .returned (.tuple #[u, errV (dnE a b size slide)]) ∧ IntA w' u (if dnE a b size slide = 0 then dnP a b size slide else [])) ∧ Below w.heap.size w w'
theorem one_ne : ¬ (1 : Int) = 0 := by decide
theorem four_ne : ¬ (4 : Int) = 0 := by decide
theorem wd_zero {size slide : Int} (h : wdB size slide) : wdE size slide = 0 := by rw [wdE, if_pos h]
theorem wd_one {size slide : Int} (h : ¬ wdB size slide) : wdE size slide = 1 := by rw [wdE, if_neg h]
theorem st_zero {at_ size slide : Int} (h : wdB size slide) (h2 : 0 ≤ at_ ∧ at_ ≤ 1000000) : stE at_ size slide = 0 := by rw [stE, if_pos ⟨h, h2⟩]
theorem st_one {at_ size slide : Int} (h : ¬ (wdB size slide ∧ 0 ≤ at_ ∧ at_ ≤ 1000000)) : stE at_ size slide = 1 := by rw [stE, if_neg h]
theorem dn_zero {a b size slide : Int} (h : wdB size slide) (h2 : dnR a b) (h3 : dnN a b size slide ≤ 300) : dnE a b size slide = 0 := by rw [dnE, if_pos ⟨h, h2⟩, if_neg (by omega)]
theorem dn_four {a b size slide : Int} (h : wdB size slide) (h2 : dnR a b) (h3 : ¬ dnN a b size slide ≤ 300) : dnE a b size slide = 4 := by rw [dnE, if_pos ⟨h, h2⟩, if_pos (by omega)]
theorem dn_one {a b size slide : Int} (h : ¬ (wdB size slide ∧ dnR a b)) : dnE a b size slide = 1 := by rw [dnE, if_neg h]
end Go.Proofs.YtogndffocijinaaDoor
namespace Go.Proofs.YtogndffocijinaaDoor
open Go.RowKit
set_option linter.unusedVariables false

theorem refWindow_any (size slide : Int) (w : World) : Calls Tryd.prog 5 #[.int .i64 size, .int .i64 slide] w fun e w' => e = .returned (.bool (decide (wdB size slide))) ∧ w' = w := by
  by_cases h1 : 1 ≤ size
  · by_cases h2 : size ≤ 1000
    · by_cases h3 : 1 ≤ slide
      · by_cases h4 : slide ≤ size
        · have hw : IntKind.i64.wrap (10 * slide) = 10 * slide := by rw [IntKind.wrap_i64]; omega
          by_cases h5 : size ≤ 10 * slide
          · have hd : decide (wdB size slide) = true := decide_eq_true ⟨h1, h2, h3, h4, h5⟩
            rw [hd]
            clear hd
            go_enter Tryd.func5, Tryd.ntmps5
            go_wp2
            go_ret
            exact ⟨rfl, rfl⟩
          · have hd : decide (wdB size slide) = false := decide_eq_false (fun h => h5 h.2.2.2.2)
            rw [hd]
            clear hd
            go_enter Tryd.func5, Tryd.ntmps5
            go_wp2
            go_ret
            exact ⟨rfl, rfl⟩
        · have hd : decide (wdB size slide) = false := decide_eq_false (fun h => h4 h.2.2.2.1)
          rw [hd]
          clear hd
          go_enter Tryd.func5, Tryd.ntmps5
          go_wp2
          go_ret
          exact ⟨rfl, rfl⟩
      · have hd : decide (wdB size slide) = false := decide_eq_false (fun h => h3 h.2.2.1)
        rw [hd]
        clear hd
        go_enter Tryd.func5, Tryd.ntmps5
        go_wp2
        go_ret
        exact ⟨rfl, rfl⟩
    · have hd : decide (wdB size slide) = false := decide_eq_false (fun h => h2 h.2.1)
      rw [hd]
      clear hd
      go_enter Tryd.func5, Tryd.ntmps5
      go_wp2
      go_ret
      exact ⟨rfl, rfl⟩
  · have hd : decide (wdB size slide) = false := decide_eq_false (fun h => h1 h.1)
    rw [hd]
    clear hd
    go_enter Tryd.func5, Tryd.ntmps5
    go_wp2
    go_ret
    exact ⟨rfl, rfl⟩
theorem refTime_any (n : Int) (w : World) : Calls Tryd.prog 8 #[.int .i64 n] w fun e w' => e = .returned (.bool (decide (0 ≤ n ∧ n ≤ 1000000))) ∧ w' = w := by
  by_cases h1 : 0 ≤ n
  · by_cases h2 : n ≤ 1000000
    · have hd : decide (0 ≤ n ∧ n ≤ 1000000) = true := decide_eq_true ⟨h1, h2⟩
      rw [hd]
      clear hd
      go_enter Tryd.func8, Tryd.ntmps8
      go_wp2
      go_ret
      exact ⟨rfl, rfl⟩
    · have hd : decide (0 ≤ n ∧ n ≤ 1000000) = false := decide_eq_false (fun h => h2 h.2)
      rw [hd]
      clear hd
      go_enter Tryd.func8, Tryd.ntmps8
      go_wp2
      go_ret
      exact ⟨rfl, rfl⟩
  · have hd : decide (0 ≤ n ∧ n ≤ 1000000) = false := decide_eq_false (fun h => h1 h.1)
    rw [hd]
    clear hd
    go_enter Tryd.func8, Tryd.ntmps8
    go_wp2
    go_ret
    exact ⟨rfl, rfl⟩
set_option maxHeartbeats 4000000 in
set_option maxRecDepth 20000 in
theorem refStarts_any (at_ size slide : Int) (w : World) (hw : wdB size slide) (h0 : 0 ≤ at_) (h1 : at_ ≤ 1000000) :
    Calls Tryd.prog 9 #[.int .i64 at_, .int .i64 size, .int .i64 slide] w fun e w' => (∃ u, e = .returned u ∧ IntA w' u (stP at_ size slide)) ∧ Below w.heap.size w w' := by
  have HW : Hid (wdB size slide) := hw
  obtain ⟨s1, s2, s3, s4, s5⟩ := hw
  have hd : 0 < slide := by omega
  obtain ⟨d1, d2⟩ := div_mul_le (a := at_) hd
  have q0 : 0 ≤ at_ / slide := Int.ediv_nonneg h0 (by omega)
  have hsl : ¬ slide = 0 := by omega
  have htm : at_.tmod slide = at_ - at_ / slide * slide := by
    rw [Int.tmod_eq_emod_of_nonneg h0]
    have := Int.emod_add_mul_ediv at_ slide
    rw [Int.mul_comm] at this
    omega
  obtain ⟨Q, hQ⟩ : ∃ Q, at_ / slide = Q := ⟨_, rfl⟩
  have HQ : Hid (at_ / slide = Q) := hQ
  rw [hQ] at d1 d2 q0 htm
  obtain ⟨E, hE⟩ : ∃ E, Q * slide = E := ⟨_, rfl⟩
  have HE : Hid (Q * slide = E) := hE
  rw [hE] at d1 d2 htm
  clear hQ hE
  go_enter Tryd.func9, Tryd.ntmps9
  have h00 : at_ - (at_ - E) = E := by omega
  go_wp2
  go_loopg [7, 8] 1001 (fun gg s7 s8 wr => ∃ (k : Nat) (q : Option Addr) (c : Nat) (S : Int), s7 = .slice q k c ∧ s8 = .int .i64 S ∧ k ≤ 1000 ∧ 1001 - k ≤ gg ∧ -1000 ≤ S ∧ S ≤ at_ ∧ Hid (S = (Q - (k : Int)) * slide) ∧ Hid (k = 0 ∨ (0 ≤ S + slide ∧ at_ < S + slide + size)) ∧ Aside (IntA wr (.slice q k c) (prg (S + slide) slide k)) ∧ Aside (Below w.heap.size w wr))
  case atStart => exact ⟨0, none, 0, E, rfl, rfl, Nat.zero_le _, by omega, by omega, by omega, (show Hid _ by show _ = _; rw [← HE.out]; congr 1; omega), (show Hid _ from .inl rfl), (show Aside _ from IntA.nil _), (show Aside _ from Below.refl _ _)⟩
  case round =>
    obtain ⟨k, q, c, S, rfl, rfl, hk, hg, hS1, hS2, HS, HK, IA, BW⟩ := hrel
    have hwS : IntKind.i64.wrap (S - slide) = S - slide := by rw [IntKind.wrap_i64]; omega
    have hwa : IntKind.i64.wrap (at_ - size) = at_ - size := by rw [IntKind.wrap_i64]; omega
    by_cases hin : 0 ≤ S ∧ at_ - size < S
    · obtain ⟨hi0, hi1⟩ := hin
      have hk9 : k < 1000 := by
        have h1 := HS.out
        have h2 := HE.out
        have h3 : (k : Int) * slide < size := by rw [h1, Int.sub_mul] at hi1; omega
        have h4 := Int.mul_le_mul_of_nonneg_left (show (1 : Int) ≤ slide by omega) (show (0 : Int) ≤ (k : Int) by omega)
        omega
      have o1 := World.ownsRow_lit (base := w.heap.size) (e := 3) (size := 1) wr #[.int .i64 S] 1 BW.out.size (by decide) rfl
      have i1 := IA.out.on ((Below.refl _ wr).alloc (Nat.le_refl _) (.cells #[.int .i64 S] 3))
      have HC : Hid (intC ([S] ++ prg (S + slide) slide k) = intC (prg S slide (k + 1))) := by show _ = _; rw [prg_cons]; rfl
      have hsz := BW.out.size
      have b1 : Below w.heap.size w (wr.alloc (.cells #[.int .i64 S] 3)) := BW.out.alloc hsz _
      have hs1 : w.heap.size ≤ (wr.alloc (.cells #[.int .i64 S] 3)).heap.size := by simp; omega
      obtain ⟨CS, hCS⟩ : ∃ CS, intC (prg S slide (k + 1)) = CS := ⟨_, rfl⟩
      have HCS : Hid (intC (prg S slide (k + 1)) = CS) := hCS
      rw [hCS] at HC
      clear hCS IA
      go_wp2_with (at_builtin; refine wpList_append_ints rfl (.tmp 27) (.tmp 28) rfl w.heap.size _ 1 [S] rfl o1 _ (prg (S + slide) slide k) rfl i1 (k + 1) CS (by rw [prg_len]; omega) HC.out (by omega) hs1 ?_)
      intro v1 w1 o2 b2
      obtain ⟨q2, c2, rfl⟩ := own_form o2
      have IA2 : Aside (IntA w1 (.slice q2 (k + 1) c2) (prg (S - slide + slide) slide (k + 1))) := by
        rw [show S - slide + slide = S by omega]
        exact ints_own (by rw [prg_len]) (by omega) (by rw [HCS.out]; exact o2)
      have BW2 : Aside (Below w.heap.size w w1) := b1.trans b2
      clear o1 i1 b1 hs1 o2 b2 BW
      go_wp2
      go_roundg (1001 - (k + 1))
      case measure => omega
      case rel => exact ⟨k + 1, q2, c2, S - slide, rfl, rfl, by omega, by omega, by omega, by omega, (show Hid _ by show _ = _; rw [HS.out, show (Q - ((k + 1 : Nat) : Int)) = Q - (k : Int) - 1 by omega, Int.sub_mul (Q - (k : Int)) 1, Int.one_mul]), (show Hid _ from .inr ⟨by omega, by omega⟩), IA2, BW2⟩
    · have hout : prg (S + slide) slide k = stP at_ size slide := by
        have hS := HS.out
        have hq := HQ.out
        have he := HE.out
        rcases HK.out with h | ⟨h2, h3⟩
        · exfalso
          subst h
          rw [show (Q - ((0 : Nat) : Int)) * slide = E by rw [← he]; congr 1; omega] at hS
          exact hin ⟨by have := Int.mul_nonneg q0 (show 0 ≤ slide by omega); omega, by omega⟩
        · have e1 : S + slide = (Q + 1 - (k : Int)) * slide := by rw [hS, show Q + 1 - (k : Int) = Q - (k : Int) + 1 by omega, Int.add_mul (Q - (k : Int)) 1, Int.one_mul]
          have hk1 : 1 ≤ k := by
            rcases Nat.eq_zero_or_pos k with h | h
            · subst h
              exfalso
              rw [show (Q - ((0 : Nat) : Int)) * slide = E by rw [← he]; congr 1; omega] at hS
              exact hin ⟨by have := Int.mul_nonneg q0 (show 0 ≤ slide by omega); omega, by omega⟩
            · exact h
          have hnn : 0 ≤ Q + 1 - (k : Int) := by
            by_cases hc : 0 ≤ Q + 1 - (k : Int)
            · exact hc
            · have := Int.mul_le_mul_of_nonneg_right (show Q + 1 - (k : Int) ≤ -1 by omega) (show 0 ≤ slide by omega)
              omega
          rw [e1]
          refine st_unique HW.out h0 hk1 (by rw [hq]; omega) hnn (by rw [← e1]; exact h3) ?_
          by_cases hS0 : 0 ≤ S
          · right
            have e2 : (Q + 1 - (k : Int) - 1) * slide = S := by rw [hS]; congr 1; omega
            rw [e2]
            have : ¬ at_ - size < S := fun h => hin ⟨hS0, h⟩
            omega
          · left
            by_cases hz : Q + 1 - (k : Int) = 0
            · exact hz
            · exfalso
              have := Int.mul_le_mul_of_nonneg_right (show 0 ≤ Q - (k : Int) by omega) (show 0 ≤ slide by omega)
              rw [← hS] at this
              omega
      have IA2 : Aside (IntA wr (.slice q k c) (stP at_ size slide)) := by rw [← hout]; exact IA.out
      clear IA hout
      by_cases hS0 : 0 ≤ S
      · have hS3 : ¬ at_ - size < S := fun h => hin ⟨hS0, h⟩
        clear hin
        go_wp2
        go_ret
        exact ⟨⟨_, rfl, IA2.out⟩, BW.out⟩
      · clear hin
        go_wp2
        go_ret
        exact ⟨⟨_, rfl, IA2.out⟩, BW.out⟩
set_option maxHeartbeats 4000000 in
set_option maxRecDepth 20000 in
theorem refDone_any (a b size slide : Int) (w : World) (hw : wdB size slide) (hr : dnR a b) :
    Calls Tryd.prog 12 #[.int .i64 a, .int .i64 b, .int .i64 size, .int .i64 slide] w fun e w' => (∃ u, e = .returned (.tuple #[u, .bool (decide (dnN a b size slide ≤ 300))]) ∧ IntA w' u (if dnN a b size slide ≤ 300 then dnP a b size slide else [])) ∧ Below w.heap.size w w' := by
  have HW : Hid (wdB size slide) := hw
  obtain ⟨OK, hOK⟩ : ∃ OK, decide (dnN a b size slide ≤ 300) = OK := ⟨_, rfl⟩
  obtain ⟨PL, hPL⟩ : ∃ PL, (if dnN a b size slide ≤ 300 then dnP a b size slide else []) = PL := ⟨_, rfl⟩
  rw [hOK, hPL]
  have HOK : Hid (decide (dnN a b size slide ≤ 300) = OK) := hOK
  have HPL : Hid ((if dnN a b size slide ≤ 300 then dnP a b size slide else []) = PL) := hPL
  clear hOK hPL
  obtain ⟨s1, s2, s3, s4, s5⟩ := hw
  obtain ⟨a1, a2, a3, a4⟩ := hr
  have hd : 0 < slide := by omega
  have hsl : ¬ slide = 0 := by omega
  by_cases hbig : size < a
  · obtain ⟨V, hV⟩ : ∃ V, (a - size) / slide = V := ⟨_, rfl⟩
    obtain ⟨d1, d2⟩ := div_mul_le (a := a - size) hd
    have q0 : 0 ≤ (a - size) / slide := Int.ediv_nonneg (by omega) (by omega)
    have htd : (a - size).tdiv slide = V := by rw [Int.tdiv_eq_ediv_of_nonneg (by omega), hV]
    have HK : Hid (dnK a size slide = V + 1) := by show _ = _; rw [dnK, if_neg (by omega), hV]
    rw [hV] at d1 d2 q0
    obtain ⟨F, hF⟩ : ∃ F, V * slide = F := ⟨_, rfl⟩
    have HF : Hid (V * slide = F) := hF
    have hV2 : V ≤ a - size := by
      have := Int.mul_le_mul_of_nonneg_left (show (1 : Int) ≤ slide by omega) q0
      omega
    have hF0 : 0 ≤ F := by rw [← hF]; exact Int.mul_nonneg q0 (by omega)
    rw [hF] at d1 d2
    clear hV
    have hwV : IntKind.i64.wrap V = V := by rw [IntKind.wrap_i64]; omega
    have hwF : IntKind.i64.wrap F = F := by rw [IntKind.wrap_i64]; omega
    go_enter Tryd.func12, Tryd.ntmps12
    go_wp2
    go_loopg [10, 12] 1001002 (fun gg s10 s12 wr => ∃ (j : Nat) (q : Option Addr) (c : Nat) (S : Int) (t : Nat), s10 = .slice q j c ∧ s12 = .int .i64 S ∧ j ≤ 300 ∧ (1001001 - S).toNat ≤ gg ∧ 0 ≤ S ∧ S ≤ 1002000 ∧ Hid (S = (dnK a size slide + (j : Int) - (t : Int)) * slide) ∧ Hid (t = 0 ∨ (t = 1 ∧ j = 0)) ∧ Hid (j = 0 ∨ S - slide + size ≤ b) ∧ Aside (wr.ownsRow w.heap.size 3 1 (.slice q j c) j (intC (prg (dnK a size slide * slide) slide j))) ∧ Aside (Below w.heap.size w wr))
    case atStart => exact ⟨0, none, 0, F, 1, rfl, rfl, by omega, by omega, hF0, by omega, (show Hid _ by show _ = _; rw [← HF.out, HK.out]; congr 1; omega), (show Hid _ from .inr ⟨rfl, rfl⟩), (show Hid _ from .inl rfl), (show Aside _ from World.ownsRow_nil _ _ _ _), (show Aside _ from Below.refl _ _)⟩
    case round =>
      obtain ⟨j, q, c, S, t, rfl, rfl, hj, hg, hS1, hS2, HS, HT, HL, IA, BW⟩ := hrel
      have hws : IntKind.i64.wrap (S + size) = S + size := by rw [IntKind.wrap_i64]; omega
      have hwt : IntKind.i64.wrap (S + slide) = S + slide := by rw [IntKind.wrap_i64]; omega
      have hlow := fun k => dn_low (a := a) HW.out k
      have hif := fun k => dn_iff (a := a) (b := b) HW.out k
      have hk0 : 0 ≤ dnK a size slide := ((hlow _).1 (Int.le_refl _)).1
      have hnx : S + slide = (dnK a size slide + (j : Int) - (t : Int) + 1) * slide := by rw [HS.out, Int.add_mul _ 1, Int.one_mul]
      by_cases hb : S + size ≤ b
      · by_cases ha : a < S + size
        · have ht : t = 0 := by
            rcases HT.out with h | ⟨h, h2⟩
            · exact h
            · exfalso
              subst h h2
              have e : S = (dnK a size slide - 1) * slide := by rw [HS.out]; congr 1; omega
              by_cases hz : 0 ≤ dnK a size slide - 1
              · have := (hlow (dnK a size slide - 1)).2 ⟨hz, by rw [← e]; exact ha⟩
                omega
              · have := Int.mul_le_mul_of_nonneg_right (show dnK a size slide - 1 ≤ -1 by omega) (show 0 ≤ slide by omega)
                omega
          subst ht
          have e : S = (dnK a size slide + (j : Int)) * slide := by rw [HS.out]; congr 1; omega
          by_cases h300 : j = 300
          · have hfull : 300 < dnN a b size slide := by
              subst h300
              have := (hif (dnK a size slide + ((300 : Nat) : Int))).2 ⟨by omega, by rw [← e]; exact ha, by rw [← e]; exact hb, by omega⟩
              omega
            have HF : Hid (¬ dnN a b size slide ≤ 300) := by show ¬ _; omega
            have h3 : ((j : Int) == 300) = true := by simp; omega
            have h3' : (j == 300) = true := by simpa using h300
            have BW1 : Aside (Below w.heap.size w wr) := BW.out
            clear hfull h300 e hlow hif hnx
            go_wp2
            go_ret2
            refine ⟨⟨.slice none 0 0, ?_, ?_⟩, BW1.out⟩
            · rw [← HOK.out, decide_eq_false HF.out]; rfl
            · rw [← HPL.out, if_neg HF.out]; exact IntA.nil _
          · have h3 : ((j : Int) == 300) = false := by simp; omega
            have h3' : (j == 300) = false := by simpa using h300
            have hj2 : j < 300 := by omega
            have o1 := IA.out.alloc (.cells #[.int .i64 S] 3)
            have i1 := ints_one wr S _ rfl
            have hsz := BW.out.size
            have b1 : Below w.heap.size w (wr.alloc (.cells #[.int .i64 S] 3)) := BW.out.alloc hsz _
            have hs1 : w.heap.size ≤ (wr.alloc (.cells #[.int .i64 S] 3)).heap.size := by simp; omega
            obtain ⟨CS, hCS⟩ : ∃ CS, intC (prg (dnK a size slide * slide) slide (j + 1)) = CS := ⟨_, rfl⟩
            have HC : Hid (intC (prg (dnK a size slide * slide) slide j ++ [S]) = CS) := by
              show _ = _
              rw [← hCS, prg_snoc, e, Int.add_mul]
            have HCS : Hid (intC (prg (dnK a size slide * slide) slide (j + 1)) = CS) := hCS
            have HN : Hid (S + slide = (dnK a size slide + ((j + 1 : Nat) : Int) - ((0 : Nat) : Int)) * slide) := by
              show _ = _
              rw [hnx]; congr 1; omega
            clear hCS IA h300 e hlow hif hnx
            go_wp2_with (at_builtin; refine wpList_append_ints rfl (.tmp 40) (.tmp 42) rfl w.heap.size _ j (prg (dnK a size slide * slide) slide j) rfl o1 _ [S] rfl i1 (j + 1) CS rfl HC.out (by omega) hs1 ?_)
            intro v1 w1 o2 b2
            obtain ⟨q2, c2, rfl⟩ := own_form o2
            have IA2 : Aside (w1.ownsRow w.heap.size 3 1 (.slice q2 (j + 1) c2) (j + 1) (intC (prg (dnK a size slide * slide) slide (j + 1)))) := by rw [HCS.out]; exact o2
            have BW2 : Aside (Below w.heap.size w w1) := b1.trans b2
            clear o1 i1 b1 hs1 o2 b2 BW
            go_wp2
            go_roundg ((1001001 - (S + slide)).toNat)
            case measure => omega
            case rel => exact ⟨j + 1, q2, c2, S + slide, 0, rfl, rfl, by omega, by omega, by omega, by omega, HN, (show Hid _ from .inl rfl), (show Hid _ from .inr (by omega)), IA2, BW2⟩
        · have htj : t = 1 ∧ j = 0 := by
            rcases HT.out with h | h
            · exfalso
              subst h
              have e : S = (dnK a size slide + (j : Int)) * slide := by rw [HS.out]; congr 1; omega
              have := ((hlow (dnK a size slide + (j : Int))).1 (by omega)).2
              rw [← e] at this
              exact ha this
            · exact h
          obtain ⟨ht, hj0⟩ := htj
          have HN : Hid (S + slide = (dnK a size slide + (j : Int) - ((0 : Nat) : Int)) * slide) := by
            show _ = _
            rw [hnx, ht]; congr 1; omega
          have HJ : Hid (j = 0) := hj0
          clear ht hj0 hlow hif hnx
          go_wp2
          go_roundg ((1001001 - (S + slide)).toNat)
          case measure => omega
          case rel => exact ⟨j, q, c, S + slide, 0, rfl, rfl, hj, by omega, by omega, by omega, HN, (show Hid _ from .inl rfl), (show Hid _ from .inl HJ.out), IA, BW⟩
      · have ht : t = 0 := by
          rcases HT.out with h | ⟨h, h2⟩
          · exact h
          · exfalso
            subst h h2
            have e : S = (dnK a size slide - 1) * slide := by rw [HS.out]; congr 1; omega
            have hz : ¬ a < S + size := fun h => by
              by_cases hz : 0 ≤ dnK a size slide - 1
              · have := (hlow (dnK a size slide - 1)).2 ⟨hz, by rw [← e]; exact h⟩
                omega
              · have := Int.mul_le_mul_of_nonneg_right (show dnK a size slide - 1 ≤ -1 by omega) (show 0 ≤ slide by omega)
                omega
            omega
        subst ht
        have e : S = (dnK a size slide + (j : Int)) * slide := by rw [HS.out]; congr 1; omega
        have hcnt : dnN a b size slide = j := by
          refine dn_count HW.out j ?_ (by rw [← e]; omega)
          rcases HL.out with h | h
          · exact .inl h
          · right
            rw [show dnK a size slide + (j : Int) - 1 = dnK a size slide + (j : Int) + (-1) by omega, Int.add_mul _ (-1), ← e]
            omega
        have HF : Hid (dnN a b size slide ≤ 300) := by show _ ≤ _; omega
        have IA2 : Aside (IntA wr (.slice q j c) (dnP a b size slide)) := by
          rw [dnP, hcnt]
          exact ints_own (by rw [prg_len]) (by omega) IA.out
        clear IA hcnt e hlow hif hnx
        go_wp2
        go_ret2
        refine ⟨⟨.slice q j c, ?_, ?_⟩, BW.out⟩
        · rw [← HOK.out, decide_eq_true HF.out]; rfl
        · rw [← HPL.out, if_pos HF.out]; exact IA2.out
  · have HK : Hid (dnK a size slide * slide = 0 ∨ (a = size ∧ dnK a size slide = 1)) := by
      show _ ∨ _
      rw [dnK]
      split
      · left; simp
      · right
        have : a - size = 0 := by omega
        rw [this]
        exact ⟨by omega, by simp⟩
    go_enter Tryd.func12, Tryd.ntmps12
    go_wp2
    go_loopg [10, 12] 1001002 (fun gg s10 s12 wr => ∃ (j : Nat) (q : Option Addr) (c : Nat) (S : Int) (t : Nat), s10 = .slice q j c ∧ s12 = .int .i64 S ∧ j ≤ 300 ∧ (1001001 - S).toNat ≤ gg ∧ 0 ≤ S ∧ S ≤ 1002000 ∧ Hid (S = (dnK a size slide + (j : Int) - (t : Int)) * slide) ∧ Hid (t = 0 ∨ (t = 1 ∧ j = 0)) ∧ Hid (j = 0 ∨ S - slide + size ≤ b) ∧ Aside (wr.ownsRow w.heap.size 3 1 (.slice q j c) j (intC (prg (dnK a size slide * slide) slide j))) ∧ Aside (Below w.heap.size w wr))
    case atStart =>
      rcases HK.out with h | ⟨h, h2⟩
      · exact ⟨0, none, 0, 0, 0, rfl, rfl, by omega, by omega, by omega, by omega, (show Hid _ by show _ = _; rw [← h]; congr 1; omega), (show Hid _ from .inl rfl), (show Hid _ from .inl rfl), (show Aside _ from World.ownsRow_nil _ _ _ _), (show Aside _ from Below.refl _ _)⟩
      · exact ⟨0, none, 0, 0, 1, rfl, rfl, by omega, by omega, by omega, by omega, (show Hid _ by show _ = _; rw [h2]; simp), (show Hid _ from .inr ⟨rfl, rfl⟩), (show Hid _ from .inl rfl), (show Aside _ from World.ownsRow_nil _ _ _ _), (show Aside _ from Below.refl _ _)⟩
    case round =>
      obtain ⟨j, q, c, S, t, rfl, rfl, hj, hg, hS1, hS2, HS, HT, HL, IA, BW⟩ := hrel
      have hws : IntKind.i64.wrap (S + size) = S + size := by rw [IntKind.wrap_i64]; omega
      have hwt : IntKind.i64.wrap (S + slide) = S + slide := by rw [IntKind.wrap_i64]; omega
      have hlow := fun k => dn_low (a := a) HW.out k
      have hif := fun k => dn_iff (a := a) (b := b) HW.out k
      have hk0 : 0 ≤ dnK a size slide := ((hlow _).1 (Int.le_refl _)).1
      have hnx : S + slide = (dnK a size slide + (j : Int) - (t : Int) + 1) * slide := by rw [HS.out, Int.add_mul _ 1, Int.one_mul]
      by_cases hb : S + size ≤ b
      · by_cases ha : a < S + size
        · have ht : t = 0 := by
            rcases HT.out with h | ⟨h, h2⟩
            · exact h
            · exfalso
              subst h h2
              have e : S = (dnK a size slide - 1) * slide := by rw [HS.out]; congr 1; omega
              by_cases hz : 0 ≤ dnK a size slide - 1
              · have := (hlow (dnK a size slide - 1)).2 ⟨hz, by rw [← e]; exact ha⟩
                omega
              · have := Int.mul_le_mul_of_nonneg_right (show dnK a size slide - 1 ≤ -1 by omega) (show 0 ≤ slide by omega)
                omega
          subst ht
          have e : S = (dnK a size slide + (j : Int)) * slide := by rw [HS.out]; congr 1; omega
          by_cases h300 : j = 300
          · have hfull : 300 < dnN a b size slide := by
              subst h300
              have := (hif (dnK a size slide + ((300 : Nat) : Int))).2 ⟨by omega, by rw [← e]; exact ha, by rw [← e]; exact hb, by omega⟩
              omega
            have HF : Hid (¬ dnN a b size slide ≤ 300) := by show ¬ _; omega
            have h3 : ((j : Int) == 300) = true := by simp; omega
            have h3' : (j == 300) = true := by simpa using h300
            have BW1 : Aside (Below w.heap.size w wr) := BW.out
            clear hfull h300 e hlow hif hnx
            go_wp2
            go_ret2
            refine ⟨⟨.slice none 0 0, ?_, ?_⟩, BW1.out⟩
            · rw [← HOK.out, decide_eq_false HF.out]; rfl
            · rw [← HPL.out, if_neg HF.out]; exact IntA.nil _
          · have h3 : ((j : Int) == 300) = false := by simp; omega
            have h3' : (j == 300) = false := by simpa using h300
            have hj2 : j < 300 := by omega
            have o1 := IA.out.alloc (.cells #[.int .i64 S] 3)
            have i1 := ints_one wr S _ rfl
            have hsz := BW.out.size
            have b1 : Below w.heap.size w (wr.alloc (.cells #[.int .i64 S] 3)) := BW.out.alloc hsz _
            have hs1 : w.heap.size ≤ (wr.alloc (.cells #[.int .i64 S] 3)).heap.size := by simp; omega
            obtain ⟨CS, hCS⟩ : ∃ CS, intC (prg (dnK a size slide * slide) slide (j + 1)) = CS := ⟨_, rfl⟩
            have HC : Hid (intC (prg (dnK a size slide * slide) slide j ++ [S]) = CS) := by
              show _ = _
              rw [← hCS, prg_snoc, e, Int.add_mul]
            have HCS : Hid (intC (prg (dnK a size slide * slide) slide (j + 1)) = CS) := hCS
            have HN : Hid (S + slide = (dnK a size slide + ((j + 1 : Nat) : Int) - ((0 : Nat) : Int)) * slide) := by
              show _ = _
              rw [hnx]; congr 1; omega
            clear hCS IA h300 e hlow hif hnx
            go_wp2_with (at_builtin; refine wpList_append_ints rfl (.tmp 40) (.tmp 42) rfl w.heap.size _ j (prg (dnK a size slide * slide) slide j) rfl o1 _ [S] rfl i1 (j + 1) CS rfl HC.out (by omega) hs1 ?_)
            intro v1 w1 o2 b2
            obtain ⟨q2, c2, rfl⟩ := own_form o2
            have IA2 : Aside (w1.ownsRow w.heap.size 3 1 (.slice q2 (j + 1) c2) (j + 1) (intC (prg (dnK a size slide * slide) slide (j + 1)))) := by rw [HCS.out]; exact o2
            have BW2 : Aside (Below w.heap.size w w1) := b1.trans b2
            clear o1 i1 b1 hs1 o2 b2 BW
            go_wp2
            go_roundg ((1001001 - (S + slide)).toNat)
            case measure => omega
            case rel => exact ⟨j + 1, q2, c2, S + slide, 0, rfl, rfl, by omega, by omega, by omega, by omega, HN, (show Hid _ from .inl rfl), (show Hid _ from .inr (by omega)), IA2, BW2⟩
        · have htj : t = 1 ∧ j = 0 := by
            rcases HT.out with h | h
            · exfalso
              subst h
              have e : S = (dnK a size slide + (j : Int)) * slide := by rw [HS.out]; congr 1; omega
              have := ((hlow (dnK a size slide + (j : Int))).1 (by omega)).2
              rw [← e] at this
              exact ha this
            · exact h
          obtain ⟨ht, hj0⟩ := htj
          have HN : Hid (S + slide = (dnK a size slide + (j : Int) - ((0 : Nat) : Int)) * slide) := by
            show _ = _
            rw [hnx, ht]; congr 1; omega
          have HJ : Hid (j = 0) := hj0
          clear ht hj0 hlow hif hnx
          go_wp2
          go_roundg ((1001001 - (S + slide)).toNat)
          case measure => omega
          case rel => exact ⟨j, q, c, S + slide, 0, rfl, rfl, hj, by omega, by omega, by omega, HN, (show Hid _ from .inl rfl), (show Hid _ from .inl HJ.out), IA, BW⟩
      · have ht : t = 0 := by
          rcases HT.out with h | ⟨h, h2⟩
          · exact h
          · exfalso
            subst h h2
            have e : S = (dnK a size slide - 1) * slide := by rw [HS.out]; congr 1; omega
            have hz : ¬ a < S + size := fun h => by
              by_cases hz : 0 ≤ dnK a size slide - 1
              · have := (hlow (dnK a size slide - 1)).2 ⟨hz, by rw [← e]; exact h⟩
                omega
              · have := Int.mul_le_mul_of_nonneg_right (show dnK a size slide - 1 ≤ -1 by omega) (show 0 ≤ slide by omega)
                omega
            omega
        subst ht
        have e : S = (dnK a size slide + (j : Int)) * slide := by rw [HS.out]; congr 1; omega
        have hcnt : dnN a b size slide = j := by
          refine dn_count HW.out j ?_ (by rw [← e]; omega)
          rcases HL.out with h | h
          · exact .inl h
          · right
            rw [show dnK a size slide + (j : Int) - 1 = dnK a size slide + (j : Int) + (-1) by omega, Int.add_mul _ (-1), ← e]
            omega
        have HF : Hid (dnN a b size slide ≤ 300) := by show _ ≤ _; omega
        have IA2 : Aside (IntA wr (.slice q j c) (dnP a b size slide)) := by
          rw [dnP, hcnt]
          exact ints_own (by rw [prg_len]) (by omega) IA.out
        clear IA hcnt e hlow hif hnx
        go_wp2
        go_ret2
        refine ⟨⟨.slice q j c, ?_, ?_⟩, BW.out⟩
        · rw [← HOK.out, decide_eq_true HF.out]; rfl
        · rw [← HPL.out, if_pos HF.out]; exact IA2.out
end Go.Proofs.YtogndffocijinaaDoor
