/-
  WdP, Val1, WdA, WdC, WhL, in one text.
-/
import Derived.Test.YtogndffocijinaaProg
import Derived.RowKit
import Derived.WalkKit
import Derived.Below
import Derived.Lib.Strings
import Derived.OwnWalk
import Derived.Laws.AppendOwnNone
import Derived.Laws.OwnMore
import Derived.WalkSmall
import Derived.BigQuiet
import Derived.Deep.QuietTactic
import Derived.Deep.LoopGhost
import Derived.Lib.OthersKept
import Derived.Deep.DeepCutAuto
namespace Go.Proofs.Ytogndffocijinaa
open Go.RowKit
set_option linter.unusedVariables false

/-- Numbers that rise by d, from s on, n of them. -/
def prg (s d : Int) (n : Nat) : List Int := (List.range n).map fun (i : Nat) => s + (i : Int) * d
theorem prg_len (s d : Int) (n : Nat) : (prg s d n).length = n := by simp [prg]
theorem prg_at {s d : Int} {n i : Nat} (h : i < (prg s d n).length) : (prg s d n)[i] = s + (i : Int) * d := by simp [prg]
theorem prg_zero (s d : Int) : prg s d 0 = [] := rfl
theorem prg_snoc (s d : Int) (n : Nat) : prg s d (n + 1) = prg s d n ++ [s + (n : Int) * d] := by simp [prg, List.range_succ]
theorem prg_cons (s d : Int) (n : Nat) : prg s d (n + 1) = s :: prg (s + d) d n := by
  apply List.ext_getElem
  · simp [prg]
  · intro i h1 h2
    cases i with
    | zero => simp [prg]
    | succ i =>
      simp only [prg, List.getElem_map, List.getElem_range, List.getElem_cons_succ]
      have : ((i + 1 : Nat) : Int) * d = (i : Int) * d + d := by
        rw [Int.natCast_add, Int.add_mul]; simp
      rw [this]; omega
theorem prg_app (s d : Int) (n m : Nat) : prg s d n ++ prg (s + (n : Int) * d) d m = prg s d (n + m) := by
  induction m with
  | zero => simp [prg_zero]
  | succ m ih =>
    rw [prg_snoc, ← List.append_assoc, ih, ← Nat.add_assoc, prg_snoc]
    congr 2
    rw [Int.natCast_add, Int.add_mul]; omega
/-- May a size and a slide be so? -/
def wdB (size slide : Int) : Prop := 1 ≤ size ∧ size ≤ 1000 ∧ 1 ≤ slide ∧ slide ≤ size ∧ size ≤ 10 * slide
instance (size slide : Int) : Decidable (wdB size slide) := by unfold wdB; infer_instance
def wdE (size slide : Int) : Int := if wdB size slide then 0 else 1
/-- How many windows hold a time; where the first one begins. -/
def stN (at_ size slide : Int) : Nat := min (at_ / slide + 1).toNat ((size - 1 - at_ % slide) / slide + 1).toNat
def stS (at_ size slide : Int) : Int := (at_ / slide + 1 - (stN at_ size slide : Int)) * slide
def stP (at_ size slide : Int) : List Int := prg (stS at_ size slide) slide (stN at_ size slide)
/-- The error of Starts. -/
def stE (at_ size slide : Int) : Int := if wdB size slide ∧ 0 ≤ at_ ∧ at_ ≤ 1000000 then 0 else 1
/-- The number of the first window that ends above a; how many of these end at most at b. -/
def dnK (a size slide : Int) : Int := if a < size then 0 else (a - size) / slide + 1
def dnN (a b size slide : Int) : Nat := if b < size then 0 else ((b - size) / slide + 1 - dnK a size slide).toNat
def dnP (a b size slide : Int) : List Int := prg (dnK a size slide * slide) slide (dnN a b size slide)
def dnR (a b : Int) : Prop := -1 ≤ a ∧ a ≤ 1000000 ∧ a ≤ b ∧ b ≤ 1001000
instance (a b : Int) : Decidable (dnR a b) := by unfold dnR; infer_instance
/-- The error of Done. -/
def dnE (a b size slide : Int) : Int := if wdB size slide ∧ dnR a b then (if 300 < dnN a b size slide then 4 else 0) else 1
theorem div_mul_le {a d : Int} (hd : 0 < d) : a / d * d ≤ a ∧ a < a / d * d + d := by
  have h1 := Int.emod_add_mul_ediv a d
  have h2 := Int.emod_nonneg a (by omega : d ≠ 0)
  have h3 := Int.emod_lt_of_pos a hd
  rw [Int.mul_comm] at h1
  omega
/-- Which numbers of windows hold a time. -/
theorem st_iff {at_ size slide : Int} (hw : wdB size slide) (h0 : 0 ≤ at_) (k : Int) :
    (at_ / slide + 1 - (stN at_ size slide : Int) ≤ k ∧ k ≤ at_ / slide) ↔ (0 ≤ k ∧ k * slide ≤ at_ ∧ at_ < k * slide + size) := by
  obtain ⟨s1, s2, s3, s4, s5⟩ := hw
  have hd : 0 < slide := by omega
  obtain ⟨d1, d2⟩ := div_mul_le (a := at_) hd
  have q0 : 0 ≤ at_ / slide := Int.ediv_nonneg h0 (by omega)
  have hr : at_ % slide = at_ - at_ / slide * slide := by
    have := Int.emod_add_mul_ediv at_ slide
    rw [Int.mul_comm] at this
    omega
  obtain ⟨r1, r2⟩ := div_mul_le (a := size - 1 - at_ % slide) hd
  have rq : 0 ≤ (size - 1 - at_ % slide) / slide := Int.ediv_nonneg (by omega) (by omega)
  have hN : (stN at_ size slide : Int) = min (at_ / slide + 1) ((size - 1 - at_ % slide) / slide + 1) := by
    rw [stN]; omega
  generalize hQ : at_ / slide = Q at *
  generalize hV : (size - 1 - at_ % slide) / slide = V at *
  rw [hN]
  have up : k ≤ Q ↔ k * slide ≤ at_ := by
    constructor
    · intro h
      have := Int.mul_le_mul_of_nonneg_right h (by omega : 0 ≤ slide)
      omega
    · intro h
      by_cases hk : k ≤ Q
      · exact hk
      · have := Int.mul_le_mul_of_nonneg_right (show Q + 1 ≤ k by omega) (by omega : 0 ≤ slide)
        rw [Int.add_mul] at this
        omega
  have dn : Q - V ≤ k ↔ at_ < k * slide + size := by
    have key : (Q - V) * slide = Q * slide - V * slide := Int.sub_mul ..
    constructor
    · intro h
      have := Int.mul_le_mul_of_nonneg_right h (by omega : 0 ≤ slide)
      rw [key] at this
      omega
    · intro h
      by_cases hk : Q - V ≤ k
      · exact hk
      · have := Int.mul_le_mul_of_nonneg_right (show k ≤ Q - V - 1 by omega) (by omega : 0 ≤ slide)
        rw [Int.sub_mul, key] at this
        omega
  constructor
  · rintro ⟨h1, h2⟩
    exact ⟨by omega, up.1 h2, dn.1 (by omega)⟩
  · rintro ⟨h1, h2, h3⟩
    have hu := up.2 h2
    have hd' := dn.2 h3
    exact ⟨by omega, hu⟩
theorem st_pos {at_ size slide : Int} (hw : wdB size slide) (h0 : 0 ≤ at_) : 1 ≤ stN at_ size slide := by
  have hd : 0 < slide := by have := hw.2.2.1; omega
  obtain ⟨d1, d2⟩ := div_mul_le (a := at_) hd
  have q0 : 0 ≤ at_ / slide := Int.ediv_nonneg h0 (by omega)
  have := (st_iff hw h0 (at_ / slide)).2 ⟨q0, d1, by have := hw.2.2.2.1; omega⟩
  omega
/-- Numbers that rise by the slide, and are just those of the windows that hold a time. -/
theorem st_unique {at_ size slide : Int} (hw : wdB size slide) (h0 : 0 ≤ at_) {k : Int} {n : Nat} (hn : 1 ≤ n) (hl : k + (n : Int) = at_ / slide + 1) (hk : 0 ≤ k) (hin : at_ < k * slide + size) (hout : k = 0 ∨ (k - 1) * slide + size ≤ at_) : prg (k * slide) slide n = stP at_ size slide := by
  have hd : 0 < slide := by have := hw.2.2.1; omega
  obtain ⟨d1, d2⟩ := div_mul_le (a := at_) hd
  have hm : k * slide ≤ at_ := by
    have := Int.mul_le_mul_of_nonneg_right (show k ≤ at_ / slide by omega) (by omega : 0 ≤ slide)
    omega
  have h1 := (st_iff hw h0 k).2 ⟨hk, hm, hin⟩
  have h2 := st_pos hw h0
  have h3 : (stN at_ size slide : Int) ≤ (n : Int) := by
    rcases hout with h | h
    · have := (st_iff hw h0 (at_ / slide + 1 - (stN at_ size slide : Int))).1 ⟨by omega, by omega⟩
      omega
    · by_cases hc : (stN at_ size slide : Int) ≤ (n : Int)
      · exact hc
      · have := (st_iff hw h0 (k - 1)).1 ⟨by omega, by omega⟩
        omega
  have hN : stN at_ size slide = n := by omega
  rw [stP, stS, hN]
  congr 1
  congr 1
  omega
/-- Which numbers of windows end above a, and at most at b. -/
theorem dn_iff {a b size slide : Int} (hw : wdB size slide) (k : Int) : (dnK a size slide ≤ k ∧ k < dnK a size slide + (dnN a b size slide : Int)) ↔ (0 ≤ k ∧ a < k * slide + size ∧ k * slide + size ≤ b ∧ dnK a size slide ≤ k) := by
  obtain ⟨s1, s2, s3, s4, s5⟩ := hw
  have hd : 0 < slide := by omega
  have k0 : 0 ≤ dnK a size slide := by
    rw [dnK]
    split
    · omega
    · have : 0 ≤ (a - size) / slide := Int.ediv_nonneg (by omega) (by omega)
      omega
  have lo : dnK a size slide ≤ k → a < k * slide + size := fun h => by
    rw [dnK] at h
    split at h
    · have := Int.mul_le_mul_of_nonneg_right h (by omega : 0 ≤ slide)
      omega
    · obtain ⟨e1, e2⟩ := div_mul_le (a := a - size) hd
      have := Int.mul_le_mul_of_nonneg_right h (by omega : 0 ≤ slide)
      rw [Int.add_mul] at this
      omega
  constructor
  · rintro ⟨h1, h2⟩
    refine ⟨by omega, lo h1, ?_, h1⟩
    rw [dnN] at h2
    split at h2
    · omega
    · obtain ⟨e1, e2⟩ := div_mul_le (a := b - size) hd
      have := Int.mul_le_mul_of_nonneg_right (show k ≤ (b - size) / slide by omega) (by omega : 0 ≤ slide)
      omega
  · rintro ⟨h1, h2, h3, h4⟩
    refine ⟨h4, ?_⟩
    have hk0 := Int.mul_nonneg h1 (by omega : 0 ≤ slide)
    rw [dnN, if_neg (by omega)]
    obtain ⟨e1, e2⟩ := div_mul_le (a := b - size) hd
    have : k ≤ (b - size) / slide := by
      by_cases hc : k ≤ (b - size) / slide
      · exact hc
      · have := Int.mul_le_mul_of_nonneg_right (show (b - size) / slide + 1 ≤ k by omega) (by omega : 0 ≤ slide)
        rw [Int.add_mul] at this
        omega
    omega
theorem dn_low {a size slide : Int} (hw : wdB size slide) (k : Int) : dnK a size slide ≤ k ↔ (0 ≤ k ∧ a < k * slide + size) := by
  obtain ⟨s1, s2, s3, s4, s5⟩ := hw
  have hd : 0 < slide := by omega
  constructor
  · intro h
    rw [dnK] at h
    split at h
    · have := Int.mul_le_mul_of_nonneg_right h (by omega : 0 ≤ slide)
      omega
    · obtain ⟨e1, e2⟩ := div_mul_le (a := a - size) hd
      have : 0 ≤ (a - size) / slide := Int.ediv_nonneg (by omega) (by omega)
      have := Int.mul_le_mul_of_nonneg_right h (by omega : 0 ≤ slide)
      rw [Int.add_mul] at this
      omega
  · rintro ⟨h1, h2⟩
    rw [dnK]
    split
    · exact h1
    · obtain ⟨e1, e2⟩ := div_mul_le (a := a - size) hd
      by_cases hc : (a - size) / slide + 1 ≤ k
      · exact hc
      · have := Int.mul_le_mul_of_nonneg_right (show k ≤ (a - size) / slide by omega) (by omega : 0 ≤ slide)
        omega
theorem dn_count {a b size slide : Int} (hw : wdB size slide) (n : Nat) (h1 : n = 0 ∨ (dnK a size slide + (n : Int) - 1) * slide + size ≤ b) (h2 : b < (dnK a size slide + (n : Int)) * slide + size) : dnN a b size slide = n := by
  have k0 := ((dn_low hw (dnK a size slide)).1 (Int.le_refl _)).1
  have key := fun k => dn_iff (a := a) (b := b) hw k
  have hlo := fun k => dn_low (a := a) hw k
  by_cases hc : dnN a b size slide = n
  · exact hc
  · exfalso
    rcases Nat.lt_or_gt_of_ne hc with h | h
    · rcases h1 with h1 | h1
      · omega
      · have hk := (hlo (dnK a size slide + (n : Int) - 1)).1 (by omega)
        have := (key (dnK a size slide + (n : Int) - 1)).2 ⟨hk.1, hk.2, h1, by omega⟩
        omega
    · have := (key (dnK a size slide + (n : Int))).1 ⟨by omega, by omega⟩
      omega
theorem dnN_eq (a b size slide : Int) (hw : wdB size slide) : dnN a b size slide = (dnK b size slide - dnK a size slide).toNat := by
  have k0 := ((dn_low (a := a) hw (dnK a size slide)).1 (Int.le_refl _)).1
  rw [dnN]
  split
  · rename_i h
    rw [dnK.eq_def b, if_pos h]
    omega
  · rename_i h
    rw [dnK.eq_def b, if_neg h]
theorem dnK_mono {a b size slide : Int} (hw : wdB size slide) (h : a ≤ b) : dnK a size slide ≤ dnK b size slide := by
  have h1 := (dn_low (a := b) hw (dnK b size slide)).1 (Int.le_refl _)
  exact (dn_low hw _).2 ⟨h1.1, by omega⟩
/-- Each window is done at one time. -/
theorem dn_join {a m b size slide : Int} (hw : wdB size slide) (h1 : a ≤ m) (h2 : m ≤ b) : dnP a m size slide ++ dnP m b size slide = dnP a b size slide := by
  have g1 := dnK_mono hw h1
  have g2 := dnK_mono hw h2
  have e1 := dnN_eq a m size slide hw
  have e2 := dnN_eq m b size slide hw
  have e3 := dnN_eq a b size slide hw
  have hk : dnK m size slide * slide = dnK a size slide * slide + (dnN a m size slide : Int) * slide := by
    rw [← Int.add_mul]
    congr 1
    omega
  rw [dnP, dnP, dnP, hk, prg_app]
  congr 1
  omega
theorem stK_eq {at_ size slide : Int} (hw : wdB size slide) (h0 : 0 ≤ at_) : dnK at_ size slide = at_ / slide + 1 - (stN at_ size slide : Int) := by
  have hp := st_pos hw h0
  have h1 := (st_iff hw h0 (at_ / slide + 1 - (stN at_ size slide : Int))).1 ⟨by omega, by omega⟩
  have h2 := (dn_low (a := at_) hw _).2 ⟨h1.1, h1.2.2⟩
  have h3 := (dn_low (a := at_) hw _).1 (Int.le_refl _)
  have hm : dnK at_ size slide * slide ≤ at_ := by
    have := Int.mul_le_mul_of_nonneg_right h2 (show 0 ≤ slide by have := hw.2.2.1; omega)
    omega
  have h4 := (st_iff hw h0 _).2 ⟨h3.1, hm, h3.2⟩
  omega
theorem stN_le {at_ size slide : Int} (hw : wdB size slide) (h0 : 0 ≤ at_) : stN at_ size slide ≤ 10 := by
  obtain ⟨s1, s2, s3, s4, s5⟩ := hw
  have hd : 0 < slide := by omega
  have hr := Int.emod_nonneg at_ (by omega : slide ≠ 0)
  have hq : (size - 1 - at_ % slide) / slide < 10 := Int.ediv_lt_of_lt_mul hd (by omega)
  rw [stN]
  omega
/-- What is done from a time on, and in a size more, is what holds it. -/
theorem dn_st {at_ size slide : Int} (hw : wdB size slide) (h0 : 0 ≤ at_) : dnP at_ (at_ + size) size slide = stP at_ size slide := by
  have hk := stK_eq hw h0
  have hn : dnN at_ (at_ + size) size slide = stN at_ size slide := by
    rw [dnN, if_neg (by omega), hk, show at_ + size - size = at_ by omega]
    omega
  rw [dnP, stP, stS, hn, hk]
/-- What holds a time: of each, and of the ends. -/
theorem st_each {at_ size slide : Int} (hw : wdB size slide) (h0 : 0 ≤ at_) {i : Nat} (h : i < stN at_ size slide) : 0 ≤ stS at_ size slide + (i : Int) * slide ∧ stS at_ size slide + (i : Int) * slide ≤ at_ ∧ at_ < stS at_ size slide + (i : Int) * slide + size := by
  have := (st_iff hw h0 (at_ / slide + 1 - (stN at_ size slide : Int) + (i : Int))).1 ⟨by omega, by omega⟩
  rw [Int.add_mul] at this
  have hnn := Int.mul_nonneg this.1 (show 0 ≤ slide by have := hw.2.2.1; omega)
  rw [Int.add_mul] at hnn
  rw [stS]
  exact ⟨hnn, this.2.1, this.2.2⟩
theorem st_first {at_ size slide : Int} (hw : wdB size slide) (h0 : 0 ≤ at_) (h : slide ≤ stS at_ size slide) : stS at_ size slide - slide + size ≤ at_ := by
  have hd : 0 < slide := by have := hw.2.2.1; omega
  have hp := st_pos hw h0
  have hk : 1 ≤ at_ / slide + 1 - (stN at_ size slide : Int) := by
    rw [stS] at h
    by_cases hc : 1 ≤ at_ / slide + 1 - (stN at_ size slide : Int)
    · exact hc
    · have := Int.mul_le_mul_of_nonneg_right (show at_ / slide + 1 - (stN at_ size slide : Int) ≤ 0 by omega) (by omega : 0 ≤ slide)
      omega
  by_cases hc : stS at_ size slide - slide + size ≤ at_
  · exact hc
  · exfalso
    have h1 := (st_iff hw h0 (at_ / slide + 1 - (stN at_ size slide : Int))).1 ⟨by omega, by omega⟩
    have e : (at_ / slide + 1 - (stN at_ size slide : Int) - 1) * slide = stS at_ size slide - slide := by rw [Int.sub_mul, stS]; omega
    have := (st_iff hw h0 (at_ / slide + 1 - (stN at_ size slide : Int) - 1)).2 ⟨by omega, by rw [e]; rw [stS]; omega, by rw [e]; omega⟩
    omega
theorem st_last {at_ size slide : Int} (hw : wdB size slide) : at_ < stS at_ size slide + ((stN at_ size slide : Int) - 1) * slide + slide := by
  have hd : 0 < slide := by have := hw.2.2.1; omega
  obtain ⟨d1, d2⟩ := div_mul_le (a := at_) hd
  have e : stS at_ size slide + ((stN at_ size slide : Int) - 1) * slide = at_ / slide * slide := by
    rw [stS, ← Int.add_mul]
    congr 1
    omega
  rw [e]
  exact d2
/-- What is done ends at most at the time. -/
theorem dn_each {a b size slide : Int} (hw : wdB size slide) {i : Nat} (h : i < dnN a b size slide) : dnK a size slide * slide + (i : Int) * slide + size ≤ b := by
  have := ((dn_iff (a := a) (b := b) hw (dnK a size slide + (i : Int))).1 ⟨by omega, by omega⟩).2.2.1
  rw [Int.add_mul] at this
  exact this
/-- Of a size that is so many slides. -/
theorem st_many {at_ slide many : Int} (hs : 1 ≤ slide) (h0 : 0 ≤ at_) (hm : 1 ≤ many) : (stN at_ (slide * many) slide : Int) = min (at_ / slide + 1) many := by
  have hd : 0 < slide := by omega
  have hr0 := Int.emod_nonneg at_ (by omega : slide ≠ 0)
  have hr1 := Int.emod_lt_of_pos at_ hd
  have q0 : 0 ≤ at_ / slide := Int.ediv_nonneg h0 (by omega)
  have e : (slide * many - 1 - at_ % slide) / slide = many - 1 := by
    obtain ⟨e1, e2⟩ := div_mul_le (a := slide * many - 1 - at_ % slide) hd
    generalize (slide * many - 1 - at_ % slide) / slide = V at *
    have hc : slide * many = many * slide := Int.mul_comm ..
    rw [hc] at e1 e2
    have u1 : V < many := by
      by_cases hh : V < many
      · exact hh
      · have := Int.mul_le_mul_of_nonneg_right (show many ≤ V by omega) (by omega : 0 ≤ slide)
        omega
    have u2 : many - 2 < V := by
      by_cases hh : many - 2 < V
      · exact hh
      · have := Int.mul_le_mul_of_nonneg_right (show V ≤ many - 2 by omega) (by omega : 0 ≤ slide)
        rw [Int.sub_mul] at this
        omega
    omega
  rw [stN, e]
  omega
end Go.Proofs.Ytogndffocijinaa
namespace Go.Proofs.Ytogndffocijinaa
open Go.RowKit

theorem ret_int {k : IntKind} {a b : Int} (h : a = b) : Ending.returned (.int k a) = .returned (.int k b) := by rw [h]
theorem ret_bool {a b : Bool} (h : a = b) : Ending.returned (.bool a) = .returned (.bool b) := by rw [h]

/-- Has a text just the bytes that it may? -/
def plainB (l : List UInt8) : Bool := l.all fun c => decide (32 ≤ (c.toNat : Int)) && decide ((c.toNat : Int) ≤ 126)
theorem plain_take (s : ByteArray) (k : Nat) (h : k < s.size) : plainB (s.data.toList.take (k + 1)) = (plainB (s.data.toList.take k) && (decide (32 ≤ (s[k].toNat : Int)) && decide ((s[k].toNat : Int) ≤ 126))) := by
  rw [List.take_succ_eq_append_getElem (by simpa using h)]
  simp only [plainB, List.all_append, List.all_cons, List.all_nil, Bool.and_true]
  rfl
theorem plain_not (s : ByteArray) (k : Nat) (h : k < s.size) (hc : (s[k].toNat : Int) < 32 ∨ 126 < (s[k].toNat : Int)) : plainB s.data.toList = false := by
  have h2 : plainB (s.data.toList.take (k + 1)) = false := by
    rw [plain_take s k h]
    have : (decide (32 ≤ (s[k].toNat : Int)) && decide ((s[k].toNat : Int) ≤ 126)) = false := by
      rw [Bool.and_eq_false_iff, decide_eq_false_iff_not, decide_eq_false_iff_not]; omega
    rw [this, Bool.and_false]
  cases hp : plainB s.data.toList with
  | false => rfl
  | true =>
    exfalso
    have h3 : plainB (s.data.toList.take (k + 1)) = true := by
      simp only [plainB, List.all_eq_true] at hp ⊢
      exact fun x hx => hp x (List.mem_of_mem_take hx)
    rw [h2] at h3; exact Bool.noConfusion h3
theorem plain_of (s : ByteArray) (k : Nat) (h : s.size ≤ k) (hp : plainB (s.data.toList.take k) = true) : plainB s.data.toList = true := by
  rwa [List.take_of_length_le (by simpa using h)] at hp

/-- The fault of a value. -/
def chk (t n : Int) (l : List UInt8) : Int :=
  if ¬ (t = 1 ∨ t = 2 ∨ t = 3) ∨ (t = 2 ∧ n ≠ 0 ∧ n ≠ 1) then 1
  else if t = 3 ∧ 40 < l.length then 4
  else if t = 3 ∧ plainB l = false then 2
  else if (t ≠ 3 ∧ l ≠ []) ∨ (t = 3 ∧ n ≠ 0) then 3 else 0
/-- An error by its number. -/
def errV (k : Int) : Value := if k = 0 then .nilIface else .iface 32 (.int .i64 k)

theorem errV_eq {k j : Int} (h : k = j) (hj : j ≠ 0) : Ending.returned (.iface 32 (.int .i64 j)) = .returned (errV k) := by
  rw [errV, if_neg (by omega), h]
theorem errV_nil {k : Int} (h : k = 0) : Ending.returned .nilIface = .returned (errV k) := by
  rw [errV, if_pos h]

def chkT (n : Int) (l : List UInt8) : Int := if 40 < l.length then 4 else if plainB l = false then 2 else if n ≠ 0 then 3 else 0
theorem chk_text (n : Int) (l : List UInt8) : chk 3 n l = chkT n l := by
  rw [chk, chkT, if_neg (by simp)]
  simp
end Go.Proofs.Ytogndffocijinaa
namespace Go.Proofs.Ytogndffocijinaa
open Go.RowKit
set_option linter.unusedVariables false

theorem info_intA : (Try.prog.info? 3).map (fun i => (i.zero, i.size, i.bytes)) = some (some (.int .i64 0), 1, 8) := by kernel_rfl
def intC (ts : List Int) : List Value := ts.map fun t => .int .i64 t
/-- Numbers one behind the other; none of them, and they may lie nowhere. -/
def IntA (w : World) (v : Value) (ts : List Int) : Prop := ∃ p c, v = .slice p ts.length c ∧ (ts.length ≤ c ∧ ts.length ≤ 1048576) ∧ (p = none → c = 0) ∧ ∀ a, p = some a → ∃ g off, a = ⟨g, off, none⟩ ∧ g < w.heap.size ∧ ∀ j (h : j < ts.length), w.cell? ⟨g, off + j, none⟩ = some (.int .i64 ts[j])
theorem IntA.on {w w' : World} {v : Value} {ts : List Int} (h : IntA w v ts) (hb : Below w.heap.size w w') : IntA w' v ts := by
  obtain ⟨p, c, e, h1, h2, h3⟩ := h
  refine ⟨p, c, e, h1, h2, fun a ha => ?_⟩
  obtain ⟨g, off, e2, h5, h6⟩ := h3 a ha
  exact ⟨g, off, e2, by have := hb.size; omega, fun j hj => by rw [hb.cell (p := ⟨g, off + j, none⟩) h5]; exact h6 j hj⟩
theorem IntA.nil (w : World) : IntA w (.slice none 0 0) [] := ⟨none, 0, rfl, ⟨Nat.le_refl _, Nat.zero_le _⟩, fun _ => rfl, fun a h => nomatch h⟩
theorem ints_own {w : World} {B : Nat} {v : Value} {n : Nat} {ts : List Int} (hn : ts.length = n) (hl : n ≤ 1048576) (h : w.ownsRow B 3 1 v n (intC ts)) : IntA w v ts := by
  subst hn
  rcases id h.2 with ⟨rfl, e⟩ | ⟨g, cap, cur, rfl, hb, hg, hm, hx, hs, ht⟩
  · exact ⟨none, 0, by rw [e], ⟨by omega, by omega⟩, fun _ => rfl, fun a ha => nomatch ha⟩
  · refine ⟨some ⟨g, 0, none⟩, cap, rfl, ⟨by omega, hl⟩, (fun hp => nomatch hp), fun a ha => ?_⟩
    injection ha with ha
    subst ha
    refine ⟨g, 0, rfl, (Array.getElem?_eq_some_iff.1 hg).1, fun j hj => ?_⟩
    have := h.cells (g := g) rfl j (.int .i64 ts[j]) (by rw [intC, List.getElem?_map, List.getElem?_eq_getElem hj]; rfl)
    rw [Go.WideShapes.add_plain] at this
    exact this
theorem ints_some {w : World} {q : Option Addr} {n c m : Nat} {bs : List Int} (h : IntA w (.slice q n c) bs) (hm : m < bs.length) : ∃ g off, q = some ⟨g, off, none⟩ ∧ g < w.heap.size ∧ ∀ j (h : j < bs.length), w.cell? ⟨g, off + j, none⟩ = some (.int .i64 bs[j]) := by
  obtain ⟨p', c', e, ⟨h1, h64⟩, h2, h3⟩ := h
  injection e with e1 e2 e3
  subst e1 e3
  cases q with
  | none => have := h2 rfl; omega
  | some a =>
    obtain ⟨g, off, rfl, h5, h6⟩ := h3 a rfl
    exact ⟨g, off, rfl, h5, h6⟩
theorem ints_slice_l {w : World} {p : Option Addr} {n c l : Nat} {ts : List Int} (h : IntA w (.slice p n c) ts) (hn : ts.length = n) (hl : l ≤ n) : ∃ p1 c1, (∀ W, Sem.run Try.prog (Instr.slice 22 (.slice p n c) (some (.int .i64 (l : Int))) none none) W = .ok (.slice p1 (n - l) c1) W) ∧ IntA w (.slice p1 (n - l) c1) (ts.drop l) := by
  subst hn
  obtain ⟨p', c', e, ⟨h1, h64⟩, h2, h3⟩ := h
  injection e with e1 e2 e3
  subst e1 e3
  have hr : ∀ W, Sem.run Try.prog (Instr.slice 22 (.slice p ts.length c) (some (.int .i64 (l : Int))) none none) W = .ok (sliced p l ts.length c 1) W := fun W => by
    have g0 : (0 : Int) ≤ (l : Int) := by omega
    have g1 : (l : Int) ≤ (ts.length : Int) := by omega
    have g2 : Sem.run Try.prog (Go.sizeOf (Try.prog.elem 22)) W = .ok 1 W := by kernel_rfl
    rw [run_slice_l W 22 p ts.length c (by kernel_rfl) .i64 l g0 g1, g2]
    rfl
  by_cases hcl : c = l
  · refine ⟨p, c - l, fun W => by rw [hr W, sliced, if_pos hcl], p, c - l, by rw [List.length_drop], ⟨by rw [List.length_drop]; omega, by rw [List.length_drop]; omega⟩, fun hp => by have := h2 hp; omega, fun a ha => ?_⟩
    obtain ⟨g, off, e2, h5, h6⟩ := h3 a ha
    exact ⟨g, off, e2, h5, fun j hj => absurd hj (by rw [List.length_drop]; omega)⟩
  · cases p with
    | none => exact absurd (h2 rfl) (by omega)
    | some a =>
      obtain ⟨g, off, rfl, h5, h6⟩ := h3 a rfl
      refine ⟨some ⟨g, off + l * 1, none⟩, c - l, fun W => by rw [hr W, sliced, if_neg hcl, Option.map_some, Go.WideShapes.add_plain], some ⟨g, off + l * 1, none⟩, c - l, by rw [List.length_drop], ⟨by rw [List.length_drop]; omega, by rw [List.length_drop]; omega⟩, (fun hp => nomatch hp), fun a ha => ?_⟩
      injection ha with ha
      subst ha
      refine ⟨g, off + l * 1, rfl, h5, fun j hj => ?_⟩
      rw [List.length_drop] at hj
      have := h6 (l + j) (by omega)
      rw [List.getElem_drop, show off + l * 1 + j = off + (l + j) by omega]
      exact this
theorem ints_slice_h {w : World} {p : Option Addr} {n c l : Nat} {ts : List Int} (h : IntA w (.slice p n c) ts) (hn : ts.length = n) (hl : l ≤ n) : ∃ p1 c1, (∀ W, Sem.run Try.prog (Instr.slice 22 (.slice p n c) none (some (.int .i64 (l : Int))) none) W = .ok (.slice p1 l c1) W) ∧ IntA w (.slice p1 l c1) (ts.take l) := by
  subst hn
  obtain ⟨p', c', e, ⟨h1, h64⟩, h2, h3⟩ := h
  injection e with e1 e2 e3
  subst e1 e3
  have hr : ∀ W, Sem.run Try.prog (Instr.slice 22 (.slice p ts.length c) none (some (.int .i64 (l : Int))) none) W = .ok (sliced p 0 l c 1) W := fun W => by
    have g0 : (0 : Int) ≤ (l : Int) := by omega
    have g1 : (l : Int) ≤ (c : Int) := by omega
    have g2 : Sem.run Try.prog (Go.sizeOf (Try.prog.elem 22)) W = .ok 1 W := by kernel_rfl
    rw [run_slice_h W 22 p ts.length c (by kernel_rfl) .i64 l g0 g1, g2]
    rfl
  have hlen : (ts.take l).length = l := by rw [List.length_take]; omega
  refine ⟨p, c, fun W => ?_, p, c, by rw [hlen], ⟨by omega, by omega⟩, h2, fun a ha => ?_⟩
  · rw [hr W, sliced]
    cases p with
    | none => simp
    | some a =>
      obtain ⟨g, off, rfl, -⟩ := h3 a rfl
      simp [Addr.add]
  · obtain ⟨g, off, e2, h5, h6⟩ := h3 a ha
    refine ⟨g, off, e2, h5, fun j hj => ?_⟩
    rw [List.getElem_take]
    exact h6 j (by omega)
/-- append of a list of numbers, which may lie nowhere, to one's own. -/
theorem wpList_append_ints {w : World} {ops : Array Oper} {rest : List Oper} {o : Oper} {a : Act} {Q : Exit → Act → World → Prop} (hgd : o.guard = none) (s x : Operand)
    (ho : o.op = .call { callee := .builtin .append, args := #[s, x], argTypes := #[22, 22] })
    (base : Nat) (v : Value) (n : Nat) (xs : List Int) (hs : a.eval s = v) (hown : w.ownsRow base 3 1 v n (intC xs))
    (u : Value) (ts : List Int) (hx : a.eval x = u) (hst : IntA w u ts) (n' : Nat) (cs' : List Value) (hn' : n + ts.length = n') (hcs : intC (xs ++ ts) = cs') (hsm : n' ≤ 1048576) (hbase : base ≤ w.heap.size)
    (h : ∀ v' w', w'.ownsRow base 3 1 v' n' cs' → Below base w w' → wpList Try.prog ops Q rest (a.put o.dst v') w') : wpList Try.prog ops Q (o :: rest) a w := by
  subst hn' hcs
  obtain ⟨i0, hi, hz0, hz1, hzz⟩ := info_parts info_intA
  obtain ⟨p, c, rfl, h1, h2, h3⟩ := hst
  cases p with
  | none =>
    have hc := h2 rfl
    subst hc
    have hl : ts.length = 0 := by omega
    have : ts = [] := List.length_eq_zero_iff.1 hl
    subst this
    refine wpList_append_own_none hgd s x 22 ho base 3 i0 1 Try.underlying22 hi v n (intC xs) hs hown hx (h v w ?_ (Below.refl _ _))
    simpa using hown
  | some ad =>
    obtain ⟨g, off, rfl, h5, h6⟩ := h3 ad rfl
    refine wpList_append_own w hgd s x 22 ho base 3 i0 (.int .i64 0) 1 8 Try.underlying22 hi hz0 hz1 hzz rfl (by decide) v n (intC xs) hs hown ⟨g, off, none⟩ ts.length c (intC ts) hx (by simp [intC]) (fun j y hy => ?_) (fun y hy => ?_) (by unfold maxLen; omega) (by omega) hbase (fun v' w' o1 o2 _ => ?_)
    · rw [intC, List.getElem?_map] at hy
      obtain ⟨t, ht, rfl⟩ := Option.map_eq_some_iff.1 hy
      obtain ⟨hj, rfl⟩ := List.getElem?_eq_some_iff.1 ht
      rw [Go.WideShapes.add_plain]
      exact h6 j hj
    · rw [intC, List.mem_map] at hy
      obtain ⟨t, _, rfl⟩ := hy
      rfl
    · refine h v' w' ?_ ((Below.refl _ w).grown o2 hbase (fun j hj => (hown.lt j hj).1))
      rw [intC, List.map_append]; exact o1
theorem ints_one (w : World) (s : Int) (g : Nat) (hg : g = w.heap.size) : IntA (w.alloc (.cells #[.int .i64 s] 3)) (.slice (some ⟨g, 0, none⟩) 1 1) [s] := by
  subst hg
  refine ⟨_, 1, rfl, ⟨Nat.le_refl _, by simp⟩, (fun hp => nomatch hp), fun a ha => ?_⟩
  injection ha with ha
  subst ha
  refine ⟨w.heap.size, 0, rfl, by simp, fun j hj => ?_⟩
  obtain rfl : j = 0 := by simp at hj; omega
  rw [World.cell?_alloc_at _ _ _ _ rfl]; rfl
theorem ints_form {w : World} {v : Value} {ts : List Int} (h : IntA w v ts) : ∃ q c, v = .slice q ts.length c := by
  obtain ⟨p, c, e, -⟩ := h
  exact ⟨p, c, e⟩
theorem own_form {w : World} {B : Nat} {e : TypeId} {size n : Nat} {v : Value} {xs : List Value} (h : w.ownsRow B e size v n xs) : ∃ q c, v = .slice q n c := by
  rcases h.2 with ⟨rfl, rfl⟩ | ⟨g, cap, cur, rfl, _⟩
  · exact ⟨_, _, rfl⟩
  · exact ⟨_, _, rfl⟩
set_option maxHeartbeats 2000000 in
theorem ints_eq (u v : Value) (bs : List Int) (w : World) (hu : IntA w u bs) (hv : IntA w v bs) :
    Calls Try.prog 6 #[u, v] w fun e w' => e = .returned (.bool true) ∧ Below w.heap.size w w' := by
  obtain ⟨p, c, rfl⟩ := ints_form hu
  obtain ⟨q, d, rfl⟩ := ints_form hv
  obtain ⟨N, hN⟩ : ∃ N, bs.length = N := ⟨_, rfl⟩
  have HN : Hid (bs.length = N) := hN
  simp only [hN] at hu hv ⊢
  have HU : Aside (IntA w (.slice p N c) bs) := hu
  have HV : Aside (IntA w (.slice q N d) bs) := hv
  have hN2 : N ≤ 1048576 := by
    obtain ⟨p', c', e, ⟨_, h⟩, _⟩ := hu
    omega
  have hNz : (N : Int) ≤ 1048576 := by omega
  have qn : ((N : Int) != (N : Int)) = false := by simp
  clear hu hv hN
  go_enter Try.func6, Try.ntmps6
  go_wp2
  go_loopg [5] N (fun gg s5 wr => ∃ kk : Nat, kk ≤ N ∧ N - kk ≤ gg ∧ s5 = .int .i64 kk ∧ Aside (Below w.heap.size w wr))
  case atStart => exact ⟨0, Nat.zero_le _, by omega, rfl, (show Aside _ from Below.refl _ _)⟩
  case round =>
    obtain ⟨kk, hkk, hg, rfl, BW⟩ := hrel
    by_cases hlt : kk < N
    · have hltz : (kk : Int) < (N : Int) := by omega
      have h0z : (0 : Int) ≤ (kk : Int) := by omega
      have hk2 : kk < bs.length := by rw [HN.out]; exact hlt
      obtain ⟨b1, o1, rfl, l1, h1⟩ := ints_some HU.out hk2
      obtain ⟨b2, o2, rfl, l2, h2⟩ := ints_some HV.out hk2
      have e1 : wr.cell? ⟨b1, o1 + kk, none⟩ = some (.int .i64 bs[kk]) := by rw [BW.out.cell (p := ⟨b1, _, none⟩) l1]; exact h1 kk hk2
      have e2 : wr.cell? ⟨b2, o2 + kk, none⟩ = some (.int .i64 bs[kk]) := by rw [BW.out.cell (p := ⟨b2, _, none⟩) l2]; exact h2 kk hk2
      clear h1 h2
      generalize bs[kk] = S at e1 e2
      have qs : (S != S) = false := by simp
      go_wp2
      go_quiet (fail)
      go_wp2
      go_roundg (N - (kk + 1))
      case measure => omega
      case rel => exact ⟨kk + 1, by omega, by omega, by go_num, (show Aside _ from below_drewN BW.out _)⟩
    · have hltz : ¬ (kk : Int) < (N : Int) := by omega
      go_wp2
      go_ret
      exact ⟨rfl, BW.out⟩
end Go.Proofs.Ytogndffocijinaa
namespace Go.Proofs.Ytogndffocijinaa
open Go.RowKit
set_option linter.unusedVariables false

/-- A machine's number. -/
def inM (x : Int) : Prop := -9223372036854775808 ≤ x ∧ x ≤ 9223372036854775807
def ChkC : Prop := ∀ (size slide : Int) (w : World), inM size → inM slide → Calls Try.prog 7 #[.int .i64 size, .int .i64 slide] w fun e w' => e = .returned (errV (wdE size slide)) ∧ Below w.heap.size w w'
def StC : Prop := ∀ (at_ size slide : Int) (w : World), inM at_ → inM size → inM slide → Calls Try.prog 4 #[.int .i64 at_, .int .i64 size, .int .i64 slide] w fun e w' => (∃ u, e = .returned (.tuple #[u, errV (stE at_ size slide)]) ∧ IntA w' u (if stE at_ size slide = 0 then stP at_ size slide else [])) ∧ Below w.heap.size w w'
def DnC : Prop := ∀ (a b size slide : Int) (w : World), inM a → inM b → inM size → inM slide → Calls Try.prog 5 #[.int .i64 a, .int .i64 b, .int .i64 size, .int .i64 slide] w fun e w' => (∃ u, e = .returned (.tuple #[u, errV (dnE a b size slide)]) ∧ IntA w' u (if dnE a b size slide = 0 then dnP a b size slide else [])) ∧ Below w.heap.size w w'
theorem one_ne : ¬ (1 : Int) = 0 := by decide
theorem four_ne : ¬ (4 : Int) = 0 := by decide
theorem wd_zero {size slide : Int} (h : wdB size slide) : wdE size slide = 0 := by rw [wdE, if_pos h]
theorem wd_one {size slide : Int} (h : ¬ wdB size slide) : wdE size slide = 1 := by rw [wdE, if_neg h]
theorem st_zero {at_ size slide : Int} (h : wdB size slide) (h2 : 0 ≤ at_ ∧ at_ ≤ 1000000) : stE at_ size slide = 0 := by rw [stE, if_pos ⟨h, h2⟩]
theorem st_one {at_ size slide : Int} (h : ¬ (wdB size slide ∧ 0 ≤ at_ ∧ at_ ≤ 1000000)) : stE at_ size slide = 1 := by rw [stE, if_neg h]
theorem dn_zero {a b size slide : Int} (h : wdB size slide) (h2 : dnR a b) (h3 : dnN a b size slide ≤ 300) : dnE a b size slide = 0 := by rw [dnE, if_pos ⟨h, h2⟩, if_neg (by omega)]
theorem dn_four {a b size slide : Int} (h : wdB size slide) (h2 : dnR a b) (h3 : ¬ dnN a b size slide ≤ 300) : dnE a b size slide = 4 := by rw [dnE, if_pos ⟨h, h2⟩, if_pos (by omega)]
theorem dn_one {a b size slide : Int} (h : ¬ (wdB size slide ∧ dnR a b)) : dnE a b size slide = 1 := by rw [dnE, if_neg h]
end Go.Proofs.Ytogndffocijinaa
namespace Go.Proofs.Ytogndffocijinaa
open Go.RowKit
set_option linter.unusedVariables false

theorem fact_holds : (if stE 7 4 2 = 0 then stP 7 4 2 else []) = [4, 6] := by decide +kernel
theorem fact_holdsE : errV (stE 7 4 2) = .nilIface := by rw [show stE 7 4 2 = 0 by decide +kernel]; rfl
theorem st_mult (at_ size slide : Int) (i : Nat) : (stS at_ size slide + (i : Int) * slide).tmod slide = 0 := by
  rw [stS, ← Int.add_mul]
  exact Int.mul_tmod_left ..
set_option maxHeartbeats 8000000 in
set_option maxRecDepth 20000 in
theorem wh_no (hS : StC) (hD : DnC) (at_ size slide tz : Int) (w : World) (m1 : inM at_) (m2 : inM size) (m3 : inM slide) (m4 : inM tz) (hno : ¬ (wdB size slide ∧ 0 ≤ at_ ∧ at_ ≤ 1000000)) :
    Calls Try.prog 3 #[.int .i64 at_, .int .i64 size, .int .i64 slide, .int .i64 tz] w fun e w' => e = .returned (.bool true) ∧ Below w.heap.size w w' := by
  have c0 := hS 7 4 2 w (by unfold inM; omega) (by unfold inM; omega) (by unfold inM; omega)
  rw [fact_holds, fact_holdsE] at c0
  go_enter Try.func3, Try.ntmps3
  go_wp2_with fail
  refine c0.mono ?_
  rintro e w1 ⟨⟨u1, rfl, i1⟩, b1⟩
  obtain ⟨q1, k1, rfl⟩ := ints_form i1
  obtain ⟨g1, o1, rfl, l1, h1⟩ := ints_some i1 (show 0 < ([4, 6] : List Int).length by decide)
  have f0 : w1.cell? ⟨g1, o1, none⟩ = some (.int .i64 4) := h1 0 (by decide)
  have f1 : w1.cell? ⟨g1, o1 + 1, none⟩ = some (.int .i64 6) := h1 1 (by decide)
  rw [show ([4, 6] : List Int).length = 2 from rfl]
  clear c0 i1 h1
  have c1 := hS at_ size slide w1 m1 m2 m3
  rw [st_one hno, if_neg one_ne, show errV 1 = .iface 32 (.int .i64 1) from rfl] at c1
  go_wp2_with fail
  refine c1.mono ?_
  rintro e w2 ⟨⟨u2, rfl, i2⟩, b2⟩
  have B2 : Aside (Below w.heap.size w w2) := b1.trans (b2.mono b1.size)
  clear c1 b2 b1 i2
  go_wp2
  go_ret
  exact ⟨rfl, B2.out⟩
set_option maxHeartbeats 8000000 in
set_option maxRecDepth 20000 in
theorem wh_ok (hS : StC) (hD : DnC) (at_ size slide tz : Int) (w : World) (m1 : inM at_) (m2 : inM size) (m3 : inM slide) (m4 : inM tz) (hw : wdB size slide) (h0 : 0 ≤ at_) (h1t : at_ ≤ 1000000) :
    Calls Try.prog 3 #[.int .i64 at_, .int .i64 size, .int .i64 slide, .int .i64 tz] w fun e w' => e = .returned (.bool true) ∧ Below w.heap.size w w' := by
  have c0 := hS 7 4 2 w (by unfold inM; omega) (by unfold inM; omega) (by unfold inM; omega)
  rw [fact_holds, fact_holdsE] at c0
  go_enter Try.func3, Try.ntmps3
  go_wp2_with fail
  refine c0.mono ?_
  rintro e w1 ⟨⟨u1, rfl, i1⟩, b1⟩
  obtain ⟨q1, k1, rfl⟩ := ints_form i1
  obtain ⟨g1, o1, rfl, l1, h1⟩ := ints_some i1 (show 0 < ([4, 6] : List Int).length by decide)
  have f0 : w1.cell? ⟨g1, o1, none⟩ = some (.int .i64 4) := h1 0 (by decide)
  have f1 : w1.cell? ⟨g1, o1 + 1, none⟩ = some (.int .i64 6) := h1 1 (by decide)
  rw [show ([4, 6] : List Int).length = 2 from rfl]
  clear c0 i1 h1
  have c1 := hS at_ size slide w1 m1 m2 m3
  rw [st_zero hw ⟨h0, h1t⟩, if_pos rfl, show errV 0 = .nilIface from rfl] at c1
  have HW : Hid (wdB size slide) := hw
  obtain ⟨s1, s2, s3, s4, s5'⟩ := hw
  have hsl : ¬ slide = 0 := by omega
  obtain ⟨N, hN⟩ : ∃ N, stN at_ size slide = N := ⟨_, rfl⟩
  have HN : Hid (stN at_ size slide = N) := hN
  have hN1 : 1 ≤ N := by rw [← hN]; exact st_pos HW.out h0
  have hN10 : N ≤ 10 := by rw [← hN]; exact stN_le HW.out h0
  have HLE : Hid ((stP at_ size slide).length = N) := by show _ = _; rw [stP, prg_len, hN]
  clear hN
  go_wp2_with fail
  refine c1.mono ?_
  rintro e w2 ⟨⟨u2, rfl, i2⟩, b2⟩
  obtain ⟨q2, k2, rfl⟩ := ints_form i2
  obtain ⟨gl, ol, rfl, ll, hl⟩ := ints_some i2 (show 0 < (stP at_ size slide).length by rw [HLE.out]; omega)
  rw [HLE.out]
  have HL : Aside (∀ W, Below w2.heap.size w2 W → ∀ j : Nat, j < N → W.cell? ⟨gl, ol + j, none⟩ = some (.int .i64 (stS at_ size slide + (j : Int) * slide))) := fun W hb j hj => by
    rw [hb.cell (p := ⟨gl, ol + j, none⟩) ll, hl j (by rw [HLE.out]; exact hj)]
    congr 2
    exact prg_at _
  have HE : Aside (∀ j : Nat, j < N → 0 ≤ stS at_ size slide + (j : Int) * slide ∧ stS at_ size slide + (j : Int) * slide ≤ at_ ∧ at_ < stS at_ size slide + (j : Int) * slide + size) := fun j hj => st_each HW.out h0 (by rw [HN.out]; exact hj)
  have B2 : Aside (Below w.heap.size w w2) := b1.trans (b2.mono b1.size)
  have IL : Aside (IntA w2 (.slice (some ⟨gl, ol, none⟩) N k2) (stP at_ size slide)) := by rw [← HLE.out]; exact i2
  have hNz1 : (1 : Int) ≤ (N : Int) := by omega
  have hNz10 : (N : Int) ≤ 10 := by omega
  have llz := ll
  clear c1 b2 b1 i2 hl f0 f1 l1
  go_wp2
  go_loopg [13] N (fun gg s13 wr => ∃ kk : Nat, s13 = .int .i64 kk ∧ kk ≤ N ∧ N - kk ≤ gg ∧ Aside (Below w2.heap.size w2 wr))
  case atStart => exact ⟨0, rfl, Nat.zero_le _, by omega, (show Aside _ from Below.refl _ _)⟩
  case round =>
    obtain ⟨kk, rfl, hkk, hg, BW⟩ := hrel
    have hglr : gl < wr.heap.size := by have := BW.out.size; omega
    by_cases hlt : kk < N
    · have hltz : (kk : Int) < (N : Int) := by omega
      have h0z : (0 : Int) ≤ (kk : Int) := by omega
      have ex := HL.out wr BW.out kk hlt
      obtain ⟨x1, x2, x3⟩ := HE.out kk hlt
      have xm := st_mult at_ size slide kk
      obtain ⟨X, hX⟩ : ∃ X, stS at_ size slide + (kk : Int) * slide = X := ⟨_, rfl⟩
      have HX : Hid (stS at_ size slide + (kk : Int) * slide = X) := hX
      rw [hX] at ex x1 x2 x3 xm
      have g1' : decide (X < 0) = false := decide_eq_false (by omega)
      have g2' : decide (at_ < X) = false := decide_eq_false (by omega)
      have g3' : decide (X + size ≤ at_) = false := decide_eq_false (by omega)
      have gw : IntKind.i64.wrap (X + size) = X + size := by rw [IntKind.wrap_i64]; omega
      have HKL : Hid (kk < N) := hlt
      by_cases hk0 : kk = 0
      · have hd : decide ((0 : Int) < (kk : Int)) = false := decide_eq_false (by omega)
        have hd' : decide (0 < kk) = false := decide_eq_false (by omega)
        clear hX hk0
        go_wp2
        go_big_quiet (fail)
        go_wp2
        go_roundg (N - (kk + 1))
        case measure => have := HKL.out; omega
        case rel => exact ⟨kk + 1, by go_num, by have := HKL.out; omega, by omega, (show Aside _ from below_drewN BW.out _)⟩
      · obtain ⟨m, hkm⟩ : ∃ m, kk = m + 1 := ⟨kk - 1, by omega⟩
        have ey := HL.out wr BW.out m (by omega)
        have hYX : stS at_ size slide + (m : Int) * slide + slide = X := by
          rw [← hX, hkm, Int.natCast_add, Int.add_mul]
          omega
        obtain ⟨Y, hY⟩ : ∃ Y, stS at_ size slide + (m : Int) * slide = Y := ⟨_, rfl⟩
        rw [hY] at ey hYX
        have hd : decide ((0 : Int) < (kk : Int)) = true := decide_eq_true (by omega)
        have hd' : decide (0 < kk) = true := decide_eq_true (by omega)
        have hwm : IntKind.i64.wrap ((kk : Int) - 1) = (m : Int) := by rw [IntKind.wrap_i64]; omega
        have hm0 : (0 : Int) ≤ (m : Int) := by omega
        have hmN : (m : Int) < (N : Int) := by omega
        have hwY : IntKind.i64.wrap (Y + slide) = X := by rw [hYX, IntKind.wrap_i64]; omega
        have hne : (X != X) = false := by simp
        clear hX hk0 hkm hY hYX
        go_wp2
        go_big_quiet (fail)
        go_wp2
        go_roundg (N - (kk + 1))
        case measure => have := HKL.out; omega
        case rel => exact ⟨kk + 1, by go_num, by have := HKL.out; omega, by omega, (show Aside _ from below_drewN BW.out _)⟩
    · have hltz : ¬ (kk : Int) < (N : Int) := by omega
      obtain ⟨M1, hM1⟩ : ∃ M1, N = M1 + 1 := ⟨N - 1, by omega⟩
      have ef := HL.out wr BW.out 0 (by omega)
      have eg := HL.out wr BW.out M1 (by omega)
      have sF := st_first (at_ := at_) (size := size) (slide := slide) HW.out h0
      have sL := st_last (at_ := at_) (size := size) (slide := slide) HW.out
      have fE := HE.out 0 (by omega)
      have lE := HE.out M1 (by omega)
      rw [HN.out, show ((N : Int) - 1) = (M1 : Int) by omega] at sL
      rw [show stS at_ size slide + ((0 : Nat) : Int) * slide = stS at_ size slide by simp] at ef fE
      rw [Nat.add_zero] at ef
      obtain ⟨S0, hS0⟩ : ∃ S0, stS at_ size slide = S0 := ⟨_, rfl⟩
      obtain ⟨SL, hSL⟩ : ∃ SL, stS at_ size slide + (M1 : Int) * slide = SL := ⟨_, rfl⟩
      rw [hSL] at eg sL lE
      rw [hS0] at ef sF fE
      obtain ⟨y1, y2, y3⟩ := fE
      obtain ⟨y4, y5, y6⟩ := lE
      have gN1 : ¬ (N : Int) < 1 := by omega
      have gN2 : ¬ (10 : Int) < (N : Int) := by omega
      have gN3 : (0 : Int) < (N : Int) := by omega
      have gM : IntKind.i64.wrap ((N : Int) - 1) = (M1 : Int) := by rw [IntKind.wrap_i64]; omega
      have gM0 : (0 : Int) ≤ (M1 : Int) := by omega
      have gMN : (M1 : Int) < (N : Int) := by omega
      have gw1 : IntKind.i64.wrap (S0 - slide) = S0 - slide := by rw [IntKind.wrap_i64]; omega
      have gw2 : IntKind.i64.wrap (S0 - slide + size) = S0 - slide + size := by rw [IntKind.wrap_i64]; omega
      have gw3 : IntKind.i64.wrap (SL + slide) = SL + slide := by rw [IntKind.wrap_i64]; omega
      have gLs : ¬ SL + slide ≤ at_ := by omega
      have ca := hD (-1) at_ size slide
      have wr_ := HL
      clear hM1 hS0 hSL
      go_upto_region 14 with fail
      go_cut [160] from 128 (fun s160 wx => s160 = .bool false ∧ wx = wr)
      case first =>
        by_cases hs : slide ≤ S0
        · have sF' := sF hs
          have gF : ¬ at_ < S0 - slide + size := by omega
          clear sF
          go_wp2
          go_meet
          case rel => exact ⟨rfl, rfl⟩
        · clear sF
          go_wp2
          go_meet
          case rel => exact ⟨rfl, rfl⟩
      case rest =>
      rename World => wc
      obtain ⟨rfl, hwc⟩ := hcut
      subst hwc
      clear sF sL ef eg y1 y2 y3 y4 y5 y6 gN1 gN2 gN3 gM gM0 gMN gw1 gw2 gw3 gLs S0 SL M1 ca
      obtain ⟨EA, hEA⟩ : ∃ EA, dnE (-1) at_ size slide = EA := ⟨_, rfl⟩
      obtain ⟨LA, hLA⟩ : ∃ LA, (if dnE (-1) at_ size slide = 0 then dnP (-1) at_ size slide else []) = LA := ⟨_, rfl⟩
      obtain ⟨NA, hNA⟩ : ∃ NA, LA.length = NA := ⟨_, rfl⟩
      obtain ⟨EV, hEV⟩ : ∃ EV, errV EA = EV := ⟨_, rfl⟩
      have HEV : Hid (0 < NA → EV = .nilIface) := fun h => by
        by_cases h0' : EA = 0
        · rw [← hEV, h0']; rfl
        · rw [hEA, if_neg h0'] at hLA
          rw [← hNA, ← hLA] at h
          exact absurd h (by simp)
      have HLA : Aside (∀ j (h : j < LA.length), LA[j] + size ≤ at_ ∧ -1000 ≤ LA[j] ∧ LA[j] ≤ 1000000) := fun j hj => by
        by_cases h0' : dnE (-1) at_ size slide = 0
        · rw [if_pos h0'] at hLA
          subst hLA
          have hj2 : j < dnN (-1) at_ size slide := by rw [dnP, prg_len] at hj; exact hj
          have e := dn_each HW.out hj2
          have ej : (dnP (-1) at_ size slide)[j] = dnK (-1) size slide * slide + (j : Int) * slide := by
            simp only [dnP]
            exact prg_at _
          rw [ej]
          have k0 := ((dn_low (a := -1) HW.out (dnK (-1) size slide)).1 (Int.le_refl _)).1
          have p1 := Int.mul_nonneg k0 (show 0 ≤ slide by omega)
          have p2 := Int.mul_nonneg (show (0 : Int) ≤ (j : Int) by omega) (show 0 ≤ slide by omega)
          exact ⟨e, by omega, by omega⟩
        · rw [if_neg h0'] at hLA
          subst hLA
          exact absurd hj (by simp)
      have c3 := hD (-1) at_ size slide wc (by unfold inM; omega) m1 m2 m3
      rw [hLA, hEA, hEV] at c3
      have BWC := B2.out.trans (BW.out.mono B2.out.size)
      have HNA : Hid (LA.length = NA) := hNA
      clear hEA hLA hNA hEV
      go_wp2_with fail
      refine c3.mono ?_
      rintro e w3 ⟨⟨u3, rfl, i3⟩, b3⟩
      obtain ⟨qa, ka, rfl⟩ := ints_form i3
      rw [HNA.out]
      have I3 : Aside (IntA w3 (.slice qa NA ka) LA) := by rw [← HNA.out]; exact i3
      have hnb : dnN at_ (at_ + size) size slide ≤ 300 := by
        have h := congrArg List.length (dn_st HW.out h0)
        rw [dnP, prg_len, stP, prg_len, HN.out] at h
        omega
      have c4 := hD at_ (at_ + size) size slide w3 m1 (by unfold inM; omega) m2 m3
      rw [dn_zero HW.out ⟨by omega, by omega, by omega, by omega⟩ hnb, if_pos rfl, show errV 0 = .nilIface from rfl, dn_st HW.out h0] at c4
      have B3 := BWC.trans (b3.mono BWC.size)
      have BL3 : Below w2.heap.size w2 w3 := BW.out.trans (b3.mono BW.out.size)
      clear c3 i3 b3 hnb BWC
      go_wp2_with fail
      refine c4.mono ?_
      rintro e w4 ⟨⟨u4, rfl, i4⟩, b4⟩
      obtain ⟨q4, k4, rfl⟩ := ints_form i4
      obtain ⟨gb, ob, rfl, lb, hb4⟩ := ints_some i4 (show 0 < (stP at_ size slide).length by rw [HLE.out]; omega)
      rw [HLE.out]
      have I34 : Aside (IntA w4 (.slice qa NA ka) LA) := I3.out.on b4
      have B4 : Aside (Below w.heap.size w w4) := B3.trans (b4.mono B3.size)
      have BL4 : Aside (Below w2.heap.size w2 w4) := BL3.trans (b4.mono BL3.size)
      have HB4 : Aside (∀ W, Below w4.heap.size w4 W → ∀ j : Nat, j < N → W.cell? ⟨gb, ob + j, none⟩ = some (.int .i64 (stS at_ size slide + (j : Int) * slide))) := fun W hb j hj => by
        rw [hb.cell (p := ⟨gb, ob + j, none⟩) lb, hb4 j (by rw [HLE.out]; exact hj)]
        congr 2
        exact prg_at _
      have hNN : ¬ (N : Int) < (N : Int) := by omega
      clear c4 i4 b4 hb4 B3 BL3 I3 BW hltz hkk hg hlt hglr
      go_wp2
      go_loopg [18] N (fun gg s18 wr => ∃ kk : Nat, s18 = .int .i64 kk ∧ kk ≤ N ∧ N - kk ≤ gg ∧ Aside (Below w4.heap.size w4 wr))
      case atStart => exact ⟨0, rfl, Nat.zero_le _, by omega, (show Aside _ from Below.refl _ _)⟩
      case round =>
        rename World => wy
        obtain ⟨k2', rfl, hkk, hg, BY⟩ := hrel
        have hsy := BY.out.size
        have BLY := BL4.out.trans (BY.out.mono BL4.out.size)
        have hsl2 := BL4.out.size
        by_cases hlt : k2' < N
        · have hltz : (k2' : Int) < (N : Int) := by omega
          have h0z : (0 : Int) ≤ (k2' : Int) := by omega
          have e1 := HB4.out wy BY.out k2' hlt
          have e2 := HL.out wy BLY k2' hlt
          have hb1 : gb < wy.heap.size := by omega
          have hb2 : gl < wy.heap.size := by omega
          generalize stS at_ size slide + (k2' : Int) * slide = X at e1 e2
          have hne : (X != X) = false := by simp
          have HKL : Hid (k2' < N) := hlt
          clear BLY
          go_wp2
          go_quiet (fail)
          go_wp2
          go_roundg (N - (k2' + 1))
          case measure => have := HKL.out; omega
          case rel => exact ⟨k2' + 1, by go_num, by have := HKL.out; omega, by omega, (show Aside _ from below_drewN BY.out _)⟩
        · have hltz : ¬ (k2' : Int) < (N : Int) := by omega
          have I3Y : Aside (IntA wy (.slice qa NA ka) LA) := I34.out.on BY.out
          have BYY : Aside (Below w.heap.size w wy) := B4.out.trans (BY.out.mono B4.out.size)
          have hNA2 : NA ≤ 1048576 := by obtain ⟨p', c', e, ⟨_, h⟩, _⟩ := I34.out; have := HNA.out; omega
          have hNAz : (NA : Int) ≤ 1048576 := by omega
          clear I34 BLY BY B4 BL4 HB4 HL HE IL hlt hkk hg hsy hsl2
          go_wp2
          go_loopg [19] NA (fun gg s19 wz => ∃ kk : Nat, s19 = .int .i64 kk ∧ kk ≤ NA ∧ NA - kk ≤ gg ∧ Aside (Below wy.heap.size wy wz))
          case atStart => exact ⟨0, rfl, Nat.zero_le _, by omega, (show Aside _ from Below.refl _ _)⟩
          case round =>
            rename World => wz
            obtain ⟨k3', rfl, hkk, hg, BZ⟩ := hrel
            by_cases hlt : k3' < NA
            · have hltz3 : (k3' : Int) < (NA : Int) := by omega
              have h0z : (0 : Int) ≤ (k3' : Int) := by omega
              have hk : k3' < LA.length := by rw [HNA.out]; exact hlt
              obtain ⟨ga, oa, rfl, la, ha⟩ := ints_some I3Y.out hk
              have e1 : wz.cell? ⟨ga, oa + k3', none⟩ = some (.int .i64 LA[k3']) := by rw [BZ.out.cell (p := ⟨ga, oa + k3', none⟩) la]; exact ha k3' hk
              obtain ⟨z1, z2, z3⟩ := HLA.out k3' hk
              have hga : ga < wz.heap.size := by have := BZ.out.size; omega
              generalize LA[k3'] = X at e1 z1 z2 z3
              have gx : IntKind.i64.wrap (X + size) = X + size := by rw [IntKind.wrap_i64]; omega
              have gX : ¬ at_ < X + size := by omega
              have hEVn := HEV.out (by omega)
              have hrE : ∀ W, Sem.run Try.prog (binOp .eql 24 EV .nilIface) W = .ok (.bool true) W := fun W => by rw [hEVn]; kernel_rfl
              have hrG : ∀ (W : World) (k : Nat), Sem.run Try.prog (eqGuard .eql 24 (.tmp k) (.const .nilIface) EV .nilIface) W = .ok () W := fun W k => by rw [hEVn]; kernel_rfl
              have HKL : Hid (k3' < NA) := hlt
              clear hEVn ha hk
              go_wp2
              go_roundg (NA - (k3' + 1))
              case measure => have := HKL.out; omega
              case rel => exact ⟨k3' + 1, by go_num, by have := HKL.out; omega, by omega, BZ⟩
            · have hltz3 : ¬ (k3' : Int) < (NA : Int) := by omega
              have BB : Aside (Below w.heap.size w wz) := BYY.out.trans (BZ.out.mono BYY.out.size)
              have m1' := m1
              have m4' := m4
              unfold inM at m1' m4'
              have gt1 : IntKind.i64.wrap (at_ + 300) = at_ + 300 := by rw [IntKind.wrap_i64]; omega
              have gt2 : IntKind.i64.wrap (at_ + size) = at_ + size := by rw [IntKind.wrap_i64]; omega
              have gt3 : IntKind.i64.wrap (at_ + size + 300) = at_ + size + 300 := by rw [IntKind.wrap_i64]; omega
              clear BZ BYY I3Y HLA HEV hkk hg hlt
              by_cases t1 : tz < at_
              · go_wp2
                go_ret
                exact ⟨rfl, BB.out⟩
              by_cases t2 : at_ + 300 < tz
              · go_wp2
                go_ret
                exact ⟨rfl, BB.out⟩
              have c5 := hD at_ tz size slide wz m1 m4 m2 m3
              go_wp2_with fail
              refine c5.mono ?_
              rintro e w5 ⟨⟨u5, rfl, i5⟩, b5⟩
              obtain ⟨q5, k5, rfl⟩ := ints_form i5
              obtain ⟨n5, hn5⟩ : ∃ n5, (if dnE at_ tz size slide = 0 then dnP at_ tz size slide else []).length = n5 := ⟨_, rfl⟩
              have I5 : Aside (IntA w5 (.slice q5 n5 k5) (if dnE at_ tz size slide = 0 then dnP at_ tz size slide else [])) := by rw [← hn5]; exact i5
              rw [hn5]
              have B5 := BB.out.trans (b5.mono BB.out.size)
              have c6 := hD tz (at_ + size + 300) size slide w5 m4 (by unfold inM; omega) m2 m3
              clear c5 i5 b5 hn5
              go_wp2_with fail
              refine c6.mono ?_
              rintro e w6 ⟨⟨u6, rfl, i6⟩, b6⟩
              obtain ⟨q6, k6, rfl⟩ := ints_form i6
              obtain ⟨n6, hn6⟩ : ∃ n6, (if dnE tz (at_ + size + 300) size slide = 0 then dnP tz (at_ + size + 300) size slide else []).length = n6 := ⟨_, rfl⟩
              have I6 : Aside (IntA w6 (.slice q6 n6 k6) (if dnE tz (at_ + size + 300) size slide = 0 then dnP tz (at_ + size + 300) size slide else [])) := by rw [← hn6]; exact i6
              rw [hn6]
              have I56 : Aside (IntA w6 (.slice q5 n5 k5) (if dnE at_ tz size slide = 0 then dnP at_ tz size slide else [])) := I5.out.on b6
              have B6 := B5.trans (b6.mono B5.size)
              have c7 := hD at_ (at_ + size + 300) size slide w6 m1 (by unfold inM; omega) m2 m3
              clear c6 i6 b6 hn6 I5 B5
              go_wp2_with fail
              refine c7.mono ?_
              rintro e w7 ⟨⟨u7, rfl, i7⟩, b7⟩
              obtain ⟨q7, k7, rfl⟩ := ints_form i7
              obtain ⟨n7, hn7⟩ : ∃ n7, (if dnE at_ (at_ + size + 300) size slide = 0 then dnP at_ (at_ + size + 300) size slide else []).length = n7 := ⟨_, rfl⟩
              have I7 : Aside (IntA w7 (.slice q7 n7 k7) (if dnE at_ (at_ + size + 300) size slide = 0 then dnP at_ (at_ + size + 300) size slide else [])) := by rw [← hn7]; exact i7
              rw [hn7]
              have J5 : Aside (IntA w7 (.slice q5 n5 k5) (if dnE at_ tz size slide = 0 then dnP at_ tz size slide else [])) := I56.out.on b7
              have J6 : Aside (IntA w7 (.slice q6 n6 k6) (if dnE tz (at_ + size + 300) size slide = 0 then dnP tz (at_ + size + 300) size slide else [])) := I6.out.on b7
              have B7 : Aside (Below w.heap.size w w7) := B6.trans (b7.mono B6.size)
              clear c7 i7 b7 hn7 I56 I6 B6 BB
              have e0 : errV 0 = .nilIface := rfl
              have eN : ∀ k : Int, k ≠ 0 → errV k = .iface 32 (.int .i64 k) := fun k hk => by rw [errV, if_neg hk]
              rcases (Decidable.em (dnE at_ tz size slide = 0)).symm with g5 | g5
              · rw [eN _ g5]
                clear e0 eN
                go_wp2
                go_ret
                exact ⟨rfl, B7.out⟩
              rcases (Decidable.em (dnE tz (at_ + size + 300) size slide = 0)).symm with g6 | g6
              · rw [g5, e0, eN _ g6]
                clear e0 eN g5
                go_wp2
                go_ret
                exact ⟨rfl, B7.out⟩
              rcases (Decidable.em (dnE at_ (at_ + size + 300) size slide = 0)).symm with g7 | g7
              · rw [g5, g6, e0, eN _ g7]
                clear e0 eN g5 g6
                go_wp2
                go_ret
                exact ⟨rfl, B7.out⟩
              rw [g5, g6, g7, e0]
              by_cases t3 : 1000000 < tz
              · clear e0 eN g5 g6 g7
                go_wp2
                go_ret
                exact ⟨rfl, B7.out⟩
              by_cases t4 : 1001000 < at_ + size + 300
              · clear e0 eN g5 g6 g7
                go_wp2
                go_ret
                exact ⟨rfl, B7.out⟩
              have a5 := J5.out
              have a6 := J6.out
              have a7 := I7.out
              rw [if_pos g5] at a5
              rw [if_pos g6] at a6
              rw [if_pos g7] at a7
              have z5 : (dnP at_ tz size slide).length = n5 := by obtain ⟨p', c', e, -⟩ := a5; injection e with _ e _; exact e.symm
              have z6 : (dnP tz (at_ + size + 300) size slide).length = n6 := by obtain ⟨p', c', e, -⟩ := a6; injection e with _ e _; exact e.symm
              have s5 : n5 ≤ 1048576 := by obtain ⟨p', c', e, ⟨_, h⟩, _⟩ := a5; omega
              have s6 : n6 ≤ 1048576 := by obtain ⟨p', c', e, ⟨_, h⟩, _⟩ := a6; omega
              have jn := dn_join (a := at_) (m := tz) (b := at_ + size + 300) HW.out (by omega) (by omega)
              have s7 : n5 + n6 ≤ 1048576 := by
                obtain ⟨p', c', e, ⟨_, h⟩, _⟩ := a7
                rw [← jn, List.length_append] at h
                omega
              obtain ⟨C1, hC1⟩ : ∃ C1, intC (dnP at_ tz size slide) = C1 := ⟨_, rfl⟩
              obtain ⟨C2, hC2⟩ : ∃ C2, intC (dnP at_ tz size slide ++ dnP tz (at_ + size + 300) size slide) = C2 := ⟨_, rfl⟩
              have HC1 : Hid (intC (dnP at_ tz size slide) = C1) := hC1
              have HC2 : Hid (intC (dnP at_ tz size slide ++ dnP tz (at_ + size + 300) size slide) = C2) := hC2
              have HZ5 : Hid ((dnP at_ tz size slide).length = n5) := z5
              have HZ6 : Hid ((dnP tz (at_ + size + 300) size slide).length = n6) := z6
              have HJN : Hid (dnP at_ tz size slide ++ dnP tz (at_ + size + 300) size slide = dnP at_ (at_ + size + 300) size slide) := jn
              have A6 : Aside (IntA w7 (.slice q6 n6 k6) (dnP tz (at_ + size + 300) size slide)) := a6
              have A7 : Aside (IntA w7 (.slice q7 n7 k7) (dnP at_ (at_ + size + 300) size slide)) := a7
              clear hC1 hC2 z5 z6 jn J5 J6 I7 e0 eN g5 g6 g7 a6 a7
              go_wp2_with (at_builtin; refine wpList_append_ints rfl (.tmp 280) (.tmp 281) rfl w7.heap.size _ 0 [] rfl (World.ownsRow_nil _ _ _ _) _ (dnP at_ tz size slide) rfl a5 n5 C1 (by rw [HZ5.out, Nat.zero_add]) HC1.out s5 (Nat.le_refl _) ?_)
              intro v8 w8 o8 b8
              obtain ⟨q8, k8, rfl⟩ := own_form o8
              have hs8 := b8.size
              have a68 := A6.out.on b8
              clear a5
              go_wp2_with (at_builtin; refine wpList_append_ints rfl (.tmp 283) (.tmp 284) rfl w7.heap.size _ n5 (dnP at_ tz size slide) rfl (by rw [HC1.out]; exact o8) _ (dnP tz (at_ + size + 300) size slide) rfl a68 (n5 + n6) C2 (by rw [HZ6.out]) HC2.out s7 hs8 ?_)
              intro v9 w9 o9 b9
              obtain ⟨q9, k9, rfl⟩ := own_form o9
              have B9' := b8.trans b9
              have x9 : IntA w9 (.slice q9 (n5 + n6) k9) (dnP at_ (at_ + size + 300) size slide) := by
                rw [← HJN.out]
                exact ints_own (by rw [List.length_append, HZ5.out, HZ6.out]) s7 (by rw [HC2.out]; exact o9)
              have c10 := ints_eq _ _ _ w9 x9 (A7.out.on B9')
              have B9 := B7.out.trans (B9'.mono B7.out.size)
              clear o8 b8 o9 b9 a68 B9' x9 A6 A7
              go_wp2_with fail
              refine c10.mono ?_
              rintro e w10 ⟨rfl, b10⟩
              have B10 : Aside (Below w.heap.size w w10) := B9.trans (b10.mono B9.size)
              clear c10 b10 B9
              go_wp2
              go_ret
              exact ⟨rfl, B10.out⟩
theorem holds_window (hS : StC) (hD : DnC) (at_ size slide tz : Int) (w : World) (m1 : inM at_) (m2 : inM size) (m3 : inM slide) (m4 : inM tz) :
    Calls Try.prog 3 #[.int .i64 at_, .int .i64 size, .int .i64 slide, .int .i64 tz] w fun e w' => e = .returned (.bool true) ∧ Below w.heap.size w w' := by
  by_cases h : wdB size slide ∧ 0 ≤ at_ ∧ at_ ≤ 1000000
  · exact wh_ok hS hD at_ size slide tz w m1 m2 m3 m4 h.1 h.2.1 h.2.2
  · exact wh_no hS hD at_ size slide tz w m1 m2 m3 m4 h
end Go.Proofs.Ytogndffocijinaa
