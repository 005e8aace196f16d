/-
  The document's reckoning and the program's come to the same, at all numbers and operations.
-/
import Derived.Test.YtggabncpedcmdaaGreatDoorRef5
import Derived.Test.YtggabncpedcmdaaGreatDoorReckon
namespace Go.Proofs.YtggabncpedcmdaaGreatDoor
open Go.RowKit
set_option linter.unusedVariables false

/-- What an operation comes to: the number, and the fault. -/
def rkQ (op : List UInt8) (a b : Int) : Int × Int :=
  if op = [43] then (if -9223372036854775808 ≤ a + b ∧ a + b ≤ 9223372036854775807 then (a + b, 0) else (0, 9))
  else if op = [45] then (if -9223372036854775808 ≤ a - b ∧ a - b ≤ 9223372036854775807 then (a - b, 0) else (0, 9))
  else if op = [42] then (if -9223372036854775808 ≤ a * b ∧ a * b ≤ 9223372036854775807 then (a * b, 0) else (0, 9))
  else if op = [47] then (if b = 0 ∨ (a = -9223372036854775808 ∧ b = -1) then (0, 9) else (a.tdiv b, 0))
  else if op = [37] then (if b = 0 then (0, 9) else (a.tmod b, 0))
  else (0, 1)
def RefSays (op : ByteArray) (a b : Int) (r : Int × Int) : Prop :=
  ∀ w : World, Calls Tryz.prog 15 #[.string op, .int .i64 a, .int .i64 b] w fun e w' => e = .returned (.tuple #[.int .i64 r.1, .int .i64 r.2]) ∧ w' = w
theorem says_eq {op : ByteArray} {a b a' b' : Int} {r r' : Int × Int} (h : RefSays op a b r) (ha : a' = a) (hb : b' = b) (hr : r' = r) : RefSays op a' b' r' := by subst ha hb hr; exact h

theorem split (a : Int) (ha : -9223372036854775808 ≤ a ∧ a ≤ 9223372036854775807) : (∃ x, a = x ∧ 0 ≤ x ∧ x ≤ 9223372036854775807) ∨ (∃ x, a = -x ∧ 1 ≤ x ∧ x ≤ 9223372036854775808) := by
  by_cases h : a < 0
  · exact Or.inr ⟨-a, by omega, by omega, by omega⟩
  · exact Or.inl ⟨a, rfl, by omega, by omega⟩
theorem ref_add (a b : Int) (ha : -9223372036854775808 ≤ a ∧ a ≤ 9223372036854775807) (hb : -9223372036854775808 ≤ b ∧ b ≤ 9223372036854775807) : RefSays ⟨#[43]⟩ a b (rkQ [43] a b) := by
  have hv : rkQ [43] a b = if -9223372036854775808 ≤ a + b ∧ a + b ≤ 9223372036854775807 then (a + b, 0) else (0, 9) := by rw [rkQ, if_pos rfl]
  rw [hv]
  rcases split a ha with ⟨x, rfl, hx⟩ | ⟨x, rfl, hx⟩ <;> rcases split b hb with ⟨y, rfl, hy⟩ | ⟨y, rfl, hy⟩
  · by_cases h : a + b ≤ 9223372036854775807
    · exact says_eq (fun w => ra_pp a b w hx hy h) rfl rfl (by rw [if_pos ⟨by omega, h⟩])
    · exact says_eq (fun w => ra_ppx a b w hx hy (by omega)) rfl rfl (by rw [if_neg (by omega)]) (r := (0, 9))
  · by_cases h : y ≤ a
    · exact says_eq (fun w => ra_pn1 a y w hx hy h) rfl rfl (by rw [if_pos (by omega), show a + -y = a - y from by omega]) (r := (a - y, 0))
    · exact says_eq (fun w => ra_pn2 a y w hx hy (by omega)) rfl rfl (by rw [if_pos (by omega), show a + -y = -(y - a) from by omega]) (r := (-(y - a), 0))
  · by_cases h : b ≤ x
    · exact says_eq (fun w => ra_np1 x b w hx hy h) rfl rfl (by rw [if_pos (by omega), show -x + b = -(x - b) from by omega]) (r := (-(x - b), 0))
    · exact says_eq (fun w => ra_np2 x b w hx hy (by omega)) rfl rfl (by rw [if_pos (by omega), show -x + b = b - x from by omega]) (r := (b - x, 0))
  · by_cases h : x + y ≤ 9223372036854775808
    · exact says_eq (fun w => ra_nn x y w hx hy h) rfl rfl (by rw [if_pos (by omega), show -x + -y = -(x + y) from by omega]) (r := (-(x + y), 0))
    · by_cases h' : x + y ≤ 18446744073709551615
      · exact says_eq (fun w => ra_nnx x y w hx hy (by omega) h') rfl rfl (by rw [if_neg (by omega)]) (r := (0, 9))
      · obtain rfl : x = 9223372036854775808 := by omega
        obtain rfl : y = 9223372036854775808 := by omega
        exact says_eq (fun w => ra_min w) rfl rfl (by rw [if_neg (by omega)]) (r := (0, 9))
theorem ref_sub (a b : Int) (ha : -9223372036854775808 ≤ a ∧ a ≤ 9223372036854775807) (hb : -9223372036854775808 ≤ b ∧ b ≤ 9223372036854775807) : RefSays ⟨#[45]⟩ a b (rkQ [45] a b) := by
  have hv : rkQ [45] a b = if -9223372036854775808 ≤ a - b ∧ a - b ≤ 9223372036854775807 then (a - b, 0) else (0, 9) := by rw [rkQ, if_neg (by decide), if_pos rfl]
  rw [hv]
  rcases split a ha with ⟨x, rfl, hx⟩ | ⟨x, rfl, hx⟩ <;> rcases split b hb with ⟨y, rfl, hy⟩ | ⟨y, rfl, hy⟩
  · by_cases h0 : b = 0
    · exact says_eq (fun w => rs_p0 a b w hx hy h0) rfl rfl (by rw [if_pos (by omega), show a - b = a from by omega]) (r := (a, 0))
    · by_cases h : b ≤ a
      · exact says_eq (fun w => rs_pp1 a b w hx hy (by omega) h) rfl rfl (by rw [if_pos (by omega)]) (r := (a - b, 0))
      · exact says_eq (fun w => rs_pp2 a b w hx hy (by omega) (by omega)) rfl rfl (by rw [if_pos (by omega), show a - b = -(b - a) from by omega]) (r := (-(b - a), 0))
  · by_cases h : a + y ≤ 9223372036854775807
    · exact says_eq (fun w => rs_pn a y w hx hy (by omega) h) rfl rfl (by rw [if_pos (by omega), show a - -y = a + y from by omega]) (r := (a + y, 0))
    · exact says_eq (fun w => rs_pnx a y w hx hy (by omega) (by omega)) rfl rfl (by rw [if_neg (by omega)]) (r := (0, 9))
  · by_cases h0 : b = 0
    · exact says_eq (fun w => rs_n0 x b w hx hy h0) rfl rfl (by rw [if_pos (by omega), show -x - b = -x from by omega]) (r := (-x, 0))
    · by_cases h : x + b ≤ 9223372036854775808
      · exact says_eq (fun w => rs_np x b w hx hy (by omega) h) rfl rfl (by rw [if_pos (by omega), show -x - b = -(x + b) from by omega]) (r := (-(x + b), 0))
      · exact says_eq (fun w => rs_npx x b w hx hy (by omega) (by omega)) rfl rfl (by rw [if_neg (by omega)]) (r := (0, 9))
  · by_cases h : y ≤ x
    · exact says_eq (fun w => rs_nn1 x y w hx hy (by omega) h) rfl rfl (by rw [if_pos (by omega), show -x - -y = -(x - y) from by omega]) (r := (-(x - y), 0))
    · exact says_eq (fun w => rs_nn2 x y w hx hy (by omega) (by omega)) rfl rfl (by rw [if_pos (by omega), show -x - -y = y - x from by omega]) (r := (y - x, 0))
theorem mul_le (x y : Int) (hx : 1 ≤ x) (hy : 0 ≤ y) (h : y ≤ 9223372036854775808 / x) : 0 ≤ x * y ∧ x * y ≤ 9223372036854775808 := by
  refine ⟨Int.mul_nonneg (by omega) hy, ?_⟩
  have h1 : x * y ≤ x * (9223372036854775808 / x) := Int.mul_le_mul_of_nonneg_left h (by omega)
  have h2 := Int.mul_ediv_self_le (x := 9223372036854775808) (k := x) (by omega)
  omega
theorem mul_gt (x y : Int) (hx : 1 ≤ x) (h : 9223372036854775808 / x < y) : 9223372036854775808 < x * y := by
  have h1 := Int.lt_mul_ediv_self_add (x := 9223372036854775808) (k := x) (by omega)
  have h2 : x * (9223372036854775808 / x + 1) ≤ x * y := Int.mul_le_mul_of_nonneg_left (by omega) (by omega)
  rw [Int.mul_add, Int.mul_one] at h2
  omega
theorem ref_mul (a b : Int) (ha : -9223372036854775808 ≤ a ∧ a ≤ 9223372036854775807) (hb : -9223372036854775808 ≤ b ∧ b ≤ 9223372036854775807) : RefSays ⟨#[42]⟩ a b (rkQ [42] a b) := by
  have hv : rkQ [42] a b = if -9223372036854775808 ≤ a * b ∧ a * b ≤ 9223372036854775807 then (a * b, 0) else (0, 9) := by rw [rkQ, if_neg (by decide), if_neg (by decide), if_pos rfl]
  rw [hv]
  rcases split a ha with ⟨x, rfl, hx⟩ | ⟨x, rfl, hx⟩ <;> rcases split b hb with ⟨y, rfl, hy⟩ | ⟨y, rfl, hy⟩
  · by_cases h0 : a = 0
    · subst h0
      exact says_eq (fun w => rt_0p b w hy) rfl rfl (by rw [Int.zero_mul, if_pos (by decide)]) (r := (0, 0))
    · by_cases h : b ≤ 9223372036854775808 / a
      · have hp := mul_le a b (by omega) (by omega) h
        by_cases hm : a * b ≤ 9223372036854775807
        · exact says_eq (fun w => rt_pp a b w hx hy (by omega) h hp hm) rfl rfl (by rw [if_pos (by omega)]) (r := (a * b, 0))
        · exact says_eq (fun w => rt_ppm a b w hx hy (by omega) h hp (by omega)) rfl rfl (by rw [if_neg (by omega)]) (r := (0, 9))
      · have hg := mul_gt a b (by omega) (by omega)
        exact says_eq (fun w => rt_ppx a b w hx hy (by omega) (by omega)) rfl rfl (by rw [if_neg (by omega)]) (r := (0, 9))
  · by_cases h0 : a = 0
    · subst h0
      exact says_eq (fun w => rt_0n y w hy) rfl rfl (by rw [Int.zero_mul, if_pos (by decide)]) (r := (0, 0))
    · have e : a * -y = -(a * y) := Int.mul_neg a y
      rw [e]
      by_cases h : y ≤ 9223372036854775808 / a
      · have hp := mul_le a y (by omega) (by omega) h
        exact says_eq (fun w => rt_pn a y w hx hy (by omega) h hp) rfl rfl (by rw [if_pos (by omega)]) (r := (-(a * y), 0))
      · have hg := mul_gt a y (by omega) (by omega)
        exact says_eq (fun w => rt_pnx a y w hx hy (by omega) (by omega)) rfl rfl (by rw [if_neg (by omega)]) (r := (0, 9))
  · have e : -x * b = -(x * b) := Int.neg_mul x b
    rw [e]
    by_cases h : b ≤ 9223372036854775808 / x
    · have hp := mul_le x b (by omega) (by omega) h
      exact says_eq (fun w => rt_np x b w hx hy (by omega) h hp) rfl rfl (by rw [if_pos (by omega)]) (r := (-(x * b), 0))
    · have hg := mul_gt x b (by omega) (by omega)
      exact says_eq (fun w => rt_npx x b w hx hy (by omega) (by omega)) rfl rfl (by rw [if_neg (by omega)]) (r := (0, 9))
  · have e : -x * -y = x * y := Int.neg_mul_neg x y
    rw [e]
    by_cases h : y ≤ 9223372036854775808 / x
    · have hp := mul_le x y (by omega) (by omega) h
      by_cases hm : x * y ≤ 9223372036854775807
      · exact says_eq (fun w => rt_nn x y w hx hy (by omega) h hp hm) rfl rfl (by rw [if_pos (by omega)]) (r := (x * y, 0))
      · exact says_eq (fun w => rt_nnm x y w hx hy (by omega) h hp (by omega)) rfl rfl (by rw [if_neg (by omega)]) (r := (0, 9))
    · have hg := mul_gt x y (by omega) (by omega)
      exact says_eq (fun w => rt_nnx x y w hx hy (by omega) (by omega)) rfl rfl (by rw [if_neg (by omega)]) (r := (0, 9))
theorem ref_div (a b : Int) (ha : -9223372036854775808 ≤ a ∧ a ≤ 9223372036854775807) (hb : -9223372036854775808 ≤ b ∧ b ≤ 9223372036854775807) : RefSays ⟨#[47]⟩ a b (rkQ [47] a b) := by
  have hv : rkQ [47] a b = if b = 0 ∨ (a = -9223372036854775808 ∧ b = -1) then (0, 9) else (a.tdiv b, 0) := by rw [rkQ, if_neg (by decide), if_neg (by decide), if_neg (by decide), if_pos rfl]
  rw [hv]
  rcases split a ha with ⟨x, rfl, hx⟩ | ⟨x, rfl, hx⟩ <;> rcases split b hb with ⟨y, rfl, hy⟩ | ⟨y, rfl, hy⟩
  · by_cases h0 : b = 0
    · exact says_eq (fun w => rd_p0 a b w hx hy h0) rfl rfl (by rw [if_pos (Or.inl h0)]) (r := (0, 9))
    · have hd := div_bd a b (by omega) (by omega)
      exact says_eq (fun w => rd_pp a b w hx hy (by omega) (by omega)) rfl rfl (by rw [if_neg (by omega), Int.tdiv_eq_ediv_of_nonneg (by omega)]) (r := (a / b, 0))
  · exact says_eq (fun w => rd_pn a y w hx hy (by omega)) rfl rfl (by rw [if_neg (by omega), Int.tdiv_neg, Int.tdiv_eq_ediv_of_nonneg (by omega)]) (r := (-(a / y), 0))
  · by_cases h0 : b = 0
    · exact says_eq (fun w => rd_n0 x b w hx hy h0) rfl rfl (by rw [if_pos (Or.inl h0)]) (r := (0, 9))
    · exact says_eq (fun w => rd_np x b w hx hy (by omega)) rfl rfl (by rw [if_neg (by omega), Int.neg_tdiv, Int.tdiv_eq_ediv_of_nonneg (by omega)]) (r := (-(x / b), 0))
  · have hd := div_bd x y (by omega) (by omega)
    by_cases hm : x / y ≤ 9223372036854775807
    · have hnm : ¬ (-x = -9223372036854775808 ∧ -y = -1) := by
        rintro ⟨e1, e2⟩
        obtain rfl : x = 9223372036854775808 := by omega
        obtain rfl : y = 1 := by omega
        revert hm; decide
      exact says_eq (fun w => rd_nn x y w hx hy (by omega) hm) rfl rfl (by rw [if_neg (by omega), Int.neg_tdiv, Int.tdiv_neg, Int.neg_neg, Int.tdiv_eq_ediv_of_nonneg (by omega)]) (r := (x / y, 0))
    · have hx2 : x = 9223372036854775808 := by omega
      have hy1 : y = 1 := by
        rcases Int.lt_or_le 1 y with h2 | h2
        · exfalso
          have h3 := Int.mul_ediv_self_le (x := x) (k := y) (by omega)
          have h4 : 2 * (x / y) ≤ y * (x / y) := Int.mul_le_mul_of_nonneg_right (by omega) hd.1
          omega
        · omega
      exact says_eq (fun w => rd_nnx x y w hx hy (by omega) (by omega)) rfl rfl (by rw [if_pos (Or.inr ⟨by omega, by omega⟩)]) (r := (0, 9))
theorem ref_rem (a b : Int) (ha : -9223372036854775808 ≤ a ∧ a ≤ 9223372036854775807) (hb : -9223372036854775808 ≤ b ∧ b ≤ 9223372036854775807) : RefSays ⟨#[37]⟩ a b (rkQ [37] a b) := by
  have hv : rkQ [37] a b = if b = 0 then (0, 9) else (a.tmod b, 0) := by rw [rkQ, if_neg (by decide), if_neg (by decide), if_neg (by decide), if_neg (by decide), if_pos rfl]
  rw [hv]
  rcases split a ha with ⟨x, rfl, hx⟩ | ⟨x, rfl, hx⟩ <;> rcases split b hb with ⟨y, rfl, hy⟩ | ⟨y, rfl, hy⟩
  · by_cases h0 : b = 0
    · exact says_eq (fun w => rm_p0 a b w hx hy h0) rfl rfl (by rw [if_pos h0]) (r := (0, 9))
    · have hd := mod_bd a b (by omega) (by omega)
      exact says_eq (fun w => rm_pp a b w hx hy (by omega) (by omega)) rfl rfl (by rw [if_neg (by omega), Int.tmod_eq_emod_of_nonneg (by omega)]) (r := (a % b, 0))
  · have hd := mod_bd a y (by omega) (by omega)
    exact says_eq (fun w => rm_pn a y w hx hy (by omega) (by omega)) rfl rfl (by rw [if_neg (by omega), Int.tmod_neg, Int.tmod_eq_emod_of_nonneg (by omega)]) (r := (a % y, 0))
  · by_cases h0 : b = 0
    · exact says_eq (fun w => rm_n0 x b w hx hy h0) rfl rfl (by rw [if_pos h0]) (r := (0, 9))
    · exact says_eq (fun w => rm_np x b w hx hy (by omega)) rfl rfl (by rw [if_neg (by omega), Int.neg_tmod, Int.tmod_eq_emod_of_nonneg (by omega)]) (r := (-(x % b), 0))
  · exact says_eq (fun w => rm_nn x y w hx hy (by omega)) rfl rfl (by rw [if_neg (by omega), Int.neg_tmod, Int.tmod_neg, Int.tmod_eq_emod_of_nonneg (by omega)]) (r := (-(x % y), 0))
end Go.Proofs.YtggabncpedcmdaaGreatDoor
