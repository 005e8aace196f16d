/-
  What the program, and the document, reckon for any operation; and that an error is told as its number.
-/
import Derived.Test.YtggabncpedcmdaaGreatDoorRef6
import Derived.Test.YtggabncpedcmdaaGreatDoorRef4
import Derived.Test.YtggabncpedcmdaaGreatDoorEnvT
namespace Go.Proofs.YtggabncpedcmdaaGreatDoor
open Go.RowKit
set_option linter.unusedVariables false

def Reckons (op : ByteArray) (a b : Int) (w : World) (n : Int) (er : Value) : Prop :=
  Calls Tryz.prog 16 #[.string op, .int .i64 a, .int .i64 b] w fun e w' => e = .returned (.tuple #[.int .i64 n, er]) ∧ w' = w
theorem rk_y {op : ByteArray} {a b n : Int} {w : World} (hr : rkQ op.data.toList a b = (n, 0)) (h : Reckons op a b w n .nilIface) : Reckons op a b w (rkQ op.data.toList a b).1 (errV (rkQ op.data.toList a b).2) := by
  rw [hr]; simpa [errV] using h
theorem rk_x {op : ByteArray} {a b k : Int} {w : World} (hk : k ≠ 0) (hr : rkQ op.data.toList a b = (0, k)) (h : Reckons op a b w 0 (.iface 69 (.int .i64 k))) : Reckons op a b w (rkQ op.data.toList a b).1 (errV (rkQ op.data.toList a b).2) := by
  rw [hr]; simpa [errV, hk] using h

theorem reckon_any (op : ByteArray) (a b : Int) (w : World) (ha : -9223372036854775808 ≤ a ∧ a ≤ 9223372036854775807) (hb : -9223372036854775808 ≤ b ∧ b ≤ 9223372036854775807) :
    Reckons op a b w (rkQ op.data.toList a b).1 (errV (rkQ op.data.toList a b).2) := by
  by_cases h1 : op.data.toList = [43]
  · obtain rfl : op = ⟨#[43]⟩ := eq_of_list h1
    by_cases hn : -9223372036854775808 ≤ a + b ∧ a + b ≤ 9223372036854775807
    · exact rk_y (by rw [rkQ, if_pos h1, if_pos hn]) (rk_add a b w ha hb hn)
    · exact rk_x (by decide) (by rw [rkQ, if_pos h1, if_neg hn]) (rk_addx a b w ha hb hn)
  · by_cases h2 : op.data.toList = [45]
    · obtain rfl : op = ⟨#[45]⟩ := eq_of_list h2
      by_cases hn : -9223372036854775808 ≤ a - b ∧ a - b ≤ 9223372036854775807
      · exact rk_y (by rw [rkQ, if_neg h1, if_pos h2, if_pos hn]) (rk_sub a b w ha hb hn)
      · exact rk_x (by decide) (by rw [rkQ, if_neg h1, if_pos h2, if_neg hn]) (rk_subx a b w ha hb hn)
    · by_cases h3 : op.data.toList = [42]
      · obtain rfl : op = ⟨#[42]⟩ := eq_of_list h3
        by_cases hn : -9223372036854775808 ≤ a * b ∧ a * b ≤ 9223372036854775807
        · exact rk_y (by rw [rkQ, if_neg h1, if_neg h2, if_pos h3, if_pos hn]) (rk_mul a b w ha hb hn)
        · exact rk_x (by decide) (by rw [rkQ, if_neg h1, if_neg h2, if_pos h3, if_neg hn]) (rk_mulx a b w ha hb hn)
      · by_cases h4 : op.data.toList = [47]
        · obtain rfl : op = ⟨#[47]⟩ := eq_of_list h4
          by_cases hn : b = 0 ∨ (a = -9223372036854775808 ∧ b = -1)
          · exact rk_x (by decide) (by rw [rkQ, if_neg h1, if_neg h2, if_neg h3, if_pos h4, if_pos hn]) (rk_divx a b w ha hb hn)
          · exact rk_y (by rw [rkQ, if_neg h1, if_neg h2, if_neg h3, if_pos h4, if_neg hn]) (rk_div a b w ha hb (fun e => hn (Or.inl e)) (fun e => hn (Or.inr e)))
        · by_cases h5 : op.data.toList = [37]
          · obtain rfl : op = ⟨#[37]⟩ := eq_of_list h5
            by_cases hn : b = 0
            · subst hn
              exact rk_x (by decide) (by rw [rkQ, if_neg h1, if_neg h2, if_neg h3, if_neg h4, if_pos h5, if_pos rfl]) (rk_remx a w ha)
            · exact rk_y (by rw [rkQ, if_neg h1, if_neg h2, if_neg h3, if_neg h4, if_pos h5, if_neg hn]) (rk_rem a b w ha hb hn)
          · exact rk_x (by decide) (by rw [rkQ, if_neg h1, if_neg h2, if_neg h3, if_neg h4, if_neg h5]) (rk_other op a b w h1 h2 h3 h4 h5)
theorem refReckon_any (op : ByteArray) (a b : Int) (ha : -9223372036854775808 ≤ a ∧ a ≤ 9223372036854775807) (hb : -9223372036854775808 ≤ b ∧ b ≤ 9223372036854775807) :
    RefSays op a b (rkQ op.data.toList a b) := by
  by_cases h1 : op.data.toList = [43]
  · obtain rfl : op = ⟨#[43]⟩ := eq_of_list h1
    exact ref_add a b ha hb
  · by_cases h2 : op.data.toList = [45]
    · obtain rfl : op = ⟨#[45]⟩ := eq_of_list h2
      exact ref_sub a b ha hb
    · by_cases h3 : op.data.toList = [42]
      · obtain rfl : op = ⟨#[42]⟩ := eq_of_list h3
        exact ref_mul a b ha hb
      · by_cases h4 : op.data.toList = [47]
        · obtain rfl : op = ⟨#[47]⟩ := eq_of_list h4
          exact ref_div a b ha hb
        · by_cases h5 : op.data.toList = [37]
          · obtain rfl : op = ⟨#[37]⟩ := eq_of_list h5
            exact ref_rem a b ha hb
          · rw [rkQ, if_neg h1, if_neg h2, if_neg h3, if_neg h4, if_neg h5]
            exact fun w => rk_none op a b w ha hb h1 h2 h3 h4 h5

end Go.Proofs.YtggabncpedcmdaaGreatDoor
