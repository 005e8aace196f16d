/-
  Plain facts on 64-bit numbers: when a product, divided back, tells that it has gone over.
-/
import Derived.RowKit
namespace Go.Proofs.YtggabncpedcmdaaGreatDoor
open Go.RowKit

theorem wrap_in (n : Int) (h : -9223372036854775808 ≤ n ∧ n ≤ 9223372036854775807) : wrap64 n = n := by unfold wrap64; omega
theorem wrap_bd (n : Int) : -9223372036854775808 ≤ wrap64 n ∧ wrap64 n ≤ 9223372036854775807 := by unfold wrap64; omega
theorem wrap_mod (n : Int) : ∃ k : Int, wrap64 n = n + k * 18446744073709551616 := by
  unfold wrap64
  exact ⟨-((n + 9223372036854775808) / 18446744073709551616), by omega⟩

theorem tdiv_near (p b : Int) (hb : b ≠ 0) : -(b.natAbs : Int) < p - p.tdiv b * b ∧ p - p.tdiv b * b < b.natAbs := by
  have h1 := Int.mul_tdiv_add_tmod p b
  have h2 : p - p.tdiv b * b = p.tmod b := by rw [Int.mul_comm]; omega
  rw [h2]
  have h3 : (p.tmod b).natAbs < b.natAbs := by
    rw [Int.natAbs_tmod]
    exact Nat.mod_lt _ (by omega)
  omega

theorem tdiv_bd (p b : Int) (hp : -9223372036854775808 ≤ p ∧ p ≤ 9223372036854775807) (h : ¬ (p = -9223372036854775808 ∧ b = -1)) :
    -9223372036854775808 ≤ p.tdiv b ∧ p.tdiv b ≤ 9223372036854775807 := by
  have h3 : (p.tdiv b).natAbs = p.natAbs / b.natAbs := Int.natAbs_tdiv p b
  have h4 : p.natAbs / b.natAbs ≤ p.natAbs := Nat.div_le_self _ _
  by_cases hm : p = -9223372036854775808
  · have hb : b ≠ -1 := fun e => h ⟨hm, e⟩
    by_cases h1 : b = 1
    · subst h1; rw [Int.tdiv_one]; exact hp
    · have h5 : p.natAbs / b.natAbs ≤ p.natAbs / 2 ∨ b = 0 := by
        by_cases h0 : b = 0
        · exact Or.inr h0
        · exact Or.inl (Nat.div_le_div_left (by omega) (by omega))
      rcases h5 with h5 | h5
      · have : p.natAbs = 9223372036854775808 := by omega
        omega
      · subst h5; rw [Int.tdiv_zero]; omega
  · omega

theorem mul_back (a b : Int) (ha : -9223372036854775808 ≤ a ∧ a ≤ 9223372036854775807) (hb : b ≠ 0)
    (h : -9223372036854775808 ≤ a * b ∧ a * b ≤ 9223372036854775807) : wrap64 ((wrap64 (a * b)).tdiv b) = a := by
  rw [wrap_in _ h, Int.mul_tdiv_cancel _ hb, wrap_in _ ha]

theorem mul_min (a b : Int) (h : -9223372036854775808 ≤ a * b ∧ a * b ≤ 9223372036854775807) : ¬ (a = -9223372036854775808 ∧ b = -1) := by
  rintro ⟨rfl, rfl⟩; omega

theorem mul_over (a b : Int) (ha : -9223372036854775808 ≤ a ∧ a ≤ 9223372036854775807) (hb : -9223372036854775808 ≤ b ∧ b ≤ 9223372036854775807) (h0 : b ≠ 0)
    (h : ¬ (-9223372036854775808 ≤ a * b ∧ a * b ≤ 9223372036854775807)) (hm : ¬ (a = -9223372036854775808 ∧ b = -1)) : wrap64 ((wrap64 (a * b)).tdiv b) ≠ a := by
  intro e
  by_cases hb1 : b = -1
  · subst hb1; omega
  · have hw := wrap_bd (a * b)
    rw [wrap_in _ (tdiv_bd _ b hw (fun x => hb1 x.2))] at e
    obtain ⟨k, hk⟩ := wrap_mod (a * b)
    have hn := tdiv_near (wrap64 (a * b)) b h0
    rw [e] at hn
    have : k = 0 := by omega
    subst this
    omega
end Go.Proofs.YtggabncpedcmdaaGreatDoor
