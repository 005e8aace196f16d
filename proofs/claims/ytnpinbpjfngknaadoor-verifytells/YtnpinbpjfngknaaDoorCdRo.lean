/-
  What the document's Op says of any number.
-/
import Derived.Test.YtnpinbpjfngknaaDoorCdO
namespace Go.Proofs.YtnpinbpjfngknaaDoor
open Go.RowKit
set_option linter.unusedVariables false

set_option maxHeartbeats 2000000 in
theorem refOp_any (n : Int) (w : World) :
    Calls Tryd.prog 12 #[.int .i64 n] w fun e w' => e = .returned (.tuple #[.string ⟨(opN n).toArray⟩, .bool (opE n == 0)]) ∧ Below w.heap.size w w' := by
  by_cases h0 : 2 ≤ n ∧ n < 16
  · obtain ⟨k, rfl⟩ : ∃ k : Nat, n = k := ⟨n.toNat, by omega⟩
    have hk : k < opsS.length := by have : opsS.length = 17 := rfl; omega
    have z0 : ¬ (k : Int) < 2 := by omega
    have z1 : ¬ (16 : Int) ≤ (k : Int) := by omega
    have z2 : (0 : Int) ≤ (k : Int) := by omega
    have z3 : (k : Int) < 17 := by omega
    obtain ⟨f1, f2⟩ := opN_some (k := k) (by omega) hk
    rw [f1, f2]
    go_enter Tryd.func12, Tryd.ntmps12
    go_wp2_with fail
    refine (refOps_any w).mono ?_
    rintro e w1 ⟨⟨q, c, rfl, hst⟩, b1⟩
    obtain ⟨b, off, rfl, hbl, hcell⟩ := hst.out
    have c1 := hcell k hk
    go_wp2
    go_ret2
    exact ⟨rfl, b1⟩
  · obtain ⟨f1, f2⟩ := opN_none (n := n) (by omega)
    rw [f1, f2]
    by_cases hn : n < 2
    · go_enter Tryd.func12, Tryd.ntmps12
      go_wp2_with fail
      refine (refOps_any w).mono ?_
      rintro e w1 ⟨⟨q, c, rfl, hst⟩, b1⟩
      go_wp2
      go_ret2
      exact ⟨rfl, b1⟩
    · have hn2 : (16 : Int) ≤ n := by omega
      go_enter Tryd.func12, Tryd.ntmps12
      go_wp2_with fail
      refine (refOps_any w).mono ?_
      rintro e w1 ⟨⟨q, c, rfl, hst⟩, b1⟩
      go_wp2
      go_ret2
      exact ⟨rfl, b1⟩
end Go.Proofs.YtnpinbpjfngknaaDoor
