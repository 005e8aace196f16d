/-
  Rule of package kind, at any Op and any numbers.
-/
import Derived.Test.YtkoejkpjkcejcaaGreatDoorGrAm
namespace Go.Proofs.YtkoejkpjkcejcaaGreatDoor
open Go.RowKit Go.BigFrame
set_option linter.unusedVariables false

theorem kdFind_mem {x : List UInt8} {r : KRule} : ∀ {l : List KRule}, kdFind x l = some r → r ∈ l ∧ r.1 = x
  | [], h => by simp [kdFind] at h
  | q :: l, h => by
    rw [kdFind] at h
    split at h
    · rename_i hq
      obtain rfl := Option.some.inj h
      exact ⟨List.mem_cons_self .., hq⟩
    · have := kdFind_mem h
      exact ⟨List.mem_cons_of_mem _ this.1, this.2⟩
theorem kdCnt_ok : ∀ r ∈ kdRules, 1 ≤ kdCnt r ∧ kdCnt r ≤ 3 := by decide
theorem ruleP_none {x : List UInt8} {ts : List Int} (h : kdFind x kdRules = none) : ruleP x ts = (0, 1) := by rw [ruleP, h]
theorem ruleP_bad {x : List UInt8} {ts : List Int} {r : KRule} (h : kdFind x kdRules = some r) (h2 : ts.all isTy = false) : ruleP x ts = (0, 1) := by
  rw [ruleP, h]; simp only; rw [if_pos h2]
theorem ruleP_len {x : List UInt8} {ts : List Int} {r : KRule} (h : kdFind x kdRules = some r) (h2 : ts.all isTy = true) (h3 : ts.length ≠ kdCnt r) : ruleP x ts = (0, 3) := by
  rw [ruleP, h]; simp only; rw [if_neg (by simp [h2]), if_pos h3]
theorem ruleP_rest {x : List UInt8} {ts : List Int} {r : KRule} (h : kdFind x kdRules = some r) (h2 : ts.all isTy = true) (h3 : ts.length = kdCnt r) : ruleP x ts = if kdAll (ts.getLast?.getD 0) ts [r.2.1, r.2.2.1, r.2.2.2.1] = true then (kdMeant (ts.getLast?.getD 0) r.2.2.2.2, 0) else (0, 8) := by
  rw [ruleP, h]; simp only; rw [if_neg (by simp [h2]), if_neg (by simpa using h3)]
theorem kdAll_step {last : Int} {ts l : List Int} {k : Nat} (h : k < ts.length) (h2 : k < l.length) : kdAll last (ts.drop k) (l.drop k) = (decide (ts[k] = kdMeant last l[k]) && kdAll last (ts.drop (k + 1)) (l.drop (k + 1))) := by
  rw [List.drop_eq_getElem_cons h, List.drop_eq_getElem_cons h2, kdAll]
theorem kdAll_end {last : Int} {ts l : List Int} {k : Nat} (h : ts.length ≤ k) : kdAll last (ts.drop k) (l.drop k) = true := by
  rw [List.drop_eq_nil_of_le h, kdAll]
theorem last_at {ts : List Int} {n : Nat} (h : ts.length = n + 1) : ts.getLast?.getD 0 = ts[n]'(by omega) := by
  rw [List.getLast?_eq_getElem?, show ts.length - 1 = n by omega, List.getElem?_eq_getElem (by omega)]; rfl
theorem arg_at (a0 a1 a2 : Int) : ∀ k, (h : k < 3) → ∀ (W : World) (b : Nat) (S : ByteArray) (ty : Int), (∀ i, W.cell? ⟨b, i, none⟩ = (#[.string S, .int .i64 a0, .int .i64 a1, .int .i64 a2, .int .i64 ty] : Array Value)[i]?) → W.cell? ⟨b, 1 + k, none⟩ = some (.int .i64 ([a0, a1, a2][k]'h))
  | 0, _, _, _, _, _, h => h 1
  | 1, _, _, _, _, _, h => h 2
  | 2, _, _, _, _, _, h => h 3
  | k + 3, h, _, _, _, _, _ => absurd h (by omega)
end Go.Proofs.YtkoejkpjkcejcaaGreatDoor
