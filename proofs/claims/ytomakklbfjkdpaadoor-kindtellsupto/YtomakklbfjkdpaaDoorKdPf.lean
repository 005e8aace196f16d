/-
  Of parts the whole, plainly: what Of says of an operation, by what it says of its parts.
-/
import Derived.Test.YtomakklbfjkdpaaDoorKdOfB
namespace Go.Proofs.YtomakklbfjkdpaaDoor
open Go.RowKit Go.BigFrame
set_option linter.unusedVariables false

theorem apL_mem {x : List UInt8} : ∀ {l : List (List UInt8 × Int)}, (apL x l).2 = true → (x, (apL x l).1) ∈ l
  | [], h => by simp [apL] at h
  | o :: os, h => by
    rw [apL] at h ⊢
    split
    · rename_i he; subst he; exact List.mem_cons_self ..
    · rename_i he; rw [if_neg he] at h; exact List.mem_cons_of_mem _ (apL_mem h)
def ruleFits (o : List UInt8 × Int) : Bool := decide (o.2 < 1) || (match kdFind o.1 kdRules with | some r => decide ((kdCnt r : Int) = o.2) | none => false)
theorem rules_fit : ∀ o ∈ opsL, ruleFits o = true := by decide
theorem rule_of_op {x : List UInt8} (h : (apL x opsL).2 = true) (h1 : 1 ≤ (apL x opsL).1) : ∃ r, kdFind x kdRules = some r ∧ (kdCnt r : Int) = (apL x opsL).1 := by
  have hf := rules_fit _ (apL_mem h)
  rw [ruleFits] at hf
  simp only at hf
  have h2 : decide ((apL x opsL).1 < 1) = false := by simp; omega
  rw [h2, Bool.false_or] at hf
  split at hf
  · rename_i r hr
    exact ⟨r, hr, of_decide_eq_true hf⟩
  · exact absurd hf (by simp)
theorem rule_types : ∀ r ∈ kdRules, r.2.2.2.2 = -1 ∨ isTy r.2.2.2.2 = true := by decide
theorem ruleP_ty {x : List UInt8} {ts : List Int} (h : (ruleP x ts).2 = 0) : isTy (ruleP x ts).1 = true := by
  cases hf : kdFind x kdRules with
  | none => rw [ruleP_none hf] at h; exact absurd h (by decide)
  | some r =>
    cases ha : ts.all isTy with
    | false => rw [ruleP_bad hf ha] at h; exact absurd h (by decide)
    | true =>
      by_cases hl : ts.length = kdCnt r
      · rw [ruleP_rest hf ha hl] at h ⊢
        split at h
        · rename_i hk
          rw [if_pos hk]
          have hm := (kdFind_mem hf).1
          rw [kdMeant]
          rcases rule_types r hm with h1 | h1
          · rw [if_pos h1]
            obtain ⟨n, hn⟩ : ∃ n, ts.length = n + 1 := ⟨ts.length - 1, by have := (kdCnt_ok r hm).1; omega⟩
            rw [last_at hn]
            exact List.all_eq_true.1 ha _ (List.getElem_mem _)
          · split
            · rename_i h2; rw [h2] at h1; exact absurd h1 (by decide)
            · exact h1
        · exact absurd h (by decide)
      · rw [ruleP_len hf ha hl] at h; exact absurd h (by decide)
theorem ruleP_err {x : List UInt8} {ts : List Int} {r : KRule} (hf : kdFind x kdRules = some r) (ha : ts.all isTy = true) (hl : ts.length = kdCnt r) : (ruleP x ts).2 = 0 ∨ ruleP x ts = (0, 8) := by
  rw [ruleP_rest hf ha hl]
  split
  · exact .inl rfl
  · exact .inr rfl
theorem tyP_ty {zs : List (ByteArray × Int)} {y : Ex} (hn : nodeE y = 0) (hs : schE zs = 0) (h : (tyP zs y).2.1 = 0) : isTy (tyP zs y).1 = true := by
  cases y with
  | node op nm vt vn vs pos l =>
    by_cases h1 : op.data.toList = [118, 97, 108]
    · have hv : ckV vt vn vs.data.toList = 0 := (node_ok hn).2.2 (by show (op.toList == [118, 97, 108]) = true; rw [Lib.toList_data]; simpa using h1)
      rw [tyP, if_pos h1]
      rw [ckV] at hv
      split at hv
      · rename_i h2; exact absurd hv h2
      · rename_i h2
        have h3 : chk vt vn vs.data.toList = 0 := by simpa using h2
        rw [chk] at h3
        split at h3
        · exact absurd h3 (by decide)
        · rename_i h4
          rw [isTy]
          simp at h4 ⊢
          omega
    · by_cases h2 : op.data.toList = [99, 111, 108]
      · rw [tyP, if_neg h1, if_pos h2] at h ⊢
        split at h
        · exact absurd (show (5 : Int) = 0 from h) (by decide)
        · rename_i h3
          rw [if_neg h3]
          rcases findN_cases nm.data.toList zs with ⟨hh, _⟩ | ⟨k, hk, hkl, _⟩
          · exact absurd hh h3
          · have := (schE_zero hs).2.2 k hkl
            rw [hk]
            simp [hkl, isTy]
            omega
      · rw [tyP_op h1 h2] at h ⊢
        split at h
        · rename_i h3; exact absurd h h3
        · rename_i h3
          rw [if_neg h3]
          split at h
          · rename_i h4; exact absurd h h4
          · rename_i h4
            rw [if_neg h4]
            exact ruleP_ty (by simpa using h4)
/-- An operation with parts is no value and no column. -/
theorem op_parts {x : Ex} (h : ckP x = 0) (hl : x.args.length ≠ 0) : x.op.data.toList ≠ [118, 97, 108] ∧ x.op.data.toList ≠ [99, 111, 108] ∧ ∃ r, kdFind x.op.data.toList kdRules = some r ∧ kdCnt r = x.args.length := by
  have hn := (ckP_zero h).2 (x, 1) (by rw [pre_eq]; exact List.mem_cons_self ..)
  obtain ⟨h1, h2, _⟩ := node_ok hn
  simp only at h1 h2
  refine ⟨fun e => ?_, fun e => ?_, ?_⟩
  · rw [e] at h2; have : (apL [118, 97, 108] opsL).1 = 0 := by decide
    omega
  · rw [e] at h2; have : (apL [99, 111, 108] opsL).1 = 0 := by decide
    omega
  · obtain ⟨r, hr, hc⟩ := rule_of_op h1 (by omega)
    exact ⟨r, hr, by omega⟩
end Go.Proofs.YtomakklbfjkdpaaDoor
