/-
  The program's reader of words (package tree): an expression of any words.
-/
import Derived.Test.YtkoejkpjkcejcaaGreatDoorGrAh
namespace Go.Proofs.YtkoejkpjkcejcaaGreatDoor
open Go.RowKit Go.BigFrame
set_option linter.unusedVariables false

theorem reads_all : ∀ (f : Nat) (ts : List Tok), Fit ts →
    (ts.length * 8 + 7 < f → Reads 22 (uE f 0) ts) ∧
    (ts.length * 8 + 6 < f → Reads 46 (uE f 1) ts) ∧
    (ts.length * 8 + 5 < f → Reads 71 (uE f 2) ts) ∧
    (ts.length * 8 + 4 < f → Reads 98 (uE f 3) ts) ∧
    (ts.length * 8 + 3 < f → Reads 116 (uE f 4) ts) ∧
    (ts.length * 8 + 2 < f → Reads 130 (uE f 5) ts) ∧
    (ts.length * 8 + 1 < f → Reads 147 (uE f 6) ts) ∧
    (ts.length * 8 < f → Reads 160 (uE f 7) ts)
  | 0, ts, hg => ⟨fun h => absurd h (by omega), fun h => absurd h (by omega), fun h => absurd h (by omega), fun h => absurd h (by omega), fun h => absurd h (by omega), fun h => absurd h (by omega), fun h => absurd h (by omega), fun h => absurd h (by omega)⟩
  | f + 1, ts, hg => by
    have ih := fun ts' (hs : ts' <:+ ts) => reads_all f ts' (hg.suf hs)
    have e0 : uE (f + 1) 0 = uSev (uE f 1) [[111, 114]] := funext fun ts => by rw [uE]
    have e1 : uE (f + 1) 1 = uSev (uE f 2) [[97, 110, 100]] := funext fun ts => by rw [uE]
    have e2 : uE (f + 1) 2 = uAhead [110, 111, 116] [[110, 111, 116]] (uE f 2) (uE f 3) := funext fun ts => by rw [uE]
    have e3 : uE (f + 1) 3 = uCmp (uE f 4) := funext fun ts => by rw [uE]
    have e4 : uE (f + 1) 4 = uSev (uE f 5) [[43], [45]] := funext fun ts => by rw [uE]
    have e5 : uE (f + 1) 5 = uSev (uE f 6) [[42], [47], [37]] := funext fun ts => by rw [uE]
    have e6 : uE (f + 1) 6 = uAhead [110, 101, 103] [[45]] (uE f 6) (uE f 7) := funext fun ts => by rw [uE]
    have e7 : uE (f + 1) 7 = uOne (uE f 0) := funext fun ts => by rw [uE] <;> simp
    rw [e0, e1, e2, e3, e4, e5, e6, e7]
    refine ⟨fun h => ?_, fun h => ?_, fun h => ?_, fun h => ?_, fun h => ?_, fun h => ?_, fun h => ?_, fun h => ?_⟩
    · exact expression_any _ ts (uE_suf f 1) hg fun ts' hs => (ih ts' hs).2.1 (by have := hs.length_le; omega)
    · exact conjunction_any _ ts (uE_suf f 2) hg fun ts' hs => (ih ts' hs).2.2.1 (by have := hs.length_le; omega)
    · exact denial_any _ _ ts hg (fun t rs e => (ih rs (by rw [e]; exact List.suffix_cons t rs)).2.2.1 (by rw [e, List.length_cons] at h; omega)) ((ih ts List.suffix_rfl).2.2.2.1 (by omega))
    · exact comparison_any _ ts (uE_suf f 4) hg fun ts' hs => (ih ts' hs).2.2.2.2.1 (by have := hs.length_le; omega)
    · exact sum_any _ ts (uE_suf f 5) hg fun ts' hs => (ih ts' hs).2.2.2.2.2.1 (by have := hs.length_le; omega)
    · exact product_any _ ts (uE_suf f 6) hg fun ts' hs => (ih ts' hs).2.2.2.2.2.2.1 (by have := hs.length_le; omega)
    · exact negation_any _ _ ts hg (fun t rs e => (ih rs (by rw [e]; exact List.suffix_cons t rs)).2.2.2.2.2.2.1 (by rw [e, List.length_cons] at h; omega)) ((ih ts List.suffix_rfl).2.2.2.2.2.2.2 (by omega))
    · exact operand_any _ ts (uE_suf f 0) hg fun ts' hs hl => (ih ts' hs).1 (by omega)
theorem expression_reads (ts : List Tok) (hg : Fit ts) : Reads 22 (uE (ts.length * 8 + 8) 0) ts := (reads_all _ ts hg).1 (by omega)
end Go.Proofs.YtkoejkpjkcejcaaGreatDoor
