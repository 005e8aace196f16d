/-
  The program's reader of words (package tree): comparison.
-/
import Derived.Test.YtomakklbfjkdpaaDoorTreeR6
namespace Go.Proofs.YtomakklbfjkdpaaDoor
open Go.RowKit Go.BigFrame
set_option linter.unusedVariables false

theorem uCmp_none {sub : List Tok → Option Ex × List Tok} {ts : List Tok} (h : (sub ts).1 = none) : uCmp sub ts = (none, (sub ts).2) := by
  rw [uCmp]
  cases h3 : sub ts with
  | mk o r => rw [h3] at h; simp only at h; subst h; rfl
theorem uCmp_no {sub : List Tok → Option Ex × List Tok} {ts : List Tok} {a : Ex} (h : (sub ts).1 = some a) (hn : nxT (sgT cmpL) (sub ts).2 = none) : uCmp sub ts = (some a, (sub ts).2) := by
  rw [uCmp]
  cases h3 : sub ts with
  | mk o r => rw [h3] at h hn; simp only at h hn; subst h; simp only [hn]
theorem uCmp_yes {sub : List Tok → Option Ex × List Tok} {ts rs : List Tok} {a : Ex} {t : Tok} (h : (sub ts).1 = some a) (hn : nxT (sgT cmpL) (sub ts).2 = some (t, rs)) : uCmp sub ts = ((sub rs).1.map fun b => betT a t b, (sub rs).2) := by
  rw [uCmp]
  cases h3 : sub ts with
  | mk o r =>
    rw [h3] at h hn; simp only at h hn; subst h; simp only [hn]
    cases sub rs with
    | mk o r => cases o <;> rfl
theorem ex_zero (W : World) (lo : Nat → Prop) : ExIn W lo (.agg #[.string ⟨#[]⟩, .string ⟨#[]⟩, .int .i64 0, .int .i64 0, .string ⟨#[]⟩, .slice none 0 0, .int .i64 0]) ex0 := by
  rw [ex0]
  exact ex_leaf (by decide) (by decide) (by decide)
end Go.Proofs.YtomakklbfjkdpaaDoor
