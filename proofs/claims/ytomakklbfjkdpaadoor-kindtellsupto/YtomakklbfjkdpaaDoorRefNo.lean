/-
  The document's nodes and Check (package sluiceref1): what is wrong with an expression.
-/
import Derived.Test.YtomakklbfjkdpaaDoorRefNd
import Derived.Test.YtomakklbfjkdpaaDoorTreeNm
import Derived.Test.YtomakklbfjkdpaaDoorRef1
import Derived.Test.YtomakklbfjkdpaaDoorEvFn
namespace Go.Proofs.YtomakklbfjkdpaaDoor
open Go.RowKit Go.BigFrame
set_option linter.unusedVariables false

mutual
/-- The first node that is wrong. -/
def ndE : Ex → Int
  | .node op nm vt vn vs pos l => if nodeE (.node op nm vt vn vs pos l) ≠ 0 then nodeE (.node op nm vt vn vs pos l) else ndsE l
def ndsE : List Ex → Int
  | [] => 0
  | x :: xs => if ndE x ≠ 0 then ndE x else ndsE xs
end
theorem fold_app (s : Int) (hs : s = 0) : ∀ (l m : List (Ex × Nat)), (foldP fck s (l ++ m)).1 = if (foldP fck s l).1 ≠ 0 then (foldP fck s l).1 else (foldP fck s m).1
  | [], m => by rw [List.nil_append, foldP]; simp [hs]
  | q :: r, m => by
    rw [List.cons_append, foldP, foldP]
    by_cases h : nodeE q.1 = 0
    · have h2 : (fck s q.1 q.2).2 = true := by simp [fck, h]
      rw [if_pos h2, if_pos h2]
      have h3 : (fck s q.1 q.2).1 = s := by rw [hs]; exact h
      rw [h3]
      exact fold_app s hs r m
    · have h2 : ¬ (fck s q.1 q.2).2 = true := by simp [fck, h]
      rw [if_neg h2, if_neg h2]
      have h3 : (fck s q.1 q.2).1 ≠ 0 := h
      simp only
      rw [if_pos h3]
theorem fold_nd : ∀ (x : Ex) (d : Nat), (foldP fck 0 (x.pre d)).1 = ndE x := by
  refine Ex.ind fun op nm vt vn vs pos l ih d => ?_
  have key : ∀ l : List Ex, (∀ y ∈ l, ∀ d, (foldP fck 0 (y.pre d)).1 = ndE y) → (foldP fck 0 (Ex.pres (d + 1) l)).1 = ndsE l := fun l => by
    induction l with
    | nil => intro _; rw [Ex.pres, ndsE, foldP]
    | cons y ys ihl =>
      intro h
      rw [Ex.pres, ndsE, fold_app 0 rfl, h y (by simp), ihl fun z hz => h z (by simp [hz])]
  rw [Ex.pre, ndE, foldP]
  by_cases h : nodeE (.node op nm vt vn vs pos l) = 0
  · have h2 : (fck 0 (.node op nm vt vn vs pos l) d).2 = true := by simp [fck, h]
    rw [if_pos h2, if_neg (fun hh => hh h)]
    have h3 : (fck 0 (.node op nm vt vn vs pos l) d).1 = 0 := h
    rw [h3]
    exact key l ih
  · have h2 : ¬ (fck 0 (.node op nm vt vn vs pos l) d).2 = true := by simp [fck, h]
    rw [if_neg h2, if_pos h]
    rfl
theorem ckP_nd (x : Ex) : ckP x = if x.small = false then 4 else ndE x := by
  rw [ckP, tg_small, fold_nd]
  cases x.small <;> simp
/-- What is wrong with a node, by the document's Arity. -/
theorem node_ar (x : Ex) : nodeE x = nodeB (decide (0 ≤ arityT x.op.data.toList)) (x.op.toList == [99, 111, 108]) (nameT x.nm.data.toList) ((x.args.length : Int) != arityT x.op.data.toList) (!(x.nm.toList == [])) (x.op.toList == [118, 97, 108]) (!((x.vt == 0) && ((x.vn == 0) && (x.vs.toList == [])))) (ckV x.vt x.vn x.vs.data.toList) := by
  obtain ⟨h1, h2⟩ := arity_ops x.op.data.toList
  rw [nodeE, h1]
  by_cases h : 0 ≤ arityT x.op.data.toList
  · rw [h2 h]
  · rw [decide_eq_false h]
    simp [nodeB]
end Go.Proofs.YtomakklbfjkdpaaDoor
