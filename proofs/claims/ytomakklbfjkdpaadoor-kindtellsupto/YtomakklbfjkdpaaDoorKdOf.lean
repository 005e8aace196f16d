/-
  Of of package kind, at any expression of at most 1048576 nodes and any columns.
-/
import Derived.Test.YtomakklbfjkdpaaDoorKdTy
namespace Go.Proofs.YtomakklbfjkdpaaDoor
open Go.RowKit Go.BigFrame
set_option linter.unusedVariables false

theorem fold_ck : ∀ (l : List (Ex × Nat)) (s : Int), s = 0 → (foldP fck s l).1 = 0 → ∀ q ∈ l, nodeE q.1 = 0
  | [], _, _, _, q, hq => absurd hq (by simp)
  | p :: r, s, hs, h, q, hq => by
    rw [foldP] at h
    by_cases h0 : nodeE p.1 = 0
    · have h1 : (fck s p.1 p.2).2 = true := by rw [fck]; simpa using h0
      rw [if_pos h1] at h
      rcases List.mem_cons.1 hq with rfl | hq
      · exact h0
      · exact fold_ck r _ (by rw [fck]; exact h0) h q hq
    · have h1 : ¬ (fck s p.1 p.2).2 = true := by rw [fck]; simpa using h0
      rw [if_neg h1] at h
      exact absurd h h0
theorem fold_ck' : ∀ (l : List (Ex × Nat)) (s : Int), s = 0 → (∀ q ∈ l, nodeE q.1 = 0) → (foldP fck s l).1 = 0
  | [], s, hs, _ => hs
  | p :: r, s, hs, h => by
    have h0 := h p (List.mem_cons_self ..)
    have h1 : (fck s p.1 p.2).2 = true := by rw [fck]; simpa using h0
    rw [foldP, if_pos h1]
    exact fold_ck' r _ (by rw [fck]; exact h0) fun q hq => h q (List.mem_cons_of_mem _ hq)
theorem fold_tg : ∀ (l : List (Ex × Nat)) (s : Nat), (foldP ftg s l).2 = true ↔ (l = [] ∨ s + l.length ≤ 200) ∧ ∀ q ∈ l, q.2 ≤ 30
  | [], s => by simp [foldP]
  | p :: r, s => by
    rw [foldP]
    by_cases h : (ftg s p.1 p.2).2 = true
    · rw [if_pos h, fold_tg r]
      rw [ftg] at h ⊢
      simp at h ⊢
      constructor
      · rintro ⟨h1, h2⟩
        refine ⟨?_, h.2, h2⟩
        rcases h1 with rfl | h1
        · simp; omega
        · omega
      · rintro ⟨h1, h2, h3⟩
        exact ⟨.inr (by omega), h3⟩
    · rw [if_neg h]
      rw [ftg] at h
      simp at h ⊢
      intro h1 h2
      have := h (by omega)
      omega
theorem pre_shift : ∀ (x : Ex) (d : Nat), x.pre (d + 1) = (x.pre d).map fun q => (q.1, q.2 + 1) := by
  refine Ex.ind fun op nm vt vn vs pos l ih d => ?_
  rw [Ex.pre, Ex.pre, List.map_cons]
  congr 1
  induction l with
  | nil => rfl
  | cons y ys ihl =>
    rw [Ex.pres, Ex.pres, List.map_append, ih y (List.mem_cons_self ..) (d + 1), ihl fun z hz => ih z (List.mem_cons_of_mem _ hz)]
theorem pres_len {d : Nat} {y : Ex} : ∀ {l : List Ex}, y ∈ l → (y.pre d).length ≤ (Ex.pres d l).length
  | [], h => absurd h (by simp)
  | x :: xs, h => by
    rw [Ex.pres, List.length_append]
    rcases List.mem_cons.1 h with rfl | h
    · omega
    · have := pres_len (d := d) h; omega
theorem ckP_zero {x : Ex} (h : ckP x = 0) : tgB x = false ∧ ∀ q ∈ x.pre 1, nodeE q.1 = 0 := by
  rw [ckP] at h
  cases ht : tgB x
  · rw [ht, if_neg (by simp)] at h
    exact ⟨rfl, fold_ck _ 0 rfl h⟩
  · rw [ht, if_pos rfl] at h
    exact absurd h (by decide)
/-- A part of what is right is right. -/
theorem ckP_part {x y : Ex} (h : ckP x = 0) (hy : y ∈ x.args) : ckP y = 0 := by
  obtain ⟨h1, h2⟩ := ckP_zero h
  have hsub : ∀ q ∈ y.pre 2, q ∈ x.pre 1 := fun q hq => by rw [pre_eq]; exact List.mem_cons_of_mem _ (pres_mem hy q hq)
  have hlen : (y.pre 2).length ≤ (x.pre 1).length := by rw [pre_eq 1 x, List.length_cons]; have h := pres_len (d := 1 + 1) hy; exact Nat.le_succ_of_le h
  have hs := pre_shift y 1
  have hin : ∀ q ∈ y.pre 1, ((q.1, q.2 + 1) : Ex × Nat) ∈ x.pre 1 := fun q hq => hsub _ (by rw [hs]; exact List.mem_map.2 ⟨q, hq, rfl⟩)
  have ht : (foldP ftg 0 (x.pre 1)).2 = true := by rw [tgB] at h1; simpa using h1
  obtain ⟨g1, g2⟩ := (fold_tg _ 0).1 ht
  have hty : tgB y = false := by
    rw [tgB, (fold_tg (y.pre 1) 0).2 ⟨?_, fun q hq => by have := g2 _ (hin q hq); simp at this; omega⟩]
    · rfl
    · right
      have e1 : (y.pre 1).length = (y.pre 2).length := by rw [hs]; simp
      rcases g1 with g1 | g1
      · rw [pre_eq] at g1; simp at g1
      · omega
  rw [ckP, hty, if_neg (by simp)]
  exact fold_ck' (y.pre 1) 0 rfl (fun q hq => h2 (q.1, q.2 + 1) (hin q hq))
theorem apL_le (x : List UInt8) : (apL x opsL).2 = true → (apL x opsL).1 ≤ 3 ∧ 0 ≤ (apL x opsL).1 := by
  have h : ∀ l : List (List UInt8 × Int), (∀ o ∈ l, o.2 ≤ 3 ∧ 0 ≤ o.2) → (apL x l).2 = true → (apL x l).1 ≤ 3 ∧ 0 ≤ (apL x l).1 := fun l => by
    induction l with
    | nil => intro _ h; simp [apL] at h
    | cons o os ih =>
      intro ho
      rw [apL]
      split
      · exact fun _ => ho o (List.mem_cons_self ..)
      · exact ih fun q hq => ho q (List.mem_cons_of_mem _ hq)
  exact h opsL (by decide)
theorem node_ok {x : Ex} (h : nodeE x = 0) : (apL x.op.data.toList opsL).2 = true ∧ (x.args.length : Int) = (apL x.op.data.toList opsL).1 ∧ ((x.op.toList == [118, 97, 108]) = true → ckV x.vt x.vn x.vs.data.toList = 0) := by
  rw [nodeE, nodeB] at h
  split at h
  · exact absurd h (by decide)
  · rename_i h1
    split at h
    · exact absurd h (by decide)
    · rename_i h2
      simp at h1 h2
      refine ⟨h1.1, ?_, fun hv => ?_⟩
      · have := h2.1
        simpa using this
      · rwa [if_pos hv] at h
theorem ck_small {x : Ex} (h : ckP x = 0) : ∀ q ∈ x.pre 1, q.1.args.length ≤ 3 := fun q hq => by
  obtain ⟨h1, h2, _⟩ := node_ok ((ckP_zero h).2 q hq)
  have := apL_le _ h1
  omega
end Go.Proofs.YtomakklbfjkdpaaDoor
