/-
  The walk of sluicelaw4.KindParts, for every Op, expressions and columns.
-/
import Derived.Test.YtomakklbfjkdpaaDoorKdPf
namespace Go.Proofs.YtomakklbfjkdpaaDoor
open Go.RowKit Go.BigFrame
set_option linter.unusedVariables false

theorem of_one : ofP [(⟨#[120]⟩, 3)] (.node ⟨#[99, 111, 108]⟩ ⟨#[120]⟩ 0 0 ⟨#[]⟩ 0 [] : Ex) = (3, 0, 0) := by kernel_rfl
theorem ofP_parts {zs : List (ByteArray × Int)} {y : Ex} (h : ckP y = 0) : ofP zs y = if schE zs ≠ 0 then (0, schE zs, 0) else tyP zs y := by rw [ofP, if_neg (fun hh => hh h)]
/-- Where a part is wrong the whole is so, if all ahead of it are right. -/
theorem of_bad {zs : List (ByteArray × Int)} {op : ByteArray} {l : List Ex} {acc : List Int} {k : Nat} {t h pp : Int} (hck : ckP (.node op ⟨#[]⟩ 0 0 ⟨#[]⟩ 7 l : Ex) = 0) (hk : k < l.length) (hg : k = 0 ∨ schE zs = 0) (hgo : tyGo zs acc (l.drop k) = tysP zs l) (hy : ofP zs l[k] = (t, h, pp)) (hh : h ≠ 0) : ofP zs (.node op ⟨#[]⟩ 0 0 ⟨#[]⟩ 7 l : Ex) = (0, h, pp) ∧ t = 0 := by
  have hp : ckP l[k] = 0 := ckP_part hck (List.getElem_mem hk)
  rw [ofP_parts hp] at hy
  rw [ofP_parts hck]
  by_cases hs : schE zs = 0
  · rw [if_neg (fun h => h hs)] at hy ⊢
    obtain ⟨o1, o2, _⟩ := op_parts hck (by show l.length ≠ 0; omega)
    have o1 : op.data.toList ≠ [118, 97, 108] := o1
    have o2 : op.data.toList ≠ [99, 111, 108] := o2
    have hb := tyGo_bad (zs := zs) (acc := acc) hk (by rw [hy]; exact hh)
    rw [hgo, hy] at hb
    rw [tyP_op o1 o2, hb]
    simp only
    rw [if_pos hh]
    refine ⟨rfl, ?_⟩
    have hz : ∀ y : Ex, (tyP zs y).2.1 ≠ 0 → (tyP zs y).1 = 0 := fun y h => by
      cases y with
      | node o n' a b c' d' e' =>
        rw [tyP] at h ⊢
        repeat' split
        all_goals first | rfl | (exfalso; revert h; simp_all)
    have := hz l[k] (by rw [hy]; exact hh)
    rw [hy] at this
    exact this
  · rw [if_pos hs] at hy ⊢
    simp only [Prod.mk.injEq] at hy
    obtain ⟨rfl, rfl, rfl⟩ := hy
    exact ⟨rfl, rfl⟩
theorem of_ok {zs : List (ByteArray × Int)} {op : ByteArray} {l : List Ex} {k : Nat} {t pp : Int} (hck : ckP (.node op ⟨#[]⟩ 0 0 ⟨#[]⟩ 7 l : Ex) = 0) (hk : k < l.length) (hy : ofP zs l[k] = (t, 0, pp)) : schE zs = 0 ∧ tyP zs l[k] = (t, 0, pp) ∧ isTy t = true := by
  have hp : ckP l[k] = 0 := ckP_part hck (List.getElem_mem hk)
  rw [ofP_parts hp] at hy
  by_cases hs : schE zs = 0
  · rw [if_neg (fun h => h hs)] at hy
    have hn := (ckP_zero hp).2 (l[k], 1) (by rw [pre_eq]; exact List.mem_cons_self ..)
    have := tyP_ty (zs := zs) hn hs (by rw [hy])
    rw [hy] at this
    exact ⟨hs, hy, this⟩
  · rw [if_pos hs] at hy
    simp only [Prod.mk.injEq] at hy
    exact absurd hy.2.1 hs
theorem of_whole {zs : List (ByteArray × Int)} {op : ByteArray} {l : List Ex} {acc : List Int} {RT RE : Int} (hck : ckP (.node op ⟨#[]⟩ 0 0 ⟨#[]⟩ 7 l : Ex) = 0) (hl : l.length ≠ 0) (hs : schE zs = 0) (hgo : tysP zs l = (acc, 0, 0)) (hty : acc.all isTy = true) (hlen : acc.length = l.length) (hr : ruleP op.data.toList acc = (RT, RE)) : (RE = 0 ∧ ofP zs (.node op ⟨#[]⟩ 0 0 ⟨#[]⟩ 7 l : Ex) = (RT, 0, 0)) ∨ (RE = 8 ∧ ofP zs (.node op ⟨#[]⟩ 0 0 ⟨#[]⟩ 7 l : Ex) = (0, 8, 7)) := by
  obtain ⟨o1, o2, r, hf, hc⟩ := op_parts hck hl
  have o1 : op.data.toList ≠ [118, 97, 108] := o1
  have o2 : op.data.toList ≠ [99, 111, 108] := o2
  have hf : kdFind op.data.toList kdRules = some r := hf
  have hc : kdCnt r = l.length := hc
  rw [ofP_parts hck, if_neg (fun h => h hs), tyP_op o1 o2, hgo]
  simp only
  rw [if_neg (by simp), hr]
  simp only
  rcases ruleP_err hf hty (by rw [hlen, hc]) with h | h
  · rw [hr] at h
    have h : RE = 0 := h
    exact .inl ⟨h, by rw [if_neg (by simp [h])]⟩
  · rw [hr] at h
    obtain ⟨rfl, rfl⟩ := Prod.mk.inj h
    exact .inr ⟨rfl, by rw [if_pos (by decide)]⟩
end Go.Proofs.YtomakklbfjkdpaaDoor
