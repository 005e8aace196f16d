/-
  The document's ReadSchema, part by part: as a reading that cuts at the first comma, and keeps at most seven columns, has it.
-/
import Derived.Test.YtggabncpedcmdaaGreatDoorRefRow7
namespace Go.Proofs.YtggabncpedcmdaaGreatDoor
open Go.RowKit
set_option linter.unusedVariables false

theorem pieces_cut (c : UInt8) : ∀ (l : List UInt8), pieces c l = if (cut1 c l).2.2 = true then (cut1 c l).1 :: pieces c (cut1 c l).2.1 else [(cut1 c l).1]
  | [] => rfl
  | x :: l => by
    have ih := pieces_cut c l
    rw [pieces, cut1]
    by_cases h : x = c
    · rw [if_pos h, if_pos h]; simp
    · rw [if_neg h, if_neg h, ih]
      simp only
      by_cases hm : (cut1 c l).2.2 = true
      · rw [if_pos hm, if_pos hm]; rfl
      · rw [if_neg hm, if_neg hm]; rfl
theorem word_blank {l : List UInt8} (h : typeOfW l ≠ 0) : (cut1 32 l).2.2 = false := by
  rw [typeOfW] at h
  by_cases h1 : l = [105, 110, 116]
  · rw [h1]; decide
  · rw [if_neg h1] at h
    by_cases h2 : l = [98, 111, 111, 108]
    · rw [h2]; decide
    · rw [if_neg h2] at h
      by_cases h3 : l = [116, 101, 120, 116]
      · rw [h3]; decide
      · rw [if_neg h3] at h; exact absurd rfl h
theorem colRf_eq (l : List UInt8) : colRf l = if typeOfW (cut1 32 l).2.1 = 0 ∨ nameB (cut1 32 l).1 = false then none else some ((cut1 32 l).1, typeOfW (cut1 32 l).2.1) := by
  rw [colRf, pieces_cut 32 l]
  obtain ⟨s1, s2⟩ := cut1_split 32 l
  cases hm : (cut1 32 l).2.2 with
  | false =>
    rw [if_neg (by decide), (s2 hm).2, if_pos (Or.inl (by decide))]
  | true =>
    rw [if_pos rfl, pieces_cut 32 (cut1 32 l).2.1]
    cases hm2 : (cut1 32 (cut1 32 l).2.1).2.2 with
    | false =>
      obtain ⟨_, t2⟩ := cut1_split 32 (cut1 32 l).2.1
      rw [if_neg (by decide), ← (t2 hm2).1]
    | true =>
      rw [if_pos rfl]
      have ht : typeOfW (cut1 32 l).2.1 = 0 := Classical.byContradiction fun h => by
        have := word_blank h
        rw [hm2] at this; cases this
      rw [if_pos (Or.inl ht)]
      cases h3 : pieces 32 (cut1 32 (cut1 32 l).2.1).2.1 with
      | nil => exact absurd h3 (pieces_ne _ _)
      | cons a r => rfl
theorem sdEnd_full {cs : List (ByteArray × Int)} (h : 6 < cs.length) : sdEnd (cs, 0) = ([], 4) := by
  have : schE cs = 4 := by rw [schE, if_neg (by omega), if_pos h]
  rw [sdEnd, if_neg (by simp), this]; rfl
/-- Both ways of counting come to the same. -/
theorem sf_sd : ∀ (f : Nat) (l : List UInt8) (cs cD : List (ByteArray × Int)), l.length < f → (cs.length ≤ 6 → cD = cs) → (6 < cs.length → 6 < cD.length) → sfGo (pieces 44 l) cs = sdEnd (sdGo f l cD)
  | 0, _, _, _, h, _, _ => absurd h (by omega)
  | f + 1, l, cs, cD, hf, h1, h2 => by
    have hsplit := cut1_split 44 l
    have key : ∀ (m : Bool), (cut1 44 l).2.2 = m → sfGo (pieces 44 l) cs = match colRf (cut1 44 l).1 with
        | none => ([], 2)
        | some (nm, t) => if m = true then sfGo (pieces 44 (cut1 44 l).2.1) (cs ++ [(⟨nm.toArray⟩, t)]) else sdEnd (cs ++ [(⟨nm.toArray⟩, t)], 0) := fun m hm => by
      rw [pieces_cut 44 l, hm]
      cases m
      · rw [if_neg (by decide), sfGo]
        cases colRf (cut1 44 l).1 with
        | none => rfl
        | some q => simp [sfGo]
      · rw [if_pos rfl, sfGo]
        cases colRf (cut1 44 l).1 with
        | none => rfl
        | some q => simp
    rw [key _ rfl, colRf_eq, sdGo, colRd]
    by_cases hb : typeOfW (cut1 32 (cut1 44 l).1).2.1 = 0 ∨ nameB (cut1 32 (cut1 44 l).1).1 = false
    · rw [if_pos hb, if_pos hb]
      simp [sdEnd]
    · rw [if_neg hb, if_neg hb]
      simp only [ne_eq, not_true_eq_false, if_false]
      generalize (⟨(cut1 32 (cut1 44 l).1).1.toArray⟩ : ByteArray) = nm
      generalize typeOfW (cut1 32 (cut1 44 l).1).2.1 = t
      cases hm : (cut1 44 l).2.2 with
      | true =>
        rw [if_pos rfl, if_pos rfl]
        have hlt : (cut1 44 l).2.1.length < f := by
          have := congrArg List.length (hsplit.1 hm)
          rw [List.length_append, List.length_cons] at this
          omega
        refine sf_sd f _ _ _ hlt (fun h => ?_) (fun h => ?_)
        · rw [List.length_append, List.length_singleton] at h
          rw [h1 (by omega), if_pos (by omega)]
        · rw [List.length_append, List.length_singleton] at h
          by_cases h6 : cs.length ≤ 6
          · rw [h1 h6, if_pos h6, List.length_append, List.length_singleton]; omega
          · have := h2 (by omega)
            rw [if_neg (by omega)]; exact this
      | false =>
        rw [if_neg (by decide), if_neg (by decide)]
        by_cases h6 : cs.length ≤ 6
        · rw [h1 h6, if_pos h6]
        · have := h2 (by omega)
          rw [if_neg (by omega), sdEnd_full this, sdEnd_full (by rw [List.length_append, List.length_singleton]; omega)]
theorem sdRef_eq (s : ByteArray) : sdRef s = sdEnd (sdGo (s.size + 1) s.data.toList []) := by
  rw [sdRef]
  exact sf_sd _ _ _ _ (by simp) (fun _ => rfl) (fun h => by simp at h)
theorem sdRow_ref (s : ByteArray) : sdRow s = sdRef s := by rw [sdRow, sdRef_eq]
/-- ParseSchema says what the document's ReadSchema says. -/
theorem parse_says (t : ByteArray) (W : World) (ht : t.size ≤ 1099511627776) (hw : TW W) :
    Calls Tryz.prog 29 #[.string t] W fun e W' => (∃ v, e = .returned (.tuple #[v, errV (sdRef t).2]) ∧ IsCols W' v (sdRef t).1) ∧ Below W.heap.size W W' := by
  rw [← sdRow_ref]
  exact (rschema_any t W (by omega) hw).mono fun e w' ⟨⟨v, he, hown⟩, hb⟩ => ⟨⟨v, he, own_colsv hown sdRow_small⟩, hb⟩
end Go.Proofs.YtggabncpedcmdaaGreatDoor
