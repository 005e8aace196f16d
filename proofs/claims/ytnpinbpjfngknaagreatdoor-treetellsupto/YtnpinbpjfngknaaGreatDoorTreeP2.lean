/-
  Plain facts on the document's reading of words as an expression: the next word never falls back, and is at most behind the last.
-/
import Derived.Test.YtnpinbpjfngknaaGreatDoorLo2
namespace Go.Proofs.YtnpinbpjfngknaaGreatDoor
open Go.RowKit
set_option linter.unusedVariables false
--BEGIN
theorem isT_lt {ts : List Tok} {st : St} {s : List UInt8} (h : isT ts st s = true) : st.i < ts.length ∧ st.bad < 0 := by
  rw [isT, Bool.and_eq_true, decide_eq_true_eq] at h
  refine ⟨?_, h.1⟩
  rcases Nat.lt_or_ge st.i ts.length with h' | h'
  · exact h'
  · rw [List.getElem?_eq_none h'] at h
    exact absurd h.2 (by simp)
theorem failT_i (ts : List Tok) (en : Nat) (st : St) : (failT ts en st).i = st.i := by
  rw [failT]; split <;> rfl
theorem needT_i {ts : List Tok} (en : Nat) {st : St} (s : List UInt8) (h : st.i ≤ ts.length) : st.i ≤ (needT ts en st s).i ∧ (needT ts en st s).i ≤ ts.length := by
  rw [needT]
  split
  · rename_i h1
    have := isT_lt h1
    simp only [adv]; omega
  · rw [failT_i]; omega
theorem takeT_i {ts : List Tok} (en : Nat) {st : St} (h : st.i ≤ ts.length) : st.i ≤ (takeT ts en st).2.i ∧ (takeT ts en st).2.i ≤ ts.length := by
  rw [takeT]
  split
  · cases ht : ts[st.i]? with
    | none => simp only; rw [failT_i]; omega
    | some t =>
      have hlt := (List.getElem?_eq_some_iff.1 ht).1
      simp only
      split
      · simp only [adv]; omega
      · simp only; rw [failT_i]; omega
  · exact ⟨Nat.le_refl _, h⟩
/-- It never falls back, and is at most behind the last. -/
def Mono (ts : List Tok) (sub : St → Ex × St) : Prop := ∀ st, st.i ≤ ts.length → st.i ≤ (sub st).2.i ∧ (sub st).2.i ≤ ts.length
theorem firstT_is {ts : List Tok} {st : St} : ∀ {gs : List (List UInt8)} {g : List UInt8}, firstT ts st gs = some g → g ∈ gs ∧ isT ts st g = true
  | [], g, h => by simp [firstT] at h
  | a :: gs, g, h => by
    rw [firstT] at h
    split at h
    · rename_i h1
      cases h
      exact ⟨List.mem_cons_self, h1⟩
    · obtain ⟨h2, h3⟩ := firstT_is h
      exact ⟨List.mem_cons_of_mem _ h2, h3⟩
theorem pLoop_i {ts : List Tok} {en : Nat} {sub : St → Ex × St} (hs : Mono ts sub) (lv : Nat) : ∀ (k : Nat) (e : Ex) (st : St), st.i ≤ ts.length → st.i ≤ (pLoop ts en sub lv k e st).2.i ∧ (pLoop ts en sub lv k e st).2.i ≤ ts.length
  | 0, e, st, h => ⟨Nat.le_refl _, h⟩
  | k + 1, e, st, h => by
    rw [pLoop]
    cases hf : firstT ts st (sgl lv) with
    | none => exact ⟨Nat.le_refl _, h⟩
    | some g =>
      have h1 := isT_lt (firstT_is hf).2
      have h2 := hs (adv st) (by simp only [adv]; omega)
      simp only [adv] at h2
      simp only
      split
      · simp only [adv]; omega
      · have h3 := pLoop_i (en := en) hs lv k (op1 g (posAt ts en st.i) [e, (sub (adv st)).1]) (sub (adv st)).2 (by simp only [adv]; omega)
        simp only [adv] at h3 ⊢
        omega
theorem pArgs_i {ts : List Tok} {en : Nat} {sub : St → Ex × St} (hs : Mono ts sub) : ∀ (k : Nat) (l : List Ex) (st : St), st.i ≤ ts.length → st.i ≤ (pArgs ts en sub k l st).2.i ∧ (pArgs ts en sub k l st).2.i ≤ ts.length
  | 0, l, st, h => ⟨Nat.le_refl _, h⟩
  | k + 1, l, st, h => by
    rw [pArgs]
    have h1 : st.i ≤ (if l = [] then st else needT ts en st [44]).i ∧ (if l = [] then st else needT ts en st [44]).i ≤ ts.length := by
      split
      · exact ⟨Nat.le_refl _, h⟩
      · exact needT_i en _ h
    have h2 := hs _ h1.2
    have h3 := pArgs_i (en := en) hs k (l ++ [(sub (if l = [] then st else needT ts en st [44])).1]) (sub (if l = [] then st else needT ts en st [44])).2 h2.2
    omega
theorem pCall_i {ts : List Tok} {en : Nat} {sub : St → Ex × St} (hs : Mono ts sub) (op : List UInt8) (many : Nat) (pos : Int) (st : St) (h : st.i ≤ ts.length) : st.i ≤ (pCall ts en sub op many pos st).2.i ∧ (pCall ts en sub op many pos st).2.i ≤ ts.length := by
  rw [pCall]
  have h1 := needT_i en [40] h
  have h2 := pArgs_i (en := en) hs many [] (needT ts en st [40]) h1.2
  have h3 := needT_i en [41] h2.2
  simp only
  omega
theorem pOne_i {ts : List Tok} {en : Nat} {sub : St → Ex × St} {rv : ByteArray → Int × Int × List UInt8 × Int} (hs : Mono ts sub) : Mono ts (pOne ts en sub rv) := by
  intro st h
  rw [pOne]
  split
  · rename_i h1
    have h1 := isT_lt h1
    have h2 := hs (adv st) (by simp only [adv]; omega)
    have h3 := needT_i en [41] h2.2
    simp only [adv] at h2 h3 ⊢
    omega
  · split
    · rename_i h1
      have h1 := isT_lt h1
      have h2 := pCall_i (en := en) hs [108, 101, 110] 1 (posAt ts en st.i) (adv st) (by simp only [adv]; omega)
      simp only [adv] at h2 ⊢
      omega
    · split
      · rename_i h1
        have h1 := isT_lt h1
        have h2 := pCall_i (en := en) hs [105, 102] 3 (posAt ts en st.i) (adv st) (by simp only [adv]; omega)
        simp only [adv] at h2 ⊢
        omega
      · have hc : st.i ≤ (pCol ts en st).2.i ∧ (pCol ts en st).2.i ≤ ts.length := takeT_i en h
        cases ht : ts[st.i]? with
        | none => exact hc
        | some t =>
          have hlt := (List.getElem?_eq_some_iff.1 ht).1
          simp only
          split
          · simp only [adv]; omega
          · exact hc
theorem pE_i {ts : List Tok} {en : Nat} {rv : ByteArray → Int × Int × List UInt8 × Int} : ∀ (f lv : Nat), Mono ts (pE ts en rv f lv)
  | 0, lv => fun st h => ⟨Nat.le_refl _, h⟩
  | f + 1, lv => fun st h => by
    rw [pE]
    split
    · exact ⟨Nat.le_refl _, h⟩
    · split
      · rename_i h1
        have h1 := isT_lt h1.2
        have h2 := pE_i (ts := ts) (en := en) (rv := rv) f 2 (adv st) (by simp only [adv]; omega)
        simp only [adv] at h2 ⊢
        omega
      · split
        · split
          · rename_i h1
            have h1 := isT_lt h1
            have h2 := pE_i (ts := ts) (en := en) (rv := rv) f 5 (adv st) (by simp only [adv]; omega)
            simp only [adv] at h2 ⊢
            omega
          · exact pOne_i (pE_i f 0) st h
        · have h1 := pE_i (en := en) (rv := rv) f (lv + 1) st h
          have h2 := pLoop_i (en := en) (pE_i (ts := ts) (en := en) (rv := rv) f (lv + 1)) lv (ts.length + 1) (pE ts en rv f (lv + 1) st).1 (pE ts en rv f (lv + 1) st).2 h1.2
          omega
--END
end Go.Proofs.YtnpinbpjfngknaaGreatDoor
