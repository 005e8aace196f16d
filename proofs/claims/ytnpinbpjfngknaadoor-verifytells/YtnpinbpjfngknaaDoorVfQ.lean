/-
  Whether instructions are sound: all that is known are types; the most that lies anywhere; the two places of an Else.
-/
import Derived.Test.YtnpinbpjfngknaaDoorVfP
namespace Go.Proofs.YtnpinbpjfngknaaDoor
open Go.RowKit
set_option linter.unusedVariables false

/-- All that is known are types. -/
def AllTy (ks : List Pl) : Prop := ∀ s, some s ∈ ks → s.all isTy = true
theorem isTy_iff {t : Int} : isTy t = true ↔ t = 1 ∨ t = 2 ∨ t = 3 := by
  simp [isTy]
theorem chk_ty {t n : Int} {l : List UInt8} (h : chk t n l = 0) : isTy t = true := by
  rw [isTy_iff]
  apply Classical.byContradiction
  intro hn
  rw [chk, if_pos (.inl hn)] at h
  exact absurd h (by decide)
theorem opN_found {n : Int} (h : opE n = 0) : ∃ r, kdFind (opN n) kdRules = some r ∧ (r.2.2.2.2 = 1 ∨ r.2.2.2.2 = 2) ∧ 1 ≤ kdCnt r := by
  have hz : 2 ≤ n ∧ n < 16 := by
    apply Classical.byContradiction
    intro hn
    rw [opE, if_neg hn] at h
    exact absurd h (by decide)
  obtain ⟨k, rfl⟩ : ∃ k : Nat, n = k := ⟨n.toNat, by omega⟩
  have : k = 2 ∨ k = 3 ∨ k = 4 ∨ k = 5 ∨ k = 6 ∨ k = 7 ∨ k = 8 ∨ k = 9 ∨ k = 10 ∨ k = 11 ∨ k = 12 ∨ k = 13 ∨ k = 14 ∨ k = 15 := by omega
  rcases this with rfl | rfl | rfl | rfl | rfl | rfl | rfl | rfl | rfl | rfl | rfl | rfl | rfl | rfl <;> exact ⟨_, rfl, by decide, by decide⟩
theorem cntN_op {n : Int} (h : opE n = 0) : 1 ≤ cntN (opN n) := by
  obtain ⟨r, h1, -, h2⟩ := opN_found h
  rw [cntN, h1]; exact h2
/-- Of types, as many as it has, an operation has a type, or they are of others. -/
theorem rule_eight {n : Int} {ts : List Int} (h : opE n = 0) (h1 : ts.all isTy = true) (h2 : ts.length = cntN (opN n)) : ((ruleP (opN n) ts).2 = 0 ∧ isTy (ruleP (opN n) ts).1 = true) ∨ (ruleP (opN n) ts).2 = 8 := by
  obtain ⟨r, hr, ht, hc⟩ := opN_found h
  rw [cntN, hr] at h2
  rw [ruleP, hr]
  simp only
  rw [if_neg (by simp [h1]), if_neg (by simpa using h2)]
  split
  · refine .inl ⟨rfl, ?_⟩
    rw [kdMeant, if_neg (by omega), isTy_iff]
    omega
  · exact .inr rfl
theorem all_drop {ts : List Int} (h : ts.all isTy = true) (k : Nat) : (ts.drop k).all isTy = true := by
  rw [List.all_eq_true] at h ⊢
  exact fun x hx => h x (List.mem_of_mem_drop hx)
theorem all_take {ts : List Int} (h : ts.all isTy = true) (k : Nat) : (ts.take k).all isTy = true := by
  rw [List.all_eq_true] at h ⊢
  exact fun x hx => h x (List.mem_of_mem_take hx)
theorem lay_ty {i : I5} {nc bh : Int} {off : List Int} {zs : List (ByteArray × Int)} (hz : ∀ z ∈ zs, isTy z.2 = true) (hn : nc = zs.length) (h : argE i nc bh = 0) (ho : off.all isTy = true) (hl : off.length = needN i) (he : (layP i off zs).2 = 0) : (layP i off zs).1.all isTy = true := by
  unfold layP at he ⊢
  unfold argE at h
  split
  · rename_i h1
    rw [if_pos h1] at h
    simp [chk_ty h]
  rename_i h1
  rw [if_neg h1] at h he
  split
  · rename_i h2
    rw [if_pos h2] at h
    split at h
    · rename_i h3
      have hlt : i.2.1.toNat < zs.length := by omega
      have := hz _ (List.getElem_mem hlt)
      simp [List.getElem?_eq_getElem hlt, this]
    · exact absurd h (by decide)
  rename_i h2
  rw [if_neg h2] at h he
  split
  · rename_i h3
    rw [if_pos h3] at h he
    rcases rule_eight h ho (by rw [hl, needN, if_pos h3]) with ⟨_, h4⟩ | h4
    · simp [h4]
    · simp only at he; rw [h4] at he; exact absurd he (by decide)
  rename_i h3
  rw [if_neg h3] at he
  split
  · split <;> rfl
  rename_i h5
  rw [if_neg h5] at he
  split
  · rename_i h6
    rw [needN, if_neg h3, if_pos (.inr (.inl h6))] at hl
    match off, hl with
    | [t], _ =>
      simp only [List.all_cons, List.all_nil, Bool.and_true] at ho
      simp [ho]
  · rfl
theorem aft_ty {i : I5} {nc bh : Int} {st : List Int} {zs : List (ByteArray × Int)} (hz : ∀ z ∈ zs, isTy z.2 = true) (hn : nc = zs.length) (h : argE i nc bh = 0) (ho : st.all isTy = true) : (aftP st i zs).1.all isTy = true := by
  unfold aftP
  split
  · rfl
  rename_i h1
  split
  · rfl
  rename_i h2
  split
  · rfl
  · rw [List.all_append, all_take ho, lay_ty hz hn h (all_drop ho _) (by rw [List.length_drop]; omega) (Classical.not_not.1 h2)]; rfl
theorem goP_ty {st : List Int} (hs : st.all isTy = true) : ∀ {ts : List Nat} {ks l : List Pl}, AllTy ks → goP st ts ks = some l → AllTy l
  | [], ks, l, hk, h => by rw [goP] at h; rw [← Option.some.inj h]; exact hk
  | t :: ts, ks, l, hk, h => by
    rw [goP] at h
    split at h
    · exact absurd h (by simp)
    · refine goP_ty hs (fun s hm => ?_) h
      rcases List.mem_or_eq_of_mem_set hm with h1 | h1
      · exact hk s h1
      · rw [Option.some.inj h1]; exact hs
theorem at_ty {ks : List Pl} (h : AllTy ks) (k : Nat) : ((ks[k]?.getD none).getD []).all isTy = true := by
  cases hk : ks[k]? with
  | none => rfl
  | some p =>
    cases p with
    | none => rfl
    | some s => exact h s (List.mem_of_getElem? hk)
theorem stepP_ty {zs : List (ByteArray × Int)} {ks : List Pl} {k : Nat} {i : I5} (hz : ∀ z ∈ zs, isTy z.2 = true) (h : AllTy ks) : AllTy (stepP zs ks k i).1 := by
  unfold stepP
  split
  · exact h
  split
  · exact h
  rename_i h2
  split
  · exact h
  split
  · exact h
  · rename_i h4
    exact goP_ty (aft_ty hz rfl (Classical.not_not.1 h2) (at_ty h k)) h h4
/-- The two places of an Else, either first. -/
theorem goP_two (st : List Int) (a b : Nat) (ks : List Pl) : goP st [a, b] ks = goP st [b, a] ks := by
  by_cases hab : a = b
  · rw [hab]
  · simp only [goP, List.getElem?_set_ne hab, List.getElem?_set_ne (Ne.symm hab)]
    split
    · split
      · rfl
      · rfl
    · split
      · rfl
      · rw [List.set_comm _ _ hab]
/-- The most that is known to lie anywhere. -/
def mostF (m : Int) (ks : List Pl) : Int := ks.foldl (fun m p => max m ((p.getD []).length : Int)) m
theorem mostF_max : ∀ (ks : List Pl) (a b : Int), mostF (max a b) ks = max a (mostF b ks)
  | [], a, b => rfl
  | p :: ks, a, b => by
    rw [mostF, mostF, List.foldl_cons, List.foldl_cons, ← mostF, ← mostF, ← mostF_max ks]
    congr 1
    omega
theorem mostF_set {st : List Int} : ∀ {ks : List Pl} {t : Nat} (m : Int), t < ks.length → ¬ ((ks[t]?.getD none).isSome = true ∧ (ks[t]?.getD none).getD [] ≠ st) → 0 ≤ m → mostF m (ks.set t (some st)) = max (mostF m ks) st.length
  | [], t, m, h, _, _ => absurd h (by simp)
  | p :: ks, 0, m, _, h, h0 => by
    rw [List.set_cons_zero, mostF, mostF, List.foldl_cons, List.foldl_cons, ← mostF, ← mostF]
    simp only [List.getElem?_cons_zero, Option.getD_some] at h ⊢
    cases p with
    | none =>
      simp only [Option.getD_none, List.length_nil]
      rw [show max m ((0 : Nat) : Int) = m by omega, show max m (st.length : Int) = max (st.length : Int) m by omega, mostF_max]
      omega
    | some s =>
      have hs : s = st := Classical.byContradiction fun hn => h ⟨rfl, hn⟩
      subst hs
      simp only [Option.getD_some]
      rw [show max m (s.length : Int) = max (s.length : Int) m by omega, mostF_max]
      omega
  | p :: ks, t + 1, m, hl, h, h0 => by
    rw [List.set_cons_succ, mostF, mostF, List.foldl_cons, List.foldl_cons, ← mostF, ← mostF]
    exact mostF_set _ (by simpa using hl) (by simpa using h) (by omega)
theorem mostF_go {st : List Int} : ∀ {ts : List Nat} {ks l : List Pl}, ts ≠ [] → (∀ t ∈ ts, t < ks.length) → goP st ts ks = some l → mostF 0 l = max (mostF 0 ks) st.length
  | [], ks, l, h, _, _ => absurd rfl h
  | [t], ks, l, _, ht, h => by
    rw [goP] at h
    split at h
    · exact absurd h (by simp)
    · rename_i hn
      rw [goP] at h
      rw [← Option.some.inj h, mostF_set 0 (ht t (List.mem_cons_self ..)) hn (by decide)]
  | t :: u :: ts, ks, l, _, ht, h => by
    rw [goP] at h
    split at h
    · exact absurd h (by simp)
    · rename_i hn
      rw [mostF_go (by simp) (fun x hx => by rw [List.length_set]; exact ht x (List.mem_cons_of_mem _ hx)) h, mostF_set 0 (ht t (List.mem_cons_self ..)) hn (by decide)]
      omega
theorem lead_ne (i : I5) (k : Nat) : leadP i k ≠ [] := by
  unfold leadP
  split
  · simp
  split
  · simp
  · simp
theorem mostF_start : ∀ n : Nat, mostF 0 (some [] :: List.replicate n none) = 0
  | 0 => rfl
  | n + 1 => by
    have := mostF_start n
    rw [mostF, List.foldl_cons] at this ⊢
    rw [List.replicate_succ, List.foldl_cons]
    exact this
theorem ty_start (n : Nat) : AllTy (some [] :: List.replicate n none) := by
  intro s hs
  simp only [List.mem_cons, List.mem_replicate, Option.some.injEq, reduceCtorEq, and_false, or_false] at hs
  rw [hs]; rfl
end Go.Proofs.YtnpinbpjfngknaaDoor
