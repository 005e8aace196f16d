/-
  VfQ, VmP, VmS, in one text.
-/
import Derived.Test.YtkoejkpjkcejcabDoorGyAi
namespace Go.Proofs.YtkoejkpjkcejcabDoor
open Go.RowKit
set_option linter.unusedVariables false

/-- All that is known are types. -/
def AllTy (ks : List Pl) : Prop := ∀ s, some s ∈ ks → s.all isTy = true
theorem isTy_iff {t : Int} : isTy t = true ↔ t = 1 ∨ t = 2 ∨ t = 3 := by
  simp [isTy]
theorem chk_ty {t n : Int} {l : List UInt8} (h : chk t n l = 0) : isTy t = true := by
  rw [isTy_iff]
  apply Classical.byContradiction
  intro hn
  rw [chk, if_pos (.inl hn)] at h
  exact absurd h (by decide)
theorem opN_found {n : Int} (h : opE n = 0) : ∃ r, kdFind (opN n) kdRules = some r ∧ (r.2.2.2.2 = 1 ∨ r.2.2.2.2 = 2) ∧ 1 ≤ kdCnt r := by
  have hz : 2 ≤ n ∧ n < 16 := by
    apply Classical.byContradiction
    intro hn
    rw [opE, if_neg hn] at h
    exact absurd h (by decide)
  obtain ⟨k, rfl⟩ : ∃ k : Nat, n = k := ⟨n.toNat, by omega⟩
  have : k = 2 ∨ k = 3 ∨ k = 4 ∨ k = 5 ∨ k = 6 ∨ k = 7 ∨ k = 8 ∨ k = 9 ∨ k = 10 ∨ k = 11 ∨ k = 12 ∨ k = 13 ∨ k = 14 ∨ k = 15 := by omega
  rcases this with rfl | rfl | rfl | rfl | rfl | rfl | rfl | rfl | rfl | rfl | rfl | rfl | rfl | rfl <;> exact ⟨_, rfl, by decide, by decide⟩
theorem cntN_op {n : Int} (h : opE n = 0) : 1 ≤ cntN (opN n) := by
  obtain ⟨r, h1, -, h2⟩ := opN_found h
  rw [cntN, h1]; exact h2
/-- Of types, as many as it has, an operation has a type, or they are of others. -/
theorem rule_eight {n : Int} {ts : List Int} (h : opE n = 0) (h1 : ts.all isTy = true) (h2 : ts.length = cntN (opN n)) : ((ruleP (opN n) ts).2 = 0 ∧ isTy (ruleP (opN n) ts).1 = true) ∨ (ruleP (opN n) ts).2 = 8 := by
  obtain ⟨r, hr, ht, hc⟩ := opN_found h
  rw [cntN, hr] at h2
  rw [ruleP, hr]
  simp only
  rw [if_neg (by simp [h1]), if_neg (by simpa using h2)]
  split
  · refine .inl ⟨rfl, ?_⟩
    rw [kdMeant, if_neg (by omega), isTy_iff]
    omega
  · exact .inr rfl
theorem all_drop {ts : List Int} (h : ts.all isTy = true) (k : Nat) : (ts.drop k).all isTy = true := by
  rw [List.all_eq_true] at h ⊢
  exact fun x hx => h x (List.mem_of_mem_drop hx)
theorem all_take {ts : List Int} (h : ts.all isTy = true) (k : Nat) : (ts.take k).all isTy = true := by
  rw [List.all_eq_true] at h ⊢
  exact fun x hx => h x (List.mem_of_mem_take hx)
theorem lay_ty {i : I5} {nc bh : Int} {off : List Int} {zs : List (ByteArray × Int)} (hz : ∀ z ∈ zs, isTy z.2 = true) (hn : nc = zs.length) (h : argE i nc bh = 0) (ho : off.all isTy = true) (hl : off.length = needN i) (he : (layP i off zs).2 = 0) : (layP i off zs).1.all isTy = true := by
  unfold layP at he ⊢
  unfold argE at h
  split
  · rename_i h1
    rw [if_pos h1] at h
    simp [chk_ty h]
  rename_i h1
  rw [if_neg h1] at h he
  split
  · rename_i h2
    rw [if_pos h2] at h
    split at h
    · rename_i h3
      have hlt : i.2.1.toNat < zs.length := by omega
      have := hz _ (List.getElem_mem hlt)
      simp [List.getElem?_eq_getElem hlt, this]
    · exact absurd h (by decide)
  rename_i h2
  rw [if_neg h2] at h he
  split
  · rename_i h3
    rw [if_pos h3] at h he
    rcases rule_eight h ho (by rw [hl, needN, if_pos h3]) with ⟨_, h4⟩ | h4
    · simp [h4]
    · simp only at he; rw [h4] at he; exact absurd he (by decide)
  rename_i h3
  rw [if_neg h3] at he
  split
  · split <;> rfl
  rename_i h5
  rw [if_neg h5] at he
  split
  · rename_i h6
    rw [needN, if_neg h3, if_pos (.inr (.inl h6))] at hl
    match off, hl with
    | [t], _ =>
      simp only [List.all_cons, List.all_nil, Bool.and_true] at ho
      simp [ho]
  · rfl
theorem aft_ty {i : I5} {nc bh : Int} {st : List Int} {zs : List (ByteArray × Int)} (hz : ∀ z ∈ zs, isTy z.2 = true) (hn : nc = zs.length) (h : argE i nc bh = 0) (ho : st.all isTy = true) : (aftP st i zs).1.all isTy = true := by
  unfold aftP
  split
  · rfl
  rename_i h1
  split
  · rfl
  rename_i h2
  split
  · rfl
  · rw [List.all_append, all_take ho, lay_ty hz hn h (all_drop ho _) (by rw [List.length_drop]; omega) (Classical.not_not.1 h2)]; rfl
theorem goP_ty {st : List Int} (hs : st.all isTy = true) : ∀ {ts : List Nat} {ks l : List Pl}, AllTy ks → goP st ts ks = some l → AllTy l
  | [], ks, l, hk, h => by rw [goP] at h; rw [← Option.some.inj h]; exact hk
  | t :: ts, ks, l, hk, h => by
    rw [goP] at h
    split at h
    · exact absurd h (by simp)
    · refine goP_ty hs (fun s hm => ?_) h
      rcases List.mem_or_eq_of_mem_set hm with h1 | h1
      · exact hk s h1
      · rw [Option.some.inj h1]; exact hs
theorem at_ty {ks : List Pl} (h : AllTy ks) (k : Nat) : ((ks[k]?.getD none).getD []).all isTy = true := by
  cases hk : ks[k]? with
  | none => rfl
  | some p =>
    cases p with
    | none => rfl
    | some s => exact h s (List.mem_of_getElem? hk)
theorem stepP_ty {zs : List (ByteArray × Int)} {ks : List Pl} {k : Nat} {i : I5} (hz : ∀ z ∈ zs, isTy z.2 = true) (h : AllTy ks) : AllTy (stepP zs ks k i).1 := by
  unfold stepP
  split
  · exact h
  split
  · exact h
  rename_i h2
  split
  · exact h
  split
  · exact h
  · rename_i h4
    exact goP_ty (aft_ty hz rfl (Classical.not_not.1 h2) (at_ty h k)) h h4
/-- The two places of an Else, either first. -/
theorem goP_two (st : List Int) (a b : Nat) (ks : List Pl) : goP st [a, b] ks = goP st [b, a] ks := by
  by_cases hab : a = b
  · rw [hab]
  · simp only [goP, List.getElem?_set_ne hab, List.getElem?_set_ne (Ne.symm hab)]
    split
    · split
      · rfl
      · rfl
    · split
      · rfl
      · rw [List.set_comm _ _ hab]
/-- The most that is known to lie anywhere. -/
def mostF (m : Int) (ks : List Pl) : Int := ks.foldl (fun m p => max m ((p.getD []).length : Int)) m
theorem mostF_max : ∀ (ks : List Pl) (a b : Int), mostF (max a b) ks = max a (mostF b ks)
  | [], a, b => rfl
  | p :: ks, a, b => by
    rw [mostF, mostF, List.foldl_cons, List.foldl_cons, ← mostF, ← mostF, ← mostF_max ks]
    congr 1
    omega
theorem mostF_set {st : List Int} : ∀ {ks : List Pl} {t : Nat} (m : Int), t < ks.length → ¬ ((ks[t]?.getD none).isSome = true ∧ (ks[t]?.getD none).getD [] ≠ st) → 0 ≤ m → mostF m (ks.set t (some st)) = max (mostF m ks) st.length
  | [], t, m, h, _, _ => absurd h (by simp)
  | p :: ks, 0, m, _, h, h0 => by
    rw [List.set_cons_zero, mostF, mostF, List.foldl_cons, List.foldl_cons, ← mostF, ← mostF]
    simp only [List.getElem?_cons_zero, Option.getD_some] at h ⊢
    cases p with
    | none =>
      simp only [Option.getD_none, List.length_nil]
      rw [show max m ((0 : Nat) : Int) = m by omega, show max m (st.length : Int) = max (st.length : Int) m by omega, mostF_max]
      omega
    | some s =>
      have hs : s = st := Classical.byContradiction fun hn => h ⟨rfl, hn⟩
      subst hs
      simp only [Option.getD_some]
      rw [show max m (s.length : Int) = max (s.length : Int) m by omega, mostF_max]
      omega
  | p :: ks, t + 1, m, hl, h, h0 => by
    rw [List.set_cons_succ, mostF, mostF, List.foldl_cons, List.foldl_cons, ← mostF, ← mostF]
    exact mostF_set _ (by simpa using hl) (by simpa using h) (by omega)
theorem mostF_go {st : List Int} : ∀ {ts : List Nat} {ks l : List Pl}, ts ≠ [] → (∀ t ∈ ts, t < ks.length) → goP st ts ks = some l → mostF 0 l = max (mostF 0 ks) st.length
  | [], ks, l, h, _, _ => absurd rfl h
  | [t], ks, l, _, ht, h => by
    rw [goP] at h
    split at h
    · exact absurd h (by simp)
    · rename_i hn
      rw [goP] at h
      rw [← Option.some.inj h, mostF_set 0 (ht t (List.mem_cons_self ..)) hn (by decide)]
  | t :: u :: ts, ks, l, _, ht, h => by
    rw [goP] at h
    split at h
    · exact absurd h (by simp)
    · rename_i hn
      rw [mostF_go (by simp) (fun x hx => by rw [List.length_set]; exact ht x (List.mem_cons_of_mem _ hx)) h, mostF_set 0 (ht t (List.mem_cons_self ..)) hn (by decide)]
      omega
theorem lead_ne (i : I5) (k : Nat) : leadP i k ≠ [] := by
  unfold leadP
  split
  · simp
  split
  · simp
  · simp
theorem mostF_start : ∀ n : Nat, mostF 0 (some [] :: List.replicate n none) = 0
  | 0 => rfl
  | n + 1 => by
    have := mostF_start n
    rw [mostF, List.foldl_cons] at this ⊢
    rw [List.replicate_succ, List.foldl_cons]
    exact this
theorem ty_start (n : Nat) : AllTy (some [] :: List.replicate n none) := by
  intro s hs
  simp only [List.mem_cons, List.mem_replicate, Option.some.injEq, reduceCtorEq, and_false, or_false] at hs
  rw [hs]; rfl
end Go.Proofs.YtkoejkpjkcejcabDoor
namespace Go.Proofs.YtkoejkpjkcejcabDoor
open Go.RowKit
set_option linter.unusedVariables false
--BEGIN
/-- One instruction: what lies on the stack behind it, how many further on it goes, and what goes wrong. -/
def vmI (rs st : List V3) (i : I5) : List V3 × Nat × Int :=
  if i.1 = 1 then (st ++ [(i.2.2.1, i.2.2.2.1, i.2.2.2.2)], 0, 0)
  else if i.1 = 2 then (st ++ [rs[i.2.1.toNat]?.getD noV], 0, 0)
  else if i.1 = 3 then (st.take (st.length - needN i) ++ [(doP (opN i.2.1) (st.drop (st.length - needN i))).1], 0, (doP (opN i.2.1) (st.drop (st.length - needN i))).2)
  else if i.1 = 4 then (st, i.2.1.toNat, 0)
  else if i.1 = 5 then (st.dropLast, if (st.getLast?.getD noV).2.1 = 0 then i.2.1.toNat else 0, 0)
  else if i.1 = 6 then (st ++ [st.getLast?.getD noV], 0, 0)
  else (st.dropLast, 0, 0)
/-- How it ended: how many more are gone over, what lies on the stack, which were done, what went wrong. -/
abbrev Rn := Nat × List V3 × List Nat × Int
/-- Instructions from number k on, the next s of which are gone over. -/
def runP (rs : List V3) (fuel : Int) : List I5 → Nat → Nat → List V3 → List Nat → Rn
  | [], k, s, st, d => (s, st, d, 0)
  | i :: is, k, s + 1, st, d => runP rs fuel is (k + 1) s st d
  | i :: is, k, 0, st, d => if (d.length : Int) = fuel then (0, st, d, 10) else if (vmI rs st i).2.2 ≠ 0 then (0, st, d, (vmI rs st i).2.2) else runP rs fuel is (k + 1) (vmI rs st i).2.1 (vmI rs st i).1 (d ++ [k])
theorem run_app (rs : List V3) (fuel : Int) (b : List I5) : ∀ (a : List I5) (k s : Nat) (st : List V3) (d : List Nat), runP rs fuel (a ++ b) k s st d = if (runP rs fuel a k s st d).2.2.2 ≠ 0 then runP rs fuel a k s st d else runP rs fuel b (k + a.length) (runP rs fuel a k s st d).1 (runP rs fuel a k s st d).2.1 (runP rs fuel a k s st d).2.2.1
  | [], k, s, st, d => by rw [List.nil_append, runP, if_neg (by simp), List.length_nil, Nat.add_zero]
  | i :: is, k, s + 1, st, d => by
    rw [List.cons_append, runP, runP, run_app rs fuel b is, List.length_cons, show k + 1 + is.length = k + (is.length + 1) by omega]
  | i :: is, k, 0, st, d => by
    rw [List.cons_append, runP, runP]
    by_cases h1 : (d.length : Int) = fuel
    · rw [if_pos h1, if_pos h1, if_pos (by simp)]
    rw [if_neg h1, if_neg h1]
    by_cases h2 : (vmI rs st i).2.2 ≠ 0
    · rw [if_pos h2, if_pos h2, if_pos h2]
    rw [if_neg h2, if_neg h2, run_app rs fuel b is, List.length_cons, show k + 1 + is.length = k + (is.length + 1) by omega]
theorem run_over (rs : List V3) (fuel : Int) : ∀ (a : List I5) (k s : Nat) (st : List V3) (d : List Nat), a.length ≤ s → runP rs fuel a k s st d = (s - a.length, st, d, 0)
  | [], k, s, st, d, _ => by rw [runP]; rfl
  | i :: is, k, 0, st, d, h => absurd h (by simp)
  | i :: is, k, s + 1, st, d, h => by
    rw [List.length_cons] at h ⊢
    rw [runP, run_over rs fuel is (k + 1) s st d (by omega), show s + 1 - (is.length + 1) = s - is.length by omega]
/-- Those that are gone over may be left away. -/
theorem run_drop (rs : List V3) (fuel : Int) : ∀ (a : List I5) (k s : Nat) (st : List V3) (d : List Nat), s ≤ a.length → runP rs fuel a k s st d = runP rs fuel (a.drop s) (k + s) 0 st d
  | a, k, 0, st, d, _ => rfl
  | [], k, s + 1, st, d, h => absurd h (by simp)
  | i :: is, k, s + 1, st, d, h => by
    rw [List.length_cons] at h
    rw [runP, run_drop rs fuel is (k + 1) s st d (by omega), List.drop_succ_cons, show k + 1 + s = k + (s + 1) by omega]
/-- Which were done: more of them, in order, none twice. -/
theorem run_done (rs : List V3) (fuel : Int) : ∀ (is : List I5) (k s : Nat) (st : List V3) (d : List Nat), ∃ m, (runP rs fuel is k s st d).2.2.1 = d ++ m ∧ m.length ≤ is.length ∧ m.Pairwise (· < ·) ∧ ∀ x ∈ m, k + s ≤ x ∧ x < k + is.length
  | [], k, s, st, d => ⟨[], by rw [runP]; simp, by simp, List.Pairwise.nil, by simp⟩
  | i :: is, k, s + 1, st, d => by
    obtain ⟨m, h1, h2, h3, h4⟩ := run_done rs fuel is (k + 1) s st d
    refine ⟨m, by rw [runP]; exact h1, by rw [List.length_cons]; omega, h3, fun x hx => ?_⟩
    have := h4 x hx
    rw [List.length_cons]
    omega
  | i :: is, k, 0, st, d => by
    rw [runP]
    split
    · exact ⟨[], by simp, by simp, List.Pairwise.nil, by simp⟩
    split
    · exact ⟨[], by simp, by simp, List.Pairwise.nil, by simp⟩
    obtain ⟨m, h1, h2, h3, h4⟩ := run_done rs fuel is (k + 1) (vmI rs st i).2.1 (vmI rs st i).1 (d ++ [k])
    refine ⟨k :: m, by rw [h1]; simp, by rw [List.length_cons, List.length_cons]; omega, List.Pairwise.cons (fun x hx => ?_) h3, fun x hx => ?_⟩
    · have := h4 x hx
      omega
    · rw [List.length_cons]
      rcases List.mem_cons.1 hx with rfl | hx
      · omega
      · have := h4 x hx
        omega
/-- With more than was needed it is the same. -/
theorem run_more (rs : List V3) (f g : Int) : ∀ (is : List I5) (k s : Nat) (st : List V3) (d : List Nat), (runP rs f is k s st d).2.2.2 ≠ 10 → (g < 0 ∨ ((runP rs f is k s st d).2.2.1.length : Int) < g ∨ ((runP rs f is k s st d).2.2.1.length : Int) ≤ g ∧ (runP rs f is k s st d).2.2.2 = 0) → runP rs g is k s st d = runP rs f is k s st d
  | [], k, s, st, d, _, _ => by rw [runP, runP]
  | i :: is, k, s + 1, st, d, h, hg => by
    rw [runP] at h hg
    rw [runP, runP, run_more rs f g is _ _ _ _ h hg]
  | i :: is, k, 0, st, d, h, hg => by
    rw [runP] at h hg
    rw [runP, runP]
    by_cases h1 : (d.length : Int) = f
    · rw [if_pos h1] at h
      exact absurd rfl h
    rw [if_neg h1] at h hg ⊢
    by_cases h2 : (vmI rs st i).2.2 ≠ 0
    · rw [if_pos h2] at h hg ⊢
      rw [if_neg (by
        rcases hg with hg | hg | hg
        · omega
        · simp only at hg; omega
        · exact absurd hg.2 h2), if_pos h2]
    rw [if_neg h2] at h hg ⊢
    rw [if_neg h2]
    obtain ⟨m, e1, -⟩ := run_done rs f is (k + 1) (vmI rs st i).2.1 (vmI rs st i).1 (d ++ [k])
    have hd : d.length + 1 ≤ (runP rs f is (k + 1) (vmI rs st i).2.1 (vmI rs st i).1 (d ++ [k])).2.2.1.length := by rw [e1]; simp
    rw [if_neg (by omega), run_more rs f g is _ _ _ _ h hg]
/-- With less than was needed there is not enough. -/
theorem run_less (rs : List V3) (f g : Int) : ∀ (is : List I5) (k s : Nat) (st : List V3) (d : List Nat), (runP rs f is k s st d).2.2.2 ≠ 10 → (d.length : Int) ≤ g → (g < ((runP rs f is k s st d).2.2.1.length : Int) ∨ g = ((runP rs f is k s st d).2.2.1.length : Int) ∧ (runP rs f is k s st d).2.2.2 ≠ 0) → (runP rs g is k s st d).2.2.2 = 10 ∧ ((runP rs g is k s st d).2.2.1.length : Int) = g
  | [], k, s, st, d, _, h0, hg => by
    rw [runP] at hg
    simp only at hg
    omega
  | i :: is, k, s + 1, st, d, h, h0, hg => by
    rw [runP] at h hg
    rw [runP]
    exact run_less rs f g is _ _ _ _ h h0 hg
  | i :: is, k, 0, st, d, h, h0, hg => by
    rw [runP] at h hg
    rw [runP]
    by_cases hd : (d.length : Int) = g
    · rw [if_pos hd]
      exact ⟨rfl, hd⟩
    rw [if_neg hd]
    by_cases h1 : (d.length : Int) = f
    · rw [if_pos h1] at h
      exact absurd rfl h
    rw [if_neg h1] at h hg
    by_cases h2 : (vmI rs st i).2.2 ≠ 0
    · rw [if_pos h2] at h hg
      simp only at hg
      omega
    rw [if_neg h2] at h hg ⊢
    exact run_less rs f g is _ _ _ _ h (by rw [List.length_append, List.length_singleton]; omega) hg
--END
end Go.Proofs.YtkoejkpjkcejcabDoor
namespace Go.Proofs.YtkoejkpjkcejcabDoor
open Go.RowKit
set_option linter.unusedVariables false
--BEGIN
/-- What is known stays known. -/
def KnOn (ks l : List Pl) : Prop := ∀ (t : Nat) (x : List Int), ks[t]? = some (some x) → l[t]? = some (some x)
theorem KnOn.refl (ks : List Pl) : KnOn ks ks := fun _ _ h => h
theorem KnOn.trans {a b c : List Pl} (h1 : KnOn a b) (h2 : KnOn b c) : KnOn a c := fun t x h => h2 t x (h1 t x h)
theorem go_on {st : List Int} : ∀ {ts : List Nat} {ks l : List Pl}, goP st ts ks = some l → KnOn ks l ∧ ∀ t ∈ ts, t < ks.length → l[t]? = some (some st)
  | [], ks, l, h => by
    rw [goP] at h
    rw [← Option.some.inj h]
    exact ⟨KnOn.refl _, by simp⟩
  | t :: ts, ks, l, h => by
    rw [goP] at h
    split at h
    · exact absurd h (by simp)
    rename_i hn
    obtain ⟨h1, h2⟩ := go_on h
    have hset : KnOn ks (ks.set t (some st)) := fun u x hu => by
      by_cases hut : u = t
      · subst hut
        have hlt : u < ks.length := (List.getElem?_eq_some_iff.1 hu).1
        rw [List.getElem?_set_self hlt]
        rw [hu] at hn
        simp only [Option.getD_some, Option.isSome_some, true_and, ne_eq, Classical.not_not] at hn
        rw [hn]
      · rw [List.getElem?_set_ne (Ne.symm hut)]
        exact hu
    refine ⟨hset.trans h1, fun u hu hlt => ?_⟩
    rcases List.mem_cons.1 hu with rfl | hu
    · exact h1 u st (List.getElem?_set_self hlt)
    · exact h2 u hu (by rw [List.length_set]; exact hlt)
theorem step_on {zs : List (ByteArray × Int)} {ks : List Pl} {k : Nat} {i : I5} : KnOn ks (stepP zs ks k i).1 := by
  unfold stepP
  split
  · exact KnOn.refl _
  split
  · exact KnOn.refl _
  split
  · exact KnOn.refl _
  split
  · exact KnOn.refl _
  · rename_i h
    exact (go_on h).1
/-- What a step that is right says. -/
theorem step_out {zs : List (ByteArray × Int)} {ks : List Pl} {k : Nat} {i : I5} {T : List Int} (h : (stepP zs ks k i).2 = 0) (hk : ks[k]? = some (some T)) (hlt : k + 1 < ks.length) : argE i zs.length ((ks.length : Int) - 1 - ((k : Int) + 1)) = 0 ∧ (aftP T i zs).2 = 0 ∧ ∀ t ∈ leadP i (k + 1), (stepP zs ks k i).1[t]? = some (some (aftP T i zs).1) := by
  unfold stepP at h ⊢
  rw [hk] at h ⊢
  simp only [Option.getD_some, Option.isSome_some, Bool.true_eq_false, if_false] at h ⊢
  split at h
  · rename_i h2; exact absurd h h2
  rename_i h2
  have h2' := Classical.not_not.1 h2
  rw [if_neg h2]
  split at h
  · rename_i h3; exact absurd h h3
  rename_i h3
  rw [if_neg h3]
  split at h
  · exact absurd h (by simp)
  rename_i l hl
  exact ⟨h2', Classical.not_not.1 h3, fun t ht => (go_on hl).2 t ht (lead_lt hlt h2' t ht)⟩
/-- The values on a stack are right, and of the types that are known. -/
def StkR (T : List Int) (st : List V3) : Prop := st.map (·.1) = T ∧ ∀ v ∈ st, okV v.1 v
theorem StkR.len {T : List Int} {st : List V3} (h : StkR T st) : st.length = T.length := by rw [← h.1, List.length_map]
theorem StkR.app {T T2 : List Int} {st s2 : List V3} (h : StkR T st) (h2 : StkR T2 s2) : StkR (T ++ T2) (st ++ s2) :=
  ⟨by rw [List.map_append, h.1, h2.1], fun v hv => by
    rcases List.mem_append.1 hv with hv | hv
    · exact h.2 v hv
    · exact h2.2 v hv⟩
theorem StkR.take {T : List Int} {st : List V3} (h : StkR T st) (n : Nat) : StkR (T.take n) (st.take n) :=
  ⟨by rw [List.map_take, h.1], fun v hv => h.2 v (List.mem_of_mem_take hv)⟩
theorem StkR.drop {T : List Int} {st : List V3} (h : StkR T st) (n : Nat) : StkR (T.drop n) (st.drop n) :=
  ⟨by rw [List.map_drop, h.1], fun v hv => h.2 v (List.mem_of_mem_drop hv)⟩
theorem StkR.one {t : Int} {v : V3} (h : okV t v) : StkR [t] [v] :=
  ⟨by rw [List.map_singleton, h.1], fun u hu => by
    rw [List.mem_singleton.1 hu]
    obtain ⟨e, h⟩ := h
    exact ⟨rfl, h⟩⟩
theorem StkR.nil : StkR [] [] := ⟨rfl, by simp⟩
theorem do_comes {op : List UInt8} {vs : List V3} {T : List Int} (h : StkR T vs) {t : Int} (hr : ruleP op T = (t, 0)) : comes t (doP op vs) := by
  have hv : vlE vs = 0 := vlE_zero.2 fun v hv => (h.2 v hv).2.1
  rw [doP, if_neg (by simp [hv]), h.1, hr, if_neg (by simp)]
  exact app_comes (fun v hv => (h.2 v hv).2.1) (fun v hv => (h.2 v hv).2.2) (by rw [h.1]; exact hr)
/-- What is right by itself, and with what lies there, is done: then what is known lies there; or a number goes over. -/
theorem vmI_right {zs : List (ByteArray × Int)} {rs st : List V3} {T : List Int} {i : I5} {bh : Int} (hrow : RowR zs rs) (hb : inB i.2.2.2.1) (hs : StkR T st) (h1 : argE i zs.length bh = 0) (h2 : (aftP T i zs).2 = 0) :
    ((vmI rs st i).2.2 = 0 ∧ StkR (aftP T i zs).1 (vmI rs st i).1) ∨ (vmI rs st i).2.2 = 9 := by
  have hlen := hs.len
  unfold aftP at h2 ⊢
  split at h2
  · exact absurd h2 (by simp)
  rename_i hn
  rw [if_neg hn]
  split at h2
  · rename_i h3; exact absurd h2 h3
  rename_i h3
  have h3' := Classical.not_not.1 h3
  rw [if_neg h3]
  split at h2
  · exact absurd h2 (by simp)
  rename_i h4
  rw [if_neg h4]
  clear h4 h2 h3
  simp only
  unfold argE at h1
  unfold vmI
  by_cases w1 : i.1 = 1
  · rw [if_pos w1] at h1 ⊢
    have e1 : needN i = 0 := by rw [needN, if_neg (by omega), if_neg (by omega)]
    have e2 : layP i (T.drop (T.length - 0)) zs = ([i.2.2.1], 0) := by rw [layP, if_pos w1]
    rw [e1, e2, Nat.sub_zero, List.take_length]
    exact .inl ⟨rfl, hs.app (StkR.one ⟨rfl, h1, hb⟩)⟩
  rw [if_neg w1] at h1 ⊢
  by_cases w2 : i.1 = 2
  · rw [if_pos w2] at h1 ⊢
    have e1 : needN i = 0 := by rw [needN, if_neg (by omega), if_neg (by omega)]
    have e2 : layP i (T.drop (T.length - 0)) zs = ([(zs[i.2.1.toNat]?.getD default).2], 0) := by rw [layP, if_neg w1, if_pos w2]
    rw [e1, e2, Nat.sub_zero, List.take_length]
    refine .inl ⟨rfl, hs.app (StkR.one ?_)⟩
    split at h1
    · rename_i hh
      have hlt : i.2.1.toNat < zs.length := by omega
      have hlt2 : i.2.1.toNat < rs.length := by rw [hrow.1]; exact hlt
      have := hrow.2 _ hlt hlt2
      rw [List.getElem?_eq_getElem hlt, List.getElem?_eq_getElem hlt2]
      exact this
    · exact absurd h1 (by decide)
  rw [if_neg w2] at h1 ⊢
  by_cases w3 : i.1 = 3
  · rw [if_pos w3] at h1 ⊢
    rw [hlen]
    have e2 : layP i (T.drop (T.length - needN i)) zs = ([(ruleP (opN i.2.1) (T.drop (T.length - needN i))).1], (ruleP (opN i.2.1) (T.drop (T.length - needN i))).2) := by rw [layP, if_neg w1, if_neg w2, if_pos w3]
    rw [e2] at h3' ⊢
    have hc := do_comes (hs.drop (T.length - needN i)) (Prod.ext rfl h3' : ruleP (opN i.2.1) (T.drop (T.length - needN i)) = (_, 0))
    rcases hc with ⟨c1, c2⟩ | c
    · exact .inl ⟨c1, (hs.take _).app (StkR.one c2)⟩
    · exact .inr (by rw [c])
  rw [if_neg w3] at h1 ⊢
  by_cases w4 : i.1 = 4
  · rw [if_pos w4]
    have e1 : needN i = 0 := by rw [needN, if_neg (by omega), if_neg (by omega)]
    have e2 : layP i (T.drop (T.length - 0)) zs = ([], 0) := by rw [layP, if_neg w1, if_neg w2, if_neg w3, if_neg (by omega), if_neg (by omega)]
    rw [e1, e2, Nat.sub_zero, List.take_length, List.append_nil]
    exact .inl ⟨rfl, hs⟩
  rw [if_neg w4]
  have hdl : ∀ (l : List V3), l.dropLast = l.take (l.length - 1) := fun l => List.dropLast_eq_take
  by_cases w5 : i.1 = 5
  · rw [if_pos w5]
    have e1 : needN i = 1 := by rw [needN, if_neg (by omega), if_pos (by omega)]
    have e2 : (layP i (T.drop (T.length - 1)) zs).1 = [] := by
      rw [layP, if_neg w1, if_neg w2, if_neg w3, if_pos w5]
      split <;> rfl
    rw [e1, e2, List.append_nil]
    refine .inl ⟨rfl, ?_⟩
    show StkR _ st.dropLast
    rw [hdl, hlen]
    exact hs.take _
  rw [if_neg w5]
  by_cases w6 : i.1 = 6
  · rw [if_pos w6]
    have e1 : needN i = 1 := by rw [needN, if_neg (by omega), if_pos (by omega)]
    have e2 : layP i (T.drop (T.length - 1)) zs = ([(T.drop (T.length - 1)).headD 0, (T.drop (T.length - 1)).headD 0], 0) := by rw [layP, if_neg w1, if_neg w2, if_neg w3, if_neg w5, if_pos w6]
    rw [e1] at hn
    rw [e1, e2]
    refine .inl ⟨rfl, ?_⟩
    rcases List.eq_nil_or_concat st with he | ⟨s0, v, he⟩
    · rw [he] at hlen; simp at hlen; omega
    · have he' : st = s0 ++ [v] := by rw [he, List.concat_eq_append]
      subst he'
      obtain ⟨hT, hok⟩ := hs
      rw [List.map_append, List.map_singleton] at hT
      subst hT
      have hs0 : StkR (s0.map (·.1)) s0 := ⟨rfl, fun u hu => hok u (by simp [hu])⟩
      have hv : StkR [v.1] [v] := StkR.one (hok v (by simp))
      have := (hs0.app hv).app hv
      simpa using this
  rw [if_neg w6]
  have w7 : i.1 = 7 := by
    rw [if_neg (by omega)] at h1
    apply Classical.byContradiction
    intro w7
    rw [if_neg (by omega)] at h1
    exact absurd h1 (by decide)
  have e1 : needN i = 1 := by rw [needN, if_neg (by omega), if_pos (by omega)]
  have e2 : (layP i (T.drop (T.length - 1)) zs).1 = [] := by rw [layP, if_neg w1, if_neg w2, if_neg w3, if_neg w5, if_neg w6]
  rw [e1, e2, List.append_nil]
  refine .inl ⟨rfl, ?_⟩
  show StkR _ st.dropLast
  rw [hdl, hlen]
  exact hs.take _
theorem vmI_lead {rs st : List V3} {i : I5} (k : Nat) : k + 1 + (vmI rs st i).2.1 ∈ leadP i (k + 1) := by
  unfold vmI leadP
  by_cases w4 : i.1 = 4
  · rw [if_pos w4, if_neg (by omega), if_neg (by omega), if_neg (by omega), if_pos w4]; simp
  rw [if_neg w4, if_neg w4]
  by_cases w5 : i.1 = 5
  · rw [if_pos w5, if_neg (by omega), if_neg (by omega), if_neg (by omega), if_pos w5]
    simp only
    split <;> simp
  rw [if_neg w5, if_neg w5]
  split
  · simp
  split
  · simp
  split
  · simp
  split
  · simp
  · simp
/-- From a place of which it is known what lies there. -/
theorem loop_runs {zs : List (ByteArray × Int)} {rs : List V3} {fuel : Int} (hrow : RowR zs rs) : ∀ (is : List I5) (ks l : List Pl) (k n s : Nat) (T : List Int) (st : List V3) (d : List Nat), (∀ i ∈ is, inB i.2.2.2.1) → ks.length = k + is.length + 1 → loopP zs ks k is = (l, n, 0) → s ≤ is.length → ks[k + s]? = some (some T) → StkR T st →
    (runP rs fuel is k s st d).2.2.2 = 9 ∨ (runP rs fuel is k s st d).2.2.2 = 10 ∨ (runP rs fuel is k s st d).2.2.2 = 0 ∧ (runP rs fuel is k s st d).1 = 0 ∧ ∃ T2, l[k + is.length]? = some (some T2) ∧ StkR T2 (runP rs fuel is k s st d).2.1
  | [], ks, l, k, n, s, T, st, d, hb, hl, hloop, hs, hk, hst => by
    obtain rfl : s = 0 := by simpa using hs
    rw [loopP] at hloop
    obtain ⟨rfl, _⟩ := Prod.mk.inj hloop
    rw [runP]
    exact .inr (.inr ⟨rfl, rfl, T, hk, hst⟩)
  | i :: is, ks, l, k, n, s, T, st, d, hb, hl, hloop, hs, hk, hst => by
    rw [List.length_cons] at hl hs ⊢
    rw [loopP] at hloop
    split at hloop
    · rename_i h1
      exact absurd (congrArg (fun r => r.2.2) hloop) h1
    rename_i h1
    have h1' := Classical.not_not.1 h1
    have hlen := stepP_len (zs := zs) (ks := ks) (k := k) (i := i)
    rw [show k + (is.length + 1) = k + 1 + is.length by omega]
    match s, hs, hk with
    | s + 1, hs, hk =>
      rw [runP]
      exact loop_runs hrow is _ l (k + 1) n s T st d (fun j hj => hb j (List.mem_cons_of_mem _ hj)) (by rw [hlen]; omega) hloop (by omega) (step_on _ _ (by rw [show k + 1 + s = k + (s + 1) by omega]; exact hk)) hst
    | 0, hs, hk =>
      rw [runP]
      split
      · exact .inr (.inl rfl)
      obtain ⟨q1, q2, q3⟩ := step_out h1' hk (by omega)
      rcases vmI_right hrow (hb i (List.mem_cons_self ..)) hst q1 q2 with ⟨r1, r2⟩ | r
      · rw [if_neg (by simp [r1])]
        have hm := vmI_lead (rs := rs) (st := st) (i := i) k
        have hlt := lead_lt (by omega) q1 _ hm
        exact loop_runs hrow is _ l (k + 1) n _ _ _ _ (fun j hj => hb j (List.mem_cons_of_mem _ hj)) (by rw [hlen]; omega) hloop (by omega) (q3 _ hm) r2
      · rw [if_pos (by rw [r]; decide)]
        exact .inl r
/-- WHAT IS SOUND RUNS: it ends with a value of its type, or a number goes over, or there is not enough fuel. -/
theorem sound_runs {zs : List (ByteArray × Int)} {rs : List V3} {fuel : Int} {is : List I5} (hrow : RowR zs rs) (hb : ∀ i ∈ is, inB i.2.2.2.1) (h : (verP is zs).2.2 = 0) :
    (runP rs fuel is 0 0 [] []).2.2.2 = 9 ∨ (runP rs fuel is 0 0 [] []).2.2.2 = 10 ∨ (runP rs fuel is 0 0 [] []).2.2.2 = 0 ∧ ∃ v, (runP rs fuel is 0 0 [] []).2.1 = [v] ∧ okV (typP is (verP is zs)) v := by
  obtain ⟨h1, h2, l, t, h3, h4, h5, h6⟩ := sound_loop h
  rcases loop_runs (fuel := fuel) hrow is _ l 0 is.length 0 [] [] [] hb (by simp) h3 (by omega) rfl StkR.nil with r | r | ⟨r1, r2, T2, r3, r4⟩
  · exact .inl r
  · exact .inr (.inl r)
  · refine .inr (.inr ⟨r1, ?_⟩)
    rw [Nat.zero_add, h5] at r3
    obtain rfl : T2 = [t] := by injection r3 with r3; injection r3 with r3; exact r3.symm
    rw [typ_sound h5 h6]
    obtain ⟨e1, e2⟩ := r4
    match hq : (runP rs fuel is 0 0 [] []).2.1, e1, e2 with
    | [v], e1, e2 =>
      refine ⟨v, rfl, ?_⟩
      have := e2 v (by simp)
      rw [List.map_singleton] at e1
      have he : v.1 = t := by injection e1
      rw [he] at this
      exact this
    | [], e1, _ => exact absurd e1 (by simp)
    | _ :: _ :: _, e1, _ => exact absurd e1 (by simp)
--END
end Go.Proofs.YtkoejkpjkcejcabDoor
