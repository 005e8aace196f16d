/-
  VmP, VmS, CpP, CpA, CpV, in one text.
-/
import Derived.Test.YtplnjbdngedafaaGreatDoorGrAk
import Derived.Test.YtplnjbdngedafaaGreatDoorGrAm
import Derived.Test.YtplnjbdngedafaaGreatDoorQEvFn
namespace Go.Proofs.YtplnjbdngedafaaGreatDoor
open Go.RowKit
set_option linter.unusedVariables false
--BEGIN
/-- One instruction: what lies on the stack behind it, how many further on it goes, and what goes wrong. -/
def vmI (rs st : List V3) (i : I5) : List V3 × Nat × Int :=
  if i.1 = 1 then (st ++ [(i.2.2.1, i.2.2.2.1, i.2.2.2.2)], 0, 0)
  else if i.1 = 2 then (st ++ [rs[i.2.1.toNat]?.getD noV], 0, 0)
  else if i.1 = 3 then (st.take (st.length - needN i) ++ [(doP (opN i.2.1) (st.drop (st.length - needN i))).1], 0, (doP (opN i.2.1) (st.drop (st.length - needN i))).2)
  else if i.1 = 4 then (st, i.2.1.toNat, 0)
  else if i.1 = 5 then (st.dropLast, if (st.getLast?.getD noV).2.1 = 0 then i.2.1.toNat else 0, 0)
  else if i.1 = 6 then (st ++ [st.getLast?.getD noV], 0, 0)
  else (st.dropLast, 0, 0)
/-- How it ended: how many more are gone over, what lies on the stack, which were done, what went wrong. -/
abbrev Rn := Nat × List V3 × List Nat × Int
/-- Instructions from number k on, the next s of which are gone over. -/
def runP (rs : List V3) (fuel : Int) : List I5 → Nat → Nat → List V3 → List Nat → Rn
  | [], k, s, st, d => (s, st, d, 0)
  | i :: is, k, s + 1, st, d => runP rs fuel is (k + 1) s st d
  | i :: is, k, 0, st, d => if (d.length : Int) = fuel then (0, st, d, 10) else if (vmI rs st i).2.2 ≠ 0 then (0, st, d, (vmI rs st i).2.2) else runP rs fuel is (k + 1) (vmI rs st i).2.1 (vmI rs st i).1 (d ++ [k])
theorem run_app (rs : List V3) (fuel : Int) (b : List I5) : ∀ (a : List I5) (k s : Nat) (st : List V3) (d : List Nat), runP rs fuel (a ++ b) k s st d = if (runP rs fuel a k s st d).2.2.2 ≠ 0 then runP rs fuel a k s st d else runP rs fuel b (k + a.length) (runP rs fuel a k s st d).1 (runP rs fuel a k s st d).2.1 (runP rs fuel a k s st d).2.2.1
  | [], k, s, st, d => by rw [List.nil_append, runP, if_neg (by simp), List.length_nil, Nat.add_zero]
  | i :: is, k, s + 1, st, d => by
    rw [List.cons_append, runP, runP, run_app rs fuel b is, List.length_cons, show k + 1 + is.length = k + (is.length + 1) by omega]
  | i :: is, k, 0, st, d => by
    rw [List.cons_append, runP, runP]
    by_cases h1 : (d.length : Int) = fuel
    · rw [if_pos h1, if_pos h1, if_pos (by simp)]
    rw [if_neg h1, if_neg h1]
    by_cases h2 : (vmI rs st i).2.2 ≠ 0
    · rw [if_pos h2, if_pos h2, if_pos h2]
    rw [if_neg h2, if_neg h2, run_app rs fuel b is, List.length_cons, show k + 1 + is.length = k + (is.length + 1) by omega]
theorem run_over (rs : List V3) (fuel : Int) : ∀ (a : List I5) (k s : Nat) (st : List V3) (d : List Nat), a.length ≤ s → runP rs fuel a k s st d = (s - a.length, st, d, 0)
  | [], k, s, st, d, _ => by rw [runP]; rfl
  | i :: is, k, 0, st, d, h => absurd h (by simp)
  | i :: is, k, s + 1, st, d, h => by
    rw [List.length_cons] at h ⊢
    rw [runP, run_over rs fuel is (k + 1) s st d (by omega), show s + 1 - (is.length + 1) = s - is.length by omega]
/-- Those that are gone over may be left away. -/
theorem run_drop (rs : List V3) (fuel : Int) : ∀ (a : List I5) (k s : Nat) (st : List V3) (d : List Nat), s ≤ a.length → runP rs fuel a k s st d = runP rs fuel (a.drop s) (k + s) 0 st d
  | a, k, 0, st, d, _ => rfl
  | [], k, s + 1, st, d, h => absurd h (by simp)
  | i :: is, k, s + 1, st, d, h => by
    rw [List.length_cons] at h
    rw [runP, run_drop rs fuel is (k + 1) s st d (by omega), List.drop_succ_cons, show k + 1 + s = k + (s + 1) by omega]
/-- Which were done: more of them, in order, none twice. -/
theorem run_done (rs : List V3) (fuel : Int) : ∀ (is : List I5) (k s : Nat) (st : List V3) (d : List Nat), ∃ m, (runP rs fuel is k s st d).2.2.1 = d ++ m ∧ m.length ≤ is.length ∧ m.Pairwise (· < ·) ∧ ∀ x ∈ m, k + s ≤ x ∧ x < k + is.length
  | [], k, s, st, d => ⟨[], by rw [runP]; simp, by simp, List.Pairwise.nil, by simp⟩
  | i :: is, k, s + 1, st, d => by
    obtain ⟨m, h1, h2, h3, h4⟩ := run_done rs fuel is (k + 1) s st d
    refine ⟨m, by rw [runP]; exact h1, by rw [List.length_cons]; omega, h3, fun x hx => ?_⟩
    have := h4 x hx
    rw [List.length_cons]
    omega
  | i :: is, k, 0, st, d => by
    rw [runP]
    split
    · exact ⟨[], by simp, by simp, List.Pairwise.nil, by simp⟩
    split
    · exact ⟨[], by simp, by simp, List.Pairwise.nil, by simp⟩
    obtain ⟨m, h1, h2, h3, h4⟩ := run_done rs fuel is (k + 1) (vmI rs st i).2.1 (vmI rs st i).1 (d ++ [k])
    refine ⟨k :: m, by rw [h1]; simp, by rw [List.length_cons, List.length_cons]; omega, List.Pairwise.cons (fun x hx => ?_) h3, fun x hx => ?_⟩
    · have := h4 x hx
      omega
    · rw [List.length_cons]
      rcases List.mem_cons.1 hx with rfl | hx
      · omega
      · have := h4 x hx
        omega
/-- With more than was needed it is the same. -/
theorem run_more (rs : List V3) (f g : Int) : ∀ (is : List I5) (k s : Nat) (st : List V3) (d : List Nat), (runP rs f is k s st d).2.2.2 ≠ 10 → (g < 0 ∨ ((runP rs f is k s st d).2.2.1.length : Int) < g ∨ ((runP rs f is k s st d).2.2.1.length : Int) ≤ g ∧ (runP rs f is k s st d).2.2.2 = 0) → runP rs g is k s st d = runP rs f is k s st d
  | [], k, s, st, d, _, _ => by rw [runP, runP]
  | i :: is, k, s + 1, st, d, h, hg => by
    rw [runP] at h hg
    rw [runP, runP, run_more rs f g is _ _ _ _ h hg]
  | i :: is, k, 0, st, d, h, hg => by
    rw [runP] at h hg
    rw [runP, runP]
    by_cases h1 : (d.length : Int) = f
    · rw [if_pos h1] at h
      exact absurd rfl h
    rw [if_neg h1] at h hg ⊢
    by_cases h2 : (vmI rs st i).2.2 ≠ 0
    · rw [if_pos h2] at h hg ⊢
      rw [if_neg (by
        rcases hg with hg | hg | hg
        · omega
        · simp only at hg; omega
        · exact absurd hg.2 h2), if_pos h2]
    rw [if_neg h2] at h hg ⊢
    rw [if_neg h2]
    obtain ⟨m, e1, -⟩ := run_done rs f is (k + 1) (vmI rs st i).2.1 (vmI rs st i).1 (d ++ [k])
    have hd : d.length + 1 ≤ (runP rs f is (k + 1) (vmI rs st i).2.1 (vmI rs st i).1 (d ++ [k])).2.2.1.length := by rw [e1]; simp
    rw [if_neg (by omega), run_more rs f g is _ _ _ _ h hg]
/-- With less than was needed there is not enough. -/
theorem run_less (rs : List V3) (f g : Int) : ∀ (is : List I5) (k s : Nat) (st : List V3) (d : List Nat), (runP rs f is k s st d).2.2.2 ≠ 10 → (d.length : Int) ≤ g → (g < ((runP rs f is k s st d).2.2.1.length : Int) ∨ g = ((runP rs f is k s st d).2.2.1.length : Int) ∧ (runP rs f is k s st d).2.2.2 ≠ 0) → (runP rs g is k s st d).2.2.2 = 10 ∧ ((runP rs g is k s st d).2.2.1.length : Int) = g
  | [], k, s, st, d, _, h0, hg => by
    rw [runP] at hg
    simp only at hg
    omega
  | i :: is, k, s + 1, st, d, h, h0, hg => by
    rw [runP] at h hg
    rw [runP]
    exact run_less rs f g is _ _ _ _ h h0 hg
  | i :: is, k, 0, st, d, h, h0, hg => by
    rw [runP] at h hg
    rw [runP]
    by_cases hd : (d.length : Int) = g
    · rw [if_pos hd]
      exact ⟨rfl, hd⟩
    rw [if_neg hd]
    by_cases h1 : (d.length : Int) = f
    · rw [if_pos h1] at h
      exact absurd rfl h
    rw [if_neg h1] at h hg
    by_cases h2 : (vmI rs st i).2.2 ≠ 0
    · rw [if_pos h2] at h hg
      simp only at hg
      omega
    rw [if_neg h2] at h hg ⊢
    exact run_less rs f g is _ _ _ _ h (by rw [List.length_append, List.length_singleton]; omega) hg
--END
end Go.Proofs.YtplnjbdngedafaaGreatDoor
namespace Go.Proofs.YtplnjbdngedafaaGreatDoor
open Go.RowKit
set_option linter.unusedVariables false
--BEGIN
/-- What is known stays known. -/
def KnOn (ks l : List Pl) : Prop := ∀ (t : Nat) (x : List Int), ks[t]? = some (some x) → l[t]? = some (some x)
theorem KnOn.refl (ks : List Pl) : KnOn ks ks := fun _ _ h => h
theorem KnOn.trans {a b c : List Pl} (h1 : KnOn a b) (h2 : KnOn b c) : KnOn a c := fun t x h => h2 t x (h1 t x h)
theorem go_on {st : List Int} : ∀ {ts : List Nat} {ks l : List Pl}, goP st ts ks = some l → KnOn ks l ∧ ∀ t ∈ ts, t < ks.length → l[t]? = some (some st)
  | [], ks, l, h => by
    rw [goP] at h
    rw [← Option.some.inj h]
    exact ⟨KnOn.refl _, by simp⟩
  | t :: ts, ks, l, h => by
    rw [goP] at h
    split at h
    · exact absurd h (by simp)
    rename_i hn
    obtain ⟨h1, h2⟩ := go_on h
    have hset : KnOn ks (ks.set t (some st)) := fun u x hu => by
      by_cases hut : u = t
      · subst hut
        have hlt : u < ks.length := (List.getElem?_eq_some_iff.1 hu).1
        rw [List.getElem?_set_self hlt]
        rw [hu] at hn
        simp only [Option.getD_some, Option.isSome_some, true_and, ne_eq, Classical.not_not] at hn
        rw [hn]
      · rw [List.getElem?_set_ne (Ne.symm hut)]
        exact hu
    refine ⟨hset.trans h1, fun u hu hlt => ?_⟩
    rcases List.mem_cons.1 hu with rfl | hu
    · exact h1 u st (List.getElem?_set_self hlt)
    · exact h2 u hu (by rw [List.length_set]; exact hlt)
theorem step_on {zs : List (ByteArray × Int)} {ks : List Pl} {k : Nat} {i : I5} : KnOn ks (stepP zs ks k i).1 := by
  unfold stepP
  split
  · exact KnOn.refl _
  split
  · exact KnOn.refl _
  split
  · exact KnOn.refl _
  split
  · exact KnOn.refl _
  · rename_i h
    exact (go_on h).1
/-- What a step that is right says. -/
theorem step_out {zs : List (ByteArray × Int)} {ks : List Pl} {k : Nat} {i : I5} {T : List Int} (h : (stepP zs ks k i).2 = 0) (hk : ks[k]? = some (some T)) (hlt : k + 1 < ks.length) : argE i zs.length ((ks.length : Int) - 1 - ((k : Int) + 1)) = 0 ∧ (aftP T i zs).2 = 0 ∧ ∀ t ∈ leadP i (k + 1), (stepP zs ks k i).1[t]? = some (some (aftP T i zs).1) := by
  unfold stepP at h ⊢
  rw [hk] at h ⊢
  simp only [Option.getD_some, Option.isSome_some, Bool.true_eq_false, if_false] at h ⊢
  split at h
  · rename_i h2; exact absurd h h2
  rename_i h2
  have h2' := Classical.not_not.1 h2
  rw [if_neg h2]
  split at h
  · rename_i h3; exact absurd h h3
  rename_i h3
  rw [if_neg h3]
  split at h
  · exact absurd h (by simp)
  rename_i l hl
  exact ⟨h2', Classical.not_not.1 h3, fun t ht => (go_on hl).2 t ht (lead_lt hlt h2' t ht)⟩
/-- The values on a stack are right, and of the types that are known. -/
def StkR (T : List Int) (st : List V3) : Prop := st.map (·.1) = T ∧ ∀ v ∈ st, okV v.1 v
theorem StkR.len {T : List Int} {st : List V3} (h : StkR T st) : st.length = T.length := by rw [← h.1, List.length_map]
theorem StkR.app {T T2 : List Int} {st s2 : List V3} (h : StkR T st) (h2 : StkR T2 s2) : StkR (T ++ T2) (st ++ s2) :=
  ⟨by rw [List.map_append, h.1, h2.1], fun v hv => by
    rcases List.mem_append.1 hv with hv | hv
    · exact h.2 v hv
    · exact h2.2 v hv⟩
theorem StkR.take {T : List Int} {st : List V3} (h : StkR T st) (n : Nat) : StkR (T.take n) (st.take n) :=
  ⟨by rw [List.map_take, h.1], fun v hv => h.2 v (List.mem_of_mem_take hv)⟩
theorem StkR.drop {T : List Int} {st : List V3} (h : StkR T st) (n : Nat) : StkR (T.drop n) (st.drop n) :=
  ⟨by rw [List.map_drop, h.1], fun v hv => h.2 v (List.mem_of_mem_drop hv)⟩
theorem StkR.one {t : Int} {v : V3} (h : okV t v) : StkR [t] [v] :=
  ⟨by rw [List.map_singleton, h.1], fun u hu => by
    rw [List.mem_singleton.1 hu]
    obtain ⟨e, h⟩ := h
    exact ⟨rfl, h⟩⟩
theorem StkR.nil : StkR [] [] := ⟨rfl, by simp⟩
theorem do_comes {op : List UInt8} {vs : List V3} {T : List Int} (h : StkR T vs) {t : Int} (hr : ruleP op T = (t, 0)) : comes t (doP op vs) := by
  have hv : vlE vs = 0 := vlE_zero.2 fun v hv => (h.2 v hv).2.1
  rw [doP, if_neg (by simp [hv]), h.1, hr, if_neg (by simp)]
  exact app_comes (fun v hv => (h.2 v hv).2.1) (fun v hv => (h.2 v hv).2.2) (by rw [h.1]; exact hr)
/-- What is right by itself, and with what lies there, is done: then what is known lies there; or a number goes over. -/
theorem vmI_right {zs : List (ByteArray × Int)} {rs st : List V3} {T : List Int} {i : I5} {bh : Int} (hrow : RowR zs rs) (hb : inB i.2.2.2.1) (hs : StkR T st) (h1 : argE i zs.length bh = 0) (h2 : (aftP T i zs).2 = 0) :
    ((vmI rs st i).2.2 = 0 ∧ StkR (aftP T i zs).1 (vmI rs st i).1) ∨ (vmI rs st i).2.2 = 9 := by
  have hlen := hs.len
  unfold aftP at h2 ⊢
  split at h2
  · exact absurd h2 (by simp)
  rename_i hn
  rw [if_neg hn]
  split at h2
  · rename_i h3; exact absurd h2 h3
  rename_i h3
  have h3' := Classical.not_not.1 h3
  rw [if_neg h3]
  split at h2
  · exact absurd h2 (by simp)
  rename_i h4
  rw [if_neg h4]
  clear h4 h2 h3
  simp only
  unfold argE at h1
  unfold vmI
  by_cases w1 : i.1 = 1
  · rw [if_pos w1] at h1 ⊢
    have e1 : needN i = 0 := by rw [needN, if_neg (by omega), if_neg (by omega)]
    have e2 : layP i (T.drop (T.length - 0)) zs = ([i.2.2.1], 0) := by rw [layP, if_pos w1]
    rw [e1, e2, Nat.sub_zero, List.take_length]
    exact .inl ⟨rfl, hs.app (StkR.one ⟨rfl, h1, hb⟩)⟩
  rw [if_neg w1] at h1 ⊢
  by_cases w2 : i.1 = 2
  · rw [if_pos w2] at h1 ⊢
    have e1 : needN i = 0 := by rw [needN, if_neg (by omega), if_neg (by omega)]
    have e2 : layP i (T.drop (T.length - 0)) zs = ([(zs[i.2.1.toNat]?.getD default).2], 0) := by rw [layP, if_neg w1, if_pos w2]
    rw [e1, e2, Nat.sub_zero, List.take_length]
    refine .inl ⟨rfl, hs.app (StkR.one ?_)⟩
    split at h1
    · rename_i hh
      have hlt : i.2.1.toNat < zs.length := by omega
      have hlt2 : i.2.1.toNat < rs.length := by rw [hrow.1]; exact hlt
      have := hrow.2 _ hlt hlt2
      rw [List.getElem?_eq_getElem hlt, List.getElem?_eq_getElem hlt2]
      exact this
    · exact absurd h1 (by decide)
  rw [if_neg w2] at h1 ⊢
  by_cases w3 : i.1 = 3
  · rw [if_pos w3] at h1 ⊢
    rw [hlen]
    have e2 : layP i (T.drop (T.length - needN i)) zs = ([(ruleP (opN i.2.1) (T.drop (T.length - needN i))).1], (ruleP (opN i.2.1) (T.drop (T.length - needN i))).2) := by rw [layP, if_neg w1, if_neg w2, if_pos w3]
    rw [e2] at h3' ⊢
    have hc := do_comes (hs.drop (T.length - needN i)) (Prod.ext rfl h3' : ruleP (opN i.2.1) (T.drop (T.length - needN i)) = (_, 0))
    rcases hc with ⟨c1, c2⟩ | c
    · exact .inl ⟨c1, (hs.take _).app (StkR.one c2)⟩
    · exact .inr (by rw [c])
  rw [if_neg w3] at h1 ⊢
  by_cases w4 : i.1 = 4
  · rw [if_pos w4]
    have e1 : needN i = 0 := by rw [needN, if_neg (by omega), if_neg (by omega)]
    have e2 : layP i (T.drop (T.length - 0)) zs = ([], 0) := by rw [layP, if_neg w1, if_neg w2, if_neg w3, if_neg (by omega), if_neg (by omega)]
    rw [e1, e2, Nat.sub_zero, List.take_length, List.append_nil]
    exact .inl ⟨rfl, hs⟩
  rw [if_neg w4]
  have hdl : ∀ (l : List V3), l.dropLast = l.take (l.length - 1) := fun l => List.dropLast_eq_take
  by_cases w5 : i.1 = 5
  · rw [if_pos w5]
    have e1 : needN i = 1 := by rw [needN, if_neg (by omega), if_pos (by omega)]
    have e2 : (layP i (T.drop (T.length - 1)) zs).1 = [] := by
      rw [layP, if_neg w1, if_neg w2, if_neg w3, if_pos w5]
      split <;> rfl
    rw [e1, e2, List.append_nil]
    refine .inl ⟨rfl, ?_⟩
    show StkR _ st.dropLast
    rw [hdl, hlen]
    exact hs.take _
  rw [if_neg w5]
  by_cases w6 : i.1 = 6
  · rw [if_pos w6]
    have e1 : needN i = 1 := by rw [needN, if_neg (by omega), if_pos (by omega)]
    have e2 : layP i (T.drop (T.length - 1)) zs = ([(T.drop (T.length - 1)).headD 0, (T.drop (T.length - 1)).headD 0], 0) := by rw [layP, if_neg w1, if_neg w2, if_neg w3, if_neg w5, if_pos w6]
    rw [e1] at hn
    rw [e1, e2]
    refine .inl ⟨rfl, ?_⟩
    rcases List.eq_nil_or_concat st with he | ⟨s0, v, he⟩
    · rw [he] at hlen; simp at hlen; omega
    · have he' : st = s0 ++ [v] := by rw [he, List.concat_eq_append]
      subst he'
      obtain ⟨hT, hok⟩ := hs
      rw [List.map_append, List.map_singleton] at hT
      subst hT
      have hs0 : StkR (s0.map (·.1)) s0 := ⟨rfl, fun u hu => hok u (by simp [hu])⟩
      have hv : StkR [v.1] [v] := StkR.one (hok v (by simp))
      have := (hs0.app hv).app hv
      simpa using this
  rw [if_neg w6]
  have w7 : i.1 = 7 := by
    rw [if_neg (by omega)] at h1
    apply Classical.byContradiction
    intro w7
    rw [if_neg (by omega)] at h1
    exact absurd h1 (by decide)
  have e1 : needN i = 1 := by rw [needN, if_neg (by omega), if_pos (by omega)]
  have e2 : (layP i (T.drop (T.length - 1)) zs).1 = [] := by rw [layP, if_neg w1, if_neg w2, if_neg w3, if_neg w5, if_neg w6]
  rw [e1, e2, List.append_nil]
  refine .inl ⟨rfl, ?_⟩
  show StkR _ st.dropLast
  rw [hdl, hlen]
  exact hs.take _
theorem vmI_lead {rs st : List V3} {i : I5} (k : Nat) : k + 1 + (vmI rs st i).2.1 ∈ leadP i (k + 1) := by
  unfold vmI leadP
  by_cases w4 : i.1 = 4
  · rw [if_pos w4, if_neg (by omega), if_neg (by omega), if_neg (by omega), if_pos w4]; simp
  rw [if_neg w4, if_neg w4]
  by_cases w5 : i.1 = 5
  · rw [if_pos w5, if_neg (by omega), if_neg (by omega), if_neg (by omega), if_pos w5]
    simp only
    split <;> simp
  rw [if_neg w5, if_neg w5]
  split
  · simp
  split
  · simp
  split
  · simp
  split
  · simp
  · simp
/-- From a place of which it is known what lies there. -/
theorem loop_runs {zs : List (ByteArray × Int)} {rs : List V3} {fuel : Int} (hrow : RowR zs rs) : ∀ (is : List I5) (ks l : List Pl) (k n s : Nat) (T : List Int) (st : List V3) (d : List Nat), (∀ i ∈ is, inB i.2.2.2.1) → ks.length = k + is.length + 1 → loopP zs ks k is = (l, n, 0) → s ≤ is.length → ks[k + s]? = some (some T) → StkR T st →
    (runP rs fuel is k s st d).2.2.2 = 9 ∨ (runP rs fuel is k s st d).2.2.2 = 10 ∨ (runP rs fuel is k s st d).2.2.2 = 0 ∧ (runP rs fuel is k s st d).1 = 0 ∧ ∃ T2, l[k + is.length]? = some (some T2) ∧ StkR T2 (runP rs fuel is k s st d).2.1
  | [], ks, l, k, n, s, T, st, d, hb, hl, hloop, hs, hk, hst => by
    obtain rfl : s = 0 := by simpa using hs
    rw [loopP] at hloop
    obtain ⟨rfl, _⟩ := Prod.mk.inj hloop
    rw [runP]
    exact .inr (.inr ⟨rfl, rfl, T, hk, hst⟩)
  | i :: is, ks, l, k, n, s, T, st, d, hb, hl, hloop, hs, hk, hst => by
    rw [List.length_cons] at hl hs ⊢
    rw [loopP] at hloop
    split at hloop
    · rename_i h1
      exact absurd (congrArg (fun r => r.2.2) hloop) h1
    rename_i h1
    have h1' := Classical.not_not.1 h1
    have hlen := stepP_len (zs := zs) (ks := ks) (k := k) (i := i)
    rw [show k + (is.length + 1) = k + 1 + is.length by omega]
    match s, hs, hk with
    | s + 1, hs, hk =>
      rw [runP]
      exact loop_runs hrow is _ l (k + 1) n s T st d (fun j hj => hb j (List.mem_cons_of_mem _ hj)) (by rw [hlen]; omega) hloop (by omega) (step_on _ _ (by rw [show k + 1 + s = k + (s + 1) by omega]; exact hk)) hst
    | 0, hs, hk =>
      rw [runP]
      split
      · exact .inr (.inl rfl)
      obtain ⟨q1, q2, q3⟩ := step_out h1' hk (by omega)
      rcases vmI_right hrow (hb i (List.mem_cons_self ..)) hst q1 q2 with ⟨r1, r2⟩ | r
      · rw [if_neg (by simp [r1])]
        have hm := vmI_lead (rs := rs) (st := st) (i := i) k
        have hlt := lead_lt (by omega) q1 _ hm
        exact loop_runs hrow is _ l (k + 1) n _ _ _ _ (fun j hj => hb j (List.mem_cons_of_mem _ hj)) (by rw [hlen]; omega) hloop (by omega) (q3 _ hm) r2
      · rw [if_pos (by rw [r]; decide)]
        exact .inl r
/-- WHAT IS SOUND RUNS: it ends with a value of its type, or a number goes over, or there is not enough fuel. -/
theorem sound_runs {zs : List (ByteArray × Int)} {rs : List V3} {fuel : Int} {is : List I5} (hrow : RowR zs rs) (hb : ∀ i ∈ is, inB i.2.2.2.1) (h : (verP is zs).2.2 = 0) :
    (runP rs fuel is 0 0 [] []).2.2.2 = 9 ∨ (runP rs fuel is 0 0 [] []).2.2.2 = 10 ∨ (runP rs fuel is 0 0 [] []).2.2.2 = 0 ∧ ∃ v, (runP rs fuel is 0 0 [] []).2.1 = [v] ∧ okV (typP is (verP is zs)) v := by
  obtain ⟨h1, h2, l, t, h3, h4, h5, h6⟩ := sound_loop h
  rcases loop_runs (fuel := fuel) hrow is _ l 0 is.length 0 [] [] [] hb (by simp) h3 (by omega) rfl StkR.nil with r | r | ⟨r1, r2, T2, r3, r4⟩
  · exact .inl r
  · exact .inr (.inl r)
  · refine .inr (.inr ⟨r1, ?_⟩)
    rw [Nat.zero_add, h5] at r3
    obtain rfl : T2 = [t] := by injection r3 with r3; injection r3 with r3; exact r3.symm
    rw [typ_sound h5 h6]
    obtain ⟨e1, e2⟩ := r4
    match hq : (runP rs fuel is 0 0 [] []).2.1, e1, e2 with
    | [v], e1, e2 =>
      refine ⟨v, rfl, ?_⟩
      have := e2 v (by simp)
      rw [List.map_singleton] at e1
      have he : v.1 = t := by injection e1
      rw [he] at this
      exact this
    | [], e1, _ => exact absurd e1 (by simp)
    | _ :: _ :: _, e1, _ => exact absurd e1 (by simp)
--END
end Go.Proofs.YtplnjbdngedafaaGreatDoor
namespace Go.Proofs.YtplnjbdngedafaaGreatDoor
open Go.RowKit
set_option linter.unusedVariables false
--BEGIN
def pushI (v : V3) : I5 := (1, 0, v.1, v.2.1, v.2.2)
def loadI (n : Int) : I5 := (2, n, 0, 0, ⟨#[]⟩)
def doI (n : Int) : I5 := (3, n, 0, 0, ⟨#[]⟩)
def jumpI (n : Nat) : I5 := (4, (n : Int), 0, 0, ⟨#[]⟩)
def elseI (n : Nat) : I5 := (5, (n : Int), 0, 0, ⟨#[]⟩)
/-- Which number an operation has. -/
def idxP (op : List UInt8) : Int := match kdRules.findIdx? (fun r => r.1 == op) with
  | none => -1
  | some k => k
/-- One of two, by what comes of the first. -/
def chooseP (f s n : List I5) : List I5 := f ++ elseI (s.length + 1) :: (s ++ jumpI n.length :: n)
def combC (op : List UInt8) (ps : List (List I5)) : List I5 :=
  if op = [111, 114] then chooseP (ps[0]?.getD []) [pushI (truP true)] (ps[1]?.getD [])
  else if op = [97, 110, 100] then chooseP (ps[0]?.getD []) (ps[1]?.getD []) [pushI (truP false)]
  else if op = [105, 102] then chooseP (ps[0]?.getD []) (ps[1]?.getD []) (ps[2]?.getD [])
  else ps.flatten ++ [doI (idxP op)]
mutual
/-- An expression that is right, as instructions. -/
def cpP (zs : List (ByteArray × Int)) : Ex → List I5
  | .node op nm vt vn vs _ l => if op.data.toList = [118, 97, 108] then [pushI (vt, vn, vs)] else if op.data.toList = [99, 111, 108] then [loadI (findN nm.data.toList zs)] else combC op.data.toList (cpsP zs l)
def cpsP (zs : List (ByteArray × Int)) : List Ex → List (List I5)
  | [] => []
  | x :: xs => cpP zs x :: cpsP zs xs
end
theorem cpsP_map (zs : List (ByteArray × Int)) : ∀ l : List Ex, cpsP zs l = l.map (cpP zs)
  | [] => by rw [cpsP]; rfl
  | x :: xs => by rw [cpsP, cpsP_map zs xs]; rfl
theorem cpP_op {zs : List (ByteArray × Int)} {op nm vs : ByteArray} {vt vn pos : Int} {l : List Ex} (h1 : op.data.toList ≠ [118, 97, 108]) (h2 : op.data.toList ≠ [99, 111, 108]) : cpP zs (.node op nm vt vn vs pos l) = combC op.data.toList (l.map (cpP zs)) := by
  rw [cpP, if_neg h1, if_neg h2, cpsP_map]
/-- Each operation but or, and, if has its number. -/
theorem idx_ops : ∀ r ∈ kdRules, r.1 ≠ [111, 114] → r.1 ≠ [97, 110, 100] → r.1 ≠ [105, 102] → opE (idxP r.1) = 0 ∧ opN (idxP r.1) = r.1 ∧ cntN r.1 = kdCnt r := by
  intro r hr h1 h2 h3
  simp only [kdRules, List.mem_cons, List.not_mem_nil, or_false] at hr
  rcases hr with rfl | rfl | rfl | rfl | rfl | rfl | rfl | rfl | rfl | rfl | rfl | rfl | rfl | rfl | rfl | rfl | rfl
  · exact absurd rfl h1
  · exact absurd rfl h2
  all_goals first
    | exact absurd rfl h3
    | exact ⟨by decide, by decide, by decide⟩
/-- A truth is what it says. -/
theorem okV_two {v : V3} (h : okV 2 v) : v = truP (isY v) ∧ (v.2.1 = 0 ↔ isY v = false) := by
  obtain ⟨t, n, s⟩ := v
  obtain ⟨h1, h2, -⟩ := h
  simp only at h1 h2
  subst h1
  obtain ⟨h3, h4⟩ := chk_two h2
  have hs : s = ⟨#[]⟩ := by
    cases s with
    | mk a => rw [show a = #[] from Array.toList_eq_nil_iff.1 h4]
  subst hs
  rcases h3 with rfl | rfl
  · exact ⟨rfl, by simp [isY]⟩
  · exact ⟨rfl, by simp [isY]⟩
/-- One of two results, by the first. -/
def pickP (a s n : V3 × Int) : V3 × Int := if a.2 ≠ 0 then (noV, a.2) else if a.1.2.1 = 0 then n else s
/-- What instructions come to. -/
def RunsTo (rs : List V3) (is : List I5) (r : V3 × Int) : Prop := ∀ (fuel : Int), fuel < 0 → ∀ (k : Nat) (st : List V3) (d : List Nat), (r.2 = 0 → ∃ m, runP rs fuel is k 0 st d = (0, st ++ [r.1], m, 0)) ∧ (r.2 ≠ 0 → (runP rs fuel is k 0 st d).2.2.2 = r.2)
theorem run_app0 {rs : List V3} {fuel : Int} {a : List I5} {k s s2 : Nat} {st st2 : List V3} {d d2 : List Nat} (h : runP rs fuel a k s st d = (s2, st2, d2, 0)) (b : List I5) : runP rs fuel (a ++ b) k s st d = runP rs fuel b (k + a.length) s2 st2 d2 := by
  rw [run_app, h, if_neg (by simp)]
theorem run_appE {rs : List V3} {fuel : Int} {a : List I5} {k s : Nat} {st : List V3} {d : List Nat} (h : (runP rs fuel a k s st d).2.2.2 ≠ 0) (b : List I5) : runP rs fuel (a ++ b) k s st d = runP rs fuel a k s st d := by
  rw [run_app, if_pos h]
theorem run_one {rs : List V3} {fuel : Int} {i : I5} {n : Nat} {st st2 : List V3} (hf : fuel < 0) (h : vmI rs st i = (st2, n, 0)) (is : List I5) (k : Nat) (d : List Nat) : runP rs fuel (i :: is) k 0 st d = runP rs fuel is (k + 1) n st2 (d ++ [k]) := by
  rw [runP, if_neg (by omega), h, if_neg (by simp)]
theorem runs_push (rs : List V3) (v : V3) : RunsTo rs [pushI v] (v, 0) := by
  intro fuel hf k st d
  refine ⟨fun _ => ⟨d ++ [k], ?_⟩, fun h => absurd rfl h⟩
  rw [run_one hf (show vmI rs st (pushI v) = (st ++ [v], 0, 0) from rfl), runP]
theorem runs_load (rs : List V3) (n : Int) : RunsTo rs [loadI n] (rs[n.toNat]?.getD noV, 0) := by
  intro fuel hf k st d
  refine ⟨fun _ => ⟨d ++ [k], ?_⟩, fun h => absurd rfl h⟩
  rw [run_one hf (show vmI rs st (loadI n) = (st ++ [rs[n.toNat]?.getD noV], 0, 0) from rfl), runP]
theorem vm_else (rs st : List V3) (v : V3) (n : Nat) : vmI rs (st ++ [v]) (elseI n) = (st, if v.2.1 = 0 then n else 0, 0) := by
  show ((st ++ [v]).dropLast, if ((st ++ [v]).getLast?.getD noV).2.1 = 0 then ((n : Int)).toNat else 0, (0 : Int)) = _
  rw [List.dropLast_concat, List.getLast?_concat, Option.getD_some, Int.toNat_natCast]
theorem vm_jump (rs st : List V3) (n : Nat) : vmI rs st (jumpI n) = (st, n, 0) := by
  show (st, ((n : Int)).toNat, (0 : Int)) = _
  rw [Int.toNat_natCast]
theorem runs_choose {rs : List V3} {f s n : List I5} {rf ra rb : V3 × Int} (hf : RunsTo rs f rf) (hs : RunsTo rs s ra) (hn : RunsTo rs n rb) : RunsTo rs (chooseP f s n) (pickP rf ra rb) := by
  intro fuel hneg k st d
  unfold pickP
  obtain ⟨f1, f2⟩ := hf fuel hneg k st d
  by_cases h0 : rf.2 = 0
  · obtain ⟨m, e⟩ := f1 h0
    have e2 : runP rs fuel (chooseP f s n) k 0 st d = runP rs fuel (s ++ jumpI n.length :: n) (k + f.length + 1) (if rf.1.2.1 = 0 then s.length + 1 else 0) st (m ++ [k + f.length]) := by
      rw [chooseP, run_app0 e, run_one hneg (vm_else rs st rf.1 (s.length + 1))]
    rw [if_neg (show ¬ rf.2 ≠ 0 by simp [h0]), e2]
    by_cases hz : rf.1.2.1 = 0
    · rw [if_pos hz, if_pos hz, run_app0 (run_over rs fuel s (k + f.length + 1) (s.length + 1) st (m ++ [k + f.length]) (by omega)), show s.length + 1 - s.length = 0 + 1 by omega, runP]
      exact hn fuel hneg _ st _
    · rw [if_neg hz, if_neg hz]
      obtain ⟨s1, s2⟩ := hs fuel hneg (k + f.length + 1) st (m ++ [k + f.length])
      refine ⟨fun h => ?_, fun h => ?_⟩
      · obtain ⟨m2, e2⟩ := s1 h
        rw [run_app0 e2, run_one hneg (vm_jump rs (st ++ [ra.1]) n.length), run_over rs fuel n _ _ _ _ (Nat.le_refl _), Nat.sub_self]
        exact ⟨_, rfl⟩
      · have e2 := s2 h
        rw [run_appE (by rw [e2]; exact h)]
        exact e2
  · have e := f2 h0
    rw [if_pos h0, chooseP, run_appE (by rw [e]; exact h0)]
    exact ⟨fun h => absurd h h0, fun _ => e⟩
/-- Parts one behind the other. -/
theorem runs_parts {α : Type} {rs : List V3} {g : α → V3 × Int} {c : α → List I5} {fuel : Int} (hneg : fuel < 0) : ∀ (l : List α) (k : Nat) (st : List V3) (d : List Nat), (∀ y ∈ l, RunsTo rs (c y) (g y)) → (firstE (l.map g) = 0 → ∃ m, runP rs fuel (l.map c).flatten k 0 st d = (0, st ++ (l.map g).map (·.1), m, 0)) ∧ (firstE (l.map g) ≠ 0 → (runP rs fuel (l.map c).flatten k 0 st d).2.2.2 = firstE (l.map g))
  | [], k, st, d, _ => ⟨fun _ => ⟨d, by simp [runP]⟩, fun h => absurd rfl h⟩
  | y :: ys, k, st, d, h => by
    obtain ⟨h1, h2⟩ := h y (List.mem_cons_self ..) fuel hneg k st d
    rw [List.map_cons, List.map_cons, List.flatten_cons, firstE]
    by_cases h0 : (g y).2 = 0
    · obtain ⟨m, e⟩ := h1 h0
      rw [run_app0 e, if_neg (show ¬ (g y).2 ≠ 0 by simp [h0])]
      obtain ⟨i1, i2⟩ := runs_parts hneg ys (k + (c y).length) (st ++ [(g y).1]) m fun z hz => h z (List.mem_cons_of_mem _ hz)
      refine ⟨fun hh => ?_, i2⟩
      obtain ⟨m2, e2⟩ := i1 hh
      exact ⟨m2, by rw [e2]; simp⟩
    · have e := h2 h0
      rw [run_appE (by rw [e]; exact h0), if_pos h0]
      exact ⟨fun hh => absurd hh h0, fun _ => e⟩
theorem drop_last {α : Type} (a b : List α) : (a ++ b).drop ((a ++ b).length - b.length) = b ∧ (a ++ b).take ((a ++ b).length - b.length) = a := by
  rw [List.length_append, Nat.add_sub_cancel]
  exact ⟨List.drop_left, List.take_left⟩
theorem runs_do {α : Type} {rs : List V3} {g : α → V3 × Int} {c : α → List I5} {l : List α} {op : List UInt8} (h : ∀ y ∈ l, RunsTo rs (c y) (g y)) (h1 : opN (idxP op) = op) (h2 : cntN op = l.length) : RunsTo rs ((l.map c).flatten ++ [doI (idxP op)]) (if firstE (l.map g) ≠ 0 then (noV, firstE (l.map g)) else doP op ((l.map g).map (·.1))) := by
  intro fuel hneg k st d
  obtain ⟨i1, i2⟩ := runs_parts hneg l k st d h
  by_cases h0 : firstE (l.map g) = 0
  · obtain ⟨m, e⟩ := i1 h0
    rw [run_app0 e, if_neg (show ¬ firstE (l.map g) ≠ 0 by simp [h0])]
    have hn : needN (doI (idxP op)) = ((l.map g).map (·.1)).length := by
      rw [needN, if_pos (show (doI (idxP op)).1 = 3 from rfl)]
      show cntN (opN (idxP op)) = _
      rw [h1, h2]; simp
    obtain ⟨d1, d2⟩ := drop_last st ((l.map g).map (·.1))
    have ev : vmI rs (st ++ (l.map g).map (·.1)) (doI (idxP op)) = (st ++ [(doP op ((l.map g).map (·.1))).1], 0, (doP op ((l.map g).map (·.1))).2) := by
      unfold vmI
      rw [if_neg (show ¬ (doI (idxP op)).1 = 1 by show ¬ (3 : Int) = 1; decide), if_neg (show ¬ (doI (idxP op)).1 = 2 by show ¬ (3 : Int) = 2; decide), if_pos (show (doI (idxP op)).1 = 3 from rfl), hn, d1, d2, show opN (doI (idxP op)).2.1 = op from h1]
    rw [runP, if_neg (by omega), ev]
    refine ⟨fun hh => ?_, fun hh => ?_⟩
    · rw [if_neg (show ¬ (doP op ((l.map g).map (·.1))).2 ≠ 0 from fun q => q hh), runP]
      exact ⟨_, rfl⟩
    · rw [if_pos hh]
  · have e := i2 h0
    rw [run_appE (by rw [e]; exact h0), if_pos h0]
    exact ⟨fun hh => absurd hh h0, fun _ => e⟩
theorem rule_two {α : Type} {op : List UInt8} {l : List α} {f : α → Int} {T : Int} (hr : ruleP op (l.map f) = (T, 0)) (ho : op = [111, 114] ∨ op = [97, 110, 100]) : ∃ y z, l = [y, z] ∧ f y = 2 ∧ f z = 2 := by
  obtain ⟨r, hf, hlen, hall, hT⟩ := ruleP_in hr
  rw [List.length_map] at hlen
  have hr2 : kdCnt r = 2 ∧ r.2.1 = 2 ∧ r.2.2.1 = 2 := by
    rcases ho with rfl | rfl
    · obtain rfl := Option.some.inj (hf.symm.trans (show kdFind [111, 114] kdRules = some ([111, 114], 2, 2, 0, 2) from rfl))
      exact ⟨rfl, rfl, rfl⟩
    · obtain rfl := Option.some.inj (hf.symm.trans (show kdFind [97, 110, 100] kdRules = some ([97, 110, 100], 2, 2, 0, 2) from rfl))
      exact ⟨rfl, rfl, rfl⟩
  rw [hr2.1] at hlen
  match l, hlen, hall with
  | [y, z], _, hall =>
    rw [hr2.2.1, hr2.2.2, List.map_cons, kdAll, List.map_cons, kdAll] at hall
    obtain ⟨a1, a2⟩ := Bool.and_eq_true_iff.1 hall
    obtain ⟨a3, _⟩ := Bool.and_eq_true_iff.1 a2
    exact ⟨y, z, rfl, by rw [of_decide_eq_true a1]; rfl, by rw [of_decide_eq_true a3]; rfl⟩
theorem rule_if {α : Type} {l : List α} {f : α → Int} {T : Int} (hr : ruleP [105, 102] (l.map f) = (T, 0)) : ∃ y z u, l = [y, z, u] ∧ f y = 2 ∧ f z = T ∧ f u = T := by
  obtain ⟨r, hf, hlen, hall, hT⟩ := ruleP_in hr
  rw [List.length_map] at hlen
  obtain rfl := Option.some.inj (hf.symm.trans (show kdFind [105, 102] kdRules = some ([105, 102], 2, -1, -1, -1) from rfl))
  match l, hlen, hall, hT with
  | [y, z, u], _, hall, hT =>
    simp [kdAll, kdMeant] at hall hT
    exact ⟨y, z, u, rfl, hall.1, by rw [hall.2, hT], hT⟩
theorem pick_or {a b : V3 × Int} (ha : comes 2 a) (hb : comes 2 b) : pickP a (truP true, 0) b = combP [111, 114] [a, b] := by
  rcases ha with ⟨a0, aok⟩ | rfl
  · obtain ⟨v1, v2⟩ := okV_two aok
    have n0 : ¬ a.2 ≠ 0 := by simp [a0]
    rw [pickP, if_neg n0, combP, if_neg n0]
    by_cases hy : isY a.1 = true
    · have hz : ¬ a.1.2.1 = 0 := by rw [v2, hy]; decide
      rw [if_neg hz, if_pos (show ((decide (([111, 114] : List UInt8) = [97, 110, 100]) && !isY a.1) || (decide (([111, 114] : List UInt8) = [111, 114]) && isY a.1)) = true by rw [hy]; decide), ← hy, ← v1]
    · have hy' : isY a.1 = false := by simpa using hy
      rw [if_pos (v2.2 hy'), if_neg (show ¬ ((decide (([111, 114] : List UInt8) = [97, 110, 100]) && !isY a.1) || (decide (([111, 114] : List UInt8) = [111, 114]) && isY a.1)) = true by rw [hy']; decide), if_neg (show ¬ ([111, 114] : List UInt8) = [105, 102] by decide)]
      rcases hb with ⟨b0, bok⟩ | rfl
      · have e1 : firstE [b] = 0 := by rw [firstE, if_neg (show ¬ b.2 ≠ 0 by simp [b0]), firstE]
        have hd : doP [111, 114] [a.1, b.1] = (b.1, 0) := by
          rw [doP, if_neg (show ¬ vlE [a.1, b.1] ≠ 0 by simp [vlE, aok.2.1, bok.2.1]), show [a.1, b.1].map (·.1) = [2, 2] by simp [aok.1, bok.1], if_neg (show ¬ (ruleP [111, 114] [2, 2]).2 ≠ 0 by decide), appP, if_pos rfl]
          show (truP (isY a.1 || isY b.1), (0 : Int)) = _
          rw [hy', Bool.false_or, ← (okV_two bok).1]
        rw [if_neg (show ¬ firstE [b] ≠ 0 by simp [e1])]
        show b = doP [111, 114] [a.1, b.1]
        rw [hd]
        exact Prod.ext rfl b0
      · rfl
  · rfl
theorem pick_and {a b : V3 × Int} (ha : comes 2 a) (hb : comes 2 b) : pickP a b (truP false, 0) = combP [97, 110, 100] [a, b] := by
  rcases ha with ⟨a0, aok⟩ | rfl
  · obtain ⟨v1, v2⟩ := okV_two aok
    have n0 : ¬ a.2 ≠ 0 := by simp [a0]
    rw [pickP, if_neg n0, combP, if_neg n0]
    by_cases hy : isY a.1 = true
    · have hz : ¬ a.1.2.1 = 0 := by rw [v2, hy]; decide
      rw [if_neg hz, if_neg (show ¬ ((decide (([97, 110, 100] : List UInt8) = [97, 110, 100]) && !isY a.1) || (decide (([97, 110, 100] : List UInt8) = [111, 114]) && isY a.1)) = true by rw [hy]; decide), if_neg (show ¬ ([97, 110, 100] : List UInt8) = [105, 102] by decide)]
      rcases hb with ⟨b0, bok⟩ | rfl
      · have e1 : firstE [b] = 0 := by rw [firstE, if_neg (show ¬ b.2 ≠ 0 by simp [b0]), firstE]
        have hd : doP [97, 110, 100] [a.1, b.1] = (b.1, 0) := by
          rw [doP, if_neg (show ¬ vlE [a.1, b.1] ≠ 0 by simp [vlE, aok.2.1, bok.2.1]), show [a.1, b.1].map (·.1) = [2, 2] by simp [aok.1, bok.1], if_neg (show ¬ (ruleP [97, 110, 100] [2, 2]).2 ≠ 0 by decide), appP, if_neg (by decide), if_pos rfl]
          show (truP (isY a.1 && isY b.1), (0 : Int)) = _
          rw [hy, Bool.true_and, ← (okV_two bok).1]
        rw [if_neg (show ¬ firstE [b] ≠ 0 by simp [e1])]
        show b = doP [97, 110, 100] [a.1, b.1]
        rw [hd]
        exact Prod.ext rfl b0
      · rfl
    · have hy' : isY a.1 = false := by simpa using hy
      rw [if_pos (v2.2 hy'), if_pos (show ((decide (([97, 110, 100] : List UInt8) = [97, 110, 100]) && !isY a.1) || (decide (([97, 110, 100] : List UInt8) = [111, 114]) && isY a.1)) = true by rw [hy']; decide), ← hy', ← v1]
  · rfl
theorem pick_if {a b c : V3 × Int} (ha : comes 2 a) : pickP a b c = combP [105, 102] [a, b, c] := by
  rcases ha with ⟨a0, aok⟩ | rfl
  · obtain ⟨v1, v2⟩ := okV_two aok
    have n0 : ¬ a.2 ≠ 0 := by simp [a0]
    rw [pickP, if_neg n0, combP, if_neg n0, if_neg (show ¬ ((decide (([105, 102] : List UInt8) = [97, 110, 100]) && !isY a.1) || (decide (([105, 102] : List UInt8) = [111, 114]) && isY a.1)) = true by simp), if_pos rfl]
    by_cases hy : isY a.1 = true
    · have hz : ¬ a.1.2.1 = 0 := by rw [v2, hy]; decide
      rw [if_neg hz, if_pos hy]
      rfl
    · have hy' : isY a.1 = false := by simpa using hy
      rw [if_pos (v2.2 hy'), if_neg hy]
      rfl
  · rfl
/-- Of an operation: what its instructions come to is what follows of its parts. -/
theorem comb_runs {α : Type} {rs : List V3} {op : List UInt8} {l : List α} {f : α → Int} {g : α → V3 × Int} {c : α → List I5} {T : Int} (hg : ∀ y ∈ l, comes (f y) (g y)) (hr : ruleP op (l.map f) = (T, 0)) (h : ∀ y ∈ l, RunsTo rs (c y) (g y)) : RunsTo rs (combC op (l.map c)) (combP op (l.map g)) := by
  obtain ⟨r, hf, hlen, hall, hT⟩ := ruleP_in hr
  rw [List.length_map] at hlen
  obtain ⟨hmem, hop⟩ := kdFind_mem hf
  by_cases o1 : op = [111, 114]
  · obtain ⟨y, z, rfl, fy, fz⟩ := rule_two hr (.inl o1)
    rw [combC, if_pos o1]
    subst o1
    have cy := hg y (by simp)
    have cz := hg z (by simp)
    rw [fy] at cy
    rw [fz] at cz
    show RunsTo rs _ (combP [111, 114] [g y, g z])
    rw [← pick_or cy cz]
    exact runs_choose (h y (by simp)) (runs_push rs (truP true)) (h z (by simp))
  by_cases o2 : op = [97, 110, 100]
  · obtain ⟨y, z, rfl, fy, fz⟩ := rule_two hr (.inr o2)
    rw [combC, if_neg o1, if_pos o2]
    subst o2
    have cy := hg y (by simp)
    have cz := hg z (by simp)
    rw [fy] at cy
    rw [fz] at cz
    show RunsTo rs _ (combP [97, 110, 100] [g y, g z])
    rw [← pick_and cy cz]
    exact runs_choose (h y (by simp)) (h z (by simp)) (runs_push rs (truP false))
  by_cases o3 : op = [105, 102]
  · rw [combC, if_neg o1, if_neg o2, if_pos o3]
    subst o3
    obtain ⟨y, z, u, rfl, fy, -, -⟩ := rule_if hr
    have cy := hg y (by simp)
    rw [fy] at cy
    show RunsTo rs _ (combP [105, 102] [g y, g z, g u])
    rw [← pick_if cy]
    exact runs_choose (h y (by simp)) (h z (by simp)) (h u (by simp))
  rw [combC, if_neg o1, if_neg o2, if_neg o3]
  obtain ⟨i1, i2, i3⟩ := idx_ops r hmem (by rw [hop]; exact o1) (by rw [hop]; exact o2) (by rw [hop]; exact o3)
  rw [hop] at i2 i3
  have hrun := runs_do h i2 (by rw [i3, hlen])
  refine (congrArg (RunsTo rs _) ?_).mp hrun
  match l, hlen with
  | [], hlen =>
    have := (kdCnt_ok r hmem).1
    simp at hlen
    omega
  | y :: ys, _ =>
    rw [List.map_cons, combP, firstE]
    by_cases y0 : (g y).2 = 0
    · have n0 : ¬ (g y).2 ≠ 0 := by simp [y0]
      rw [if_neg n0, if_neg n0, if_neg (show ¬ ((decide (op = [97, 110, 100]) && !isY (g y).1) || (decide (op = [111, 114]) && isY (g y).1)) = true by simp [o1, o2]), if_neg o3]
      rfl
    · rw [if_pos y0, if_pos y0, if_pos y0]
/-- COMPILED IT COMES TO THE SAME. -/
theorem cp_runs {zs : List (ByteArray × Int)} {rs : List V3} (hrow : RowR zs rs) : ∀ (x : Ex) (d : Nat), (∀ q ∈ x.pre d, nodeE q.1 = 0) → (∀ q ∈ x.pre d, inB q.1.vn) → (tyP zs x).2.1 = 0 → RunsTo rs (cpP zs x) (cmP zs rs x) := by
  refine Ex.ind fun op nm vt vn vs pos l ih d hpre hin ht => ?_
  by_cases h1 : op.data.toList = [118, 97, 108]
  · rw [cpP, if_pos h1, cmP, if_pos h1]
    exact runs_push rs (vt, vn, vs)
  by_cases h2 : op.data.toList = [99, 111, 108]
  · rw [cpP, if_neg h1, if_pos h2, cmP, if_neg h1, if_pos h2]
    exact runs_load rs _
  rw [cpP_op h1 h2, cmP_op h1 h2]
  rw [tyP_op h1 h2] at ht
  by_cases ht0 : (tysP zs l).2.1 = 0
  · rw [if_neg (fun hh => hh ht0)] at ht
    obtain ⟨hm, hall⟩ := tysP_ok ht0
    by_cases hr0 : (ruleP op.data.toList (tysP zs l).1).2 = 0
    · rw [hm] at hr0
      have hsub : ∀ y ∈ l, ∀ q ∈ y.pre (d + 1), q ∈ (Ex.node op nm vt vn vs pos l).pre d := fun y hy q hq => by
        rw [Ex.pre]; exact List.mem_cons_of_mem _ (pres_mem hy q hq)
      exact comb_runs (f := fun y => (tyP zs y).1) (fun y hy => cm_comes hrow y (d + 1) (fun q hq => hpre q (hsub y hy q hq)) (fun q hq => hin q (hsub y hy q hq)) (hall y hy)) (Prod.ext rfl hr0) (fun y hy => ih y hy (d + 1) (fun q hq => hpre q (hsub y hy q hq)) (fun q hq => hin q (hsub y hy q hq)) (hall y hy))
    · rw [if_pos hr0] at ht
      exact absurd ht hr0
  · rw [if_pos ht0] at ht
    exact absurd ht ht0
--END
end Go.Proofs.YtplnjbdngedafaaGreatDoor
namespace Go.Proofs.YtplnjbdngedafaaGreatDoor
open Go.RowKit
set_option linter.unusedVariables false

theorem push_any (t n : Int) (s : ByteArray) (w : World) (hs : s.size ≤ 40) : Calls Tryz.prog 33 #[.agg #[.int .i64 t, .int .i64 n, .string s]] w fun e w' => e = .returned (.agg #[.int .i64 1, .int .i64 0, .int .i64 t, .int .i64 n, .string s]) ∧ Below w.heap.size w w' := by
  have c := fun W => clone_any s W (by omega)
  have b1 : Below w.heap.size w ((w.alloc (.cells #[.int .i64 t, .int .i64 n, .string s] 23)).alloc (.cells #[.int .i64 0, .int .i64 0, .int .i64 0, .int .i64 0, .string ⟨#[]⟩] 53)) := ((Below.refl _ w).alloc (Nat.le_refl _) _).alloc (by simp) _
  go_enter Tryz.func33, Tryz.ntmps33
  go_wp2_with fail
  refine (c _).mono ?_
  rintro e w1 ⟨rfl, b2⟩
  obtain ⟨k1, k2, hl1⟩ := box_at _ _ _ b2 (by simp)
  obtain ⟨j1, j2, hl0⟩ := box_at w _ _ (((Below.refl _ (w.alloc (.cells #[.int .i64 t, .int .i64 n, .string s] 23))).alloc (Nat.le_refl _) _).trans (b2.mono (by simp))) (by simp)
  simp at k1 k2 hl1 j1 j2
  have f0 : w1.cell? ⟨w.heap.size + 1, 0, none⟩ = some (.int .i64 0) := k1 0
  have f1 : w1.cell? ⟨w.heap.size + 1, 1, none⟩ = some (.int .i64 0) := k1 1
  have f2 : w1.cell? ⟨w.heap.size + 1, 2, none⟩ = some (.int .i64 0) := k1 2
  have f3 : w1.cell? ⟨w.heap.size + 1, 3, none⟩ = some (.int .i64 0) := k1 3
  have f4 : w1.cell? ⟨w.heap.size + 1, 4, none⟩ = some (.string ⟨#[]⟩) := k1 4
  have g0 : w1.cell? ⟨w.heap.size, 0, none⟩ = some (.int .i64 t) := j1 0
  have g1 : w1.cell? ⟨w.heap.size, 1, none⟩ = some (.int .i64 n) := j1 1
  have g2 : w1.cell? ⟨w.heap.size, 2, none⟩ = some (.string s) := j1 2
  have b4 : Below w.heap.size w w1 := b1.trans (b2.mono b1.size)
  clear c b1 b2 k1 j1
  go_wp2
  refine bodyPost_ret (v := .agg #[.int .i64 1, .int .i64 0, .int .i64 t, .int .i64 n, .string s]) (by simp [results, Tryz.results33, go_sem, World.cell?_setCell_other, World.cell?_setCell_same, f0, f1, f2, f3, f4]) rfl ⟨rfl, ?_⟩
  exact (((((b4.setCell (p := ⟨w.heap.size, 2, none⟩) (Nat.le_refl _) _).setCell (p := ⟨w.heap.size + 1, 0, none⟩) (by simp) _).setCell (p := ⟨w.heap.size + 1, 1, none⟩) (by simp) _).setCell (p := ⟨w.heap.size + 1, 2, none⟩) (by simp) _).setCell (p := ⟨w.heap.size + 1, 3, none⟩) (by simp) _).setCell (p := ⟨w.heap.size + 1, 4, none⟩) (by simp) _
theorem own_insV {W : World} {B : Nat} {v : Value} {n : Nat} {is : List I5} (h : W.ownsRow B 53 5 v n (insC is)) (hn : is.length = n) (h0 : n ≠ 0) : InsV W v is := by
  rcases h.2 with ⟨_, e⟩ | ⟨g, cap, cur, rfl, hb, hg, hm, hx, hs, ht⟩
  · exact absurd e h0
  · subst hn
    refine ⟨g, 0, cap, rfl, h0, ⟨cur, (0, 0), hg⟩, fun j hj => ?_⟩
    have hc : ∀ r, r < 5 → W.cell? ⟨g, 0 + j * 5 + r, none⟩ = (c5 is[j])[r]? := fun r hr => by
      have h2 := insC_at is j r hj hr
      obtain ⟨u, hu⟩ : ∃ u, (c5 is[j])[r]? = some u := by
        have : r < (c5 is[j]).length := by simp [c5]; omega
        exact ⟨_, List.getElem?_eq_getElem this⟩
      rw [hu] at h2 ⊢
      have h3 := h.cells (g := g) rfl _ _ h2
      rw [Go.WideShapes.add_plain] at h3
      rw [Nat.add_assoc]
      exact h3
    exact ⟨hc 0 (by omega), hc 1 (by omega), hc 2 (by omega), hc 3 (by omega), hc 4 (by omega)⟩
theorem insV_lit (w : World) (g : Nat) (hg : w.heap.size = g) (i : I5) : InsV (w.alloc (.cells #[.int .i64 i.1, .int .i64 i.2.1, .int .i64 i.2.2.1, .int .i64 i.2.2.2.1, .string i.2.2.2.2] 53)) (.slice (some ⟨g, 0, none⟩) 1 1) [i] := by
  subst hg
  refine ⟨w.heap.size, 0, 1, rfl, by simp, ⟨_, _, heap_alloc_new w _⟩, fun j hj => ?_⟩
  obtain rfl : j = 0 := by simp at hj; omega
  refine ⟨?_, ?_, ?_, ?_, ?_⟩
  all_goals
    rw [World.cell?_alloc_at _ _ _ _ rfl]
    rfl
set_option maxHeartbeats 4000000 in
set_option maxRecDepth 20000 in
theorem choose_any (v1 v2 v3 : Value) (f s n : List I5) (w : World) (h1 : InsV w v1 f) (h2 : InsV w v2 s) (h3 : InsV w v3 n) (hl : (chooseP f s n).length ≤ 1048576) :
    Calls Tryz.prog 35 #[v1, v2, v3] w fun e w' => (∃ v, e = .returned v ∧ Aside (InsV w' v (chooseP f s n))) ∧ Below w.heap.size w w' := by
  have hfl : [f, [elseI (s.length + 1)], s, [jumpI n.length], n].flatten = chooseP f s n := by simp [chooseP]
  have hpl : (chooseP f s n).length = f.length + (s.length + 1) + (n.length + 1) := by simp [chooseP]; omega
  obtain ⟨b1, o1, k1, rfl, hn1, hl1, hc1⟩ := id h1
  obtain ⟨b2, o2, k2, rfl, hn2, hl2, hc2⟩ := id h2
  obtain ⟨b3, o3, k3, rfl, hn3, hl3, hc3⟩ := id h3
  have e1 := alB w (.cells #[.int .i64 4, .int .i64 (n.length : Int), .int .i64 0, .int .i64 0, .string ⟨#[]⟩] 53)
  have e2 := e1.alloc (by simp) (.cells #[.int .i64 5, .int .i64 ((s.length : Int) + 1), .int .i64 0, .int .i64 0, .string ⟨#[]⟩] 53)
  have e3 := e2.alloc (by simp; omega) (.cells #[.slice (some ⟨b1, o1, none⟩) f.length k1, .slice (some ⟨w.heap.size + 1, 0, none⟩) 1 1, .slice (some ⟨b2, o2, none⟩) s.length k2, .slice (some ⟨w.heap.size, 0, none⟩) 1 1, .slice (some ⟨b3, o3, none⟩) n.length k3] 31)
  have cC := concatI_any (w.heap.size + 1 + 1) 0 5 5 [f, [elseI (s.length + 1)], s, [jumpI n.length], n] _ rfl (⟨by simp, fun j hj => by
    have hj5 : j = 0 ∨ j = 1 ∨ j = 2 ∨ j = 3 ∨ j = 4 := by simp at hj; omega
    have hi1 : InsV (((w.alloc (.cells #[.int .i64 4, .int .i64 (n.length : Int), .int .i64 0, .int .i64 0, .string ⟨#[]⟩] 53)).alloc (.cells #[.int .i64 5, .int .i64 ((s.length : Int) + 1), .int .i64 0, .int .i64 0, .string ⟨#[]⟩] 53)).alloc (.cells #[.slice (some ⟨b1, o1, none⟩) f.length k1, .slice (some ⟨w.heap.size + 1, 0, none⟩) 1 1, .slice (some ⟨b2, o2, none⟩) s.length k2, .slice (some ⟨w.heap.size, 0, none⟩) 1 1, .slice (some ⟨b3, o3, none⟩) n.length k3] 31)) (.slice (some ⟨w.heap.size, 0, none⟩) 1 1) [jumpI n.length] := ((insV_lit w _ rfl (jumpI n.length)).on (alB _ _)).on (alB _ _)
    have hi2 : InsV (((w.alloc (.cells #[.int .i64 4, .int .i64 (n.length : Int), .int .i64 0, .int .i64 0, .string ⟨#[]⟩] 53)).alloc (.cells #[.int .i64 5, .int .i64 ((s.length : Int) + 1), .int .i64 0, .int .i64 0, .string ⟨#[]⟩] 53)).alloc (.cells #[.slice (some ⟨b1, o1, none⟩) f.length k1, .slice (some ⟨w.heap.size + 1, 0, none⟩) 1 1, .slice (some ⟨b2, o2, none⟩) s.length k2, .slice (some ⟨w.heap.size, 0, none⟩) 1 1, .slice (some ⟨b3, o3, none⟩) n.length k3] 31)) (.slice (some ⟨w.heap.size + 1, 0, none⟩) 1 1) [elseI (s.length + 1)] := by
      have := (insV_lit (w.alloc (.cells #[.int .i64 4, .int .i64 (n.length : Int), .int .i64 0, .int .i64 0, .string ⟨#[]⟩] 53)) (w.heap.size + 1) (by simp) (elseI (s.length + 1))).on (alB _ (.cells #[.slice (some ⟨b1, o1, none⟩) f.length k1, .slice (some ⟨w.heap.size + 1, 0, none⟩) 1 1, .slice (some ⟨b2, o2, none⟩) s.length k2, .slice (some ⟨w.heap.size, 0, none⟩) 1 1, .slice (some ⟨b3, o3, none⟩) n.length k3] 31))
      simp only [elseI, Int.natCast_add, Int.cast_ofNat_Int] at this ⊢
      exact this
    rcases hj5 with rfl | rfl | rfl | rfl | rfl
    · exact ⟨_, by rw [World.cell?_alloc_at _ _ _ _ (by simp)]; rfl, h1.on e3⟩
    · exact ⟨_, by rw [World.cell?_alloc_at _ _ _ _ (by simp)]; rfl, hi2⟩
    · exact ⟨_, by rw [World.cell?_alloc_at _ _ _ _ (by simp)]; rfl, h2.on e3⟩
    · exact ⟨_, by rw [World.cell?_alloc_at _ _ _ _ (by simp)]; rfl, hi1⟩
    · exact ⟨_, by rw [World.cell?_alloc_at _ _ _ _ (by simp)]; rfl, h3.on e3⟩⟩ : PartsAt (((w.alloc (.cells #[.int .i64 4, .int .i64 (n.length : Int), .int .i64 0, .int .i64 0, .string ⟨#[]⟩] 53)).alloc (.cells #[.int .i64 5, .int .i64 ((s.length : Int) + 1), .int .i64 0, .int .i64 0, .string ⟨#[]⟩] 53)).alloc (.cells #[.slice (some ⟨b1, o1, none⟩) f.length k1, .slice (some ⟨w.heap.size + 1, 0, none⟩) 1 1, .slice (some ⟨b2, o2, none⟩) s.length k2, .slice (some ⟨w.heap.size, 0, none⟩) 1 1, .slice (some ⟨b3, o3, none⟩) n.length k3] 31)) _ _ _) (by rw [hfl]; exact hl) (by rw [hfl, hpl]; omega) (by decide)
  rw [hfl] at cC
  have hne : (chooseP f s n).length ≠ 0 := by omega
  have HP : ∀ v (W : World), World.ownsRow W (((w.alloc (.cells #[.int .i64 4, .int .i64 (n.length : Int), .int .i64 0, .int .i64 0, .string ⟨#[]⟩] 53)).alloc (.cells #[.int .i64 5, .int .i64 ((s.length : Int) + 1), .int .i64 0, .int .i64 0, .string ⟨#[]⟩] 53)).alloc (.cells #[.slice (some ⟨b1, o1, none⟩) f.length k1, .slice (some ⟨w.heap.size + 1, 0, none⟩) 1 1, .slice (some ⟨b2, o2, none⟩) s.length k2, .slice (some ⟨w.heap.size, 0, none⟩) 1 1, .slice (some ⟨b3, o3, none⟩) n.length k3] 31)).heap.size 53 5 v (chooseP f s n).length (insC (chooseP f s n)) → Aside (InsV W v (chooseP f s n)) := fun v W h => own_insV h rfl hne
  have hnz : (n.length : Int) ≤ 1048576 := by omega
  have hsz : (s.length : Int) ≤ 1048576 := by omega
  generalize (chooseP f s n) = CH at cC HP ⊢
  clear h1 h2 h3 hc1 hc2 hc3 hfl hpl hl hne
  go_enter Tryz.func35, Tryz.ntmps35
  go_wp2_with fail
  refine cC.mono ?_
  rintro e w1 ⟨⟨v, rfl, OW⟩, b1⟩
  have IV := HP v w1 OW.out
  have B1 : Below w.heap.size w w1 := e3.trans (b1.mono e3.size)
  clear cC OW b1 HP
  go_wp2
  go_ret
  exact ⟨⟨v, rfl, IV⟩, B1⟩
end Go.Proofs.YtplnjbdngedafaaGreatDoor
namespace Go.Proofs.YtplnjbdngedafaaGreatDoor
open Go.RowKit
set_option linter.unusedVariables false
--BEGIN
/-- A step that is right: one place to go to. -/
theorem step_one {zs : List (ByteArray × Int)} {ks : List Pl} {k t : Nat} {i : I5} {st st2 : List Int} (h : ks[k]? = some (some st)) (ha : argE i zs.length ((ks.length : Int) - 1 - ((k : Int) + 1)) = 0) (hf : aftP st i zs = (st2, 0)) (hl : leadP i (k + 1) = [t]) (ht : ks[t]? = some none ∨ ks[t]? = some (some st2)) : stepP zs ks k i = (ks.set t (some st2), 0) := by
  rw [stepP, h, if_neg (by simp), ha, if_neg (by simp)]
  simp only [Option.getD_some]
  rw [hf, if_neg (by simp)]
  simp only
  rw [hl, goP]
  rcases ht with ht | ht
  · rw [ht, if_neg (by simp), goP]
  · rw [ht, if_neg (by simp), goP]
/-- An Else: two places, of which nothing is known. -/
theorem step_two {zs : List (ByteArray × Int)} {ks : List Pl} {k t u : Nat} {i : I5} {st st2 : List Int} (h : ks[k]? = some (some st)) (ha : argE i zs.length ((ks.length : Int) - 1 - ((k : Int) + 1)) = 0) (hf : aftP st i zs = (st2, 0)) (hl : leadP i (k + 1) = [t, u]) (htu : t ≠ u) (ht : ks[t]? = some none) (hu : ks[u]? = some none) : stepP zs ks k i = ((ks.set t (some st2)).set u (some st2), 0) := by
  rw [stepP, h, if_neg (by simp), ha, if_neg (by simp)]
  simp only [Option.getD_some]
  rw [hf, if_neg (by simp)]
  simp only
  rw [hl, goP, ht, if_neg (by simp), goP, List.getElem?_set_ne htu, hu, if_neg (by simp), goP]
theorem loop_one {zs : List (ByteArray × Int)} {ks l : List Pl} {k : Nat} {i : I5} (h : stepP zs ks k i = (l, 0)) (is : List I5) : loopP zs ks k (i :: is) = loopP zs l (k + 1) is := by
  rw [loopP, h, if_neg (by simp)]
/-- Instructions that lay one of type T onto whatever lies there, for which no more than n is needed. -/
def Lays (zs : List (ByteArray × Int)) (is : List I5) (T : Int) (n : Nat) : Prop := 1 ≤ is.length ∧ ∀ (ks : List Pl) (k : Nat) (st : List Int) (rest : List I5), st.length + n ≤ 64 → ks[k]? = some (some st) → (∀ j : Nat, 1 ≤ j → j < is.length → ks[k + j]? = some none) → (ks[k + is.length]? = some none ∨ ks[k + is.length]? = some (some (st ++ [T]))) → ∃ l : List Pl, l.length = ks.length ∧ loopP zs ks k (is ++ rest) = loopP zs l (k + is.length) rest ∧ l[k + is.length]? = some (some (st ++ [T])) ∧ ∀ j : Nat, j ≤ k ∨ k + is.length < j → l[j]? = ks[j]?
theorem Lays.more {zs : List (ByteArray × Int)} {is : List I5} {T : Int} {n m : Nat} (h : Lays zs is T n) (hm : n ≤ m) : Lays zs is T m := ⟨h.1, fun ks k st rest h1 => h.2 ks k st rest (by omega)⟩
theorem lays_one {zs : List (ByteArray × Int)} {i : I5} {T : Int} (ha : ∀ bh : Int, argE i zs.length bh = 0) (hf : ∀ st : List Int, st.length + 1 ≤ 64 → aftP st i zs = (st ++ [T], 0)) (hl : ∀ k, leadP i k = [k]) : Lays zs [i] T 1 := by
  refine ⟨by simp, fun ks k st rest h1 h2 h3 h4 => ?_⟩
  have hlt : k + 1 < ks.length := by
    rcases h4 with h | h
    · exact (List.getElem?_eq_some_iff.1 h).1
    · exact (List.getElem?_eq_some_iff.1 h).1
  refine ⟨ks.set (k + 1) (some (st ++ [T])), by simp, ?_, List.getElem?_set_self hlt, fun j hj => List.getElem?_set_ne (by simp at hj; omega)⟩
  rw [List.singleton_append, loop_one (step_one h2 (ha _) (hf st h1) (hl _) h4)]
  rfl
theorem lays_push {zs : List (ByteArray × Int)} {v : V3} (h : chk v.1 v.2.1 v.2.2.data.toList = 0) : Lays zs [pushI v] v.1 1 := by
  refine lays_one (fun bh => ?_) (fun st h1 => ?_) (fun k => rfl)
  · rw [argE, if_pos (show (pushI v).1 = 1 from rfl)]
    exact h
  · have hn : needN (pushI v) = 0 := rfl
    have hL : ∀ off, layP (pushI v) off zs = ([v.1], 0) := fun _ => rfl
    rw [aftP, hn, hL, if_neg (by omega), if_neg (by simp), if_neg (by simp; omega), Nat.sub_zero, List.take_length]
theorem lays_load {zs : List (ByteArray × Int)} {k : Nat} (h : k < zs.length) : Lays zs [loadI k] (zs[k]?.getD default).2 1 := by
  refine lays_one (fun bh => ?_) (fun st h1 => ?_) (fun k => rfl)
  · rw [argE, if_neg (show ¬ (loadI k).1 = 1 by show ¬ (2 : Int) = 1; decide), if_pos (show (loadI k).1 = 2 from rfl)]
    exact if_pos (show 0 ≤ (k : Int) ∧ (k : Int) < zs.length by omega)
  · have hn : needN (loadI k) = 0 := rfl
    have hL : ∀ off, layP (loadI k) off zs = ([(zs[k]?.getD default).2], 0) := fun _ => rfl
    rw [aftP, hn, hL, if_neg (by omega), if_neg (by simp), if_neg (by simp; omega), Nat.sub_zero, List.take_length]
theorem aft_else (zs : List (ByteArray × Int)) (st : List Int) (n : Nat) (h : st.length ≤ 64) : aftP (st ++ [2]) (elseI n) zs = (st, 0) := by
  have hn : needN (elseI n) = 1 := rfl
  have e0 : (st ++ [2]).length - 1 = st.length := by simp
  have hL : layP (elseI n) [2] zs = ([], 0) := rfl
  rw [aftP, hn, e0, List.drop_left, List.take_left, hL, if_neg (by simp), if_neg (by simp), if_neg (by simp; omega), List.append_nil]
theorem aft_jump (zs : List (ByteArray × Int)) (st : List Int) (n : Nat) (h : st.length ≤ 64) : aftP st (jumpI n) zs = (st, 0) := by
  have hn : needN (jumpI n) = 0 := rfl
  have hL : ∀ off, layP (jumpI n) off zs = ([], 0) := fun _ => rfl
  rw [aftP, hn, hL, if_neg (by omega), if_neg (by simp), if_neg (by simp; omega), Nat.sub_zero, List.take_length, List.append_nil]
theorem arg_else {nc bh : Int} {n : Nat} (h : (n : Int) ≤ bh) : argE (elseI n) nc bh = 0 := by
  rw [argE, if_neg (show ¬ (elseI n).1 = 1 by show ¬ (5 : Int) = 1; decide), if_neg (show ¬ (elseI n).1 = 2 by show ¬ (5 : Int) = 2; decide), if_neg (show ¬ (elseI n).1 = 3 by show ¬ (5 : Int) = 3; decide), if_pos (show (elseI n).1 = 4 ∨ (elseI n).1 = 5 from .inr rfl)]
  exact if_pos (show 0 ≤ (n : Int) ∧ (n : Int) ≤ bh by omega)
theorem arg_jump {nc bh : Int} {n : Nat} (h : (n : Int) ≤ bh) : argE (jumpI n) nc bh = 0 := by
  rw [argE, if_neg (show ¬ (jumpI n).1 = 1 by show ¬ (4 : Int) = 1; decide), if_neg (show ¬ (jumpI n).1 = 2 by show ¬ (4 : Int) = 2; decide), if_neg (show ¬ (jumpI n).1 = 3 by show ¬ (4 : Int) = 3; decide), if_pos (show (jumpI n).1 = 4 ∨ (jumpI n).1 = 5 from .inl rfl)]
  exact if_pos (show 0 ≤ (n : Int) ∧ (n : Int) ≤ bh by omega)
theorem lays_choose {zs : List (ByteArray × Int)} {f s n : List I5} {T : Int} {m : Nat} (hm : 1 ≤ m) (hf : Lays zs f 2 m) (hs : Lays zs s T m) (hn : Lays zs n T m) : Lays zs (chooseP f s n) T m := by
  have hlen : (chooseP f s n).length = f.length + 1 + s.length + 1 + n.length := by simp [chooseP]; omega
  obtain ⟨f1, hf⟩ := hf
  obtain ⟨s1, hs⟩ := hs
  obtain ⟨n1, hn⟩ := hn
  refine ⟨by omega, fun ks k st rest h1 h2 h3 h4 => ?_⟩
  have hend : k + (f.length + 1 + s.length + 1 + n.length) < ks.length := by
    rw [hlen] at h4
    rcases h4 with h | h
    · exact (List.getElem?_eq_some_iff.1 h).1
    · exact (List.getElem?_eq_some_iff.1 h).1
  rw [hlen] at h3 h4 ⊢
  obtain ⟨a, a1, a2, a3, a4⟩ := hf ks k st (elseI (s.length + 1) :: (s ++ jumpI n.length :: n) ++ rest) h1 h2 (fun j h5 h6 => h3 j h5 (by omega)) (.inl (h3 _ f1 (by omega)))
  have free : ∀ j, f.length < j → j < f.length + 1 + s.length + 1 + n.length → a[k + j]? = some none := fun j h5 h6 => by
    rw [a4 _ (.inr (by omega))]
    exact h3 j (by omega) h6
  have e1 : stepP zs a (k + f.length) (elseI (s.length + 1)) = ((a.set (k + f.length + 1) (some st)).set (k + f.length + 1 + (s.length + 1)) (some st), 0) := by
    refine step_two a3 (arg_else (by rw [a1]; omega)) (aft_else zs st _ (by omega)) ?_ (by omega) ?_ ?_
    · show [k + f.length + 1, k + f.length + 1 + (((s.length + 1 : Nat) : Int)).toNat] = _
      rw [Int.toNat_natCast]
    · rw [show k + f.length + 1 = k + (f.length + 1) by omega]
      exact free _ (by omega) (by omega)
    · rw [show k + f.length + 1 + (s.length + 1) = k + (f.length + 1 + s.length + 1) by omega]
      exact free _ (by omega) (by omega)
  generalize hb : (a.set (k + f.length + 1) (some st)).set (k + f.length + 1 + (s.length + 1)) (some st) = b at e1
  have b1 : b.length = ks.length := by rw [← hb]; simp [a1]
  have b2 : b[k + f.length + 1]? = some (some st) := by
    rw [← hb, List.getElem?_set_ne (by omega), List.getElem?_set_self (by omega)]
  have b3 : b[k + f.length + 1 + (s.length + 1)]? = some (some st) := by
    rw [← hb, List.getElem?_set_self (by simp; omega)]
  have b4 : ∀ j, j ≠ k + f.length + 1 → j ≠ k + f.length + 1 + (s.length + 1) → b[j]? = a[j]? := fun j h5 h6 => by
    rw [← hb, List.getElem?_set_ne (Ne.symm h6), List.getElem?_set_ne (Ne.symm h5)]
  have bfree : ∀ j, 1 ≤ j → j ≤ s.length → b[k + f.length + 1 + j]? = some none := fun j h5 h6 => by
    rw [b4 _ (by omega) (by omega), show k + f.length + 1 + j = k + (f.length + 1 + j) by omega]
    exact free _ (by omega) (by omega)
  obtain ⟨c, c1, c2, c3, c4⟩ := hs b (k + f.length + 1) st (jumpI n.length :: n ++ rest) h1 b2 (fun j h5 h6 => bfree j h5 (by omega)) (.inl (bfree _ s1 (Nat.le_refl _)))
  have hc : c[k + f.length + 1 + s.length + 1 + n.length]? = ks[k + (f.length + 1 + s.length + 1 + n.length)]? := by
    rw [c4 _ (.inr (by omega)), b4 _ (by omega) (by omega), a4 _ (.inr (by omega)), show k + f.length + 1 + s.length + 1 + n.length = k + (f.length + 1 + s.length + 1 + n.length) by omega]
  have e2 : stepP zs c (k + f.length + 1 + s.length) (jumpI n.length) = (c.set (k + f.length + 1 + s.length + 1 + n.length) (some (st ++ [T])), 0) := by
    refine step_one c3 (arg_jump (by rw [c1, b1]; omega)) (aft_jump zs _ _ (by have := h1; simp; omega)) ?_ ?_
    · show [k + f.length + 1 + s.length + 1 + ((n.length : Int)).toNat] = _
      rw [Int.toNat_natCast]
    · rw [hc]; exact h4
  generalize hd : c.set (k + f.length + 1 + s.length + 1 + n.length) (some (st ++ [T])) = d at e2
  have d1 : d.length = ks.length := by rw [← hd]; simp [c1, b1]
  have d2 : d[k + f.length + 1 + s.length + 1 + n.length]? = some (some (st ++ [T])) := by
    rw [← hd, List.getElem?_set_self (by rw [c1, b1]; omega)]
  have d4 : ∀ j, j ≠ k + f.length + 1 + s.length + 1 + n.length → d[j]? = c[j]? := fun j h5 => by
    rw [← hd, List.getElem?_set_ne (Ne.symm h5)]
  have d3 : d[k + f.length + 1 + s.length + 1]? = some (some st) := by
    rw [d4 _ (by omega), c4 _ (.inr (by omega)), show k + f.length + 1 + s.length + 1 = k + f.length + 1 + (s.length + 1) by omega]
    exact b3
  obtain ⟨e, g1, g2, g3, g4⟩ := hn d (k + f.length + 1 + s.length + 1) st rest h1 d3 (fun j h5 h6 => by
    rw [d4 _ (by omega), c4 _ (.inr (by omega)), b4 _ (by omega) (by omega), show k + f.length + 1 + s.length + 1 + j = k + (f.length + 1 + s.length + 1 + j) by omega]
    exact free _ (by omega) (by omega)) (.inr d2)
  refine ⟨e, by rw [g1, d1], ?_, ?_, fun j hj => ?_⟩
  · rw [show chooseP f s n ++ rest = f ++ (elseI (s.length + 1) :: (s ++ jumpI n.length :: n) ++ rest) by simp [chooseP], a2, List.cons_append, loop_one e1, show (s ++ jumpI n.length :: n) ++ rest = s ++ (jumpI n.length :: n ++ rest) by simp, c2, List.cons_append, loop_one e2, g2]
    congr 1
    omega
  · rw [show k + (f.length + 1 + s.length + 1 + n.length) = k + f.length + 1 + s.length + 1 + n.length by omega]
    exact g3
  · rw [g4 j (by omega), d4 j (by omega), c4 j (by omega), b4 j (by omega) (by omega), a4 j (by omega)]
/-- Parts one behind the other. -/
theorem lays_parts {α : Type} {zs : List (ByteArray × Int)} {c : α → List I5} {f : α → Int} {m : Nat} : ∀ (l : List α), (∀ y ∈ l, Lays zs (c y) (f y) m) → l.length ≤ (l.map c).flatten.length ∧ ∀ (ks : List Pl) (k : Nat) (st : List Int) (rest : List I5), st.length + l.length + m ≤ 65 → ks[k]? = some (some st) → (∀ j : Nat, 1 ≤ j → j ≤ (l.map c).flatten.length → ks[k + j]? = some none) → ∃ ls : List Pl, ls.length = ks.length ∧ loopP zs ks k ((l.map c).flatten ++ rest) = loopP zs ls (k + (l.map c).flatten.length) rest ∧ ls[k + (l.map c).flatten.length]? = some (some (st ++ l.map f)) ∧ ∀ j : Nat, j ≤ k ∨ k + (l.map c).flatten.length < j → ls[j]? = ks[j]?
  | [], _ => ⟨by simp, fun ks k st rest h1 h2 h3 => ⟨ks, rfl, by simp, by simpa using h2, fun _ _ => rfl⟩⟩
  | y :: ys, h => by
    obtain ⟨y1, y2⟩ := h y (List.mem_cons_self ..)
    obtain ⟨i1, i2⟩ := lays_parts ys fun z hz => h z (List.mem_cons_of_mem _ hz)
    rw [List.map_cons, List.flatten_cons, List.length_cons, List.length_append]
    refine ⟨by omega, fun ks k st rest h1 h2 h3 => ?_⟩
    obtain ⟨a, a1, a2, a3, a4⟩ := y2 ks k st ((ys.map c).flatten ++ rest) (by omega) h2 (fun j h5 h6 => h3 j h5 (by omega)) (.inl (h3 _ y1 (by omega)))
    obtain ⟨b, b1, b2, b3, b4⟩ := i2 a (k + (c y).length) (st ++ [f y]) rest (by rw [List.length_append, List.length_singleton]; omega) a3 (fun j h5 h6 => by
      rw [a4 _ (.inr (by omega)), Nat.add_assoc]
      exact h3 _ (by omega) (by omega))
    refine ⟨b, by rw [b1, a1], ?_, ?_, fun j hj => ?_⟩
    · rw [List.append_assoc, a2, b2, Nat.add_assoc]
    · rw [← Nat.add_assoc, b3]
      simp
    · rw [b4 j (by omega), a4 j (by omega)]
theorem lays_do {α : Type} {zs : List (ByteArray × Int)} {c : α → List I5} {f : α → Int} {m : Nat} {l : List α} {op : List UInt8} {T : Int} (h : ∀ y ∈ l, Lays zs (c y) (f y) m) (hl : 1 ≤ l.length ∧ l.length ≤ 3) (h0 : opE (idxP op) = 0) (h1 : opN (idxP op) = op) (h2 : cntN op = l.length) (hr : ruleP op (l.map f) = (T, 0)) : Lays zs ((l.map c).flatten ++ [doI (idxP op)]) T (m + 2) := by
  obtain ⟨p1, p2⟩ := lays_parts l h
  have hlen : ((l.map c).flatten ++ [doI (idxP op)]).length = (l.map c).flatten.length + 1 := by rw [List.length_append]; rfl
  refine ⟨by omega, fun ks k st rest q1 q2 q3 q4 => ?_⟩
  rw [hlen] at q3 q4 ⊢
  have hend : k + ((l.map c).flatten.length + 1) < ks.length := by
    rcases q4 with h | h
    · exact (List.getElem?_eq_some_iff.1 h).1
    · exact (List.getElem?_eq_some_iff.1 h).1
  obtain ⟨a, a1, a2, a3, a4⟩ := p2 ks k st ([doI (idxP op)] ++ rest) (by omega) q2 (fun j h5 h6 => q3 j h5 (by omega))
  have ef : aftP (st ++ l.map f) (doI (idxP op)) zs = (st ++ [T], 0) := by
    have hn : needN (doI (idxP op)) = (l.map f).length := by
      rw [needN, if_pos (show (doI (idxP op)).1 = 3 from rfl)]
      show cntN (opN (idxP op)) = _
      rw [h1, h2, List.length_map]
    obtain ⟨d1, d2⟩ := drop_last st (l.map f)
    have hL : layP (doI (idxP op)) (l.map f) zs = ([T], 0) := by
      show ([(ruleP (opN (idxP op)) (l.map f)).1], (ruleP (opN (idxP op)) (l.map f)).2) = _
      rw [h1, hr]
    rw [aftP, hn, d1, d2, hL, if_neg (by simp), if_neg (by simp), if_neg (by simp; omega)]
  have es : stepP zs a (k + (l.map c).flatten.length) (doI (idxP op)) = (a.set (k + (l.map c).flatten.length + 1) (some (st ++ [T])), 0) := by
    refine step_one a3 ?_ ef rfl ?_
    · rw [argE, if_neg (show ¬ (doI (idxP op)).1 = 1 by show ¬ (3 : Int) = 1; decide), if_neg (show ¬ (doI (idxP op)).1 = 2 by show ¬ (3 : Int) = 2; decide), if_pos (show (doI (idxP op)).1 = 3 from rfl)]
      exact h0
    · rw [a4 _ (.inr (by omega)), Nat.add_assoc]
      exact q4
  refine ⟨_, ?_, by rw [List.append_assoc, a2, List.singleton_append, loop_one es, Nat.add_assoc], ?_, fun j hj => ?_⟩
  · simp [a1]
  · rw [← Nat.add_assoc, List.getElem?_set_self (by rw [a1]; omega)]
  · rw [List.getElem?_set_ne (by omega), a4 j (by omega)]
theorem deeps_le {y : Ex} : ∀ {l : List Ex}, y ∈ l → y.deep ≤ Ex.deeps l
  | [], h => absurd h (by simp)
  | x :: xs, h => by
    rw [Ex.deeps]
    rcases List.mem_cons.1 h with rfl | h
    · omega
    · have := deeps_le h
      omega
/-- ITS CODE IS RIGHT: it lays one of its type. -/
theorem cp_lays {zs : List (ByteArray × Int)} : ∀ (x : Ex) (d : Nat), (∀ q ∈ x.pre d, nodeE q.1 = 0) → (tyP zs x).2.1 = 0 → Lays zs (cpP zs x) (tyP zs x).1 (2 * x.deep) := by
  refine Ex.ind fun op nm vt vn vs pos l ih d hpre ht => ?_
  have hself : ((.node op nm vt vn vs pos l : Ex), d) ∈ (Ex.node op nm vt vn vs pos l).pre d := by rw [Ex.pre]; exact List.mem_cons_self ..
  have hdeep : (Ex.node op nm vt vn vs pos l).deep = Ex.deeps l + 1 := by rw [Ex.deep]
  by_cases h1 : op.data.toList = [118, 97, 108]
  · rw [tyP, if_pos h1, cpP, if_pos h1]
    have hn := (node_ok (hpre _ hself)).2.2 (by simp [Ex.op, Lib.toList_data, h1])
    simp only [Ex.vt, Ex.vn, Ex.vs] at hn
    unfold ckV at hn
    by_cases hc : chk vt vn vs.data.toList = 0
    · exact (lays_push (v := (vt, vn, vs)) hc).more (by omega)
    · rw [if_pos hc] at hn
      exact absurd hn hc
  by_cases h2 : op.data.toList = [99, 111, 108]
  · rw [tyP, if_neg h1, if_pos h2] at ht ⊢
    rw [cpP, if_neg h1, if_pos h2]
    rcases findN_cases nm.data.toList zs with ⟨h, _⟩ | ⟨k, hk, hlt, _⟩
    · rw [if_pos h] at ht
      exact absurd ht (by simp)
    · rw [if_neg (by omega), hk, Int.toNat_natCast]
      exact (lays_load hlt).more (by omega)
  rw [cpP_op h1 h2]
  rw [tyP_op h1 h2] at ht ⊢
  by_cases htn : (tysP zs l).2.1 ≠ 0
  · rw [if_pos htn] at ht
    exact absurd ht htn
  have ht0 := Classical.not_not.1 htn
  rw [if_neg (fun hh => hh ht0)] at ht ⊢
  obtain ⟨hm, hall⟩ := tysP_ok ht0
  by_cases hrn : (ruleP op.data.toList (tysP zs l).1).2 ≠ 0
  · rw [if_pos hrn] at ht
    exact absurd ht hrn
  have hr0 := Classical.not_not.1 hrn
  rw [if_neg (fun hh => hh hr0)]
  rw [hm] at hr0 ⊢
  have hsub : ∀ y ∈ l, ∀ q ∈ y.pre (d + 1), q ∈ (Ex.node op nm vt vn vs pos l).pre d := fun y hy q hq => by
    rw [Ex.pre]; exact List.mem_cons_of_mem _ (pres_mem hy q hq)
  have hy : ∀ y ∈ l, Lays zs (cpP zs y) (tyP zs y).1 (2 * Ex.deeps l) := fun y hy => (ih y hy (d + 1) (fun q hq => hpre q (hsub y hy q hq)) (hall y hy)).more (by have := deeps_le hy; omega)
  have hr : ruleP op.data.toList (l.map fun y => (tyP zs y).1) = ((ruleP op.data.toList (l.map fun y => (tyP zs y).1)).1, 0) := Prod.ext rfl hr0
  simp only
  generalize (ruleP op.data.toList (l.map fun y => (tyP zs y).1)).1 = T at hr
  rw [hdeep]
  have dp : ∀ y ∈ l, 1 ≤ 2 * Ex.deeps l := fun y hy => by
    have h5 := deeps_le hy
    have h6 : 1 ≤ y.deep := by
      cases y
      rw [Ex.deep]
      omega
    omega
  by_cases o1 : op.data.toList = [111, 114]
  · obtain ⟨y, z, rfl, fy, fz⟩ := rule_two hr (.inl o1)
    rw [combC, if_pos o1]
    have hT : T = 2 := by
      rw [o1] at hr
      simp only [List.map_cons, List.map_nil, fy, fz] at hr
      exact (congrArg Prod.fst hr).symm
    subst hT
    have h3 := hy y (by simp)
    have h4 := hy z (by simp)
    rw [fy] at h3
    rw [fz] at h4
    exact (lays_choose (dp y (by simp)) h3 ((lays_push (v := truP true) (by decide)).more (dp y (by simp))) h4).more (by omega)
  by_cases o2 : op.data.toList = [97, 110, 100]
  · obtain ⟨y, z, rfl, fy, fz⟩ := rule_two hr (.inr o2)
    rw [combC, if_neg o1, if_pos o2]
    have hT : T = 2 := by
      rw [o2] at hr
      simp only [List.map_cons, List.map_nil, fy, fz] at hr
      exact (congrArg Prod.fst hr).symm
    subst hT
    have h3 := hy y (by simp)
    have h4 := hy z (by simp)
    rw [fy] at h3
    rw [fz] at h4
    exact (lays_choose (dp y (by simp)) h3 h4 ((lays_push (v := truP false) (by decide)).more (dp y (by simp)))).more (by omega)
  by_cases o3 : op.data.toList = [105, 102]
  · rw [combC, if_neg o1, if_neg o2, if_pos o3]
    rw [o3] at hr
    obtain ⟨y, z, u, rfl, fy, fz, fu⟩ := rule_if hr
    have h3 := hy y (by simp)
    have h4 := hy z (by simp)
    have h5 := hy u (by simp)
    rw [fy] at h3
    rw [fz] at h4
    rw [fu] at h5
    exact (lays_choose (dp y (by simp)) h3 h4 h5).more (by omega)
  rw [combC, if_neg o1, if_neg o2, if_neg o3]
  obtain ⟨r, hf, hlen, -, -⟩ := ruleP_in hr
  rw [List.length_map] at hlen
  obtain ⟨hmem, hop⟩ := kdFind_mem hf
  obtain ⟨i1, i2, i3⟩ := idx_ops r hmem (by rw [hop]; exact o1) (by rw [hop]; exact o2) (by rw [hop]; exact o3)
  rw [hop] at i1 i2 i3
  have hc := kdCnt_ok r hmem
  exact (lays_do hy (by omega) i1 i2 (by rw [i3, hlen]) hr).more (by omega)
/-- At most three times as many as it has nodes. -/
theorem cp_len {zs : List (ByteArray × Int)} : ∀ (x : Ex), (tyP zs x).2.1 = 0 → (cpP zs x).length ≤ 3 * x.size := by
  refine Ex.ind fun op nm vt vn vs pos l ih ht => ?_
  have hsize : (Ex.node op nm vt vn vs pos l).size = 1 + Ex.sizes l := by rw [Ex.size]
  rw [hsize]
  by_cases h1 : op.data.toList = [118, 97, 108]
  · rw [cpP, if_pos h1, List.length_singleton]; omega
  by_cases h2 : op.data.toList = [99, 111, 108]
  · rw [cpP, if_neg h1, if_pos h2, List.length_singleton]; omega
  rw [cpP_op h1 h2]
  rw [tyP_op h1 h2] at ht
  by_cases htn : (tysP zs l).2.1 ≠ 0
  · rw [if_pos htn] at ht
    exact absurd ht htn
  have ht0 := Classical.not_not.1 htn
  rw [if_neg (fun hh => hh ht0)] at ht
  obtain ⟨hm, hall⟩ := tysP_ok ht0
  by_cases hrn : (ruleP op.data.toList (tysP zs l).1).2 ≠ 0
  · rw [if_pos hrn] at ht
    exact absurd ht hrn
  have hr0 := Classical.not_not.1 hrn
  rw [hm] at hr0
  have hr : ruleP op.data.toList (l.map fun y => (tyP zs y).1) = ((ruleP op.data.toList (l.map fun y => (tyP zs y).1)).1, 0) := Prod.ext rfl hr0
  have hy : ∀ y ∈ l, (cpP zs y).length ≤ 3 * y.size := fun y hy => ih y hy (hall y hy)
  have hch : ∀ f s n : List I5, (chooseP f s n).length = f.length + s.length + n.length + 2 := fun f s n => by simp [chooseP]; omega
  by_cases o1 : op.data.toList = [111, 114]
  · obtain ⟨y, z, rfl, -, -⟩ := rule_two hr (.inl o1)
    rw [combC, if_pos o1, hch]
    have h3 := hy y (by simp)
    have h4 := hy z (by simp)
    simp [Ex.sizes]
    omega
  by_cases o2 : op.data.toList = [97, 110, 100]
  · obtain ⟨y, z, rfl, -, -⟩ := rule_two hr (.inr o2)
    rw [combC, if_neg o1, if_pos o2, hch]
    have h3 := hy y (by simp)
    have h4 := hy z (by simp)
    simp [Ex.sizes]
    omega
  by_cases o3 : op.data.toList = [105, 102]
  · rw [combC, if_neg o1, if_neg o2, if_pos o3, hch]
    rw [o3] at hr
    obtain ⟨y, z, u, rfl, -, -, -⟩ := rule_if hr
    have h3 := hy y (by simp)
    have h4 := hy z (by simp)
    have h5 := hy u (by simp)
    simp [Ex.sizes]
    omega
  rw [combC, if_neg o1, if_neg o2, if_neg o3, List.length_append, List.length_singleton]
  have : ∀ m : List Ex, (∀ y ∈ m, (cpP zs y).length ≤ 3 * y.size) → (m.map (cpP zs)).flatten.length ≤ 3 * Ex.sizes m := by
    intro m
    induction m with
    | nil => intro _; simp [Ex.sizes]
    | cons y ys ihm =>
      intro hm
      have h3 := hm y (List.mem_cons_self ..)
      have h4 := ihm fun z hz => hm z (List.mem_cons_of_mem _ hz)
      rw [List.map_cons, List.flatten_cons, List.length_append, Ex.sizes]
      omega
  have := this l hy
  omega
/-- Of an expression that is right, over columns that are right. -/
theorem cp_sound {zs : List (ByteArray × Int)} {x : Ex} {d : Nat} (hz : schE zs = 0) (hpre : ∀ q ∈ x.pre d, nodeE q.1 = 0) (ht : (tyP zs x).2.1 = 0) (hs : x.size ≤ 200) (hd : x.deep ≤ 30) : (verP (cpP zs x) zs).2.2 = 0 ∧ typP (cpP zs x) (verP (cpP zs x) zs) = (tyP zs x).1 := by
  have hlen := cp_len x ht
  obtain ⟨l1, l2⟩ := cp_lays x d hpre ht
  obtain ⟨l, a1, a2, a3, a4⟩ := l2 (some [] :: List.replicate (cpP zs x).length none) 0 [] [] (by simp; omega) rfl (fun j h1 h2 => by
    rw [Nat.zero_add]
    obtain ⟨i, rfl⟩ : ∃ i, j = i + 1 := ⟨j - 1, by omega⟩
    rw [List.getElem?_cons_succ, List.getElem?_replicate, if_pos (by omega)]) (.inl (by
    rw [Nat.zero_add]
    obtain ⟨i, hi⟩ : ∃ i, (cpP zs x).length = i + 1 := ⟨(cpP zs x).length - 1, by omega⟩
    rw [hi, List.getElem?_cons_succ, List.getElem?_replicate, if_pos (by omega)]))
  rw [List.append_nil, Nat.zero_add, loopP] at a2
  rw [Nat.zero_add, List.nil_append] at a3
  have hv : verP (cpP zs x) zs = (l, 0, 0) := by
    rw [verP, if_neg (by omega), if_neg (by simp [hz]), a2, endP, if_neg (by simp)]
    simp only
    rw [a3, if_neg (by simp)]
  exact ⟨by rw [hv], typ_sound a3 hv⟩
--END
end Go.Proofs.YtplnjbdngedafaaGreatDoor
