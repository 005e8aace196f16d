/-
  Whether instructions are sound, as plain functions; cut off, with a Keep, with a Keep and a Drop behind.
-/
import Derived.Test.YtnpinbpjfngknaaDoorCdO
import Derived.Test.YtnpinbpjfngknaaDoorKdP
namespace Go.Proofs.YtnpinbpjfngknaaDoor
open Go.RowKit
set_option linter.unusedVariables false

/-- What is known of a place: nothing, or the types on the stack, the last one on top. -/
abbrev Pl := Option (List Int)
/-- What is wrong with an instruction by itself. -/
def argE (i : I5) (nc bh : Int) : Int :=
  if i.1 = 1 then chk i.2.2.1 i.2.2.2.1 i.2.2.2.2.data.toList
  else if i.1 = 2 then (if 0 ≤ i.2.1 ∧ i.2.1 < nc then 0 else 1)
  else if i.1 = 3 then opE i.2.1
  else if i.1 = 4 ∨ i.1 = 5 then (if 0 ≤ i.2.1 ∧ i.2.1 ≤ bh then 0 else 1)
  else if i.1 = 6 ∨ i.1 = 7 then 0 else 1
/-- How many an operation has. -/
def cntN (op : List UInt8) : Nat := match kdFind op kdRules with
  | none => 0
  | some r => kdCnt r
/-- How many an instruction takes, or looks at. -/
def needN (i : I5) : Nat := if i.1 = 3 then cntN (opN i.2.1) else if i.1 = 5 ∨ i.1 = 6 ∨ i.1 = 7 then 1 else 0
/-- What comes onto the stack for those. -/
def layP (i : I5) (off : List Int) (zs : List (ByteArray × Int)) : List Int × Int :=
  if i.1 = 1 then ([i.2.2.1], 0)
  else if i.1 = 2 then ([(zs[i.2.1.toNat]?.getD default).2], 0)
  else if i.1 = 3 then ([(ruleP (opN i.2.1) off).1], (ruleP (opN i.2.1) off).2)
  else if i.1 = 5 then (if off.headD 0 ≠ 2 then ([], 8) else ([], 0))
  else if i.1 = 6 then ([off.headD 0, off.headD 0], 0)
  else ([], 0)
/-- What lies on the stack behind an instruction, and what is wrong. -/
def aftP (st : List Int) (i : I5) (zs : List (ByteArray × Int)) : List Int × Int :=
  if st.length < needN i then ([], 6)
  else if (layP i (st.drop (st.length - needN i)) zs).2 ≠ 0 then ([], (layP i (st.drop (st.length - needN i)) zs).2)
  else if 64 < st.length - needN i + (layP i (st.drop (st.length - needN i)) zs).1.length then ([], 4)
  else (st.take (st.length - needN i) ++ (layP i (st.drop (st.length - needN i)) zs).1, 0)
/-- The places to which an instruction may go. -/
def leadP (i : I5) (next : Nat) : List Nat :=
  if i.1 = 4 then [next + i.2.1.toNat] else if i.1 = 5 then [next, next + i.2.1.toNat] else [next]
/-- The places to which it goes get to know what lies there; none: something else is known. -/
def goP (st : List Int) : List Nat → List Pl → Option (List Pl)
  | [], ks => some ks
  | t :: ts, ks => if (ks[t]?.getD none).isSome = true ∧ (ks[t]?.getD none).getD [] ≠ st then none else goP st ts (ks.set t (some st))
def stepP (zs : List (ByteArray × Int)) (ks : List Pl) (k : Nat) (i : I5) : List Pl × Int :=
  if (ks[k]?.getD none).isSome = false then (ks, 5)
  else if argE i zs.length ((ks.length : Int) - 1 - ((k : Int) + 1)) ≠ 0 then (ks, argE i zs.length ((ks.length : Int) - 1 - ((k : Int) + 1)))
  else if (aftP ((ks[k]?.getD none).getD []) i zs).2 ≠ 0 then (ks, (aftP ((ks[k]?.getD none).getD []) i zs).2)
  else match goP (aftP ((ks[k]?.getD none).getD []) i zs).1 (leadP i (k + 1)) ks with
    | none => (ks, 3)
    | some l => (l, 0)
/-- From a place on: what is known in the end; the number of the first that is wrong, and how. -/
def loopP (zs : List (ByteArray × Int)) : List Pl → Nat → List I5 → List Pl × Nat × Int
  | ks, k, [] => (ks, k, 0)
  | ks, k, i :: is => if (stepP zs ks k i).2 ≠ 0 then (ks, k, (stepP zs ks k i).2) else loopP zs (stepP zs ks k i).1 (k + 1) is
def endP (r : List Pl × Nat × Int) : List Pl × Nat × Int :=
  if r.2.2 ≠ 0 then ([], r.2.1, r.2.2) else if ((r.1[r.2.1]?.getD none).getD []).length ≠ 1 then ([], r.2.1, 3) else (r.1, 0, 0)
/-- What is known of any instructions over any columns; the number of the first that is wrong, and how. -/
def verP (is : List I5) (zs : List (ByteArray × Int)) : List Pl × Nat × Int :=
  if 1200 < is.length then ([], 0, 4) else if schE zs ≠ 0 then ([], 0, schE zs) else endP (loopP zs (some [] :: List.replicate is.length none) 0 is)
def typP (is : List I5) (r : List Pl × Nat × Int) : Int := if r.2.2 ≠ 0 then 0 else ((r.1[is.length]?.getD none).getD []).headD 0
def mostP (r : List Pl × Nat × Int) : Int := if r.2.2 ≠ 0 then 0 else r.1.foldl (fun m p => max m ((p.getD []).length : Int)) 0

theorem goP_len {st : List Int} : ∀ {ts : List Nat} {ks l : List Pl}, goP st ts ks = some l → l.length = ks.length
  | [], ks, l, h => by rw [goP] at h; rw [Option.some.inj h]
  | t :: ts, ks, l, h => by
    rw [goP] at h
    split at h
    · exact absurd h (by simp)
    · rw [goP_len h, List.length_set]
theorem stepP_len {zs : List (ByteArray × Int)} {ks : List Pl} {k : Nat} {i : I5} : (stepP zs ks k i).1.length = ks.length := by
  unfold stepP
  split
  · rfl
  split
  · rfl
  split
  · rfl
  split
  · rfl
  · rename_i h; exact goP_len h
theorem goP_more {st : List Int} : ∀ {ts : List Nat} {ks l : List Pl} (m : List Pl), (∀ t ∈ ts, t < ks.length) → goP st ts ks = some l → goP st ts (ks ++ m) = some (l ++ m)
  | [], ks, l, m, _, h => by rw [goP] at h ⊢; rw [Option.some.inj h]
  | t :: ts, ks, l, m, ht, h => by
    have hlt := ht t (List.mem_cons_self ..)
    rw [goP] at h ⊢
    rw [List.getElem?_append_left hlt, List.set_append_left _ _ hlt]
    split at h
    · exact absurd h (by simp)
    · rename_i hn
      rw [if_neg hn]
      exact goP_more m (fun x hx => by rw [List.length_set]; exact ht x (List.mem_cons_of_mem _ hx)) h
theorem argE_more {i : I5} {nc bh bh2 : Int} (h : bh ≤ bh2) (h0 : argE i nc bh = 0) : argE i nc bh2 = 0 := by
  unfold argE at h0 ⊢
  split
  · rename_i h1; rwa [if_pos h1] at h0
  rename_i h1; rw [if_neg h1] at h0
  split
  · rename_i h2; rwa [if_pos h2] at h0
  rename_i h2; rw [if_neg h2] at h0
  split
  · rename_i h3; rwa [if_pos h3] at h0
  rename_i h3; rw [if_neg h3] at h0
  split
  · rename_i h4; rw [if_pos h4] at h0
    split at h0
    · rw [if_pos (by omega)]
    · exact absurd h0 (by decide)
  rename_i h4; rwa [if_neg h4] at h0
theorem lead_lt {i : I5} {nc : Int} {n k : Nat} (hk : k + 1 < n) (h : argE i nc ((n : Int) - 1 - ((k : Int) + 1)) = 0) : ∀ t ∈ leadP i (k + 1), t < n := by
  intro t ht
  unfold leadP at ht
  unfold argE at h
  split at ht
  · rename_i h4
    rw [if_neg (by omega), if_neg (by omega), if_neg (by omega), if_pos (.inl h4)] at h
    simp only [List.mem_singleton] at ht
    split at h
    · omega
    · exact absurd h (by decide)
  split at ht
  · rename_i _ h5
    rw [if_neg (by omega), if_neg (by omega), if_neg (by omega), if_pos (.inr h5)] at h
    simp only [List.mem_cons, List.not_mem_nil, or_false] at ht
    split at h
    · omega
    · exact absurd h (by decide)
  · simp only [List.mem_singleton] at ht
    omega
theorem stepP_more {zs : List (ByteArray × Int)} {ks l : List Pl} {k : Nat} {i : I5} (m : List Pl) (hk : k + 1 < ks.length) (h : stepP zs ks k i = (l, 0)) : stepP zs (ks ++ m) k i = (l ++ m, 0) := by
  unfold stepP at h ⊢
  rw [List.getElem?_append_left (by omega : k < ks.length)]
  split at h
  · exact absurd (congrArg Prod.snd h) (by simp)
  rename_i h1
  rw [if_neg h1]
  split at h
  · rename_i h2; exact absurd (congrArg Prod.snd h) h2
  rename_i h2
  have h2' : argE i zs.length ((ks.length : Int) - 1 - ((k : Int) + 1)) = 0 := Classical.not_not.1 h2
  have h3' : argE i zs.length (((ks ++ m).length : Int) - 1 - ((k : Int) + 1)) = 0 := argE_more (by rw [List.length_append]; omega) h2'
  rw [if_neg (by rw [h3']; simp)]
  split at h
  · rename_i h3; exact absurd (congrArg Prod.snd h) h3
  rename_i h3
  rw [if_neg h3]
  split at h
  · exact absurd (congrArg Prod.snd h) (by simp)
  · rename_i l2 h4
    obtain ⟨rfl, _⟩ := Prod.mk.inj h
    rw [goP_more m (lead_lt hk h2') h4]
theorem loopP_more {zs : List (ByteArray × Int)} (m : List Pl) (js : List I5) : ∀ {is : List I5} {ks l : List Pl} {k n : Nat}, k + is.length < ks.length → loopP zs ks k is = (l, n, 0) → loopP zs (ks ++ m) k (is ++ js) = loopP zs (l ++ m) (k + is.length) js ∧ n = k + is.length ∧ l.length = ks.length
  | [], ks, l, k, n, _, h => by
    rw [loopP] at h
    obtain ⟨rfl, h2⟩ := Prod.mk.inj h
    obtain ⟨rfl, _⟩ := Prod.mk.inj h2
    exact ⟨rfl, rfl, rfl⟩
  | i :: is, ks, l, k, n, hk, h => by
    rw [List.length_cons] at hk
    rw [loopP] at h
    split at h
    · rename_i h1
      exact absurd (congrArg (fun r => r.2.2) h) h1
    · rename_i h1
      have e1 : stepP zs ks k i = ((stepP zs ks k i).1, 0) := Prod.ext rfl (Classical.not_not.1 h1)
      have e2 := stepP_more m (by omega) e1
      have hlen := stepP_len (zs := zs) (ks := ks) (k := k) (i := i)
      obtain ⟨r1, r2, r3⟩ := loopP_more m js (by rw [hlen]; omega) h
      rw [List.cons_append, loopP, e2, if_neg (by simp)]
      exact ⟨by rw [r1, List.length_cons]; congr 1; omega, by rw [r2, List.length_cons]; omega, by rw [r3, hlen]⟩
/-- Of sound instructions: what is known in the end. -/
theorem sound_loop {is : List I5} {zs : List (ByteArray × Int)} (h : (verP is zs).2.2 = 0) : is.length ≤ 1200 ∧ schE zs = 0 ∧ ∃ l t, loopP zs (some [] :: List.replicate is.length none) 0 is = (l, is.length, 0) ∧ l.length = is.length + 1 ∧ l[is.length]? = some (some [t]) ∧ verP is zs = (l, 0, 0) := by
  unfold verP at h ⊢
  split at h
  · exact absurd h (by decide)
  rename_i h1
  split at h
  · rename_i h2; exact absurd h h2
  rename_i h2
  rw [if_neg h1, if_neg h2]
  refine ⟨by omega, Classical.not_not.1 h2, ?_⟩
  obtain ⟨⟨l, n, e⟩, hr⟩ : ∃ r, loopP zs (some [] :: List.replicate is.length none) 0 is = r := ⟨_, rfl⟩
  rw [hr] at h ⊢
  unfold endP at h ⊢
  split at h
  · rename_i h3; exact absurd h h3
  rename_i h3
  rw [if_neg h3]
  obtain rfl : e = 0 := Classical.not_not.1 h3
  obtain ⟨-, hn, hl⟩ := loopP_more [] [] (by simp) hr
  rw [Nat.zero_add] at hn
  subst hn
  split at h
  · exact absurd h (by simp)
  rename_i h4
  rw [if_neg h4]
  have hl2 : l.length = is.length + 1 := by rw [hl]; simp
  have hlt : is.length < l.length := by omega
  have h4' := Classical.not_not.1 h4
  simp only at h4'
  rw [List.getElem?_eq_getElem hlt, Option.getD_some] at h4'
  cases hq : l[is.length] with
  | none => rw [hq] at h4'; simp at h4'
  | some s =>
    rw [hq] at h4'
    simp only [Option.getD_some] at h4'
    match s, h4' with
    | [t], _ => exact ⟨l, t, rfl, hl2, by rw [List.getElem?_eq_getElem hlt, hq], rfl⟩
theorem rep_more (n m : Nat) : (some [] :: List.replicate (n + m) none : List Pl) = (some [] :: List.replicate n none) ++ List.replicate m none := by
  rw [← List.replicate_append_replicate]; rfl
theorem typ_sound {is : List I5} {zs : List (ByteArray × Int)} {l : List Pl} {t : Int} (h1 : l[is.length]? = some (some [t])) (h2 : verP is zs = (l, 0, 0)) : typP is (verP is zs) = t := by
  rw [h2, typP, if_neg (by simp), h1]; rfl
theorem step_keep {zs : List (ByteArray × Int)} {ks : List Pl} {k : Nat} {t : Int} (i : I5) (hi : i.1 = 6) (h : ks[k]? = some (some [t])) (h2 : ks[k + 1]? = some none) : stepP zs ks k i = (ks.set (k + 1) (some [t, t]), 0) := by
  have hn : needN i = 1 := by rw [needN, if_neg (by omega), if_pos (by omega)]
  have hL : layP i [t] zs = ([t, t], 0) := by
    rw [layP, if_neg (by omega), if_neg (by omega), if_neg (by omega), if_neg (by omega), if_pos hi]; rfl
  have hA : aftP [t] i zs = ([t, t], 0) := by
    rw [aftP, hn, if_neg (by simp)]
    simp [hL]
  have hE : ∀ a b, argE i a b = 0 := fun a b => by
    rw [argE, if_neg (by omega), if_neg (by omega), if_neg (by omega), if_neg (by omega), if_pos (by omega)]
  have hg : leadP i (k + 1) = [k + 1] := by rw [leadP, if_neg (by omega), if_neg (by omega)]
  rw [stepP, h, if_neg (by simp), hE, if_neg (by simp)]
  simp only [Option.getD_some]
  rw [hA, if_neg (by simp)]
  simp only
  rw [hg, goP, h2, if_neg (by simp), goP]
theorem step_drop {zs : List (ByteArray × Int)} {ks : List Pl} {k : Nat} {t u : Int} (i : I5) (hi : i.1 = 7) (h : ks[k]? = some (some [t, u])) (h2 : ks[k + 1]? = some none) : stepP zs ks k i = (ks.set (k + 1) (some [t]), 0) := by
  have hn : needN i = 1 := by rw [needN, if_neg (by omega), if_pos (by omega)]
  have hL : layP i [u] zs = ([], 0) := by
    rw [layP, if_neg (by omega), if_neg (by omega), if_neg (by omega), if_neg (by omega), if_neg (by omega)]
  have hA : aftP [t, u] i zs = ([t], 0) := by
    rw [aftP, hn, if_neg (by simp)]
    simp [hL]
  have hE : ∀ a b, argE i a b = 0 := fun a b => by
    rw [argE, if_neg (by omega), if_neg (by omega), if_neg (by omega), if_neg (by omega), if_pos (by omega)]
  have hg : leadP i (k + 1) = [k + 1] := by rw [leadP, if_neg (by omega), if_neg (by omega)]
  rw [stepP, h, if_neg (by simp), hE, if_neg (by simp)]
  simp only [Option.getD_some]
  rw [hA, if_neg (by simp)]
  simp only
  rw [hg, goP, h2, if_neg (by simp), goP]
/-- With a Keep behind it is wrong; with a Keep and a Drop it is what it was. -/
theorem cut_keep {is : List I5} {zs : List (ByteArray × Int)} (h : (verP is zs).2.2 = 0) (hl : is.length ≤ 1190) (i : I5) (hi : i.1 = 6) : (verP (is ++ [i]) zs).2 = (is.length + 1, 3) := by
  obtain ⟨h1, h2, l, t, h3, h4, h5, h6⟩ := sound_loop h
  have hlt : is.length < l.length := by omega
  rw [verP, List.length_append, List.length_singleton, if_neg (by omega), if_neg (by simp [h2]), rep_more, (loopP_more (List.replicate 1 none) [i] (by simp) h3).1]
  have g1 : (l ++ List.replicate 1 none)[is.length]? = some (some [t]) := by rw [List.getElem?_append_left hlt, h5]
  have g2 : (l ++ List.replicate 1 none)[is.length + 1]? = some none := by rw [List.getElem?_append_right (by omega), h4]; simp
  rw [Nat.zero_add, loopP, step_keep i hi g1 g2, if_neg (by simp), loopP, endP, if_neg (by simp)]
  simp only
  rw [List.getElem?_set_self (by simp; omega)]
  rfl
theorem cut_drop {is : List I5} {zs : List (ByteArray × Int)} (h : (verP is zs).2.2 = 0) (hl : is.length ≤ 1190) (i j : I5) (hi : i.1 = 6) (hj : j.1 = 7) : (verP (is ++ [i, j]) zs).2.2 = 0 ∧ typP (is ++ [i, j]) (verP (is ++ [i, j]) zs) = typP is (verP is zs) := by
  obtain ⟨h1, h2, l, t, h3, h4, h5, h6⟩ := sound_loop h
  have hlt : is.length < l.length := by omega
  have g1 : (l ++ List.replicate 2 none)[is.length]? = some (some [t]) := by rw [List.getElem?_append_left hlt, h5]
  have g2 : (l ++ List.replicate 2 none)[is.length + 1]? = some none := by rw [List.getElem?_append_right (by omega), h4]; simp
  have k1 : ((l ++ List.replicate 2 none).set (is.length + 1) (some [t, t]))[is.length + 1]? = some (some [t, t]) := List.getElem?_set_self (by simp; omega)
  have k2 : ((l ++ List.replicate 2 none).set (is.length + 1) (some [t, t]))[is.length + 1 + 1]? = some none := by
    rw [List.getElem?_set_ne (by omega), List.getElem?_append_right (by omega), h4, show is.length + 1 + 1 - (is.length + 1) = 1 by omega]; rfl
  have hv : verP (is ++ [i, j]) zs = (((l ++ List.replicate 2 none).set (is.length + 1) (some [t, t])).set (is.length + 1 + 1) (some [t]), 0, 0) := by
    rw [verP, List.length_append, if_neg (by simp; omega), if_neg (by simp [h2])]
    rw [show [i, j].length = 2 from rfl, rep_more, (loopP_more (List.replicate 2 none) [i, j] (by simp) h3).1]
    rw [Nat.zero_add, loopP, step_keep i hi g1 g2, if_neg (by simp), loopP, step_drop j hj k1 k2, if_neg (by simp), loopP, endP, if_neg (by simp)]
    simp only
    rw [List.getElem?_set_self (by simp; omega)]
    rfl
  rw [typ_sound h5 h6]
  refine ⟨by rw [hv], ?_⟩
  rw [hv, typP, if_neg (by simp)]
  simp only
  rw [show (is ++ [i, j]).length = is.length + 1 + 1 by simp, List.getElem?_set_self (by simp; omega)]
  rfl
theorem ver_nil {zs : List (ByteArray × Int)} (h : schE zs = 0) : (verP [] zs).2 = (0, 3) := by
  rw [verP, if_neg (by simp), if_neg (by simp [h])]; rfl
end Go.Proofs.YtnpinbpjfngknaaDoor
