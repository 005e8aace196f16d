/-
  VfP, VfM, VfA, CpG, VfQ, in one text.
-/
import Derived.Test.YtplnjbdngedafaaGreatDoorGrAl
import Derived.Test.YtplnjbdngedafaaGreatDoorQKdP
import Derived.Test.YtplnjbdngedafaaGreatDoorGrAd
import Derived.Test.YtplnjbdngedafaaGreatDoorQKdRuleC
import Derived.Test.YtplnjbdngedafaaGreatDoorGrAa
import Derived.Laws.AppendOwnNone
import Derived.Lib.AppendZerosOnto
import Derived.BigQuiet
import Derived.Deep.QuietTactic
namespace Go.Proofs.YtplnjbdngedafaaGreatDoor
open Go.RowKit
set_option linter.unusedVariables false

/-- What is known of a place: nothing, or the types on the stack, the last one on top. -/
abbrev Pl := Option (List Int)
/-- What is wrong with an instruction by itself. -/
def argE (i : I5) (nc bh : Int) : Int :=
  if i.1 = 1 then chk i.2.2.1 i.2.2.2.1 i.2.2.2.2.data.toList
  else if i.1 = 2 then (if 0 ≤ i.2.1 ∧ i.2.1 < nc then 0 else 1)
  else if i.1 = 3 then opE i.2.1
  else if i.1 = 4 ∨ i.1 = 5 then (if 0 ≤ i.2.1 ∧ i.2.1 ≤ bh then 0 else 1)
  else if i.1 = 6 ∨ i.1 = 7 then 0 else 1
/-- How many an operation has. -/
def cntN (op : List UInt8) : Nat := match kdFind op kdRules with
  | none => 0
  | some r => kdCnt r
/-- How many an instruction takes, or looks at. -/
def needN (i : I5) : Nat := if i.1 = 3 then cntN (opN i.2.1) else if i.1 = 5 ∨ i.1 = 6 ∨ i.1 = 7 then 1 else 0
/-- What comes onto the stack for those. -/
def layP (i : I5) (off : List Int) (zs : List (ByteArray × Int)) : List Int × Int :=
  if i.1 = 1 then ([i.2.2.1], 0)
  else if i.1 = 2 then ([(zs[i.2.1.toNat]?.getD default).2], 0)
  else if i.1 = 3 then ([(ruleP (opN i.2.1) off).1], (ruleP (opN i.2.1) off).2)
  else if i.1 = 5 then (if off.headD 0 ≠ 2 then ([], 8) else ([], 0))
  else if i.1 = 6 then ([off.headD 0, off.headD 0], 0)
  else ([], 0)
/-- What lies on the stack behind an instruction, and what is wrong. -/
def aftP (st : List Int) (i : I5) (zs : List (ByteArray × Int)) : List Int × Int :=
  if st.length < needN i then ([], 6)
  else if (layP i (st.drop (st.length - needN i)) zs).2 ≠ 0 then ([], (layP i (st.drop (st.length - needN i)) zs).2)
  else if 64 < st.length - needN i + (layP i (st.drop (st.length - needN i)) zs).1.length then ([], 4)
  else (st.take (st.length - needN i) ++ (layP i (st.drop (st.length - needN i)) zs).1, 0)
/-- The places to which an instruction may go. -/
def leadP (i : I5) (next : Nat) : List Nat :=
  if i.1 = 4 then [next + i.2.1.toNat] else if i.1 = 5 then [next, next + i.2.1.toNat] else [next]
/-- The places to which it goes get to know what lies there; none: something else is known. -/
def goP (st : List Int) : List Nat → List Pl → Option (List Pl)
  | [], ks => some ks
  | t :: ts, ks => if (ks[t]?.getD none).isSome = true ∧ (ks[t]?.getD none).getD [] ≠ st then none else goP st ts (ks.set t (some st))
def stepP (zs : List (ByteArray × Int)) (ks : List Pl) (k : Nat) (i : I5) : List Pl × Int :=
  if (ks[k]?.getD none).isSome = false then (ks, 5)
  else if argE i zs.length ((ks.length : Int) - 1 - ((k : Int) + 1)) ≠ 0 then (ks, argE i zs.length ((ks.length : Int) - 1 - ((k : Int) + 1)))
  else if (aftP ((ks[k]?.getD none).getD []) i zs).2 ≠ 0 then (ks, (aftP ((ks[k]?.getD none).getD []) i zs).2)
  else match goP (aftP ((ks[k]?.getD none).getD []) i zs).1 (leadP i (k + 1)) ks with
    | none => (ks, 3)
    | some l => (l, 0)
/-- From a place on: what is known in the end; the number of the first that is wrong, and how. -/
def loopP (zs : List (ByteArray × Int)) : List Pl → Nat → List I5 → List Pl × Nat × Int
  | ks, k, [] => (ks, k, 0)
  | ks, k, i :: is => if (stepP zs ks k i).2 ≠ 0 then (ks, k, (stepP zs ks k i).2) else loopP zs (stepP zs ks k i).1 (k + 1) is
def endP (r : List Pl × Nat × Int) : List Pl × Nat × Int :=
  if r.2.2 ≠ 0 then ([], r.2.1, r.2.2) else if ((r.1[r.2.1]?.getD none).getD []).length ≠ 1 then ([], r.2.1, 3) else (r.1, 0, 0)
/-- What is known of any instructions over any columns; the number of the first that is wrong, and how. -/
def verP (is : List I5) (zs : List (ByteArray × Int)) : List Pl × Nat × Int :=
  if 1200 < is.length then ([], 0, 4) else if schE zs ≠ 0 then ([], 0, schE zs) else endP (loopP zs (some [] :: List.replicate is.length none) 0 is)
def typP (is : List I5) (r : List Pl × Nat × Int) : Int := if r.2.2 ≠ 0 then 0 else ((r.1[is.length]?.getD none).getD []).headD 0
def mostP (r : List Pl × Nat × Int) : Int := if r.2.2 ≠ 0 then 0 else r.1.foldl (fun m p => max m ((p.getD []).length : Int)) 0

theorem goP_len {st : List Int} : ∀ {ts : List Nat} {ks l : List Pl}, goP st ts ks = some l → l.length = ks.length
  | [], ks, l, h => by rw [goP] at h; rw [Option.some.inj h]
  | t :: ts, ks, l, h => by
    rw [goP] at h
    split at h
    · exact absurd h (by simp)
    · rw [goP_len h, List.length_set]
theorem stepP_len {zs : List (ByteArray × Int)} {ks : List Pl} {k : Nat} {i : I5} : (stepP zs ks k i).1.length = ks.length := by
  unfold stepP
  split
  · rfl
  split
  · rfl
  split
  · rfl
  split
  · rfl
  · rename_i h; exact goP_len h
theorem goP_more {st : List Int} : ∀ {ts : List Nat} {ks l : List Pl} (m : List Pl), (∀ t ∈ ts, t < ks.length) → goP st ts ks = some l → goP st ts (ks ++ m) = some (l ++ m)
  | [], ks, l, m, _, h => by rw [goP] at h ⊢; rw [Option.some.inj h]
  | t :: ts, ks, l, m, ht, h => by
    have hlt := ht t (List.mem_cons_self ..)
    rw [goP] at h ⊢
    rw [List.getElem?_append_left hlt, List.set_append_left _ _ hlt]
    split at h
    · exact absurd h (by simp)
    · rename_i hn
      rw [if_neg hn]
      exact goP_more m (fun x hx => by rw [List.length_set]; exact ht x (List.mem_cons_of_mem _ hx)) h
theorem argE_more {i : I5} {nc bh bh2 : Int} (h : bh ≤ bh2) (h0 : argE i nc bh = 0) : argE i nc bh2 = 0 := by
  unfold argE at h0 ⊢
  split
  · rename_i h1; rwa [if_pos h1] at h0
  rename_i h1; rw [if_neg h1] at h0
  split
  · rename_i h2; rwa [if_pos h2] at h0
  rename_i h2; rw [if_neg h2] at h0
  split
  · rename_i h3; rwa [if_pos h3] at h0
  rename_i h3; rw [if_neg h3] at h0
  split
  · rename_i h4; rw [if_pos h4] at h0
    split at h0
    · rw [if_pos (by omega)]
    · exact absurd h0 (by decide)
  rename_i h4; rwa [if_neg h4] at h0
theorem lead_lt {i : I5} {nc : Int} {n k : Nat} (hk : k + 1 < n) (h : argE i nc ((n : Int) - 1 - ((k : Int) + 1)) = 0) : ∀ t ∈ leadP i (k + 1), t < n := by
  intro t ht
  unfold leadP at ht
  unfold argE at h
  split at ht
  · rename_i h4
    rw [if_neg (by omega), if_neg (by omega), if_neg (by omega), if_pos (.inl h4)] at h
    simp only [List.mem_singleton] at ht
    split at h
    · omega
    · exact absurd h (by decide)
  split at ht
  · rename_i _ h5
    rw [if_neg (by omega), if_neg (by omega), if_neg (by omega), if_pos (.inr h5)] at h
    simp only [List.mem_cons, List.not_mem_nil, or_false] at ht
    split at h
    · omega
    · exact absurd h (by decide)
  · simp only [List.mem_singleton] at ht
    omega
theorem stepP_more {zs : List (ByteArray × Int)} {ks l : List Pl} {k : Nat} {i : I5} (m : List Pl) (hk : k + 1 < ks.length) (h : stepP zs ks k i = (l, 0)) : stepP zs (ks ++ m) k i = (l ++ m, 0) := by
  unfold stepP at h ⊢
  rw [List.getElem?_append_left (by omega : k < ks.length)]
  split at h
  · exact absurd (congrArg Prod.snd h) (by simp)
  rename_i h1
  rw [if_neg h1]
  split at h
  · rename_i h2; exact absurd (congrArg Prod.snd h) h2
  rename_i h2
  have h2' : argE i zs.length ((ks.length : Int) - 1 - ((k : Int) + 1)) = 0 := Classical.not_not.1 h2
  have h3' : argE i zs.length (((ks ++ m).length : Int) - 1 - ((k : Int) + 1)) = 0 := argE_more (by rw [List.length_append]; omega) h2'
  rw [if_neg (by rw [h3']; simp)]
  split at h
  · rename_i h3; exact absurd (congrArg Prod.snd h) h3
  rename_i h3
  rw [if_neg h3]
  split at h
  · exact absurd (congrArg Prod.snd h) (by simp)
  · rename_i l2 h4
    obtain ⟨rfl, _⟩ := Prod.mk.inj h
    rw [goP_more m (lead_lt hk h2') h4]
theorem loopP_more {zs : List (ByteArray × Int)} (m : List Pl) (js : List I5) : ∀ {is : List I5} {ks l : List Pl} {k n : Nat}, k + is.length < ks.length → loopP zs ks k is = (l, n, 0) → loopP zs (ks ++ m) k (is ++ js) = loopP zs (l ++ m) (k + is.length) js ∧ n = k + is.length ∧ l.length = ks.length
  | [], ks, l, k, n, _, h => by
    rw [loopP] at h
    obtain ⟨rfl, h2⟩ := Prod.mk.inj h
    obtain ⟨rfl, _⟩ := Prod.mk.inj h2
    exact ⟨rfl, rfl, rfl⟩
  | i :: is, ks, l, k, n, hk, h => by
    rw [List.length_cons] at hk
    rw [loopP] at h
    split at h
    · rename_i h1
      exact absurd (congrArg (fun r => r.2.2) h) h1
    · rename_i h1
      have e1 : stepP zs ks k i = ((stepP zs ks k i).1, 0) := Prod.ext rfl (Classical.not_not.1 h1)
      have e2 := stepP_more m (by omega) e1
      have hlen := stepP_len (zs := zs) (ks := ks) (k := k) (i := i)
      obtain ⟨r1, r2, r3⟩ := loopP_more m js (by rw [hlen]; omega) h
      rw [List.cons_append, loopP, e2, if_neg (by simp)]
      exact ⟨by rw [r1, List.length_cons]; congr 1; omega, by rw [r2, List.length_cons]; omega, by rw [r3, hlen]⟩
/-- Of sound instructions: what is known in the end. -/
theorem sound_loop {is : List I5} {zs : List (ByteArray × Int)} (h : (verP is zs).2.2 = 0) : is.length ≤ 1200 ∧ schE zs = 0 ∧ ∃ l t, loopP zs (some [] :: List.replicate is.length none) 0 is = (l, is.length, 0) ∧ l.length = is.length + 1 ∧ l[is.length]? = some (some [t]) ∧ verP is zs = (l, 0, 0) := by
  unfold verP at h ⊢
  split at h
  · exact absurd h (by decide)
  rename_i h1
  split at h
  · rename_i h2; exact absurd h h2
  rename_i h2
  rw [if_neg h1, if_neg h2]
  refine ⟨by omega, Classical.not_not.1 h2, ?_⟩
  obtain ⟨⟨l, n, e⟩, hr⟩ : ∃ r, loopP zs (some [] :: List.replicate is.length none) 0 is = r := ⟨_, rfl⟩
  rw [hr] at h ⊢
  unfold endP at h ⊢
  split at h
  · rename_i h3; exact absurd h h3
  rename_i h3
  rw [if_neg h3]
  obtain rfl : e = 0 := Classical.not_not.1 h3
  obtain ⟨-, hn, hl⟩ := loopP_more [] [] (by simp) hr
  rw [Nat.zero_add] at hn
  subst hn
  split at h
  · exact absurd h (by simp)
  rename_i h4
  rw [if_neg h4]
  have hl2 : l.length = is.length + 1 := by rw [hl]; simp
  have hlt : is.length < l.length := by omega
  have h4' := Classical.not_not.1 h4
  simp only at h4'
  rw [List.getElem?_eq_getElem hlt, Option.getD_some] at h4'
  cases hq : l[is.length] with
  | none => rw [hq] at h4'; simp at h4'
  | some s =>
    rw [hq] at h4'
    simp only [Option.getD_some] at h4'
    match s, h4' with
    | [t], _ => exact ⟨l, t, rfl, hl2, by rw [List.getElem?_eq_getElem hlt, hq], rfl⟩
theorem rep_more (n m : Nat) : (some [] :: List.replicate (n + m) none : List Pl) = (some [] :: List.replicate n none) ++ List.replicate m none := by
  rw [← List.replicate_append_replicate]; rfl
theorem typ_sound {is : List I5} {zs : List (ByteArray × Int)} {l : List Pl} {t : Int} (h1 : l[is.length]? = some (some [t])) (h2 : verP is zs = (l, 0, 0)) : typP is (verP is zs) = t := by
  rw [h2, typP, if_neg (by simp), h1]; rfl
theorem step_keep {zs : List (ByteArray × Int)} {ks : List Pl} {k : Nat} {t : Int} (i : I5) (hi : i.1 = 6) (h : ks[k]? = some (some [t])) (h2 : ks[k + 1]? = some none) : stepP zs ks k i = (ks.set (k + 1) (some [t, t]), 0) := by
  have hn : needN i = 1 := by rw [needN, if_neg (by omega), if_pos (by omega)]
  have hL : layP i [t] zs = ([t, t], 0) := by
    rw [layP, if_neg (by omega), if_neg (by omega), if_neg (by omega), if_neg (by omega), if_pos hi]; rfl
  have hA : aftP [t] i zs = ([t, t], 0) := by
    rw [aftP, hn, if_neg (by simp)]
    simp [hL]
  have hE : ∀ a b, argE i a b = 0 := fun a b => by
    rw [argE, if_neg (by omega), if_neg (by omega), if_neg (by omega), if_neg (by omega), if_pos (by omega)]
  have hg : leadP i (k + 1) = [k + 1] := by rw [leadP, if_neg (by omega), if_neg (by omega)]
  rw [stepP, h, if_neg (by simp), hE, if_neg (by simp)]
  simp only [Option.getD_some]
  rw [hA, if_neg (by simp)]
  simp only
  rw [hg, goP, h2, if_neg (by simp), goP]
theorem step_drop {zs : List (ByteArray × Int)} {ks : List Pl} {k : Nat} {t u : Int} (i : I5) (hi : i.1 = 7) (h : ks[k]? = some (some [t, u])) (h2 : ks[k + 1]? = some none) : stepP zs ks k i = (ks.set (k + 1) (some [t]), 0) := by
  have hn : needN i = 1 := by rw [needN, if_neg (by omega), if_pos (by omega)]
  have hL : layP i [u] zs = ([], 0) := by
    rw [layP, if_neg (by omega), if_neg (by omega), if_neg (by omega), if_neg (by omega), if_neg (by omega)]
  have hA : aftP [t, u] i zs = ([t], 0) := by
    rw [aftP, hn, if_neg (by simp)]
    simp [hL]
  have hE : ∀ a b, argE i a b = 0 := fun a b => by
    rw [argE, if_neg (by omega), if_neg (by omega), if_neg (by omega), if_neg (by omega), if_pos (by omega)]
  have hg : leadP i (k + 1) = [k + 1] := by rw [leadP, if_neg (by omega), if_neg (by omega)]
  rw [stepP, h, if_neg (by simp), hE, if_neg (by simp)]
  simp only [Option.getD_some]
  rw [hA, if_neg (by simp)]
  simp only
  rw [hg, goP, h2, if_neg (by simp), goP]
/-- With a Keep behind it is wrong; with a Keep and a Drop it is what it was. -/
theorem cut_keep {is : List I5} {zs : List (ByteArray × Int)} (h : (verP is zs).2.2 = 0) (hl : is.length ≤ 1190) (i : I5) (hi : i.1 = 6) : (verP (is ++ [i]) zs).2 = (is.length + 1, 3) := by
  obtain ⟨h1, h2, l, t, h3, h4, h5, h6⟩ := sound_loop h
  have hlt : is.length < l.length := by omega
  rw [verP, List.length_append, List.length_singleton, if_neg (by omega), if_neg (by simp [h2]), rep_more, (loopP_more (List.replicate 1 none) [i] (by simp) h3).1]
  have g1 : (l ++ List.replicate 1 none)[is.length]? = some (some [t]) := by rw [List.getElem?_append_left hlt, h5]
  have g2 : (l ++ List.replicate 1 none)[is.length + 1]? = some none := by rw [List.getElem?_append_right (by omega), h4]; simp
  rw [Nat.zero_add, loopP, step_keep i hi g1 g2, if_neg (by simp), loopP, endP, if_neg (by simp)]
  simp only
  rw [List.getElem?_set_self (by simp; omega)]
  rfl
theorem cut_drop {is : List I5} {zs : List (ByteArray × Int)} (h : (verP is zs).2.2 = 0) (hl : is.length ≤ 1190) (i j : I5) (hi : i.1 = 6) (hj : j.1 = 7) : (verP (is ++ [i, j]) zs).2.2 = 0 ∧ typP (is ++ [i, j]) (verP (is ++ [i, j]) zs) = typP is (verP is zs) := by
  obtain ⟨h1, h2, l, t, h3, h4, h5, h6⟩ := sound_loop h
  have hlt : is.length < l.length := by omega
  have g1 : (l ++ List.replicate 2 none)[is.length]? = some (some [t]) := by rw [List.getElem?_append_left hlt, h5]
  have g2 : (l ++ List.replicate 2 none)[is.length + 1]? = some none := by rw [List.getElem?_append_right (by omega), h4]; simp
  have k1 : ((l ++ List.replicate 2 none).set (is.length + 1) (some [t, t]))[is.length + 1]? = some (some [t, t]) := List.getElem?_set_self (by simp; omega)
  have k2 : ((l ++ List.replicate 2 none).set (is.length + 1) (some [t, t]))[is.length + 1 + 1]? = some none := by
    rw [List.getElem?_set_ne (by omega), List.getElem?_append_right (by omega), h4, show is.length + 1 + 1 - (is.length + 1) = 1 by omega]; rfl
  have hv : verP (is ++ [i, j]) zs = (((l ++ List.replicate 2 none).set (is.length + 1) (some [t, t])).set (is.length + 1 + 1) (some [t]), 0, 0) := by
    rw [verP, List.length_append, if_neg (by simp; omega), if_neg (by simp [h2])]
    rw [show [i, j].length = 2 from rfl, rep_more, (loopP_more (List.replicate 2 none) [i, j] (by simp) h3).1]
    rw [Nat.zero_add, loopP, step_keep i hi g1 g2, if_neg (by simp), loopP, step_drop j hj k1 k2, if_neg (by simp), loopP, endP, if_neg (by simp)]
    simp only
    rw [List.getElem?_set_self (by simp; omega)]
    rfl
  rw [typ_sound h5 h6]
  refine ⟨by rw [hv], ?_⟩
  rw [hv, typP, if_neg (by simp)]
  simp only
  rw [show (is ++ [i, j]).length = is.length + 1 + 1 by simp, List.getElem?_set_self (by simp; omega)]
  rfl
theorem ver_nil {zs : List (ByteArray × Int)} (h : schE zs = 0) : (verP [] zs).2 = (0, 3) := by
  rw [verP, if_neg (by simp), if_neg (by simp [h])]; rfl
end Go.Proofs.YtplnjbdngedafaaGreatDoor
namespace Go.Proofs.YtplnjbdngedafaaGreatDoor
open Go.RowKit
set_option linter.unusedVariables false

/-- Types one behind the other, in a block behind block B; none of them, and it may lie nowhere. -/
def StkAt (w : World) (B : Nat) (v : Value) (ts : List Int) : Prop := ∃ p c, v = .slice p ts.length c ∧ (ts.length ≤ c ∧ ts.length ≤ 64) ∧ (p = none → c = 0) ∧ ∀ a, p = some a → ∃ g off, a = ⟨g, off, none⟩ ∧ B < g ∧ g < w.heap.size ∧ ∀ j (h : j < ts.length), w.cell? ⟨g, off + j, none⟩ = some (.int .i64 ts[j])
theorem StkAt.but {w w' : World} {B : Nat} {v : Value} {ts : List Int} (h : StkAt w B v ts) (hb : But B w w') : StkAt w' B v ts := by
  obtain ⟨p, c, e, h1, h2, h3⟩ := h
  refine ⟨p, c, e, h1, h2, fun a ha => ?_⟩
  obtain ⟨g, off, e2, h4, h5, h6⟩ := h3 a ha
  exact ⟨g, off, e2, h4, by have := hb.size; omega, fun j hj => by rw [hb.cell _ h5 (by omega)]; exact h6 j hj⟩
theorem StkAt.on {w w' : World} {B : Nat} {v : Value} {ts : List Int} (h : StkAt w B v ts) (hb : Below w.heap.size w w') : StkAt w' B v ts := by
  obtain ⟨p, c, e, h1, h2, h3⟩ := h
  refine ⟨p, c, e, h1, h2, fun a ha => ?_⟩
  obtain ⟨g, off, e2, h4, h5, h6⟩ := h3 a ha
  exact ⟨g, off, e2, h4, by have := hb.size; omega, fun j hj => by rw [hb.cell (p := ⟨g, off + j, none⟩) h5]; exact h6 j hj⟩
theorem StkAt.nil (w : World) (B : Nat) : StkAt w B (.slice none 0 0) [] := ⟨none, 0, rfl, ⟨Nat.le_refl _, Nat.zero_le _⟩, fun _ => rfl, fun a h => nomatch h⟩
theorem StkAt.ints {w : World} {B : Nat} {p : Option Addr} {n c : Nat} {ts : List Int} (h : StkAt w B (.slice p n c) ts) : IntsAt w p ts := by
  obtain ⟨p', c', e, h1, h2, h3⟩ := h
  injection e with e1 e2 e3
  subst e1 e3
  cases p with
  | none => exact .inl (by have := h2 rfl; omega)
  | some a =>
    obtain ⟨g, off, e2, h4, h5, h6⟩ := h3 a rfl
    subst e2
    exact .inr ⟨g, off, rfl, h5, h6⟩
/-- What is known of each place lies in block b, two cells each; the stacks behind it. -/
def KnAt (w : World) (b : Nat) (ks : List Pl) : Prop := b < w.heap.size ∧ (∀ o, w.frozen? ⟨b, o, none⟩ = false) ∧ ∀ j (h : j < ks.length), w.cell? ⟨b, j * 2, none⟩ = some (.bool ks[j].isSome) ∧ ∃ v, w.cell? ⟨b, j * 2 + 1, none⟩ = some v ∧ StkAt w b v (ks[j].getD [])
theorem KnAt.on {w w' : World} {b : Nat} {ks : List Pl} (h : KnAt w b ks) (hb : Below w.heap.size w w') : KnAt w' b ks := by
  obtain ⟨h1, h2, h3⟩ := h
  refine ⟨by have := hb.size; omega, fun o => by rw [hb.frozen (p := ⟨b, o, none⟩) h1]; exact h2 o, fun j hj => ?_⟩
  obtain ⟨c0, v, c1, hs⟩ := h3 j hj
  exact ⟨by rw [hb.cell (p := ⟨b, j * 2, none⟩) h1]; exact c0, v, by rw [hb.cell (p := ⟨b, j * 2 + 1, none⟩) h1]; exact c1, hs.on hb⟩
theorem but_setCell (w : World) (b o : Nat) (x : Value) : But b w (w.setCell ⟨b, o, none⟩ x) := (But.refl b w).set o x
theorem cell_ne {w : World} {b o o' : Nat} {v : Value} (h : o ≠ o') : (w.setCell ⟨b, o, none⟩ v).cell? ⟨b, o', none⟩ = w.cell? ⟨b, o', none⟩ := by
  rw [World.cell?_setCell_other]
  intro e
  injection e with _ e
  exact h e
theorem cell_eq {w : World} {b o : Nat} {v u : Value} (h : w.cell? ⟨b, o, none⟩ = some u) : (w.setCell ⟨b, o, none⟩ v).cell? ⟨b, o, none⟩ = some v := by
  simp [World.cell?_setCell_same, h]
theorem KnAt.put {w : World} {b : Nat} {ks : List Pl} (h : KnAt w b ks) {t : Nat} (ht : t < ks.length) {v : Value} {st : List Int} (hv : StkAt w b v st) : KnAt ((w.setCell ⟨b, t * 2, none⟩ (.bool true)).setCell ⟨b, t * 2 + 1, none⟩ v) b (ks.set t (some st)) := by
  obtain ⟨h1, h2, h3⟩ := h
  have hB : But b w ((w.setCell ⟨b, t * 2, none⟩ (.bool true)).setCell ⟨b, t * 2 + 1, none⟩ v) := ((But.refl b w).set _ _).set _ _
  refine ⟨by have := hB.size; omega, fun o => by simpa using h2 o, fun j hj => ?_⟩
  rw [List.length_set] at hj
  obtain ⟨c0, u, c1, hs⟩ := h3 j hj
  by_cases hjt : t = j
  · subst hjt
    refine ⟨?_, v, ?_, ?_⟩
    · rw [cell_ne (by omega), cell_eq c0]; simp
    · exact cell_eq (u := u) (by rw [cell_ne (by omega)]; exact c1)
    · simpa using hv.but hB
  · refine ⟨?_, u, ?_, ?_⟩
    · rw [cell_ne (by omega), cell_ne (by omega), c0]; simp [List.getElem_set_ne hjt]
    · rw [cell_ne (by omega), cell_ne (by omega), c1]
    · rw [List.getElem_set_ne hjt]; exact hs.but hB
end Go.Proofs.YtplnjbdngedafaaGreatDoor
namespace Go.Proofs.YtplnjbdngedafaaGreatDoor
open Go.RowKit
set_option linter.unusedVariables false

def insW (i : I5) : Value := .agg #[.int .i64 i.1, .int .i64 i.2.1, .int .i64 i.2.2.1, .int .i64 i.2.2.2.1, .string i.2.2.2.2]
theorem alB (w : World) (o : Obj) : Below w.heap.size w (w.alloc o) := (Below.refl _ _).alloc (Nat.le_refl _) o
set_option maxHeartbeats 4000000 in
theorem checkArg_any (i : I5) (nc bh : Int) (w : World) (hs : i.2.2.2.2.size ≤ maxLen) (hr : REnv w) (E : Int) (hE : argE i nc bh = E) :
    Calls Tryz.prog 69 #[insW i, .int .i64 nc, .int .i64 bh] w fun e w' => e = .returned (errV E) ∧ Below w.heap.size w w' := by
  obtain ⟨a, g, t, n, s⟩ := i
  simp only at hs
  show Calls Tryz.prog _ #[Value.agg #[.int .i64 a, .int .i64 g, .int .i64 t, .int .i64 n, .string s], _, _] w _
  rw [argE] at hE
  simp only at hE
  have hB := fun o => alB w o
  by_cases a1 : a = 1
  · subst a1
    rw [if_pos rfl] at hE
    subst hE
    go_enter Tryz.func69, Tryz.ntmps69
    go_wp2_with fail
    refine (check_any t n s _ hs).mono ?_
    rintro e w1 ⟨rfl, b1⟩
    go_wp2
    go_ret
    exact ⟨rfl, (hB _).trans (b1.mono (by simp))⟩
  rw [if_neg a1] at hE
  by_cases a2 : a = 2
  · subst a2
    rw [if_pos rfl] at hE
    by_cases h0 : 0 ≤ g
    · by_cases h1 : g < nc
      · rw [if_pos ⟨h0, h1⟩] at hE
        subst hE
        clear a1 hs hr
        go_enter Tryz.func69, Tryz.ntmps69
        go_wp2
        go_ret
        exact ⟨rfl, hB _⟩
      · rw [if_neg (fun h => h1 h.2)] at hE
        subst hE
        clear a1 hs hr
        go_enter Tryz.func69, Tryz.ntmps69
        go_wp2
        go_ret
        exact ⟨rfl, hB _⟩
    · rw [if_neg (fun h => h0 h.1)] at hE
      subst hE
      clear a1 hs hr
      go_enter Tryz.func69, Tryz.ntmps69
      go_wp2
      go_ret
      exact ⟨rfl, hB _⟩
  rw [if_neg a2] at hE
  by_cases a3 : a = 3
  · subst a3
    rw [if_pos rfl] at hE
    subst hE
    clear a1 a2 hs
    go_enter Tryz.func69, Tryz.ntmps69
    go_wp2_with fail
    refine (codeOp_any g _ (hr.on (hB _))).mono ?_
    rintro e w1 ⟨rfl, b1⟩
    go_wp2
    go_ret
    exact ⟨rfl, (hB _).trans (b1.mono (by simp))⟩
  rw [if_neg a3] at hE
  have b1 : (a == 1) = false := by simpa using a1
  have b2 : (a == 2) = false := by simpa using a2
  have b3 : (a == 3) = false := by simpa using a3
  by_cases a4 : a = 4 ∨ a = 5
  · rw [if_pos a4] at hE
    by_cases h0 : 0 ≤ g
    · by_cases h1 : g ≤ bh
      · rw [if_pos ⟨h0, h1⟩] at hE
        subst hE
        clear a1 a2 a3 hs hr
        rcases a4 with rfl | rfl
        all_goals
          clear b1 b2 b3
          go_enter Tryz.func69, Tryz.ntmps69
          go_wp2
          go_ret
          exact ⟨rfl, hB _⟩
      · rw [if_neg (fun h => h1 h.2)] at hE
        subst hE
        clear a1 a2 a3 hs hr
        rcases a4 with rfl | rfl
        all_goals
          clear b1 b2 b3
          go_enter Tryz.func69, Tryz.ntmps69
          go_wp2
          go_ret
          exact ⟨rfl, hB _⟩
    · rw [if_neg (fun h => h0 h.1)] at hE
      subst hE
      clear a1 a2 a3 hs hr
      rcases a4 with rfl | rfl
      all_goals
        clear b1 b2 b3
        go_enter Tryz.func69, Tryz.ntmps69
        go_wp2
        go_ret
        exact ⟨rfl, hB _⟩
  rw [if_neg a4] at hE
  by_cases a6 : a = 6 ∨ a = 7
  · rw [if_pos a6] at hE
    subst hE
    clear a1 a2 a3 a4 hs hr
    rcases a6 with rfl | rfl
    all_goals
      clear b1 b2 b3
      go_enter Tryz.func69, Tryz.ntmps69
      go_wp2
      go_ret
      exact ⟨rfl, hB _⟩
  · rw [if_neg a6] at hE
    subst hE
    have b4 : (a == 4) = false := by simp; omega
    have b5 : (a == 5) = false := by simp; omega
    have b6 : (a == 6) = false := by simp; omega
    have b7 : (a == 7) = false := by simp; omega
    clear a1 a2 a3 a4 a6 hs hr
    go_enter Tryz.func69, Tryz.ntmps69
    go_wp2
    go_ret
    exact ⟨rfl, hB _⟩
theorem opOf_any (i : I5) (w : World) (hr : REnv w) :
    Calls Tryz.prog 117 #[insW i] w fun e w' => e = .returned (.string ⟨(opN i.2.1).toArray⟩) ∧ Below w.heap.size w w' := by
  obtain ⟨a, g, t, n, s⟩ := i
  show Calls Tryz.prog _ #[Value.agg #[.int .i64 a, .int .i64 g, .int .i64 t, .int .i64 n, .string s]] w _
  have hB := fun o => alB w o
  go_enter Tryz.func117, Tryz.ntmps117
  go_wp2_with fail
  refine (codeOp_any g _ (hr.on (hB _))).mono ?_
  rintro e w1 ⟨rfl, b1⟩
  go_wp2
  go_ret
  exact ⟨rfl, (hB _).trans (b1.mono (by simp))⟩
theorem cntN_none {x : List UInt8} (h : kdFind x kdRules = none) : cntN x = 0 := by rw [cntN, h]
theorem cntN_some {x : List UInt8} {r : KRule} (h : kdFind x kdRules = some r) : cntN x = kdCnt r := by rw [cntN, h]
set_option maxHeartbeats 1000000 in
theorem kindCount_any (op : ByteArray) (w : World) (henv : REnv w) (C : Nat) (hC : cntN op.data.toList = C) :
    Calls Tryz.prog 106 #[.string op] w fun e w' => (∃ E, e = .returned (.tuple #[.int .i64 C, errV E]) ∧ (C ≠ 0 → E = 0)) ∧ Below w.heap.size w w' := by
  have HC : Hid (cntN op.data.toList = C) := hC
  have cF := ruleOf_any op w henv _ rfl
  clear hC
  obtain ⟨R, hRR⟩ : ∃ R, kdFind op.data.toList kdRules = R := ⟨_, rfl⟩
  have HF : Hid (kdFind op.data.toList kdRules = R) := hRR
  rw [hRR] at cF
  clear hRR
  go_enter Tryz.func106, Tryz.ntmps106
  go_wp2_with fail
  refine cF.mono ?_
  rintro e w1 ⟨⟨S, a0, a1, a2, ty, ok, rfl, hok⟩, b1⟩
  clear cF
  have b2 : Below w.heap.size w (w1.alloc (.cells #[.string S, .int .i64 a0, .int .i64 a1, .int .i64 a2, .int .i64 ty] 107)) := b1.alloc b1.size _
  cases ok
  · have h := HC.out
    rw [cntN_none (by rw [HF.out]; exact hok.out)] at h
    subst h
    clear HC HF hok
    go_wp2
    go_ret2
    exact ⟨⟨1, rfl, fun h => absurd rfl h⟩, b2⟩
  · have hfd : kdFind op.data.toList kdRules = some (S.data.toList, a0, a1, a2, ty) := by rw [HF.out]; exact hok.out
    have h := HC.out
    rw [cntN_some hfd] at h
    have cN := count_any S a0 a1 a2 ty (w1.alloc (.cells #[.string S, .int .i64 a0, .int .i64 a1, .int .i64 a2, .int .i64 ty] 107)) C h
    have b3 : Below w.heap.size w ((w1.alloc (.cells #[.string S, .int .i64 a0, .int .i64 a1, .int .i64 a2, .int .i64 ty] 107)).alloc (.cells #[.string S, .int .i64 a0, .int .i64 a1, .int .i64 a2, .int .i64 ty] 107)) := b2.alloc b2.size _
    clear HC HF hok h hfd
    go_wp2_with fail
    refine cN.mono ?_
    rintro e w3 ⟨rfl, hq3⟩
    subst hq3
    go_wp2
    go_ret2
    exact ⟨⟨0, rfl, fun _ => rfl⟩, b3⟩
set_option maxHeartbeats 2000000 in
theorem needs_any (i : I5) (w : World) (hr : REnv w) (C : Nat) (hC : needN i = C) :
    Calls Tryz.prog 100 #[insW i] w fun e w' => e = .returned (.int .i64 C) ∧ Below w.heap.size w w' := by
  obtain ⟨a, g, t, n, s⟩ := i
  have hB := fun o => alB w o
  have cO := fun W hW => opOf_any (a, g, t, n, s) W hW
  simp only [insW] at cO
  show Calls Tryz.prog _ #[Value.agg #[.int .i64 a, .int .i64 g, .int .i64 t, .int .i64 n, .string s]] w _
  rw [needN] at hC
  simp only at hC
  by_cases a3 : a = 3
  · subst a3
    rw [if_pos rfl] at hC
    go_enter Tryz.func100, Tryz.ntmps100
    go_wp2_with fail
    refine (cO _ (hr.on (hB _))).mono ?_
    rintro e w1 ⟨rfl, b1⟩
    have b2 := (hB _).trans (b1.mono (by simp))
    clear cO
    have cK := kindCount_any ⟨(opN g).toArray⟩ w1 (hr.on b2) C hC
    go_wp2_with fail
    refine cK.mono ?_
    rintro e w2 ⟨⟨E, rfl, -⟩, b3⟩
    go_wp2
    go_ret
    exact ⟨rfl, b2.trans (b3.mono b2.size)⟩
  rw [if_neg a3] at hC
  have b3 : (a == 3) = false := by simpa using a3
  clear cO
  by_cases a5 : a = 5 ∨ a = 6 ∨ a = 7
  · rw [if_pos a5] at hC
    subst hC
    clear a3
    rcases a5 with rfl | rfl | rfl
    all_goals
      clear b3
      go_enter Tryz.func100, Tryz.ntmps100
      go_wp2
      go_ret
      exact ⟨rfl, hB _⟩
  · rw [if_neg a5] at hC
    subst hC
    have b5 : (a == 5) = false := by simp; omega
    have b6 : (a == 6) = false := by simp; omega
    have b7 : (a == 7) = false := by simp; omega
    clear a3 a5
    go_enter Tryz.func100, Tryz.ntmps100
    go_wp2
    go_ret
    exact ⟨rfl, hB _⟩
end Go.Proofs.YtplnjbdngedafaaGreatDoor
namespace Go.Proofs.YtplnjbdngedafaaGreatDoor
open Go.RowKit
set_option linter.unusedVariables false

theorem growI_zero (w : World) :
    Calls Tryz.prog 63 #[.slice none 0 0, .int .i64 0] w fun e w' => e = .returned (.slice none 0 0) ∧ w' = w := by
  go_enter Tryz.func63, Tryz.ntmps63
  go_wp2
  go_ret
  exact ⟨rfl, rfl⟩
set_option maxHeartbeats 2000000 in
theorem growI_some (n : Nat) (w : World) (h0 : 0 < n) (hn : n ≤ 1048576) :
    Calls Tryz.prog 63 #[.slice none 0 0, .int .i64 n] w fun e w' => (∃ v, e = .returned v ∧ Aside (w'.ownsRow w.heap.size 53 5 v 0 [])) ∧ Below w.heap.size w w' := by
  obtain ⟨i0, hi, hz0, hz1, hzz⟩ := info_parts info_ins
  have hold : (Builtin.firstCells i0.size 0 (.slice none 0 0)).run Tryz.prog w.drew = .ok #[] w.drew := run_firstCells_none w.drew i0.size 0 0 0
  have hrz := fun ty => Lib.run_append_grow_zeros w 31 3 ty 53 i0 (.agg #[.int .i64 0, .int .i64 0, .int .i64 0, .int .i64 0, .string ⟨#[]⟩]) .i64 .i64 Tryz.underlying31 Tryz.underlying3 hi hz0 none 0 0 [] hold n (by omega) (by omega) (by omega) (by omega) (by rw [hzz]; omega) (by rw [Nat.zero_add]; exact growslice_fits h0 (by rw [hzz]; omega))
  rw [Nat.zero_add] at hrz
  have hG0 := grownCap_ge w n 0 53
  have hGm := grownCap_le_maxLen w n 0 53 (by unfold maxLen; omega)
  generalize grownCap w n 0 53 = G at hrz hG0 hGm
  have hG2 := hGm
  unfold maxLen at hG2
  have hcs : (Value.agg #[.int .i64 0, .int .i64 0, .int .i64 0, .int .i64 0, .string ⟨#[]⟩]).cells.size = 5 := by decide
  have hOw := World.ownsRow_made (base := w.heap.size) (e := 53) (size := 5) w.drew (#[] ++ Builtin.zeroCells (Value.agg #[.int .i64 0, .int .i64 0, .int .i64 0, .int .i64 0, .string ⟨#[]⟩]).cells n ++ Builtin.zeroCells (Value.agg #[.int .i64 0, .int .i64 0, .int .i64 0, .int .i64 0, .string ⟨#[]⟩]).cells (G - n)) G (Nat.le_refl _) hGm (by simp [size_zeroCells, hcs]; omega)
  have hBe : Below w.heap.size w (w.drew.alloc (.cells (#[] ++ Builtin.zeroCells (Value.agg #[.int .i64 0, .int .i64 0, .int .i64 0, .int .i64 0, .string ⟨#[]⟩]).cells n ++ Builtin.zeroCells (Value.agg #[.int .i64 0, .int .i64 0, .int .i64 0, .int .i64 0, .string ⟨#[]⟩]).cells (G - n)) 53)) := ((Below.refl _ w).drew).alloc (Nat.le_refl _) _
  generalize #[] ++ Builtin.zeroCells (Value.agg #[.int .i64 0, .int .i64 0, .int .i64 0, .int .i64 0, .string ⟨#[]⟩]).cells n ++ Builtin.zeroCells (Value.agg #[.int .i64 0, .int .i64 0, .int .i64 0, .int .i64 0, .string ⟨#[]⟩]).cells (G - n) = CC at hrz hOw hBe
  have z1 : ¬ ((n : Int) < 0) := by omega
  have z2 : (0 : Int) < (n : Int) := by omega
  have HO : Aside ((w.drew.alloc (.cells CC 53)).ownsRow w.heap.size 53 5 (.slice (some ⟨w.heap.size, 0, none⟩) 0 G) 0 []) := hOw
  clear hold hi hz0 hz1 hzz hOw hcs
  go_enter Tryz.func63, Tryz.ntmps63
  go_wp2_with (at_builtin; refine Lib.wpList_append_run _ rfl _ _ _ _ rfl _ _ rfl rfl _ _ (hrz _) ?_)
  go_ret
  exact ⟨⟨_, rfl, HO⟩, hBe⟩
/-- Instructions, of which there is one at least, one behind the other. -/
def InsV (w : World) (v : Value) (is : List I5) : Prop := ∃ b off c, v = .slice (some ⟨b, off, none⟩) is.length c ∧ is.length ≠ 0 ∧ (∃ cs fz, w.heap[b]? = some (Obj.cells cs 53 fz)) ∧ ∀ j (h : j < is.length), w.cell? ⟨b, off + j * 5, none⟩ = some (.int .i64 is[j].1) ∧ w.cell? ⟨b, off + j * 5 + 1, none⟩ = some (.int .i64 is[j].2.1) ∧ w.cell? ⟨b, off + j * 5 + 2, none⟩ = some (.int .i64 is[j].2.2.1) ∧ w.cell? ⟨b, off + j * 5 + 3, none⟩ = some (.int .i64 is[j].2.2.2.1) ∧ w.cell? ⟨b, off + j * 5 + 4, none⟩ = some (.string is[j].2.2.2.2)
theorem InsV.keep {w w' : World} {v : Value} {is : List I5} (h : InsV w v is) (hk : ∀ (b : Nat) (cs : Array Value) (fz : Nat × Nat), w.heap[b]? = some (Obj.cells cs 53 fz) → w'.heap[b]? = w.heap[b]?) : InsV w' v is := by
  obtain ⟨b, off, c, e, h0, ⟨cs, fz, hl⟩, h⟩ := h
  have hb := hk b cs fz hl
  have he : ∀ o, w'.cell? ⟨b, o, none⟩ = w.cell? ⟨b, o, none⟩ := fun o => World.cell?_of_block (w := w) (a := ⟨b, o, none⟩) hb
  refine ⟨b, off, c, e, h0, ⟨cs, fz, by rw [hb]; exact hl⟩, fun j hj => ?_⟩
  obtain ⟨h1, h2, h3, h4, h5⟩ := h j hj
  exact ⟨by rw [he]; exact h1, by rw [he]; exact h2, by rw [he]; exact h3, by rw [he]; exact h4, by rw [he]; exact h5⟩
theorem InsV.on {w w' : World} {v : Value} {is : List I5} (h : InsV w v is) (hb : Below w.heap.size w w') : InsV w' v is := h.keep fun b cs fz hl => hb.block b (Array.getElem?_eq_some_iff.1 hl).1
/-- What is appended to another list leaves instructions as they are. -/
theorem InsV.grown {w w' : World} {v u : Value} {is : List I5} {B : Nat} {e : TypeId} {size n : Nat} {xs : List Value} (h : InsV w v is) (ho : w.ownsRow B e size u n xs) (hne : 53 ≠ e) (hg : w.grownBy w' u.ownBlock) : InsV w' v is := h.keep fun b cs fz hl => by
  refine hg.block b (Array.getElem?_eq_some_iff.1 hl).1 fun h => ?_
  rcases ho.2 with ⟨rfl, _⟩ | ⟨g, cap, cur, rfl, _, hgg, _⟩
  · simp [Value.ownBlock] at h
  · have : b = g := by simpa [Value.ownBlock] using h
    subst this
    rw [hl] at hgg
    injection hgg with hgg
    injection hgg with _ h2 _
    exact hne h2
theorem InsV.at {w : World} {v : Value} {is : List I5} (h : InsV w v is) : ∃ p c, v = .slice p is.length c ∧ InsAt w p is := by
  obtain ⟨b, off, c, e, h0, ⟨cs, fz, hl⟩, h⟩ := h
  exact ⟨_, c, e, .inr ⟨b, off, rfl, (Array.getElem?_eq_some_iff.1 hl).1, h⟩⟩
theorem one5 (is : List I5) : ∀ u ∈ insC is, u.oneCell' = true := by
  induction is with
  | nil => intro u hu; simp [insC] at hu
  | cons i is ih =>
    intro u hu
    rw [insC] at hu
    rcases List.mem_append.1 hu with h | h
    · simp [c5] at h
      rcases h with rfl | rfl | rfl | rfl | rfl <;> rfl
    · exact ih u h
/-- append of instructions, which may lie nowhere, to one's own. -/
theorem wpList_append_ins {w : World} {ops : Array Oper} {rest : List Oper} {o : Oper} {a : Act} {Q : Exit → Act → World → Prop} (hgd : o.guard = none) (s x : Operand)
    (ho : o.op = .call { callee := .builtin .append, args := #[s, x], argTypes := #[31, 31] })
    (base : Nat) (v : Value) (n : Nat) (xs : List I5) (hs : a.eval s = v) (hown : w.ownsRow base 53 5 v n (insC xs))
    (u : Value) (ts : List I5) (hx : a.eval x = u) (hst : InsV w u ts) (hsm : n + ts.length ≤ 1048576) (hbase : base ≤ w.heap.size)
    (h : ∀ v' w', w'.ownsRow base 53 5 v' (n + ts.length) (insC (xs ++ ts)) → Below base w w' → w.grownBy w' v.ownBlock → wpList Tryz.prog ops Q rest (a.put o.dst v') w') : wpList Tryz.prog ops Q (o :: rest) a w := by
  obtain ⟨i0, hi, hz0, hz1, hzz⟩ := info_parts info_ins
  obtain ⟨g, off, c, rfl, h0, hg, hc⟩ := hst
  have hcs : (Value.agg #[.int .i64 0, .int .i64 0, .int .i64 0, .int .i64 0, .string ⟨#[]⟩]).cells.size = 5 := by decide
  refine wpList_append_own w hgd s x 31 ho base 53 i0 _ 5 48 Tryz.underlying31 hi hz0 hz1 hzz hcs (by decide) v n (insC xs) hs hown ⟨g, off, none⟩ ts.length c (insC ts) hx (insC_len ts) (ins_news hc) (one5 ts) (by unfold maxLen; omega) (by omega) hbase (fun v' w' o1 o2 _ => ?_)
  refine h v' w' ?_ ((Below.refl _ w).grown o2 hbase (fun j hj => (hown.lt j hj).1)) o2
  rw [insC_append]; exact o1
/-- Lists of instructions, as a slice of slices has them. -/
def PartsAt (w : World) (sb so : Nat) (ps : List (List I5)) : Prop := sb < w.heap.size ∧ ∀ j (h : j < ps.length), ∃ v, w.cell? ⟨sb, so + j, none⟩ = some v ∧ InsV w v ps[j]
theorem PartsAt.on {w w' : World} {sb so : Nat} {ps : List (List I5)} (h : PartsAt w sb so ps) (hb : Below w.heap.size w w') : PartsAt w' sb so ps :=
  ⟨by have := hb.size; have := h.1; omega, fun j hj => by
    obtain ⟨v, h1, h2⟩ := h.2 j hj
    exact ⟨v, by rw [hb.cell (p := ⟨sb, so + j, none⟩) h.1]; exact h1, h2.on hb⟩⟩
def lenT (ps : List (List I5)) (k : Nat) : Nat := (ps.take k).flatten.length
theorem lenT_succ {ps : List (List I5)} {k : Nat} (h : k < ps.length) : lenT ps (k + 1) = lenT ps k + ps[k].length := by
  unfold lenT
  rw [List.take_succ_eq_append_getElem h, List.flatten_append, List.length_append]
  simp
theorem lenT_le (ps : List (List I5)) (k : Nat) : lenT ps k ≤ ps.flatten.length := by
  unfold lenT
  conv => rhs; rw [← List.take_append_drop k ps, List.flatten_append, List.length_append]
  omega
set_option maxHeartbeats 4000000 in
set_option maxRecDepth 20000 in
theorem concatI_any (sb so sc n : Nat) (ps : List (List I5)) (w : World) (hn : ps.length = n) (h : PartsAt w sb so ps) (hl : ps.flatten.length ≤ 1048576) (h0 : ps.flatten.length ≠ 0) (hn2 : n ≤ 1048576) :
    Calls Tryz.prog 36 #[.slice (some ⟨sb, so, none⟩) n sc] w fun e w' => (∃ v, e = .returned v ∧ Aside (w'.ownsRow w.heap.size 53 5 v ps.flatten.length (insC ps.flatten))) ∧ Below w.heap.size w w' := by
  have HP : Aside (PartsAt w sb so ps) := h
  have HN : Hid (ps.length = n) := hn
  have HL : Hid (ps.flatten.length ≤ 1048576) := hl
  have hsb := h.1
  obtain ⟨FL, hFL⟩ : ∃ FL, ps.flatten.length = FL := ⟨_, rfl⟩
  have cG := growI_some FL w (by omega) (by omega)
  have HFL : Hid (ps.flatten.length = FL) := hFL
  rw [hFL]
  clear h hn hl h0 hFL
  have hnz : (n : Int) ≤ 1048576 := by omega
  go_enter Tryz.func36, Tryz.ntmps36
  go_wp2
  go_loopg [3, 5, 11] n (fun gg s3 _ s11 wr => ∃ kk : Nat, kk ≤ n ∧ n - kk ≤ gg ∧ s11 = .int .i64 (kk : Int) ∧ s3 = .int .i64 (lenT ps kk : Int) ∧ wr = w)
  case atStart => exact ⟨0, Nat.zero_le _, by omega, rfl, rfl, rfl⟩
  case round =>
    obtain ⟨kk, hkk, hgk, rfl, rfl, hwq⟩ := hrel
    obtain rfl : w = _ := hwq.symm
    by_cases hlt : kk < n
    · have hltz : (kk : Int) < (n : Int) := by omega
      have h0z : (0 : Int) ≤ (kk : Int) := by omega
      have hkp : kk < ps.length := by rw [HN.out]; exact hlt
      obtain ⟨v, hcv, b, off, c, rfl, _, _, _⟩ := HP.out.2 kk hkp
      have hsu := lenT_succ hkp
      have hle := lenT_le ps (kk + 1)
      have hl2 := HL.out
      have HSU : Hid (lenT ps (kk + 1) = lenT ps kk + ps[kk].length) := hsu
      have hz1 : (lenT ps kk : Int) + (ps[kk].length : Int) ≤ 1048576 := by omega
      have hz2 : ¬ (lenT ps kk : Int) + (ps[kk].length : Int) < 0 := by omega
      generalize ps[kk].length = pl at hcv hz1 hz2 HSU
      clear hsu hle hl2
      go_wp2
      go_roundg (n - (kk + 1))
      case measure => omega
      case rel => exact ⟨kk + 1, by omega, by omega, by go_num, by rw [HSU.out]; go_num, rfl⟩
    · have hltz : ¬ (kk : Int) < (n : Int) := by omega
      obtain rfl : kk = n := by omega
      have hll : lenT ps kk = FL := by
        unfold lenT
        rw [List.take_of_length_le (by rw [HN.out]; exact Nat.le_refl _)]
        exact HFL.out
      rw [hll]
      clear hll
      go_wp2_with fail
      refine cG.mono ?_
      rintro e w1 ⟨⟨v, rfl, OW⟩, b1⟩
      have hs1 := b1.size
      clear cG
      go_wp2
      go_loopg [6, 8, 27] kk (fun gg s6 _ s27 wr => ∃ (jj : Nat) (u : Value), jj ≤ kk ∧ kk - jj ≤ gg ∧ s27 = .int .i64 (jj : Int) ∧ s6 = u ∧ Aside (wr.ownsRow w.heap.size 53 5 u (lenT ps jj) (insC (ps.take jj).flatten)) ∧ Aside (Below w.heap.size w wr))
      case atStart => exact ⟨0, v, Nat.zero_le _, by omega, rfl, rfl, (show Aside _ from OW.out), (show Aside _ from b1)⟩
      case round =>
        obtain ⟨jj, u, hjj, hgj, rfl, hu, OJ, BJ⟩ := hrel
        obtain rfl : u = _ := hu.symm
        have hbs := BJ.out.size
        by_cases hlt : jj < kk
        · have hltz2 : (jj : Int) < (kk : Int) := by omega
          have h0z : (0 : Int) ≤ (jj : Int) := by omega
          have hkp : jj < ps.length := by rw [HN.out]; exact hlt
          obtain ⟨pv, hcv, hiv⟩ := (HP.out.on BJ.out).2 jj hkp
          have hsbr : sb < wr.heap.size := by omega
          obtain ⟨b, off, c, rfl, _⟩ := id hiv
          have hsm : lenT ps jj + ps[jj].length ≤ 1048576 := by rw [← lenT_succ hkp]; have := lenT_le ps (jj + 1); have := HL.out; omega
          have HT : Hid ((ps.take jj).flatten ++ ps[jj] = (ps.take (jj + 1)).flatten) := by
            show _ = _
            rw [List.take_succ_eq_append_getElem hkp, List.flatten_append]
            simp
          have HS : Hid (lenT ps (jj + 1) = lenT ps jj + ps[jj].length) := lenT_succ hkp
          have HIV : Aside (InsV wr (.slice (some ⟨b, off, none⟩) ps[jj].length c) ps[jj]) := hiv
          generalize ps[jj] = pj at hcv hsm HT HS HIV
          clear hiv
          go_wp2_with (at_builtin; refine wpList_append_ins rfl _ _ rfl w.heap.size u _ (ps.take jj).flatten rfl OJ.out _ pj rfl HIV.out hsm hbs ?_)
          intro v' w2 ho hb hgr
          have O2 : Aside (w2.ownsRow w.heap.size 53 5 v' (lenT ps (jj + 1)) (insC (ps.take (jj + 1)).flatten)) := by
            show World.ownsRow _ _ _ _ _ _ _
            rw [HS.out, ← HT.out]; exact ho
          have B2 : Aside (Below w.heap.size w w2) := BJ.out.trans hb
          clear ho hb hgr OJ BJ HIV
          go_wp2
          go_roundg (kk - (jj + 1))
          case measure => omega
          case rel => exact ⟨jj + 1, v', by omega, by omega, by go_num, rfl, O2, B2⟩
        · have hltz2 : ¬ (jj : Int) < (kk : Int) := by omega
          obtain rfl : jj = kk := by omega
          have O2 : Aside (wr.ownsRow w.heap.size 53 5 u FL (insC ps.flatten)) := by
            show World.ownsRow _ _ _ _ _ _ _
            have := OJ.out
            unfold lenT at this
            rw [List.take_of_length_le (by rw [HN.out]; exact Nat.le_refl _), HFL.out] at this
            exact this
          have B2 := BJ.out
          clear OJ BJ
          go_wp2
          go_ret
          exact ⟨⟨u, rfl, O2⟩, B2⟩
end Go.Proofs.YtplnjbdngedafaaGreatDoor
namespace Go.Proofs.YtplnjbdngedafaaGreatDoor
open Go.RowKit
set_option linter.unusedVariables false

/-- All that is known are types. -/
def AllTy (ks : List Pl) : Prop := ∀ s, some s ∈ ks → s.all isTy = true
theorem isTy_iff {t : Int} : isTy t = true ↔ t = 1 ∨ t = 2 ∨ t = 3 := by
  simp [isTy]
theorem chk_ty {t n : Int} {l : List UInt8} (h : chk t n l = 0) : isTy t = true := by
  rw [isTy_iff]
  apply Classical.byContradiction
  intro hn
  rw [chk, if_pos (.inl hn)] at h
  exact absurd h (by decide)
theorem opN_found {n : Int} (h : opE n = 0) : ∃ r, kdFind (opN n) kdRules = some r ∧ (r.2.2.2.2 = 1 ∨ r.2.2.2.2 = 2) ∧ 1 ≤ kdCnt r := by
  have hz : 2 ≤ n ∧ n < 16 := by
    apply Classical.byContradiction
    intro hn
    rw [opE, if_neg hn] at h
    exact absurd h (by decide)
  obtain ⟨k, rfl⟩ : ∃ k : Nat, n = k := ⟨n.toNat, by omega⟩
  have : k = 2 ∨ k = 3 ∨ k = 4 ∨ k = 5 ∨ k = 6 ∨ k = 7 ∨ k = 8 ∨ k = 9 ∨ k = 10 ∨ k = 11 ∨ k = 12 ∨ k = 13 ∨ k = 14 ∨ k = 15 := by omega
  rcases this with rfl | rfl | rfl | rfl | rfl | rfl | rfl | rfl | rfl | rfl | rfl | rfl | rfl | rfl <;> exact ⟨_, rfl, by decide, by decide⟩
theorem cntN_op {n : Int} (h : opE n = 0) : 1 ≤ cntN (opN n) := by
  obtain ⟨r, h1, -, h2⟩ := opN_found h
  rw [cntN, h1]; exact h2
/-- Of types, as many as it has, an operation has a type, or they are of others. -/
theorem rule_eight {n : Int} {ts : List Int} (h : opE n = 0) (h1 : ts.all isTy = true) (h2 : ts.length = cntN (opN n)) : ((ruleP (opN n) ts).2 = 0 ∧ isTy (ruleP (opN n) ts).1 = true) ∨ (ruleP (opN n) ts).2 = 8 := by
  obtain ⟨r, hr, ht, hc⟩ := opN_found h
  rw [cntN, hr] at h2
  rw [ruleP, hr]
  simp only
  rw [if_neg (by simp [h1]), if_neg (by simpa using h2)]
  split
  · refine .inl ⟨rfl, ?_⟩
    rw [kdMeant, if_neg (by omega), isTy_iff]
    omega
  · exact .inr rfl
theorem all_drop {ts : List Int} (h : ts.all isTy = true) (k : Nat) : (ts.drop k).all isTy = true := by
  rw [List.all_eq_true] at h ⊢
  exact fun x hx => h x (List.mem_of_mem_drop hx)
theorem all_take {ts : List Int} (h : ts.all isTy = true) (k : Nat) : (ts.take k).all isTy = true := by
  rw [List.all_eq_true] at h ⊢
  exact fun x hx => h x (List.mem_of_mem_take hx)
theorem lay_ty {i : I5} {nc bh : Int} {off : List Int} {zs : List (ByteArray × Int)} (hz : ∀ z ∈ zs, isTy z.2 = true) (hn : nc = zs.length) (h : argE i nc bh = 0) (ho : off.all isTy = true) (hl : off.length = needN i) (he : (layP i off zs).2 = 0) : (layP i off zs).1.all isTy = true := by
  unfold layP at he ⊢
  unfold argE at h
  split
  · rename_i h1
    rw [if_pos h1] at h
    simp [chk_ty h]
  rename_i h1
  rw [if_neg h1] at h he
  split
  · rename_i h2
    rw [if_pos h2] at h
    split at h
    · rename_i h3
      have hlt : i.2.1.toNat < zs.length := by omega
      have := hz _ (List.getElem_mem hlt)
      simp [List.getElem?_eq_getElem hlt, this]
    · exact absurd h (by decide)
  rename_i h2
  rw [if_neg h2] at h he
  split
  · rename_i h3
    rw [if_pos h3] at h he
    rcases rule_eight h ho (by rw [hl, needN, if_pos h3]) with ⟨_, h4⟩ | h4
    · simp [h4]
    · simp only at he; rw [h4] at he; exact absurd he (by decide)
  rename_i h3
  rw [if_neg h3] at he
  split
  · split <;> rfl
  rename_i h5
  rw [if_neg h5] at he
  split
  · rename_i h6
    rw [needN, if_neg h3, if_pos (.inr (.inl h6))] at hl
    match off, hl with
    | [t], _ =>
      simp only [List.all_cons, List.all_nil, Bool.and_true] at ho
      simp [ho]
  · rfl
theorem aft_ty {i : I5} {nc bh : Int} {st : List Int} {zs : List (ByteArray × Int)} (hz : ∀ z ∈ zs, isTy z.2 = true) (hn : nc = zs.length) (h : argE i nc bh = 0) (ho : st.all isTy = true) : (aftP st i zs).1.all isTy = true := by
  unfold aftP
  split
  · rfl
  rename_i h1
  split
  · rfl
  rename_i h2
  split
  · rfl
  · rw [List.all_append, all_take ho, lay_ty hz hn h (all_drop ho _) (by rw [List.length_drop]; omega) (Classical.not_not.1 h2)]; rfl
theorem goP_ty {st : List Int} (hs : st.all isTy = true) : ∀ {ts : List Nat} {ks l : List Pl}, AllTy ks → goP st ts ks = some l → AllTy l
  | [], ks, l, hk, h => by rw [goP] at h; rw [← Option.some.inj h]; exact hk
  | t :: ts, ks, l, hk, h => by
    rw [goP] at h
    split at h
    · exact absurd h (by simp)
    · refine goP_ty hs (fun s hm => ?_) h
      rcases List.mem_or_eq_of_mem_set hm with h1 | h1
      · exact hk s h1
      · rw [Option.some.inj h1]; exact hs
theorem at_ty {ks : List Pl} (h : AllTy ks) (k : Nat) : ((ks[k]?.getD none).getD []).all isTy = true := by
  cases hk : ks[k]? with
  | none => rfl
  | some p =>
    cases p with
    | none => rfl
    | some s => exact h s (List.mem_of_getElem? hk)
theorem stepP_ty {zs : List (ByteArray × Int)} {ks : List Pl} {k : Nat} {i : I5} (hz : ∀ z ∈ zs, isTy z.2 = true) (h : AllTy ks) : AllTy (stepP zs ks k i).1 := by
  unfold stepP
  split
  · exact h
  split
  · exact h
  rename_i h2
  split
  · exact h
  split
  · exact h
  · rename_i h4
    exact goP_ty (aft_ty hz rfl (Classical.not_not.1 h2) (at_ty h k)) h h4
/-- The two places of an Else, either first. -/
theorem goP_two (st : List Int) (a b : Nat) (ks : List Pl) : goP st [a, b] ks = goP st [b, a] ks := by
  by_cases hab : a = b
  · rw [hab]
  · simp only [goP, List.getElem?_set_ne hab, List.getElem?_set_ne (Ne.symm hab)]
    split
    · split
      · rfl
      · rfl
    · split
      · rfl
      · rw [List.set_comm _ _ hab]
/-- The most that is known to lie anywhere. -/
def mostF (m : Int) (ks : List Pl) : Int := ks.foldl (fun m p => max m ((p.getD []).length : Int)) m
theorem mostF_max : ∀ (ks : List Pl) (a b : Int), mostF (max a b) ks = max a (mostF b ks)
  | [], a, b => rfl
  | p :: ks, a, b => by
    rw [mostF, mostF, List.foldl_cons, List.foldl_cons, ← mostF, ← mostF, ← mostF_max ks]
    congr 1
    omega
theorem mostF_set {st : List Int} : ∀ {ks : List Pl} {t : Nat} (m : Int), t < ks.length → ¬ ((ks[t]?.getD none).isSome = true ∧ (ks[t]?.getD none).getD [] ≠ st) → 0 ≤ m → mostF m (ks.set t (some st)) = max (mostF m ks) st.length
  | [], t, m, h, _, _ => absurd h (by simp)
  | p :: ks, 0, m, _, h, h0 => by
    rw [List.set_cons_zero, mostF, mostF, List.foldl_cons, List.foldl_cons, ← mostF, ← mostF]
    simp only [List.getElem?_cons_zero, Option.getD_some] at h ⊢
    cases p with
    | none =>
      simp only [Option.getD_none, List.length_nil]
      rw [show max m ((0 : Nat) : Int) = m by omega, show max m (st.length : Int) = max (st.length : Int) m by omega, mostF_max]
      omega
    | some s =>
      have hs : s = st := Classical.byContradiction fun hn => h ⟨rfl, hn⟩
      subst hs
      simp only [Option.getD_some]
      rw [show max m (s.length : Int) = max (s.length : Int) m by omega, mostF_max]
      omega
  | p :: ks, t + 1, m, hl, h, h0 => by
    rw [List.set_cons_succ, mostF, mostF, List.foldl_cons, List.foldl_cons, ← mostF, ← mostF]
    exact mostF_set _ (by simpa using hl) (by simpa using h) (by omega)
theorem mostF_go {st : List Int} : ∀ {ts : List Nat} {ks l : List Pl}, ts ≠ [] → (∀ t ∈ ts, t < ks.length) → goP st ts ks = some l → mostF 0 l = max (mostF 0 ks) st.length
  | [], ks, l, h, _, _ => absurd rfl h
  | [t], ks, l, _, ht, h => by
    rw [goP] at h
    split at h
    · exact absurd h (by simp)
    · rename_i hn
      rw [goP] at h
      rw [← Option.some.inj h, mostF_set 0 (ht t (List.mem_cons_self ..)) hn (by decide)]
  | t :: u :: ts, ks, l, _, ht, h => by
    rw [goP] at h
    split at h
    · exact absurd h (by simp)
    · rename_i hn
      rw [mostF_go (by simp) (fun x hx => by rw [List.length_set]; exact ht x (List.mem_cons_of_mem _ hx)) h, mostF_set 0 (ht t (List.mem_cons_self ..)) hn (by decide)]
      omega
theorem lead_ne (i : I5) (k : Nat) : leadP i k ≠ [] := by
  unfold leadP
  split
  · simp
  split
  · simp
  · simp
theorem mostF_start : ∀ n : Nat, mostF 0 (some [] :: List.replicate n none) = 0
  | 0 => rfl
  | n + 1 => by
    have := mostF_start n
    rw [mostF, List.foldl_cons] at this ⊢
    rw [List.replicate_succ, List.foldl_cons]
    exact this
theorem ty_start (n : Nat) : AllTy (some [] :: List.replicate n none) := by
  intro s hs
  simp only [List.mem_cons, List.mem_replicate, Option.some.injEq, reduceCtorEq, and_false, or_false] at hs
  rw [hs]; rfl
end Go.Proofs.YtplnjbdngedafaaGreatDoor
