/-
  What is known of the places of instructions, as it lies in memory (package verify).
-/
import Derived.Test.YtnpinbpjfngknaaDoorVfP
import Derived.Test.YtnpinbpjfngknaaDoorButM
import Derived.Test.YtnpinbpjfngknaaDoorKdRuleC
namespace Go.Proofs.YtnpinbpjfngknaaDoor
open Go.RowKit
set_option linter.unusedVariables false

/-- Types one behind the other, in a block behind block B; none of them, and it may lie nowhere. -/
def StkAt (w : World) (B : Nat) (v : Value) (ts : List Int) : Prop := ∃ p c, v = .slice p ts.length c ∧ (ts.length ≤ c ∧ ts.length ≤ 64) ∧ (p = none → c = 0) ∧ ∀ a, p = some a → ∃ g off, a = ⟨g, off, none⟩ ∧ B < g ∧ g < w.heap.size ∧ ∀ j (h : j < ts.length), w.cell? ⟨g, off + j, none⟩ = some (.int .i64 ts[j])
theorem StkAt.but {w w' : World} {B : Nat} {v : Value} {ts : List Int} (h : StkAt w B v ts) (hb : But B w w') : StkAt w' B v ts := by
  obtain ⟨p, c, e, h1, h2, h3⟩ := h
  refine ⟨p, c, e, h1, h2, fun a ha => ?_⟩
  obtain ⟨g, off, e2, h4, h5, h6⟩ := h3 a ha
  exact ⟨g, off, e2, h4, by have := hb.size; omega, fun j hj => by rw [hb.cell _ h5 (by omega)]; exact h6 j hj⟩
theorem StkAt.on {w w' : World} {B : Nat} {v : Value} {ts : List Int} (h : StkAt w B v ts) (hb : Below w.heap.size w w') : StkAt w' B v ts := by
  obtain ⟨p, c, e, h1, h2, h3⟩ := h
  refine ⟨p, c, e, h1, h2, fun a ha => ?_⟩
  obtain ⟨g, off, e2, h4, h5, h6⟩ := h3 a ha
  exact ⟨g, off, e2, h4, by have := hb.size; omega, fun j hj => by rw [hb.cell (p := ⟨g, off + j, none⟩) h5]; exact h6 j hj⟩
theorem StkAt.nil (w : World) (B : Nat) : StkAt w B (.slice none 0 0) [] := ⟨none, 0, rfl, ⟨Nat.le_refl _, Nat.zero_le _⟩, fun _ => rfl, fun a h => nomatch h⟩
theorem StkAt.ints {w : World} {B : Nat} {p : Option Addr} {n c : Nat} {ts : List Int} (h : StkAt w B (.slice p n c) ts) : IntsAt w p ts := by
  obtain ⟨p', c', e, h1, h2, h3⟩ := h
  injection e with e1 e2 e3
  subst e1 e3
  cases p with
  | none => exact .inl (by have := h2 rfl; omega)
  | some a =>
    obtain ⟨g, off, e2, h4, h5, h6⟩ := h3 a rfl
    subst e2
    exact .inr ⟨g, off, rfl, h5, h6⟩
/-- What is known of each place lies in block b, two cells each; the stacks behind it. -/
def KnAt (w : World) (b : Nat) (ks : List Pl) : Prop := b < w.heap.size ∧ (∀ o, w.frozen? ⟨b, o, none⟩ = false) ∧ ∀ j (h : j < ks.length), w.cell? ⟨b, j * 2, none⟩ = some (.bool ks[j].isSome) ∧ ∃ v, w.cell? ⟨b, j * 2 + 1, none⟩ = some v ∧ StkAt w b v (ks[j].getD [])
theorem KnAt.on {w w' : World} {b : Nat} {ks : List Pl} (h : KnAt w b ks) (hb : Below w.heap.size w w') : KnAt w' b ks := by
  obtain ⟨h1, h2, h3⟩ := h
  refine ⟨by have := hb.size; omega, fun o => by rw [hb.frozen (p := ⟨b, o, none⟩) h1]; exact h2 o, fun j hj => ?_⟩
  obtain ⟨c0, v, c1, hs⟩ := h3 j hj
  exact ⟨by rw [hb.cell (p := ⟨b, j * 2, none⟩) h1]; exact c0, v, by rw [hb.cell (p := ⟨b, j * 2 + 1, none⟩) h1]; exact c1, hs.on hb⟩
theorem but_setCell (w : World) (b o : Nat) (x : Value) : But b w (w.setCell ⟨b, o, none⟩ x) := (But.refl b w).set o x
theorem cell_ne {w : World} {b o o' : Nat} {v : Value} (h : o ≠ o') : (w.setCell ⟨b, o, none⟩ v).cell? ⟨b, o', none⟩ = w.cell? ⟨b, o', none⟩ := by
  rw [World.cell?_setCell_other]
  intro e
  injection e with _ e
  exact h e
theorem cell_eq {w : World} {b o : Nat} {v u : Value} (h : w.cell? ⟨b, o, none⟩ = some u) : (w.setCell ⟨b, o, none⟩ v).cell? ⟨b, o, none⟩ = some v := by
  simp [World.cell?_setCell_same, h]
theorem KnAt.put {w : World} {b : Nat} {ks : List Pl} (h : KnAt w b ks) {t : Nat} (ht : t < ks.length) {v : Value} {st : List Int} (hv : StkAt w b v st) : KnAt ((w.setCell ⟨b, t * 2, none⟩ (.bool true)).setCell ⟨b, t * 2 + 1, none⟩ v) b (ks.set t (some st)) := by
  obtain ⟨h1, h2, h3⟩ := h
  have hB : But b w ((w.setCell ⟨b, t * 2, none⟩ (.bool true)).setCell ⟨b, t * 2 + 1, none⟩ v) := ((But.refl b w).set _ _).set _ _
  refine ⟨by have := hB.size; omega, fun o => by simpa using h2 o, fun j hj => ?_⟩
  rw [List.length_set] at hj
  obtain ⟨c0, u, c1, hs⟩ := h3 j hj
  by_cases hjt : t = j
  · subst hjt
    refine ⟨?_, v, ?_, ?_⟩
    · rw [cell_ne (by omega), cell_eq c0]; simp
    · exact cell_eq (u := u) (by rw [cell_ne (by omega)]; exact c1)
    · simpa using hv.but hB
  · refine ⟨?_, u, ?_, ?_⟩
    · rw [cell_ne (by omega), cell_ne (by omega), c0]; simp [List.getElem_set_ne hjt]
    · rw [cell_ne (by omega), cell_ne (by omega), c1]
    · rw [List.getElem_set_ne hjt]; exact hs.but hB
end Go.Proofs.YtnpinbpjfngknaaDoor
