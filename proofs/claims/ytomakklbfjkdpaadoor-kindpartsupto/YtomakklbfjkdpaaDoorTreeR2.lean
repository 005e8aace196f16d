/-
  The program's reader of words (package tree): the words ahead, and take.
-/
import Derived.Test.YtomakklbfjkdpaaDoorTreeR1
import Derived.Test.YtomakklbfjkdpaaDoorTreeIn
namespace Go.Proofs.YtomakklbfjkdpaaDoor
open Go.RowKit Go.BigFrame
set_option linter.unusedVariables false

/-- The reader lies in block r: the words that are ahead. -/
structure RdAt (w : World) (r : Nat) (ts : List Tok) : Prop where
  cell : ∃ p c, w.cell? ⟨r, 0, none⟩ = some (.slice p ts.length c) ∧ ts.length ≤ c ∧ (ts.length = 0 ∨ ∃ b off, p = some ⟨b, off, none⟩ ∧ b < r ∧ ToksIn w b off ts)
  fz : w.frozen? ⟨r, 0, none⟩ = false
  lt : r < w.heap.size
theorem RdAt.on {w w' : World} {r : Nat} {ts : List Tok} (h : RdAt w r ts) (hb : Below w.heap.size w w') : RdAt w' r ts := by
  obtain ⟨⟨p, c, h1, h2, h3⟩, hf, hl⟩ := h
  refine ⟨⟨p, c, by rw [hb.cell (p := ⟨r, 0, none⟩) hl]; exact h1, h2, ?_⟩, by rw [hb.frozen (p := ⟨r, 0, none⟩) hl]; exact hf, by have := hb.size; omega⟩
  rcases h3 with h0 | ⟨b, off, e1, e2, h4⟩
  · exact .inl h0
  · exact .inr ⟨b, off, e1, e2, h4.on hb⟩
theorem RdAt.onB {w w' : World} {r : Nat} {ts : List Tok} (h : RdAt w r ts) (hb : Below (r + 1) w w') (hs : w.heap.size ≤ w'.heap.size) : RdAt w' r ts := by
  obtain ⟨⟨p, c, h1, h2, h3⟩, hf, hl⟩ := h
  refine ⟨⟨p, c, by rw [hb.cell (p := ⟨r, 0, none⟩) (Nat.lt_succ_self r)]; exact h1, h2, ?_⟩, by rw [hb.frozen (p := ⟨r, 0, none⟩) (Nat.lt_succ_self r)]; exact hf, by omega⟩
  rcases h3 with h0 | ⟨b, off, e1, e2, h4⟩
  · exact .inl h0
  · refine .inr ⟨b, off, e1, e2, by have := h4.1; omega, fun j hj => ?_⟩
    rw [hb.cell (p := ⟨b, off + j * 3, none⟩) (by simp; omega), hb.cell (p := ⟨b, off + j * 3 + 1, none⟩) (by simp; omega), hb.cell (p := ⟨b, off + j * 3 + 2, none⟩) (by simp; omega)]
    exact h4.2 j hj
theorem But.of_below' {r : Nat} {w w' : World} (h : Below w.heap.size w w') (hr : r ≤ w.heap.size) : But r w w' := ⟨h.mono hr, h.size, fun k hk _ => h.block k hk⟩
theorem But.setNew {r : Nat} {w w1 : World} (h : But r w w1) (z o : Nat) (hz : w.heap.size ≤ z) (hr : r ≤ z) (v : Value) : But r w (w1.setCell ⟨z, o, none⟩ v) :=
  ⟨h.below.setCell (p := ⟨z, o, none⟩) hr v, by have := h.size; simpa [World.setCell] using this, fun k hk hkr => by rw [Below.heap_setCell _ _ _ _ (fun e => by simp at e; omega)]; exact h.kept k hk hkr⟩
theorem But.alloc {r : Nat} {w w1 : World} (h : But r w w1) (hr : r ≤ w1.heap.size) (o : Obj) : But r w (w1.alloc o) :=
  ⟨h.below.alloc hr o, by have := h.size; simp; omega, fun k hk hkr => by
    rw [((Below.refl w1.heap.size w1).alloc (Nat.le_refl _) o).block k (by have := h.size; omega)]; exact h.kept k hk hkr⟩
/-- A slice of the words from the next one on. -/
theorem RdAt.step {w W : World} {r : Nat} {t : Tok} {ts : List Tok} {p p' : Option Addr} {c c' : Nat} (h : RdAt w r (t :: ts)) (hp : w.cell? ⟨r, 0, none⟩ = some (.slice p (t :: ts).length c)) (hp' : p' = if c = 1 then p else p.map (·.add (1 * 3))) (hc' : c' = c - 1)
    (hb : But r w W) (hW : W.cell? ⟨r, 0, none⟩ = some (.slice p' ts.length c')) (hf : W.frozen? ⟨r, 0, none⟩ = false) : RdAt W r ts := by
  obtain ⟨⟨q, d, h1, h2, h3⟩, _, hl⟩ := h
  rw [h1] at hp
  obtain ⟨rfl, hd⟩ : q = p ∧ d = c := by
    injection hp with hp
    injection hp with e1 e2 e3
    exact ⟨e1, e3⟩
  subst hd
  simp only [List.length_cons] at h2
  refine ⟨⟨p', c', hW, by omega, ?_⟩, hf, by have := hb.size; omega⟩
  rcases Nat.eq_zero_or_pos ts.length with h0 | h0
  · exact .inl h0
  · right
    rcases h3 with h3 | ⟨b, off, rfl, hbr, h4⟩
    · simp at h3
    · refine ⟨b, off + 3, ?_, hbr, by have := h4.1; have := hb.size; omega, fun j hj => ?_⟩
      · rw [hp', if_neg (by omega)]; rfl
      · have := h4.2 (j + 1) (by simpa using hj)
        simp only [show off + (j + 1) * 3 = off + 3 + j * 3 from by omega, List.getElem_cons_succ] at this
        rw [hb.cell _ h4.1 (by omega), hb.cell _ h4.1 (by omega), hb.cell _ h4.1 (by omega)]
        exact this
def noTok : Value := .agg #[.int .i64 0, .string ⟨#[]⟩, .int .i64 0]
end Go.Proofs.YtomakklbfjkdpaaDoor
