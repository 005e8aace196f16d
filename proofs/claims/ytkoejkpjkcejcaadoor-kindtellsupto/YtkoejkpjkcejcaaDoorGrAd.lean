/-
  OwnS, LexToks, TreeR1, ButM, TreeIn, in one text.
-/
import Derived.Test.YtkoejkpjkcejcaaDoorGrAa
import Derived.OwnWalk
import Derived.Test.YtkoejkpjkcejcaaDoorGrAc
import Derived.WalkKit
import Derived.Below
import Derived.RowKitTokens
import Derived.Lib.OthersKept
import Derived.Deep.DeepCutAuto
import Derived.WalkSmall
import Derived.BigQuiet
import Derived.Deep.RegionWith
import Derived.Test.YtkoejkpjkcejcaaDoorProg
import Derived.Deep.Heap
import Derived.Deep.QuietTactic
namespace Go.Proofs.YtkoejkpjkcejcaaDoor
open Go.RowKit

theorem lown_slice {W : World} {base : Nat} {e : TypeId} {size : Nat} {v : Value} {n : Nat} {xs : List Value} (h : W.ownsRow base e size v n xs) : ∃ p c, v = .slice p n c := by
  rcases h.2 with ⟨rfl, rfl⟩ | ⟨g, cap, cur, rfl, _⟩
  · exact ⟨_, _, rfl⟩
  · exact ⟨_, _, rfl⟩
theorem lown_below {W W' : World} {base : Nat} {e : TypeId} {size : Nat} {v : Value} {n : Nat} {xs : List Value} (h : W.ownsRow base e size v n xs) (hb : Below W.heap.size W W') : W'.ownsRow base e size v n xs := by
  refine ⟨h.1, ?_⟩
  rcases h.2 with hn | ⟨g, cap, cur, rfl, h1, hgg, rest⟩
  · exact .inl hn
  · exact .inr ⟨g, cap, cur, rfl, h1, by rw [hb.block g (Array.getElem?_eq_some_iff.1 hgg).1]; exact hgg, rest⟩
end Go.Proofs.YtkoejkpjkcejcaaDoor
namespace Go.Proofs.YtkoejkpjkcejcaaDoor
open Go.RowKit
set_option linter.unusedVariables false

def tokCells (ts : List Tok) : List Value := ts.flatMap fun t => [.int .i64 t.1, .string t.2.1, .int .i64 (t.2.2 : Int)]
/-- The words of a list lie in memory one behind the other. -/
def ToksIn (w : World) (b off : Nat) (ts : List Tok) : Prop :=
  b < w.heap.size ∧ ∀ j (h : j < ts.length), w.cell? ⟨b, off + j * 3, none⟩ = some (.int .i64 ts[j].1) ∧ w.cell? ⟨b, off + j * 3 + 1, none⟩ = some (.string ts[j].2.1) ∧ w.cell? ⟨b, off + j * 3 + 2, none⟩ = some (.int .i64 (ts[j].2.2 : Int))
theorem ToksIn.on {w w' : World} {b off : Nat} {ts : List Tok} (h : ToksIn w b off ts) (hb : Below w.heap.size w w') : ToksIn w' b off ts :=
  ⟨by have := hb.size; have := h.1; omega, fun j hj => by
    rw [hb.cell (p := ⟨b, off + j * 3, none⟩) h.1, hb.cell (p := ⟨b, off + j * 3 + 1, none⟩) h.1, hb.cell (p := ⟨b, off + j * 3 + 2, none⟩) h.1]; exact h.2 j hj⟩
/-- A list of words as a Go value. -/
def IsToks (w : World) (v : Value) (ts : List Tok) : Prop :=
  ∃ p c, v = .slice p ts.length c ∧ ts.length ≤ maxLen ∧ (ts.length = 0 ∨ ∃ b off, p = some ⟨b, off, none⟩ ∧ ToksIn w b off ts)
theorem IsToks.on {w w' : World} {v : Value} {ts : List Tok} (h : IsToks w v ts) (hb : Below w.heap.size w w') : IsToks w' v ts := by
  obtain ⟨p, c, e, hm, h⟩ := h
  refine ⟨p, c, e, hm, ?_⟩
  rcases h with h | ⟨b, off, e2, h⟩
  · exact .inl h
  · exact .inr ⟨b, off, e2, h.on hb⟩
theorem tokCells_at : ∀ (ts : List Tok) (j : Nat) (h : j < ts.length), (tokCells ts)[j * 3]? = some (.int .i64 ts[j].1) ∧ (tokCells ts)[j * 3 + 1]? = some (.string ts[j].2.1) ∧ (tokCells ts)[j * 3 + 2]? = some (.int .i64 (ts[j].2.2 : Int))
  | [], j, h => absurd h (by simp)
  | t :: ts, 0, _ => by simp [tokCells]
  | t :: ts, j + 1, h => by
    have ih := tokCells_at ts j (by simpa using h)
    have e : tokCells (t :: ts) = .int .i64 t.1 :: .string t.2.1 :: .int .i64 (t.2.2 : Int) :: tokCells ts := rfl
    rw [e, show (j + 1) * 3 = j * 3 + 1 + 1 + 1 by omega]
    simp only [List.getElem?_cons_succ]
    simpa using ih
theorem isToks_nil (w : World) : IsToks w (.slice none 0 0) [] := ⟨none, 0, rfl, Nat.zero_le _, .inl rfl⟩
theorem lown_set {W : World} {b : Nat} {e : TypeId} {size : Nat} {v : Value} {n : Nat} {xs : List Value} (h : W.ownsRow (b + 1) e size v n xs) (o : Nat) (x : Value) : (W.setCell ⟨b, o, none⟩ x).ownsRow (b + 1) e size v n xs := by
  refine ⟨h.1, ?_⟩
  rcases h.2 with hn | ⟨g, cap, cur, rfl, h1, hgg, rest⟩
  · exact .inl hn
  · refine .inr ⟨g, cap, cur, rfl, h1, ?_, rest⟩
    rw [Below.heap_setCell _ _ _ _ (fun e => by simp at e; omega)]
    exact hgg
end Go.Proofs.YtkoejkpjkcejcaaDoor
namespace Go.Proofs.YtkoejkpjkcejcaaDoor
open Go.RowKit Go.BigFrame
set_option linter.unusedVariables false

/-- Texts lie in memory one behind the other. -/
def StrsIn (w : World) (b : Nat) (gs : List (List UInt8)) : Prop := b < w.heap.size ∧ ∀ j (h : j < gs.length), w.cell? ⟨b, j, none⟩ = some (.string ⟨gs[j].toArray⟩)
theorem StrsIn.on {w w' : World} {b : Nat} {gs : List (List UInt8)} (h : StrsIn w b gs) (hb : Below w.heap.size w w') : StrsIn w' b gs :=
  ⟨by have := hb.size; have := h.1; omega, fun j hj => by rw [hb.cell (p := ⟨b, j, none⟩) h.1]; exact h.2 j hj⟩
theorem any_hit {gs : List (List UInt8)} {l : List UInt8} {k : Nat} (h : k < gs.length) (e : gs[k] = l) : (gs.any fun g => g == l) = true := by
  rw [List.any_eq_true]
  exact ⟨gs[k], List.getElem_mem h, by simpa using e⟩
theorem any_miss {gs : List (List UInt8)} {l : List UInt8} (h : ∀ j (hj : j < gs.length), gs[j] ≠ l) : (gs.any fun g => g == l) = false := by
  rw [List.any_eq_false]
  intro g hg
  obtain ⟨j, hj, rfl⟩ := List.getElem_of_mem hg
  simpa using h j hj
/-- A function that tells whether a word is one of these, as oneOf makes it: the block of what it has captured. -/
def SignIn (w : World) (p : Nat) (gs : List (List UInt8)) : Prop := ∃ b c, w.cell? ⟨p, 0, none⟩ = some (.slice (some ⟨b, 0, none⟩) gs.length c) ∧ p < w.heap.size ∧ StrsIn w b gs ∧ gs.length ≤ 100
theorem SignIn.on {w w' : World} {p : Nat} {gs : List (List UInt8)} (h : SignIn w p gs) (hb : Below w.heap.size w w') : SignIn w' p gs := by
  obtain ⟨b, c, h1, h2, h3, h4⟩ := h
  exact ⟨b, c, by rw [hb.cell (p := ⟨p, 0, none⟩) h2]; exact h1, by have := hb.size; omega, h3.on hb, h4⟩
def tokV (t : Tok) : Value := .agg #[.int .i64 t.1, .string t.2.1, .int .i64 (t.2.2 : Int)]
end Go.Proofs.YtkoejkpjkcejcaaDoor
namespace Go.Proofs.YtkoejkpjkcejcaaDoor
open Go.RowKit
set_option linter.unusedVariables false

/-- All that was there is kept but the block r. -/
structure But (r : Nat) (w w' : World) : Prop where
  below : Below r w w'
  size : w.heap.size ≤ w'.heap.size
  kept : ∀ k, k < w.heap.size → k ≠ r → w'.heap[k]? = w.heap[k]?
theorem But.refl (r : Nat) (w : World) : But r w w := ⟨Below.refl _ _, Nat.le_refl _, fun _ _ _ => rfl⟩
theorem But.trans {r : Nat} {w w1 w2 : World} (h : But r w w1) (k : But r w1 w2) : But r w w2 :=
  ⟨h.below.trans k.below, Nat.le_trans h.size k.size, fun b hb hr => by rw [k.kept b (by have := h.size; omega) hr, h.kept b hb hr]⟩
theorem But.drewN {r : Nat} {w w1 : World} (h : But r w w1) (q : Nat) : But r w (w1.drewN q) := ⟨below_drewN h.below q, h.size, h.kept⟩
theorem But.drew {r : Nat} {w w1 : World} (h : But r w w1) : But r w w1.drew := ⟨Below.drew h.below, h.size, h.kept⟩
theorem But.set {r : Nat} {w w1 : World} (h : But r w w1) (o : Nat) (v : Value) : But r w (w1.setCell ⟨r, o, none⟩ v) :=
  ⟨h.below.setCell (p := ⟨r, o, none⟩) (Nat.le_refl _) v, by have := h.size; simpa [World.setCell] using this, fun k hk hr => by rw [Below.heap_setCell _ _ _ _ (fun e => hr e)]; exact h.kept k hk hr⟩
theorem But.cell {r : Nat} {w w1 : World} (h : But r w w1) {b : Nat} (o : Nat) (hb : b < w.heap.size) (hr : b ≠ r) : w1.cell? ⟨b, o, none⟩ = w.cell? ⟨b, o, none⟩ := by
  simp only [World.cell?, h.kept b hb hr]
theorem But.of_below' {r : Nat} {w w' : World} (h : Below w.heap.size w w') (hr : r ≤ w.heap.size) : But r w w' := ⟨h.mono hr, h.size, fun k hk _ => h.block k hk⟩
theorem But.setNew {r : Nat} {w w1 : World} (h : But r w w1) (z o : Nat) (hz : w.heap.size ≤ z) (hr : r ≤ z) (v : Value) : But r w (w1.setCell ⟨z, o, none⟩ v) :=
  ⟨h.below.setCell (p := ⟨z, o, none⟩) hr v, by have := h.size; simpa [World.setCell] using this, fun k hk hkr => by rw [Below.heap_setCell _ _ _ _ (fun e => by simp at e; omega)]; exact h.kept k hk hkr⟩
theorem But.alloc {r : Nat} {w w1 : World} (h : But r w w1) (hr : r ≤ w1.heap.size) (o : Obj) : But r w (w1.alloc o) :=
  ⟨h.below.alloc hr o, by have := h.size; simp; omega, fun k hk hkr => by
    rw [((Below.refl w1.heap.size w1).alloc (Nat.le_refl _) o).block k (by have := h.size; omega)]; exact h.kept k hk hkr⟩
end Go.Proofs.YtkoejkpjkcejcaaDoor
namespace Go.Proofs.YtkoejkpjkcejcaaDoor
open Go.RowKit
set_option linter.unusedVariables false

/-- The reader lies in block r: its words, the next one, the text's length, where it went wrong. -/
structure InAt (w : World) (r : Nat) (tp : Option Addr) (tc : Nat) (ts : List Tok) (en : Nat) (st : St) : Prop where
  c0 : w.cell? ⟨r, 0, none⟩ = some (.slice tp ts.length tc)
  c1 : w.cell? ⟨r, 1, none⟩ = some (.int .i64 (st.i : Int))
  c2 : w.cell? ⟨r, 2, none⟩ = some (.int .i64 (en : Int))
  c3 : w.cell? ⟨r, 3, none⟩ = some (.int .i64 st.bad)
  f1 : w.frozen? ⟨r, 1, none⟩ = false
  f3 : w.frozen? ⟨r, 3, none⟩ = false
  lt : r < w.heap.size
  toks : ts.length = 0 ∨ ∃ b off, tp = some ⟨b, off, none⟩ ∧ b ≠ r ∧ ToksIn w b off ts
theorem InAt.same {w w' : World} {r : Nat} {tp : Option Addr} {tc : Nat} {ts : List Tok} {en : Nat} {st : St} (h : InAt w r tp tc ts en st) (e : w'.heap = w.heap) : InAt w' r tp tc ts en st := by
  have hc : ∀ a : Addr, w'.cell? a = w.cell? a := fun a => by simp only [World.cell?, e]
  have hf : ∀ a : Addr, w'.frozen? a = w.frozen? a := fun a => by simp only [World.frozen?, e]
  refine ⟨by rw [hc]; exact h.c0, by rw [hc]; exact h.c1, by rw [hc]; exact h.c2, by rw [hc]; exact h.c3, by rw [hf]; exact h.f1, by rw [hf]; exact h.f3, by rw [e]; exact h.lt, ?_⟩
  rcases h.toks with h0 | ⟨b, off, e1, e2, h3⟩
  · exact .inl h0
  · exact .inr ⟨b, off, e1, e2, by rw [e]; exact h3.1, fun j hj => by rw [hc, hc, hc]; exact h3.2 j hj⟩
theorem posAt_in {ts : List Tok} {en i : Nat} (h : i < ts.length) : posAt ts en i = (ts[i].2.2 : Int) := by rw [posAt, List.getElem?_eq_getElem h]
theorem posAt_out {ts : List Tok} {en i : Nat} (h : ts.length ≤ i) : posAt ts en i = (en : Int) := by rw [posAt, List.getElem?_eq_none h]
theorem InAt.bad {w : World} {r : Nat} {tp : Option Addr} {tc : Nat} {ts : List Tok} {en : Nat} {st : St} (h : InAt w r tp tc ts en st) (x : Int) : InAt (w.setCell ⟨r, 3, none⟩ (.int .i64 x)) r tp tc ts en ⟨st.i, x⟩ := by
  have hb : ∀ b o : Nat, b ≠ r → (w.setCell ⟨r, 3, none⟩ (.int .i64 x)).cell? ⟨b, o, none⟩ = w.cell? ⟨b, o, none⟩ := fun b o hbr => by
    simp only [World.cell?]
    rw [Below.heap_setCell _ _ _ _ (fun e => hbr e)]
  refine ⟨?_, ?_, ?_, World.cell?_setCell_same w ⟨r, 3, none⟩ _ h.c3, ?_, ?_, by have := h.lt; simpa [World.setCell] using this, ?_⟩
  · rw [World.cell?_setCell_other _ _ _ _ (by simp)]; exact h.c0
  · rw [World.cell?_setCell_other _ _ _ _ (by simp)]; exact h.c1
  · rw [World.cell?_setCell_other _ _ _ _ (by simp)]; exact h.c2
  · have : (w.setCell ⟨r, 3, none⟩ (.int .i64 x)).frozen? ⟨r, 1, none⟩ = w.frozen? ⟨r, 1, none⟩ := by simp
    rw [this]; exact h.f1
  · have : (w.setCell ⟨r, 3, none⟩ (.int .i64 x)).frozen? ⟨r, 3, none⟩ = w.frozen? ⟨r, 3, none⟩ := by simp
    rw [this]; exact h.f3
  · rcases h.toks with h0 | ⟨b, off, e1, e2, h3⟩
    · exact .inl h0
    · exact .inr ⟨b, off, e1, e2, by have := h3.1; simpa [World.setCell] using this, fun j hj => by rw [hb _ _ e2, hb _ _ e2, hb _ _ e2]; exact h3.2 j hj⟩
theorem InAt.next {w : World} {r : Nat} {tp : Option Addr} {tc : Nat} {ts : List Tok} {en : Nat} {st : St} (h : InAt w r tp tc ts en st) : InAt (w.setCell ⟨r, 1, none⟩ (.int .i64 ((st.i : Int) + 1))) r tp tc ts en (adv st) := by
  have hb : ∀ b o : Nat, b ≠ r → (w.setCell ⟨r, 1, none⟩ (.int .i64 ((st.i : Int) + 1))).cell? ⟨b, o, none⟩ = w.cell? ⟨b, o, none⟩ := fun b o hbr => by
    simp only [World.cell?]
    rw [Below.heap_setCell _ _ _ _ (fun e => hbr e)]
  refine ⟨?_, ?_, ?_, ?_, ?_, ?_, by have := h.lt; simpa [World.setCell] using this, ?_⟩
  · rw [World.cell?_setCell_other _ _ _ _ (by simp)]; exact h.c0
  · exact World.cell?_setCell_same w ⟨r, 1, none⟩ _ h.c1
  · rw [World.cell?_setCell_other _ _ _ _ (by simp)]; exact h.c2
  · rw [World.cell?_setCell_other _ _ _ _ (by simp)]; exact h.c3
  · have : (w.setCell ⟨r, 1, none⟩ (.int .i64 ((st.i : Int) + 1))).frozen? ⟨r, 1, none⟩ = w.frozen? ⟨r, 1, none⟩ := by simp
    rw [this]; exact h.f1
  · have : (w.setCell ⟨r, 1, none⟩ (.int .i64 ((st.i : Int) + 1))).frozen? ⟨r, 3, none⟩ = w.frozen? ⟨r, 3, none⟩ := by simp
    rw [this]; exact h.f3
  · rcases h.toks with h0 | ⟨b, off, e1, e2, h3⟩
    · exact .inl h0
    · exact .inr ⟨b, off, e1, e2, by have := h3.1; simpa [World.setCell] using this, fun j hj => by rw [hb _ _ e2, hb _ _ e2, hb _ _ e2]; exact h3.2 j hj⟩
theorem isT_in {ts : List Tok} {i : Nat} {bad : Int} {s : List UInt8} (hb : bad < 0) (h : i < ts.length) : isT ts ⟨i, bad⟩ s = ((decide (ts[i].1 = 1) || decide (ts[i].1 = 4)) && ts[i].2.1.data.toList == s) := by
  simp [isT, hb, List.getElem?_eq_getElem h]
theorem isT_out {ts : List Tok} {i : Nat} {bad : Int} {s : List UInt8} (h : ts.length ≤ i) : isT ts ⟨i, bad⟩ s = false := by
  simp [isT, List.getElem?_eq_none h]
theorem isT_bad {ts : List Tok} {i : Nat} {bad : Int} {s : List UInt8} (hb : ¬ bad < 0) : isT ts ⟨i, bad⟩ s = false := by
  simp [isT, hb]
end Go.Proofs.YtkoejkpjkcejcaaDoor
