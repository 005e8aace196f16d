/-
  The reader of words of the document (package sluiceref1, type In): at, fail, Is, Has, Need.
-/
import Derived.Test.YtomakklbfjkdpaaGreatDoorTreeP
import Derived.Test.YtomakklbfjkdpaaGreatDoorLexToks
import Derived.WalkSmall
import Derived.Deep.RegionWith
import Derived.Deep.Heap
import Derived.Deep.QuietTactic
namespace Go.Proofs.YtomakklbfjkdpaaGreatDoor
open Go.RowKit
set_option linter.unusedVariables false

/-- All that was there is kept but the block r. -/
structure But (r : Nat) (w w' : World) : Prop where
  below : Below r w w'
  size : w.heap.size ≤ w'.heap.size
  kept : ∀ k, k < w.heap.size → k ≠ r → w'.heap[k]? = w.heap[k]?
theorem But.refl (r : Nat) (w : World) : But r w w := ⟨Below.refl _ _, Nat.le_refl _, fun _ _ _ => rfl⟩
theorem But.trans {r : Nat} {w w1 w2 : World} (h : But r w w1) (k : But r w1 w2) : But r w w2 :=
  ⟨h.below.trans k.below, Nat.le_trans h.size k.size, fun b hb hr => by rw [k.kept b (by have := h.size; omega) hr, h.kept b hb hr]⟩
theorem But.drewN {r : Nat} {w w1 : World} (h : But r w w1) (q : Nat) : But r w (w1.drewN q) := ⟨below_drewN h.below q, h.size, h.kept⟩
theorem But.drew {r : Nat} {w w1 : World} (h : But r w w1) : But r w w1.drew := ⟨Below.drew h.below, h.size, h.kept⟩
theorem But.set {r : Nat} {w w1 : World} (h : But r w w1) (o : Nat) (v : Value) : But r w (w1.setCell ⟨r, o, none⟩ v) :=
  ⟨h.below.setCell (p := ⟨r, o, none⟩) (Nat.le_refl _) v, by have := h.size; simpa [World.setCell] using this, fun k hk hr => by rw [Below.heap_setCell _ _ _ _ (fun e => hr e)]; exact h.kept k hk hr⟩
theorem But.cell {r : Nat} {w w1 : World} (h : But r w w1) {b : Nat} (o : Nat) (hb : b < w.heap.size) (hr : b ≠ r) : w1.cell? ⟨b, o, none⟩ = w.cell? ⟨b, o, none⟩ := by
  simp only [World.cell?, h.kept b hb hr]
/-- The reader lies in block r: its words, the next one, the text's length, where it went wrong. -/
structure InAt (w : World) (r : Nat) (tp : Option Addr) (tc : Nat) (ts : List Tok) (en : Nat) (st : St) : Prop where
  c0 : w.cell? ⟨r, 0, none⟩ = some (.slice tp ts.length tc)
  c1 : w.cell? ⟨r, 1, none⟩ = some (.int .i64 (st.i : Int))
  c2 : w.cell? ⟨r, 2, none⟩ = some (.int .i64 (en : Int))
  c3 : w.cell? ⟨r, 3, none⟩ = some (.int .i64 st.bad)
  f1 : w.frozen? ⟨r, 1, none⟩ = false
  f3 : w.frozen? ⟨r, 3, none⟩ = false
  lt : r < w.heap.size
  toks : ts.length = 0 ∨ ∃ b off, tp = some ⟨b, off, none⟩ ∧ b ≠ r ∧ ToksIn w b off ts
theorem InAt.same {w w' : World} {r : Nat} {tp : Option Addr} {tc : Nat} {ts : List Tok} {en : Nat} {st : St} (h : InAt w r tp tc ts en st) (e : w'.heap = w.heap) : InAt w' r tp tc ts en st := by
  have hc : ∀ a : Addr, w'.cell? a = w.cell? a := fun a => by simp only [World.cell?, e]
  have hf : ∀ a : Addr, w'.frozen? a = w.frozen? a := fun a => by simp only [World.frozen?, e]
  refine ⟨by rw [hc]; exact h.c0, by rw [hc]; exact h.c1, by rw [hc]; exact h.c2, by rw [hc]; exact h.c3, by rw [hf]; exact h.f1, by rw [hf]; exact h.f3, by rw [e]; exact h.lt, ?_⟩
  rcases h.toks with h0 | ⟨b, off, e1, e2, h3⟩
  · exact .inl h0
  · exact .inr ⟨b, off, e1, e2, by rw [e]; exact h3.1, fun j hj => by rw [hc, hc, hc]; exact h3.2 j hj⟩
theorem posAt_in {ts : List Tok} {en i : Nat} (h : i < ts.length) : posAt ts en i = (ts[i].2.2 : Int) := by rw [posAt, List.getElem?_eq_getElem h]
theorem posAt_out {ts : List Tok} {en i : Nat} (h : ts.length ≤ i) : posAt ts en i = (en : Int) := by rw [posAt, List.getElem?_eq_none h]
set_option maxHeartbeats 4000000 in
set_option maxRecDepth 20000 in
theorem in_at (w : World) (r : Nat) (tp : Option Addr) (tc : Nat) (ts : List Tok) (en : Nat) (st : St) (h : InAt w r tp tc ts en st) (hn : ts.length ≤ 400) (hi : st.i ≤ 1000000) :
    Calls Tryz.prog 38 #[.pointer (some ⟨r, 0, none⟩)] w fun e w' => e = .returned (.int .i64 (posAt ts en st.i)) ∧ ∃ q, w' = w.drewN q := by
  obtain ⟨c0, c1, c2, c3, f1, f3, lt, ht⟩ := h
  obtain ⟨i, bad⟩ := st
  simp only at c1 c3 hi ⊢
  by_cases hlt : i < ts.length
  · have hltz : (i : Int) < (ts.length : Int) := by omega
    have i0 : (0 : Int) ≤ (i : Int) := by omega
    rcases ht with h0 | ⟨b, off, rfl, hbr, hin⟩
    · exact absurd h0 (by omega)
    obtain ⟨d0, d1, d2⟩ := hin.2 i hlt
    have hbl := hin.1
    rw [posAt_in hlt]
    generalize ts[i] = y at d0 d1 d2
    obtain ⟨yk, yx, ya⟩ := y
    simp only at d0 d1 d2
    clear hin
    go_enter Tryz.func38, Tryz.ntmps38
    go_wp2
    go_quiet (fail)
    go_wp2
    go_quiet (fail)
    go_wp2
    go_ret
    exact ⟨rfl, _, World.drewN_drewN _ _ _⟩
  · have hltz : ¬ (i : Int) < (ts.length : Int) := by omega
    rw [posAt_out (by omega)]
    clear ht
    go_enter Tryz.func38, Tryz.ntmps38
    go_wp2
    go_quiet (fail)
    go_wp2
    go_ret
    exact ⟨rfl, _, rfl⟩
theorem InAt.bad {w : World} {r : Nat} {tp : Option Addr} {tc : Nat} {ts : List Tok} {en : Nat} {st : St} (h : InAt w r tp tc ts en st) (x : Int) : InAt (w.setCell ⟨r, 3, none⟩ (.int .i64 x)) r tp tc ts en ⟨st.i, x⟩ := by
  have hb : ∀ b o : Nat, b ≠ r → (w.setCell ⟨r, 3, none⟩ (.int .i64 x)).cell? ⟨b, o, none⟩ = w.cell? ⟨b, o, none⟩ := fun b o hbr => by
    simp only [World.cell?]
    rw [Below.heap_setCell _ _ _ _ (fun e => hbr e)]
  refine ⟨?_, ?_, ?_, World.cell?_setCell_same w ⟨r, 3, none⟩ _ h.c3, ?_, ?_, by have := h.lt; simpa [World.setCell] using this, ?_⟩
  · rw [World.cell?_setCell_other _ _ _ _ (by simp)]; exact h.c0
  · rw [World.cell?_setCell_other _ _ _ _ (by simp)]; exact h.c1
  · rw [World.cell?_setCell_other _ _ _ _ (by simp)]; exact h.c2
  · have : (w.setCell ⟨r, 3, none⟩ (.int .i64 x)).frozen? ⟨r, 1, none⟩ = w.frozen? ⟨r, 1, none⟩ := by simp
    rw [this]; exact h.f1
  · have : (w.setCell ⟨r, 3, none⟩ (.int .i64 x)).frozen? ⟨r, 3, none⟩ = w.frozen? ⟨r, 3, none⟩ := by simp
    rw [this]; exact h.f3
  · rcases h.toks with h0 | ⟨b, off, e1, e2, h3⟩
    · exact .inl h0
    · exact .inr ⟨b, off, e1, e2, by have := h3.1; simpa [World.setCell] using this, fun j hj => by rw [hb _ _ e2, hb _ _ e2, hb _ _ e2]; exact h3.2 j hj⟩
theorem InAt.next {w : World} {r : Nat} {tp : Option Addr} {tc : Nat} {ts : List Tok} {en : Nat} {st : St} (h : InAt w r tp tc ts en st) : InAt (w.setCell ⟨r, 1, none⟩ (.int .i64 ((st.i : Int) + 1))) r tp tc ts en (adv st) := by
  have hb : ∀ b o : Nat, b ≠ r → (w.setCell ⟨r, 1, none⟩ (.int .i64 ((st.i : Int) + 1))).cell? ⟨b, o, none⟩ = w.cell? ⟨b, o, none⟩ := fun b o hbr => by
    simp only [World.cell?]
    rw [Below.heap_setCell _ _ _ _ (fun e => hbr e)]
  refine ⟨?_, ?_, ?_, ?_, ?_, ?_, by have := h.lt; simpa [World.setCell] using this, ?_⟩
  · rw [World.cell?_setCell_other _ _ _ _ (by simp)]; exact h.c0
  · exact World.cell?_setCell_same w ⟨r, 1, none⟩ _ h.c1
  · rw [World.cell?_setCell_other _ _ _ _ (by simp)]; exact h.c2
  · rw [World.cell?_setCell_other _ _ _ _ (by simp)]; exact h.c3
  · have : (w.setCell ⟨r, 1, none⟩ (.int .i64 ((st.i : Int) + 1))).frozen? ⟨r, 1, none⟩ = w.frozen? ⟨r, 1, none⟩ := by simp
    rw [this]; exact h.f1
  · have : (w.setCell ⟨r, 1, none⟩ (.int .i64 ((st.i : Int) + 1))).frozen? ⟨r, 3, none⟩ = w.frozen? ⟨r, 3, none⟩ := by simp
    rw [this]; exact h.f3
  · rcases h.toks with h0 | ⟨b, off, e1, e2, h3⟩
    · exact .inl h0
    · exact .inr ⟨b, off, e1, e2, by have := h3.1; simpa [World.setCell] using this, fun j hj => by rw [hb _ _ e2, hb _ _ e2, hb _ _ e2]; exact h3.2 j hj⟩
set_option maxHeartbeats 4000000 in
set_option maxRecDepth 20000 in
theorem in_fail (w : World) (r : Nat) (tp : Option Addr) (tc : Nat) (ts : List Tok) (en : Nat) (st : St) (h : InAt w r tp tc ts en st) (hn : ts.length ≤ 400) (hi : st.i ≤ 1000000) :
    Calls Tryz.prog 19 #[.pointer (some ⟨r, 0, none⟩)] w fun e w' => e = .returned (.tuple #[]) ∧ InAt w' r tp tc ts en (failT ts en st) ∧ But r w w' := by
  have cA := in_at w r tp tc ts en st h hn hi
  have h0 := h
  obtain ⟨c0, c1, c2, c3, f1, f3, lt, ht⟩ := h0
  by_cases hb : st.bad < 0
  · rw [failT, if_pos hb]
    generalize posAt ts en st.i = x at cA
    go_enter Tryz.func19, Tryz.ntmps19
    go_wp2_with fail
    refine cA.mono ?_
    rintro e w1 ⟨rfl, q, rfl⟩
    go_wp2
    go_end0
    exact ⟨rfl, (h.same (w' := w.drewN q) rfl).bad x, ((But.refl r w).drewN q).set 3 _⟩
  · rw [failT, if_neg hb]
    go_enter Tryz.func19, Tryz.ntmps19
    go_wp2
    go_end0
    exact ⟨rfl, h, But.refl r w⟩
theorem isT_in {ts : List Tok} {i : Nat} {bad : Int} {s : List UInt8} (hb : bad < 0) (h : i < ts.length) : isT ts ⟨i, bad⟩ s = ((decide (ts[i].1 = 1) || decide (ts[i].1 = 4)) && ts[i].2.1.data.toList == s) := by
  simp [isT, hb, List.getElem?_eq_getElem h]
theorem isT_out {ts : List Tok} {i : Nat} {bad : Int} {s : List UInt8} (h : ts.length ≤ i) : isT ts ⟨i, bad⟩ s = false := by
  simp [isT, List.getElem?_eq_none h]
theorem isT_bad {ts : List Tok} {i : Nat} {bad : Int} {s : List UInt8} (hb : ¬ bad < 0) : isT ts ⟨i, bad⟩ s = false := by
  simp [isT, hb]
end Go.Proofs.YtomakklbfjkdpaaGreatDoor
