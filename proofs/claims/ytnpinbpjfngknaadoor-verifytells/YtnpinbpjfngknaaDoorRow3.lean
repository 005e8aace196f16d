/-
  What findType, byType and byWord of package row say.
-/
import Derived.Test.YtnpinbpjfngknaaDoorRow2
namespace Go.Proofs.YtnpinbpjfngknaaDoor
open Go.RowKit
set_option linter.unusedVariables false

/-- The words of the types, as the package's variable holds them. -/
structure TW (w : World) : Prop where
  c0 : w.cell? ⟨1, 0, none⟩ = some (.int .i64 1)
  c1 : w.cell? ⟨1, 1, none⟩ = some (.string ⟨#[105, 110, 116]⟩)
  c2 : w.cell? ⟨1, 2, none⟩ = some (.int .i64 2)
  c3 : w.cell? ⟨1, 3, none⟩ = some (.string ⟨#[98, 111, 111, 108]⟩)
  c4 : w.cell? ⟨1, 4, none⟩ = some (.int .i64 3)
  c5 : w.cell? ⟨1, 5, none⟩ = some (.string ⟨#[116, 101, 120, 116]⟩)
  lt : 1 < w.heap.size
theorem TW.on {w w' : World} (h : TW w) (hb : Below w.heap.size w w') : TW w' := by
  have hl := h.lt
  have hz := hb.size
  refine ⟨?_, ?_, ?_, ?_, ?_, ?_, by omega⟩
  · rw [hb.cell (p := ⟨1, 0, none⟩) hl]; exact h.c0
  · rw [hb.cell (p := ⟨1, 1, none⟩) hl]; exact h.c1
  · rw [hb.cell (p := ⟨1, 2, none⟩) hl]; exact h.c2
  · rw [hb.cell (p := ⟨1, 3, none⟩) hl]; exact h.c3
  · rw [hb.cell (p := ⟨1, 4, none⟩) hl]; exact h.c4
  · rw [hb.cell (p := ⟨1, 5, none⟩) hl]; exact h.c5
theorem cell_lt' {w : World} {b o : Nat} {v : Value} (h : w.cell? ⟨b, o, none⟩ = some v) : b < w.heap.size := by
  rcases Nat.lt_or_ge b w.heap.size with h' | h'
  · exact h'
  · simp [World.cell?, Array.getElem?_eq_none h'] at h
theorem bcells {W w1 : World} (hb : Below W.heap.size W w1) : (∀ b o, b < W.heap.size → w1.cell? ⟨b, o, none⟩ = W.cell? ⟨b, o, none⟩) ∧ (∀ b o, b < W.heap.size → w1.frozen? ⟨b, o, none⟩ = W.frozen? ⟨b, o, none⟩) :=
  ⟨fun b o h => hb.cell (p := ⟨b, o, none⟩) h, fun b o h => hb.frozen (p := ⟨b, o, none⟩) h⟩

theorem byType1_any (wt : Int) (ww : ByteArray) (t : Int) (p : Nat) (r : Bool) (w : World) (hp : w.cell? ⟨p, 0, none⟩ = some (.int .i64 t)) (hr : (wt == t) = r) :
    Calls Tryd.prog 49 #[.agg #[.int .i64 wt, .string ww], .pointer (some ⟨p, 0, none⟩)] w fun e w' => e = .returned (.bool r) ∧ Below w.heap.size w w' := by
  have hl := cell_lt' hp
  go_enter Tryd.func49, Tryd.ntmps49
  go_wp2
  go_ret
  exact ⟨by rw [← hr]; rfl, (Below.refl _ _).alloc (Nat.le_refl _) _⟩
theorem tw_0 (W : World) : Sem.run Tryd.prog (Instr.index 122 (.agg #[.int .i64 1, .string ⟨#[105, 110, 116]⟩, .int .i64 2, .string ⟨#[98, 111, 111, 108]⟩, .int .i64 3, .string ⟨#[116, 101, 120, 116]⟩]) (.int .i64 0)) W = .ok (.agg #[.int .i64 1, .string ⟨#[105, 110, 116]⟩]) W := by kernel_rfl
theorem tw_1 (W : World) : Sem.run Tryd.prog (Instr.index 122 (.agg #[.int .i64 1, .string ⟨#[105, 110, 116]⟩, .int .i64 2, .string ⟨#[98, 111, 111, 108]⟩, .int .i64 3, .string ⟨#[116, 101, 120, 116]⟩]) (.int .i64 1)) W = .ok (.agg #[.int .i64 2, .string ⟨#[98, 111, 111, 108]⟩]) W := by kernel_rfl
theorem tw_2 (W : World) : Sem.run Tryd.prog (Instr.index 122 (.agg #[.int .i64 1, .string ⟨#[105, 110, 116]⟩, .int .i64 2, .string ⟨#[98, 111, 111, 108]⟩, .int .i64 3, .string ⟨#[116, 101, 120, 116]⟩]) (.int .i64 2)) W = .ok (.agg #[.int .i64 3, .string ⟨#[116, 101, 120, 116]⟩]) W := by kernel_rfl
/-- What stays between the rounds: the result's cell, and what the closure reads. -/
structure FT (w wi : World) (p : Nat) (pv : Value) : Prop where
  below : Below w.heap.size w wi
  lt : w.heap.size < wi.heap.size
  c0 : wi.cell? ⟨w.heap.size, 0, none⟩ = some (.int .i64 0)
  c1 : wi.cell? ⟨w.heap.size, 1, none⟩ = some (.string ⟨#[]⟩)
  f0 : wi.frozen? ⟨w.heap.size, 0, none⟩ = false
  f1 : wi.frozen? ⟨w.heap.size, 1, none⟩ = false
  pc : wi.cell? ⟨p, 0, none⟩ = some pv
theorem FT.first {w : World} {p : Nat} {pv : Value} (hp : w.cell? ⟨p, 0, none⟩ = some pv) : FT w (w.alloc (.cells #[.int .i64 0, .string ⟨#[]⟩] 86)) p pv :=
  ⟨(Below.refl _ _).alloc (Nat.le_refl _) _, by simp, by rw [World.cell?_alloc_at _ _ _ _ rfl]; rfl, by rw [World.cell?_alloc_at _ _ _ _ rfl]; rfl, by simp, by simp, by rw [World.cell?_alloc_lt _ _ _ (cell_lt' hp)]; exact hp⟩
theorem FT.alloc {w wi : World} {p : Nat} {pv : Value} (h : FT w wi p pv) (o : Obj) : FT w (wi.alloc o) p pv :=
  ⟨h.below.alloc h.below.size _, by have := h.lt; simp; omega, by rw [World.cell?_alloc_lt _ _ _ h.lt]; exact h.c0, by rw [World.cell?_alloc_lt _ _ _ h.lt]; exact h.c1,
    by rw [World.frozen?_alloc_old _ _ _ (Nat.ne_of_lt h.lt)]; exact h.f0, by rw [World.frozen?_alloc_old _ _ _ (Nat.ne_of_lt h.lt)]; exact h.f1, by rw [World.cell?_alloc_lt _ _ _ (cell_lt' h.pc)]; exact h.pc⟩
theorem FT.next {w wi wj : World} {p : Nat} {pv : Value} (h : FT w wi p pv) (b : Below wi.heap.size wi wj) : FT w wj p pv := by
  obtain ⟨hc, hf⟩ := bcells b
  have hz := b.size
  exact ⟨h.below.trans (b.mono h.below.size), by have := h.lt; omega, by rw [hc _ _ h.lt]; exact h.c0, by rw [hc _ _ h.lt]; exact h.c1, by rw [hf _ _ h.lt]; exact h.f0, by rw [hf _ _ h.lt]; exact h.f1, by rw [hc _ _ (cell_lt' h.pc)]; exact h.pc⟩

set_option maxHeartbeats 4000000 in
set_option maxRecDepth 20000 in
theorem findT_1 (t : Int) (p : Nat) (w : World) (hw : TW w) (hp : w.cell? ⟨p, 0, none⟩ = some (.int .i64 t)) (h1 : ((1 : Int) == t) = true) :
    Calls Tryd.prog 48 #[.func (.func 49) #[] #[.pointer (some ⟨p, 0, none⟩)]] w fun e w' => e = .returned (.tuple #[.agg #[.int .i64 1, .string ⟨#[105, 110, 116]⟩], .bool true]) ∧ Below w.heap.size w w' := by
  obtain ⟨g0, g1, g2, g3, g4, g5, gl⟩ := hw
  have x0 := tw_0
  have x1 := tw_1
  have x2 := tw_2
  have F0 : FT w _ p (.int .i64 t) := FT.first hp
  go_enter Tryd.func48, Tryd.ntmps48
  go_wp2
  refine wp_loop_rounds 1 ?_
  rw [rounds_succ]
  go_wp2_with fail
  have F0a := F0.alloc (.cells #[.int .i64 1, .string ⟨#[105, 110, 116]⟩] 86)
  refine (byType1_any 1 ⟨#[105, 110, 116]⟩ t p true _ F0a.pc h1).mono ?_
  rintro e w1 ⟨rfl, b1⟩
  have F1 := F0a.next b1
  obtain ⟨hc1, hf1⟩ := bcells b1
  have l1 := F1.lt
  have q0 := F1.c0
  have q1 := F1.c1
  have q2 := F1.f0
  have q3 := F1.f1
  go_wp2
  refine bodyPost_ret (v := (.tuple #[.agg #[.int .i64 1, .string ⟨#[105, 110, 116]⟩], .bool true])) (by simp [results, Tryd.results48, go_sem, q0, q1]) rfl ⟨rfl, ?_⟩
  exact (F1.below.setCell (Nat.le_refl _) _).setCell (Nat.le_refl _) _
set_option maxHeartbeats 4000000 in
set_option maxRecDepth 20000 in
theorem findT_2 (t : Int) (p : Nat) (w : World) (hw : TW w) (hp : w.cell? ⟨p, 0, none⟩ = some (.int .i64 t)) (h1 : ((1 : Int) == t) = false) (h2 : ((2 : Int) == t) = true) :
    Calls Tryd.prog 48 #[.func (.func 49) #[] #[.pointer (some ⟨p, 0, none⟩)]] w fun e w' => e = .returned (.tuple #[.agg #[.int .i64 2, .string ⟨#[98, 111, 111, 108]⟩], .bool true]) ∧ Below w.heap.size w w' := by
  obtain ⟨g0, g1, g2, g3, g4, g5, gl⟩ := hw
  have x0 := tw_0
  have x1 := tw_1
  have x2 := tw_2
  have F0 : FT w _ p (.int .i64 t) := FT.first hp
  go_enter Tryd.func48, Tryd.ntmps48
  go_wp2
  refine wp_loop_rounds 2 ?_
  rw [rounds_succ]
  go_wp2_with fail
  have F0a := F0.alloc (.cells #[.int .i64 1, .string ⟨#[105, 110, 116]⟩] 86)
  refine (byType1_any 1 ⟨#[105, 110, 116]⟩ t p false _ F0a.pc h1).mono ?_
  rintro e w1 ⟨rfl, b1⟩
  have F1 := F0a.next b1
  obtain ⟨hc1, hf1⟩ := bcells b1
  have l1 := F1.lt
  go_wp2
  rw [rounds_succ]
  go_wp2_with fail
  have F1a := F1.alloc (.cells #[.int .i64 2, .string ⟨#[98, 111, 111, 108]⟩] 86)
  refine (byType1_any 2 ⟨#[98, 111, 111, 108]⟩ t p true _ F1a.pc h2).mono ?_
  rintro e w2 ⟨rfl, b2⟩
  have F2 := F1a.next b2
  obtain ⟨hc2, hf2⟩ := bcells b2
  have l2 := F2.lt
  have q0 := F2.c0
  have q1 := F2.c1
  have q2 := F2.f0
  have q3 := F2.f1
  go_wp2
  refine bodyPost_ret (v := (.tuple #[.agg #[.int .i64 2, .string ⟨#[98, 111, 111, 108]⟩], .bool true])) (by simp [results, Tryd.results48, go_sem, q0, q1]) rfl ⟨rfl, ?_⟩
  exact (F2.below.setCell (Nat.le_refl _) _).setCell (Nat.le_refl _) _
set_option maxHeartbeats 4000000 in
set_option maxRecDepth 20000 in
theorem findT_3 (t : Int) (p : Nat) (w : World) (hw : TW w) (hp : w.cell? ⟨p, 0, none⟩ = some (.int .i64 t)) (h1 : ((1 : Int) == t) = false) (h2 : ((2 : Int) == t) = false) (h3 : ((3 : Int) == t) = true) :
    Calls Tryd.prog 48 #[.func (.func 49) #[] #[.pointer (some ⟨p, 0, none⟩)]] w fun e w' => e = .returned (.tuple #[.agg #[.int .i64 3, .string ⟨#[116, 101, 120, 116]⟩], .bool true]) ∧ Below w.heap.size w w' := by
  obtain ⟨g0, g1, g2, g3, g4, g5, gl⟩ := hw
  have x0 := tw_0
  have x1 := tw_1
  have x2 := tw_2
  have F0 : FT w _ p (.int .i64 t) := FT.first hp
  go_enter Tryd.func48, Tryd.ntmps48
  go_wp2
  refine wp_loop_rounds 3 ?_
  rw [rounds_succ]
  go_wp2_with fail
  have F0a := F0.alloc (.cells #[.int .i64 1, .string ⟨#[105, 110, 116]⟩] 86)
  refine (byType1_any 1 ⟨#[105, 110, 116]⟩ t p false _ F0a.pc h1).mono ?_
  rintro e w1 ⟨rfl, b1⟩
  have F1 := F0a.next b1
  obtain ⟨hc1, hf1⟩ := bcells b1
  have l1 := F1.lt
  go_wp2
  rw [rounds_succ]
  go_wp2_with fail
  have F1a := F1.alloc (.cells #[.int .i64 2, .string ⟨#[98, 111, 111, 108]⟩] 86)
  refine (byType1_any 2 ⟨#[98, 111, 111, 108]⟩ t p false _ F1a.pc h2).mono ?_
  rintro e w2 ⟨rfl, b2⟩
  have F2 := F1a.next b2
  obtain ⟨hc2, hf2⟩ := bcells b2
  have l2 := F2.lt
  go_wp2
  rw [rounds_succ]
  go_wp2_with fail
  have F2a := F2.alloc (.cells #[.int .i64 3, .string ⟨#[116, 101, 120, 116]⟩] 86)
  refine (byType1_any 3 ⟨#[116, 101, 120, 116]⟩ t p true _ F2a.pc h3).mono ?_
  rintro e w3 ⟨rfl, b3⟩
  have F3 := F2a.next b3
  obtain ⟨hc3, hf3⟩ := bcells b3
  have l3 := F3.lt
  have q0 := F3.c0
  have q1 := F3.c1
  have q2 := F3.f0
  have q3 := F3.f1
  go_wp2
  refine bodyPost_ret (v := (.tuple #[.agg #[.int .i64 3, .string ⟨#[116, 101, 120, 116]⟩], .bool true])) (by simp [results, Tryd.results48, go_sem, q0, q1]) rfl ⟨rfl, ?_⟩
  exact (F3.below.setCell (Nat.le_refl _) _).setCell (Nat.le_refl _) _
set_option maxHeartbeats 4000000 in
set_option maxRecDepth 20000 in
theorem findT_0 (t : Int) (p : Nat) (w : World) (hw : TW w) (hp : w.cell? ⟨p, 0, none⟩ = some (.int .i64 t)) (h1 : ((1 : Int) == t) = false) (h2 : ((2 : Int) == t) = false) (h3 : ((3 : Int) == t) = false) :
    Calls Tryd.prog 48 #[.func (.func 49) #[] #[.pointer (some ⟨p, 0, none⟩)]] w fun e w' => e = .returned (.tuple #[.agg #[.int .i64 0, .string ⟨#[]⟩], .bool false]) ∧ Below w.heap.size w w' := by
  obtain ⟨g0, g1, g2, g3, g4, g5, gl⟩ := hw
  have x0 := tw_0
  have x1 := tw_1
  have x2 := tw_2
  have F0 : FT w _ p (.int .i64 t) := FT.first hp
  go_enter Tryd.func48, Tryd.ntmps48
  go_wp2
  refine wp_loop_rounds 4 ?_
  rw [rounds_succ]
  go_wp2_with fail
  have F0a := F0.alloc (.cells #[.int .i64 1, .string ⟨#[105, 110, 116]⟩] 86)
  refine (byType1_any 1 ⟨#[105, 110, 116]⟩ t p false _ F0a.pc h1).mono ?_
  rintro e w1 ⟨rfl, b1⟩
  have F1 := F0a.next b1
  obtain ⟨hc1, hf1⟩ := bcells b1
  have l1 := F1.lt
  go_wp2
  rw [rounds_succ]
  go_wp2_with fail
  have F1a := F1.alloc (.cells #[.int .i64 2, .string ⟨#[98, 111, 111, 108]⟩] 86)
  refine (byType1_any 2 ⟨#[98, 111, 111, 108]⟩ t p false _ F1a.pc h2).mono ?_
  rintro e w2 ⟨rfl, b2⟩
  have F2 := F1a.next b2
  obtain ⟨hc2, hf2⟩ := bcells b2
  have l2 := F2.lt
  go_wp2
  rw [rounds_succ]
  go_wp2_with fail
  have F2a := F2.alloc (.cells #[.int .i64 3, .string ⟨#[116, 101, 120, 116]⟩] 86)
  refine (byType1_any 3 ⟨#[116, 101, 120, 116]⟩ t p false _ F2a.pc h3).mono ?_
  rintro e w3 ⟨rfl, b3⟩
  have F3 := F2a.next b3
  obtain ⟨hc3, hf3⟩ := bcells b3
  have l3 := F3.lt
  go_wp2
  rw [rounds_succ]
  have q0 := F3.c0
  have q1 := F3.c1
  have q2 := F3.f0
  have q3 := F3.f1
  go_wp2
  refine bodyPost_ret (v := (.tuple #[.agg #[.int .i64 0, .string ⟨#[]⟩], .bool false])) (by simp [results, Tryd.results48, go_sem, q0, q1]) rfl ⟨rfl, ?_⟩
  exact (F3.below.setCell (Nat.le_refl _) _).setCell (Nat.le_refl _) _
end Go.Proofs.YtnpinbpjfngknaaDoor
