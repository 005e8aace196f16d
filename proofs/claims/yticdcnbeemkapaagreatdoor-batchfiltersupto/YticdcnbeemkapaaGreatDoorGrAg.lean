/-
  TreeTg, KdR0, Row3, Row4, Row5, in one text.
-/
import Derived.Test.YticdcnbeemkapaaGreatDoorQTreeWk
import Derived.Test.YticdcnbeemkapaaGreatDoorGrAa
import Derived.Laws.Rows
import Derived.RowKitTokens
import Derived.Lib.OthersKept
import Derived.Laws.RangeAny
import Derived.Deep.DeepCutAuto
import Derived.Deep.LoopGhost
import Derived.Test.YticdcnbeemkapaaGreatDoorGrAf
import Derived.WalkSmall
import Derived.Deep.RegionWith
namespace Go.Proofs.YticdcnbeemkapaaGreatDoor
open Go.RowKit Go.BigFrame
set_option linter.unusedVariables false

def ftg (s : Nat) (x : Ex) (d : Nat) : Nat × Bool := (s + 1, decide (s + 1 ≤ 200) && decide (d ≤ 30))
/-- Too many nodes, or too deep. -/
def tgB (x : Ex) : Bool := !(foldP ftg 0 (x.pre 1)).2
/-- A number that is counted on. -/
def CntIn (p : Nat) (W : World) (s : Nat) (m : Nat) : Prop := W.cell? ⟨p, 0, none⟩ = some (.int .i64 (s : Int)) ∧ W.frozen? ⟨p, 0, none⟩ = false ∧ p < W.heap.size ∧ s ≤ 200
set_option maxHeartbeats 1000000 in
set_option maxRecDepth 20000 in
theorem tg1_any (p : Nat) (W : World) (v : Value) (lo : Nat → Prop) (x : Ex) (d s m : Nat) (hx : ExIn W lo v x) (hd : d ≤ 1048577) (hs : CntIn p W s (m + 1)) :
    Calls Tryz.prog 31 #[v, .int .i64 (d : Int), .pointer (some ⟨p, 0, none⟩)] W fun e w' => e = .returned (.bool (ftg s x d).2) ∧ ((ftg s x d).2 = true → CntIn p w' (ftg s x d).1 m) ∧ ((ftg s x d).2 = false → True) ∧ But p W w' := by
  obtain ⟨o1, n1, t1, k1, s1, p1, m1, c1, a1, rfl⟩ := hx.agg
  obtain ⟨h1, h2, h3, h4⟩ := hs
  have bb := But.alloc (But.refl p W) (by omega) (.cells #[.string o1, .string n1, .int .i64 t1, .int .i64 k1, .string s1, .slice p1 m1 c1, .int .i64 a1] 26)
  have BF : Aside (∀ u, But p W ((W.setCell ⟨p, 0, none⟩ u).alloc (.cells #[.string o1, .string n1, .int .i64 t1, .int .i64 k1, .string s1, .slice p1 m1 c1, .int .i64 a1] 26))) := fun u => ((But.refl p W).set 0 u).alloc (by simp [World.setCell]; omega) _
  clear bb
  by_cases h200 : s + 1 ≤ 200
  · have h200z : (s : Int) + 1 ≤ 200 := by omega
    by_cases h30 : d ≤ 30
    · have h30z : (d : Int) ≤ 30 := by omega
      have hR : ftg s x d = (s + 1, true) := by rw [ftg, decide_eq_true h200, decide_eq_true h30]; rfl
      rw [hR]
      have hC : Aside (CntIn p ((W.setCell ⟨p, 0, none⟩ (.int .i64 ((s : Int) + 1))).alloc (.cells #[.string o1, .string n1, .int .i64 t1, .int .i64 k1, .string s1, .slice p1 m1 c1, .int .i64 a1] 26)) (s + 1) m) := by
        refine ⟨?_, ?_, by simp [World.setCell]; omega, by omega⟩
        · rw [World.cell?_alloc_past _ _ _ (by simpa [World.setCell] using h3), World.cell?_setCell_same W ⟨p, 0, none⟩ _ h1]
          rfl
        · rw [World.frozen?_alloc_past _ _ _ (by simpa [World.setCell] using h3)]
          simpa using h2
      clear hx hR h200 h30 h4
      generalize s + 1 = S2 at hC ⊢
      go_enter Tryz.func31, Tryz.ntmps31
      go_wp2
      go_ret
      first
        | exact ⟨ret_bool (by simp), fun _ => hC.out, fun _ => trivial, BF.out _⟩
        | exact ⟨ret_bool (by simp [h30z]), hC.out, BF.out _⟩
        | exact ⟨rfl, hC.out, BF.out _⟩
    · have h30z : ¬ (d : Int) ≤ 30 := by omega
      have hR : ftg s x d = (s + 1, false) := by rw [ftg, decide_eq_false h30, Bool.and_false]
      rw [hR]
      clear hx hR h200 h30 h4
      generalize s + 1 = S2
      go_enter Tryz.func31, Tryz.ntmps31
      go_wp2
      go_ret
      first
        | exact ⟨ret_bool (by simp), BF.out _⟩
        | exact ⟨ret_bool (by simp [h30z]), BF.out _⟩
        | exact ⟨rfl, BF.out _⟩
  · have h200z : ¬ (s : Int) + 1 ≤ 200 := by omega
    have hR : ftg s x d = (s + 1, false) := by rw [ftg, decide_eq_false h200, Bool.false_and]
    rw [hR]
    clear hx hR h200
    generalize s + 1 = S2
    go_enter Tryz.func31, Tryz.ntmps31
    go_wp2
    go_ret
    exact ⟨rfl, BF.out _⟩
set_option maxHeartbeats 1000000 in
theorem tooGreat_any (x : Ex) (lo : Nat → Prop) (v : Value) (w : World) (hx : ExIn w lo v x) (hsz : (x.pre 1).length ≤ 1048576) :
    Calls Tryz.prog 14 #[v] w fun e w' => e = .returned (.bool (tgB x)) ∧ Below w.heap.size w w' := by
  obtain ⟨o1, n1, t1, k1, s1, p1, m1, c1, a1, rfl⟩ := hx.agg
  have b1 : Below w.heap.size w ((w.alloc (.cells #[.string o1, .string n1, .int .i64 t1, .int .i64 k1, .string s1, .slice p1 m1 c1, .int .i64 a1] 26)).alloc (.cells #[.int .i64 0] 3)) := (al w _).trans ((al _ _).mono (by simp))
  have cW := walk_any ftg 31 (fun args W => by kernel_rfl) (w.heap.size + 1) (CntIn (w.heap.size + 1)) (fun _ _ => True) (fun b => lo b ∧ b < w.heap.size) _ _ x 0 (by simp) ((ExIn.low (fun b h1 h2 => ⟨h2, h1⟩) _ _ hx).on b1) (fun b h1 _ => by have := h1.2; omega) hsz
    (fun W v y d s m _ hy hd hs => tg1_any _ W v _ y d s m hy hd hs)
    (fun W W' s m hb hz hs => by
      obtain ⟨h1, h2, h3, h4⟩ := hs
      exact ⟨by rw [hb.cell (p := ⟨w.heap.size + 1, 0, none⟩) (by simp)]; exact h1, by rw [hb.frozen (p := ⟨w.heap.size + 1, 0, none⟩) (by simp)]; exact h2, by omega, h4⟩)
    ⟨by rw [World.cell?_alloc_at _ _ _ _ (by simp)]; rfl, by rw [World.frozen?_alloc_at _ _ _ _ (by simp)], by simp, by omega⟩
  rw [tgB]
  generalize foldP ftg 0 (x.pre 1) = T at cW
  obtain ⟨T1, T2⟩ := T
  simp only at cW ⊢
  go_enter Tryz.func14, Tryz.ntmps14
  go_wp2_with fail
  refine cW.mono ?_
  rintro e w2 ⟨rfl, _, _, b2⟩
  have b3 : Below w.heap.size w w2 := b1.trans (b2.below.mono (by omega))
  go_wp2
  go_ret
  exact ⟨rfl, b3⟩
end Go.Proofs.YticdcnbeemkapaaGreatDoor
namespace Go.Proofs.YticdcnbeemkapaaGreatDoor
open Go.RowKit Go.BigFrame
set_option linter.unusedVariables false

/-- The rules: an Op, of which types its parts are (0: none more; -1: one type, whichever it is), and of which it is itself. -/
def kdRules : List (List UInt8 × Int × Int × Int × Int) := [([111, 114], 2, 2, 0, 2), ([97, 110, 100], 2, 2, 0, 2), ([110, 111, 116], 2, 0, 0, 2), ([61], -1, -1, 0, 2), ([60, 62], -1, -1, 0, 2), ([60], -1, -1, 0, 2), ([60, 61], -1, -1, 0, 2), ([62], -1, -1, 0, 2), ([62, 61], -1, -1, 0, 2), ([43], 1, 1, 0, 1), ([45], 1, 1, 0, 1), ([42], 1, 1, 0, 1), ([47], 1, 1, 0, 1), ([37], 1, 1, 0, 1), ([110, 101, 103], 1, 0, 0, 1), ([108, 101, 110], 3, 0, 0, 1), ([105, 102], 2, -1, -1, -1)]
abbrev KRule := List UInt8 × Int × Int × Int × Int
def rulesC : Array Value := #[.string ⟨#[111, 114]⟩, .int .i64 2, .int .i64 2, .int .i64 0, .int .i64 2, .string ⟨#[97, 110, 100]⟩, .int .i64 2, .int .i64 2, .int .i64 0, .int .i64 2, .string ⟨#[110, 111, 116]⟩, .int .i64 2, .int .i64 0, .int .i64 0, .int .i64 2, .string ⟨#[61]⟩, .int .i64 (-1), .int .i64 (-1), .int .i64 0, .int .i64 2, .string ⟨#[60, 62]⟩, .int .i64 (-1), .int .i64 (-1), .int .i64 0, .int .i64 2, .string ⟨#[60]⟩, .int .i64 (-1), .int .i64 (-1), .int .i64 0, .int .i64 2, .string ⟨#[60, 61]⟩, .int .i64 (-1), .int .i64 (-1), .int .i64 0, .int .i64 2, .string ⟨#[62]⟩, .int .i64 (-1), .int .i64 (-1), .int .i64 0, .int .i64 2, .string ⟨#[62, 61]⟩, .int .i64 (-1), .int .i64 (-1), .int .i64 0, .int .i64 2, .string ⟨#[43]⟩, .int .i64 1, .int .i64 1, .int .i64 0, .int .i64 1, .string ⟨#[45]⟩, .int .i64 1, .int .i64 1, .int .i64 0, .int .i64 1, .string ⟨#[42]⟩, .int .i64 1, .int .i64 1, .int .i64 0, .int .i64 1, .string ⟨#[47]⟩, .int .i64 1, .int .i64 1, .int .i64 0, .int .i64 1, .string ⟨#[37]⟩, .int .i64 1, .int .i64 1, .int .i64 0, .int .i64 1, .string ⟨#[110, 101, 103]⟩, .int .i64 1, .int .i64 0, .int .i64 0, .int .i64 1, .string ⟨#[108, 101, 110]⟩, .int .i64 3, .int .i64 0, .int .i64 0, .int .i64 1, .string ⟨#[105, 102]⟩, .int .i64 2, .int .i64 (-1), .int .i64 (-1), .int .i64 (-1)]
/-- What Rule reads of the variables: the rules. -/
def REnv (w : World) : Prop := ∃ t fr, w.heap[2]? = some (.cells rulesC t fr)
theorem REnv.lt {w : World} (h : REnv w) : 2 < w.heap.size := by
  obtain ⟨t, fr, h1⟩ := h
  exact (Array.getElem?_eq_some_iff.1 h1).1
theorem REnv.on {w w' : World} (h : REnv w) (hb : Below w.heap.size w w') : REnv w' := by
  have hl := h.lt
  obtain ⟨t, fr, h1⟩ := h
  exact ⟨t, fr, by rw [hb.block _ hl]; exact h1⟩
theorem rule_at (k : Nat) (hk : k < 17) : ∃ (S : ByteArray) (a0 a1 a2 ty : Int), (∀ W : World, Sem.run Tryz.prog (Instr.index 177 (.agg rulesC) (.int .i64 (k : Int))) W = .ok (.agg #[.string S, .int .i64 a0, .int .i64 a1, .int .i64 a2, .int .i64 ty]) W) ∧ kdRules[k]'hk = (S.data.toList, a0, a1, a2, ty) ∧ (-1 ≤ a0 ∧ a0 ≤ 3) ∧ (-1 ≤ a1 ∧ a1 ≤ 3) ∧ (-1 ≤ a2 ∧ a2 ≤ 3) ∧ (-1 ≤ ty ∧ ty ≤ 3) := by
  have h : k = 0 ∨ k = 1 ∨ k = 2 ∨ k = 3 ∨ k = 4 ∨ k = 5 ∨ k = 6 ∨ k = 7 ∨ k = 8 ∨ k = 9 ∨ k = 10 ∨ k = 11 ∨ k = 12 ∨ k = 13 ∨ k = 14 ∨ k = 15 ∨ k = 16 := by omega
  rcases h with rfl | rfl | rfl | rfl | rfl | rfl | rfl | rfl | rfl | rfl | rfl | rfl | rfl | rfl | rfl | rfl | rfl
  · exact ⟨⟨#[111, 114]⟩, 2, 2, 0, 2, fun W => by kernel_rfl, rfl, by decide, by decide, by decide, by decide⟩
  · exact ⟨⟨#[97, 110, 100]⟩, 2, 2, 0, 2, fun W => by kernel_rfl, rfl, by decide, by decide, by decide, by decide⟩
  · exact ⟨⟨#[110, 111, 116]⟩, 2, 0, 0, 2, fun W => by kernel_rfl, rfl, by decide, by decide, by decide, by decide⟩
  · exact ⟨⟨#[61]⟩, (-1), (-1), 0, 2, fun W => by kernel_rfl, rfl, by decide, by decide, by decide, by decide⟩
  · exact ⟨⟨#[60, 62]⟩, (-1), (-1), 0, 2, fun W => by kernel_rfl, rfl, by decide, by decide, by decide, by decide⟩
  · exact ⟨⟨#[60]⟩, (-1), (-1), 0, 2, fun W => by kernel_rfl, rfl, by decide, by decide, by decide, by decide⟩
  · exact ⟨⟨#[60, 61]⟩, (-1), (-1), 0, 2, fun W => by kernel_rfl, rfl, by decide, by decide, by decide, by decide⟩
  · exact ⟨⟨#[62]⟩, (-1), (-1), 0, 2, fun W => by kernel_rfl, rfl, by decide, by decide, by decide, by decide⟩
  · exact ⟨⟨#[62, 61]⟩, (-1), (-1), 0, 2, fun W => by kernel_rfl, rfl, by decide, by decide, by decide, by decide⟩
  · exact ⟨⟨#[43]⟩, 1, 1, 0, 1, fun W => by kernel_rfl, rfl, by decide, by decide, by decide, by decide⟩
  · exact ⟨⟨#[45]⟩, 1, 1, 0, 1, fun W => by kernel_rfl, rfl, by decide, by decide, by decide, by decide⟩
  · exact ⟨⟨#[42]⟩, 1, 1, 0, 1, fun W => by kernel_rfl, rfl, by decide, by decide, by decide, by decide⟩
  · exact ⟨⟨#[47]⟩, 1, 1, 0, 1, fun W => by kernel_rfl, rfl, by decide, by decide, by decide, by decide⟩
  · exact ⟨⟨#[37]⟩, 1, 1, 0, 1, fun W => by kernel_rfl, rfl, by decide, by decide, by decide, by decide⟩
  · exact ⟨⟨#[110, 101, 103]⟩, 1, 0, 0, 1, fun W => by kernel_rfl, rfl, by decide, by decide, by decide, by decide⟩
  · exact ⟨⟨#[108, 101, 110]⟩, 3, 0, 0, 1, fun W => by kernel_rfl, rfl, by decide, by decide, by decide, by decide⟩
  · exact ⟨⟨#[105, 102]⟩, 2, (-1), (-1), (-1), fun W => by kernel_rfl, rfl, by decide, by decide, by decide, by decide⟩
end Go.Proofs.YticdcnbeemkapaaGreatDoor
namespace Go.Proofs.YticdcnbeemkapaaGreatDoor
open Go.RowKit
set_option linter.unusedVariables false

/-- The words of the types, as the package's variable holds them. -/
structure TW (w : World) : Prop where
  c0 : w.cell? ⟨4, 0, none⟩ = some (.int .i64 1)
  c1 : w.cell? ⟨4, 1, none⟩ = some (.string ⟨#[105, 110, 116]⟩)
  c2 : w.cell? ⟨4, 2, none⟩ = some (.int .i64 2)
  c3 : w.cell? ⟨4, 3, none⟩ = some (.string ⟨#[98, 111, 111, 108]⟩)
  c4 : w.cell? ⟨4, 4, none⟩ = some (.int .i64 3)
  c5 : w.cell? ⟨4, 5, none⟩ = some (.string ⟨#[116, 101, 120, 116]⟩)
  lt : 4 < w.heap.size
theorem TW.on {w w' : World} (h : TW w) (hb : Below w.heap.size w w') : TW w' := by
  have hl := h.lt
  have hz := hb.size
  refine ⟨?_, ?_, ?_, ?_, ?_, ?_, by omega⟩
  · rw [hb.cell (p := ⟨4, 0, none⟩) hl]; exact h.c0
  · rw [hb.cell (p := ⟨4, 1, none⟩) hl]; exact h.c1
  · rw [hb.cell (p := ⟨4, 2, none⟩) hl]; exact h.c2
  · rw [hb.cell (p := ⟨4, 3, none⟩) hl]; exact h.c3
  · rw [hb.cell (p := ⟨4, 4, none⟩) hl]; exact h.c4
  · rw [hb.cell (p := ⟨4, 5, none⟩) hl]; exact h.c5
theorem cell_lt' {w : World} {b o : Nat} {v : Value} (h : w.cell? ⟨b, o, none⟩ = some v) : b < w.heap.size := by
  rcases Nat.lt_or_ge b w.heap.size with h' | h'
  · exact h'
  · simp [World.cell?, Array.getElem?_eq_none h'] at h
theorem bcells {W w1 : World} (hb : Below W.heap.size W w1) : (∀ b o, b < W.heap.size → w1.cell? ⟨b, o, none⟩ = W.cell? ⟨b, o, none⟩) ∧ (∀ b o, b < W.heap.size → w1.frozen? ⟨b, o, none⟩ = W.frozen? ⟨b, o, none⟩) :=
  ⟨fun b o h => hb.cell (p := ⟨b, o, none⟩) h, fun b o h => hb.frozen (p := ⟨b, o, none⟩) h⟩

theorem byType1_any (wt : Int) (ww : ByteArray) (t : Int) (p : Nat) (r : Bool) (w : World) (hp : w.cell? ⟨p, 0, none⟩ = some (.int .i64 t)) (hr : (wt == t) = r) :
    Calls Tryz.prog 95 #[.agg #[.int .i64 wt, .string ww], .pointer (some ⟨p, 0, none⟩)] w fun e w' => e = .returned (.bool r) ∧ Below w.heap.size w w' := by
  have hl := cell_lt' hp
  go_enter Tryz.func95, Tryz.ntmps95
  go_wp2
  go_ret
  exact ⟨by rw [← hr]; rfl, (Below.refl _ _).alloc (Nat.le_refl _) _⟩
theorem tw_0 (W : World) : Sem.run Tryz.prog (Instr.index 202 (.agg #[.int .i64 1, .string ⟨#[105, 110, 116]⟩, .int .i64 2, .string ⟨#[98, 111, 111, 108]⟩, .int .i64 3, .string ⟨#[116, 101, 120, 116]⟩]) (.int .i64 0)) W = .ok (.agg #[.int .i64 1, .string ⟨#[105, 110, 116]⟩]) W := by kernel_rfl
theorem tw_1 (W : World) : Sem.run Tryz.prog (Instr.index 202 (.agg #[.int .i64 1, .string ⟨#[105, 110, 116]⟩, .int .i64 2, .string ⟨#[98, 111, 111, 108]⟩, .int .i64 3, .string ⟨#[116, 101, 120, 116]⟩]) (.int .i64 1)) W = .ok (.agg #[.int .i64 2, .string ⟨#[98, 111, 111, 108]⟩]) W := by kernel_rfl
theorem tw_2 (W : World) : Sem.run Tryz.prog (Instr.index 202 (.agg #[.int .i64 1, .string ⟨#[105, 110, 116]⟩, .int .i64 2, .string ⟨#[98, 111, 111, 108]⟩, .int .i64 3, .string ⟨#[116, 101, 120, 116]⟩]) (.int .i64 2)) W = .ok (.agg #[.int .i64 3, .string ⟨#[116, 101, 120, 116]⟩]) W := by kernel_rfl
/-- What stays between the rounds: the result's cell, and what the closure reads. -/
structure FT (w wi : World) (p : Nat) (pv : Value) : Prop where
  below : Below w.heap.size w wi
  lt : w.heap.size < wi.heap.size
  c0 : wi.cell? ⟨w.heap.size, 0, none⟩ = some (.int .i64 0)
  c1 : wi.cell? ⟨w.heap.size, 1, none⟩ = some (.string ⟨#[]⟩)
  f0 : wi.frozen? ⟨w.heap.size, 0, none⟩ = false
  f1 : wi.frozen? ⟨w.heap.size, 1, none⟩ = false
  pc : wi.cell? ⟨p, 0, none⟩ = some pv
theorem FT.first {w : World} {p : Nat} {pv : Value} (hp : w.cell? ⟨p, 0, none⟩ = some pv) : FT w (w.alloc (.cells #[.int .i64 0, .string ⟨#[]⟩] 125)) p pv :=
  ⟨(Below.refl _ _).alloc (Nat.le_refl _) _, by simp, by rw [World.cell?_alloc_at _ _ _ _ rfl]; rfl, by rw [World.cell?_alloc_at _ _ _ _ rfl]; rfl, by simp, by simp, by rw [World.cell?_alloc_lt _ _ _ (cell_lt' hp)]; exact hp⟩
theorem FT.alloc {w wi : World} {p : Nat} {pv : Value} (h : FT w wi p pv) (o : Obj) : FT w (wi.alloc o) p pv :=
  ⟨h.below.alloc h.below.size _, by have := h.lt; simp; omega, by rw [World.cell?_alloc_lt _ _ _ h.lt]; exact h.c0, by rw [World.cell?_alloc_lt _ _ _ h.lt]; exact h.c1,
    by rw [World.frozen?_alloc_old _ _ _ (Nat.ne_of_lt h.lt)]; exact h.f0, by rw [World.frozen?_alloc_old _ _ _ (Nat.ne_of_lt h.lt)]; exact h.f1, by rw [World.cell?_alloc_lt _ _ _ (cell_lt' h.pc)]; exact h.pc⟩
theorem FT.next {w wi wj : World} {p : Nat} {pv : Value} (h : FT w wi p pv) (b : Below wi.heap.size wi wj) : FT w wj p pv := by
  obtain ⟨hc, hf⟩ := bcells b
  have hz := b.size
  exact ⟨h.below.trans (b.mono h.below.size), by have := h.lt; omega, by rw [hc _ _ h.lt]; exact h.c0, by rw [hc _ _ h.lt]; exact h.c1, by rw [hf _ _ h.lt]; exact h.f0, by rw [hf _ _ h.lt]; exact h.f1, by rw [hc _ _ (cell_lt' h.pc)]; exact h.pc⟩

set_option maxHeartbeats 4000000 in
set_option maxRecDepth 20000 in
theorem findT_1 (t : Int) (p : Nat) (w : World) (hw : TW w) (hp : w.cell? ⟨p, 0, none⟩ = some (.int .i64 t)) (h1 : ((1 : Int) == t) = true) :
    Calls Tryz.prog 94 #[.func (.func 95) #[] #[.pointer (some ⟨p, 0, none⟩)]] w fun e w' => e = .returned (.tuple #[.agg #[.int .i64 1, .string ⟨#[105, 110, 116]⟩], .bool true]) ∧ Below w.heap.size w w' := by
  obtain ⟨g0, g1, g2, g3, g4, g5, gl⟩ := hw
  have x0 := tw_0
  have x1 := tw_1
  have x2 := tw_2
  have F0 : FT w _ p (.int .i64 t) := FT.first hp
  go_enter Tryz.func94, Tryz.ntmps94
  go_wp2
  refine wp_loop_rounds 1 ?_
  rw [rounds_succ]
  go_wp2_with fail
  have F0a := F0.alloc (.cells #[.int .i64 1, .string ⟨#[105, 110, 116]⟩] 125)
  refine (byType1_any 1 ⟨#[105, 110, 116]⟩ t p true _ F0a.pc h1).mono ?_
  rintro e w1 ⟨rfl, b1⟩
  have F1 := F0a.next b1
  obtain ⟨hc1, hf1⟩ := bcells b1
  have l1 := F1.lt
  have q0 := F1.c0
  have q1 := F1.c1
  have q2 := F1.f0
  have q3 := F1.f1
  go_wp2
  refine bodyPost_ret (v := (.tuple #[.agg #[.int .i64 1, .string ⟨#[105, 110, 116]⟩], .bool true])) (by simp [results, Tryz.results94, go_sem, q0, q1]) rfl ⟨rfl, ?_⟩
  exact (F1.below.setCell (Nat.le_refl _) _).setCell (Nat.le_refl _) _
set_option maxHeartbeats 4000000 in
set_option maxRecDepth 20000 in
theorem findT_2 (t : Int) (p : Nat) (w : World) (hw : TW w) (hp : w.cell? ⟨p, 0, none⟩ = some (.int .i64 t)) (h1 : ((1 : Int) == t) = false) (h2 : ((2 : Int) == t) = true) :
    Calls Tryz.prog 94 #[.func (.func 95) #[] #[.pointer (some ⟨p, 0, none⟩)]] w fun e w' => e = .returned (.tuple #[.agg #[.int .i64 2, .string ⟨#[98, 111, 111, 108]⟩], .bool true]) ∧ Below w.heap.size w w' := by
  obtain ⟨g0, g1, g2, g3, g4, g5, gl⟩ := hw
  have x0 := tw_0
  have x1 := tw_1
  have x2 := tw_2
  have F0 : FT w _ p (.int .i64 t) := FT.first hp
  go_enter Tryz.func94, Tryz.ntmps94
  go_wp2
  refine wp_loop_rounds 2 ?_
  rw [rounds_succ]
  go_wp2_with fail
  have F0a := F0.alloc (.cells #[.int .i64 1, .string ⟨#[105, 110, 116]⟩] 125)
  refine (byType1_any 1 ⟨#[105, 110, 116]⟩ t p false _ F0a.pc h1).mono ?_
  rintro e w1 ⟨rfl, b1⟩
  have F1 := F0a.next b1
  obtain ⟨hc1, hf1⟩ := bcells b1
  have l1 := F1.lt
  go_wp2
  rw [rounds_succ]
  go_wp2_with fail
  have F1a := F1.alloc (.cells #[.int .i64 2, .string ⟨#[98, 111, 111, 108]⟩] 125)
  refine (byType1_any 2 ⟨#[98, 111, 111, 108]⟩ t p true _ F1a.pc h2).mono ?_
  rintro e w2 ⟨rfl, b2⟩
  have F2 := F1a.next b2
  obtain ⟨hc2, hf2⟩ := bcells b2
  have l2 := F2.lt
  have q0 := F2.c0
  have q1 := F2.c1
  have q2 := F2.f0
  have q3 := F2.f1
  go_wp2
  refine bodyPost_ret (v := (.tuple #[.agg #[.int .i64 2, .string ⟨#[98, 111, 111, 108]⟩], .bool true])) (by simp [results, Tryz.results94, go_sem, q0, q1]) rfl ⟨rfl, ?_⟩
  exact (F2.below.setCell (Nat.le_refl _) _).setCell (Nat.le_refl _) _
set_option maxHeartbeats 4000000 in
set_option maxRecDepth 20000 in
theorem findT_3 (t : Int) (p : Nat) (w : World) (hw : TW w) (hp : w.cell? ⟨p, 0, none⟩ = some (.int .i64 t)) (h1 : ((1 : Int) == t) = false) (h2 : ((2 : Int) == t) = false) (h3 : ((3 : Int) == t) = true) :
    Calls Tryz.prog 94 #[.func (.func 95) #[] #[.pointer (some ⟨p, 0, none⟩)]] w fun e w' => e = .returned (.tuple #[.agg #[.int .i64 3, .string ⟨#[116, 101, 120, 116]⟩], .bool true]) ∧ Below w.heap.size w w' := by
  obtain ⟨g0, g1, g2, g3, g4, g5, gl⟩ := hw
  have x0 := tw_0
  have x1 := tw_1
  have x2 := tw_2
  have F0 : FT w _ p (.int .i64 t) := FT.first hp
  go_enter Tryz.func94, Tryz.ntmps94
  go_wp2
  refine wp_loop_rounds 3 ?_
  rw [rounds_succ]
  go_wp2_with fail
  have F0a := F0.alloc (.cells #[.int .i64 1, .string ⟨#[105, 110, 116]⟩] 125)
  refine (byType1_any 1 ⟨#[105, 110, 116]⟩ t p false _ F0a.pc h1).mono ?_
  rintro e w1 ⟨rfl, b1⟩
  have F1 := F0a.next b1
  obtain ⟨hc1, hf1⟩ := bcells b1
  have l1 := F1.lt
  go_wp2
  rw [rounds_succ]
  go_wp2_with fail
  have F1a := F1.alloc (.cells #[.int .i64 2, .string ⟨#[98, 111, 111, 108]⟩] 125)
  refine (byType1_any 2 ⟨#[98, 111, 111, 108]⟩ t p false _ F1a.pc h2).mono ?_
  rintro e w2 ⟨rfl, b2⟩
  have F2 := F1a.next b2
  obtain ⟨hc2, hf2⟩ := bcells b2
  have l2 := F2.lt
  go_wp2
  rw [rounds_succ]
  go_wp2_with fail
  have F2a := F2.alloc (.cells #[.int .i64 3, .string ⟨#[116, 101, 120, 116]⟩] 125)
  refine (byType1_any 3 ⟨#[116, 101, 120, 116]⟩ t p true _ F2a.pc h3).mono ?_
  rintro e w3 ⟨rfl, b3⟩
  have F3 := F2a.next b3
  obtain ⟨hc3, hf3⟩ := bcells b3
  have l3 := F3.lt
  have q0 := F3.c0
  have q1 := F3.c1
  have q2 := F3.f0
  have q3 := F3.f1
  go_wp2
  refine bodyPost_ret (v := (.tuple #[.agg #[.int .i64 3, .string ⟨#[116, 101, 120, 116]⟩], .bool true])) (by simp [results, Tryz.results94, go_sem, q0, q1]) rfl ⟨rfl, ?_⟩
  exact (F3.below.setCell (Nat.le_refl _) _).setCell (Nat.le_refl _) _
set_option maxHeartbeats 4000000 in
set_option maxRecDepth 20000 in
theorem findT_0 (t : Int) (p : Nat) (w : World) (hw : TW w) (hp : w.cell? ⟨p, 0, none⟩ = some (.int .i64 t)) (h1 : ((1 : Int) == t) = false) (h2 : ((2 : Int) == t) = false) (h3 : ((3 : Int) == t) = false) :
    Calls Tryz.prog 94 #[.func (.func 95) #[] #[.pointer (some ⟨p, 0, none⟩)]] w fun e w' => e = .returned (.tuple #[.agg #[.int .i64 0, .string ⟨#[]⟩], .bool false]) ∧ Below w.heap.size w w' := by
  obtain ⟨g0, g1, g2, g3, g4, g5, gl⟩ := hw
  have x0 := tw_0
  have x1 := tw_1
  have x2 := tw_2
  have F0 : FT w _ p (.int .i64 t) := FT.first hp
  go_enter Tryz.func94, Tryz.ntmps94
  go_wp2
  refine wp_loop_rounds 4 ?_
  rw [rounds_succ]
  go_wp2_with fail
  have F0a := F0.alloc (.cells #[.int .i64 1, .string ⟨#[105, 110, 116]⟩] 125)
  refine (byType1_any 1 ⟨#[105, 110, 116]⟩ t p false _ F0a.pc h1).mono ?_
  rintro e w1 ⟨rfl, b1⟩
  have F1 := F0a.next b1
  obtain ⟨hc1, hf1⟩ := bcells b1
  have l1 := F1.lt
  go_wp2
  rw [rounds_succ]
  go_wp2_with fail
  have F1a := F1.alloc (.cells #[.int .i64 2, .string ⟨#[98, 111, 111, 108]⟩] 125)
  refine (byType1_any 2 ⟨#[98, 111, 111, 108]⟩ t p false _ F1a.pc h2).mono ?_
  rintro e w2 ⟨rfl, b2⟩
  have F2 := F1a.next b2
  obtain ⟨hc2, hf2⟩ := bcells b2
  have l2 := F2.lt
  go_wp2
  rw [rounds_succ]
  go_wp2_with fail
  have F2a := F2.alloc (.cells #[.int .i64 3, .string ⟨#[116, 101, 120, 116]⟩] 125)
  refine (byType1_any 3 ⟨#[116, 101, 120, 116]⟩ t p false _ F2a.pc h3).mono ?_
  rintro e w3 ⟨rfl, b3⟩
  have F3 := F2a.next b3
  obtain ⟨hc3, hf3⟩ := bcells b3
  have l3 := F3.lt
  go_wp2
  rw [rounds_succ]
  have q0 := F3.c0
  have q1 := F3.c1
  have q2 := F3.f0
  have q3 := F3.f1
  go_wp2
  refine bodyPost_ret (v := (.tuple #[.agg #[.int .i64 0, .string ⟨#[]⟩], .bool false])) (by simp [results, Tryz.results94, go_sem, q0, q1]) rfl ⟨rfl, ?_⟩
  exact (F3.below.setCell (Nat.le_refl _) _).setCell (Nat.le_refl _) _
end Go.Proofs.YticdcnbeemkapaaGreatDoor
namespace Go.Proofs.YticdcnbeemkapaaGreatDoor
open Go.RowKit
set_option linter.unusedVariables false

def wordOf (t : Int) : ByteArray := if t = 1 then ⟨#[105, 110, 116]⟩ else if t = 2 then ⟨#[98, 111, 111, 108]⟩ else ⟨#[116, 101, 120, 116]⟩
theorem Pair.new (w : World) (x y : Value) (t : TypeId) : (w.alloc (.cells #[x, y] t)).cell? ⟨w.heap.size, 0, none⟩ = some x ∧ (w.alloc (.cells #[x, y] t)).cell? ⟨w.heap.size, 1, none⟩ = some y ∧ (w.alloc (.cells #[x, y] t)).frozen? ⟨w.heap.size, 0, none⟩ = false ∧ (w.alloc (.cells #[x, y] t)).frozen? ⟨w.heap.size, 1, none⟩ = false :=
  ⟨by rw [World.cell?_alloc_at _ _ _ _ rfl]; rfl, by rw [World.cell?_alloc_at _ _ _ _ rfl]; rfl, by simp, by simp⟩
set_option maxHeartbeats 1000000 in
theorem byType_as (t a : Int) (s : ByteArray) (r : Bool) (w : World) (hw : TW w)
    (h : ∀ (p : Nat) (W : World), TW W → W.cell? ⟨p, 0, none⟩ = some (.int .i64 t) → Calls Tryz.prog 94 #[.func (.func 95) #[] #[.pointer (some ⟨p, 0, none⟩)]] W fun e w' => e = .returned (.tuple #[.agg #[.int .i64 a, .string s], .bool r]) ∧ Below W.heap.size W w') :
    Calls Tryz.prog 59 #[.int .i64 t] w fun e w' => e = .returned (.tuple #[.agg #[.int .i64 a, .string s], .bool r]) ∧ Below w.heap.size w w' := by
  have B0 : Below w.heap.size w ((w.alloc (.cells #[.int .i64 t] 3)).alloc (.cells #[.int .i64 0, .string ⟨#[]⟩] 125)) := ((Below.refl _ _).alloc (Nat.le_refl _) _).alloc (by simp) _
  have hcall := h w.heap.size _ (hw.on B0) (by rw [World.cell?_alloc_lt _ _ _ (by simp), World.cell?_alloc_at _ _ _ _ rfl]; rfl)
  obtain ⟨r0, r1, r2, r3⟩ := Pair.new (w.alloc (.cells #[.int .i64 t] 3)) (.int .i64 0) (.string ⟨#[]⟩) 125
  rw [show (w.alloc (.cells #[.int .i64 t] 3)).heap.size = w.heap.size + 1 by simp] at r0 r1 r2 r3
  go_enter Tryz.func59, Tryz.ntmps59
  go_wp2_with fail
  refine hcall.mono ?_
  rintro e w1 ⟨rfl, b1⟩
  obtain ⟨hc1, hf1⟩ := bcells b1
  have hz := b1.size
  have q0 := (hc1 (w.heap.size + 1) 0 (by simp)).trans r0
  have q1 := (hc1 (w.heap.size + 1) 1 (by simp)).trans r1
  have q2 := (hf1 (w.heap.size + 1) 0 (by simp)).trans r2
  have q3 := (hf1 (w.heap.size + 1) 1 (by simp)).trans r3
  have ql : w.heap.size + 1 < w1.heap.size := by simp at hz; omega
  clear hc1 hf1 r0 r1 r2 r3
  go_wp2
  refine bodyPost_ret (v := .tuple #[.agg #[.int .i64 a, .string s], .bool r]) (by simp [results, Tryz.results59, go_sem, q0, q1]) rfl ⟨rfl, ?_⟩
  exact ((B0.trans (b1.mono B0.size)).setCell (by simp) _).setCell (by simp) _
theorem byType_yes (t : Int) (w : World) (hw : TW w) (ht : 1 ≤ t ∧ t ≤ 3) :
    Calls Tryz.prog 59 #[.int .i64 t] w fun e w' => e = .returned (.tuple #[.agg #[.int .i64 t, .string (wordOf t)], .bool true]) ∧ Below w.heap.size w w' := by
  have h3 : t = 1 ∨ t = 2 ∨ t = 3 := by omega
  rcases h3 with rfl | rfl | rfl
  · exact byType_as 1 1 _ true w hw fun p W hW hp => findT_1 1 p W hW hp rfl
  · exact byType_as 2 2 _ true w hw fun p W hW hp => findT_2 2 p W hW hp rfl rfl
  · exact byType_as 3 3 _ true w hw fun p W hW hp => findT_3 3 p W hW hp rfl rfl rfl
theorem byType_no (t : Int) (w : World) (hw : TW w) (ht : ¬ (1 ≤ t ∧ t ≤ 3)) :
    Calls Tryz.prog 59 #[.int .i64 t] w fun e w' => e = .returned (.tuple #[.agg #[.int .i64 0, .string ⟨#[]⟩], .bool false]) ∧ Below w.heap.size w w' :=
  byType_as t 0 _ false w hw fun p W hW hp => findT_0 t p W hW hp (by simp; omega) (by simp; omega) (by simp; omega)

/-- An error by its number. -/
def errR (k : Int) : Value := if k = 0 then .nilIface else .iface 42 (.int .i64 k)
theorem errR_z {k : Int} (h : k = 0) : errR k = .nilIface := by rw [errR, if_pos h]
theorem errR_n {k : Int} (h : k ≠ 0) : errR k = .iface 42 (.int .i64 k) := by rw [errR, if_neg h]
/-- The fault of a column behind others. -/
def colE (ahead : List (ByteArray × Int)) (nm : List UInt8) (t : Int) : Int :=
  if nameB nm = false then 2 else if ¬ (1 ≤ t ∧ t ≤ 3) then 1 else if 0 ≤ findN nm ahead then 7 else 0
def schGo : List (ByteArray × Int) → List (ByteArray × Int) → Int
  | _, [] => 0
  | a, c :: r => if colE a c.1.data.toList c.2 ≠ 0 then colE a c.1.data.toList c.2 else schGo (a ++ [c]) r
/-- The fault of a schema. -/
def schE (zs : List (ByteArray × Int)) : Int := if zs.length = 0 then 5 else if 6 < zs.length then 4 else schGo [] zs

set_option maxHeartbeats 2000000 in
theorem checkCol_any (nm : ByteArray) (t : Int) (b off c : Nat) (zs : List (ByteArray × Int)) (w : World) (hs : nm.size ≤ maxLen) (hw : TW w) (hn : zs.length ≤ 9223372036854775807) (hc : ColsIn w b off zs) :
    Calls Tryz.prog 28 #[.agg #[.string nm, .int .i64 t], .slice (some ⟨b, off, none⟩) zs.length c] w fun e w' => e = .returned (errR (colE zs nm.data.toList t)) ∧ Below w.heap.size w w' := by
  have B0 : Below w.heap.size w (w.alloc (.cells #[.string nm, .int .i64 t] 30)) := (Below.refl _ _).alloc (Nat.le_refl _) _
  obtain ⟨r0, r1, _, _⟩ := Pair.new w (.string nm) (.int .i64 t) 30
  have hcE : colE zs nm.data.toList t = if nameB nm.data.toList = false then 2 else if ¬ (1 ≤ t ∧ t ≤ 3) then 1 else if 0 ≤ findN nm.data.toList zs then 7 else 0 := rfl
  by_cases h1 : nameB nm.data.toList = false
  · rw [if_pos h1] at hcE
    rw [hcE]
    clear hcE
    have cN := isName_any nm (w.alloc (.cells #[.string nm, .int .i64 t] 30)) hs
    rw [h1] at cN
    go_enter Tryz.func28, Tryz.ntmps28
    go_wp2_with fail
    refine cN.mono ?_
    rintro e w1 ⟨rfl, b1⟩
    go_wp2
    go_ret
    exact ⟨rfl, B0.trans (b1.mono B0.size)⟩
  · rw [if_neg h1] at hcE
    have cN := isName_any nm (w.alloc (.cells #[.string nm, .int .i64 t] 30)) hs
    rw [show nameB nm.data.toList = true by simpa using h1] at cN
    clear h1
    by_cases h2 : 1 ≤ t ∧ t ≤ 3
    · rw [if_neg (by simpa using h2)] at hcE
      generalize hf : findN nm.data.toList zs = fi at hcE
      have HF : Hid (findN nm.data.toList zs = fi) := hf
      clear hf
      have cT : ∀ W, TW W → _ := fun W hW => byType_yes t W hW h2
      generalize wordOf t = wd at cT
      go_enter Tryz.func28, Tryz.ntmps28
      go_wp2_with fail
      refine cN.mono ?_
      rintro e w1 ⟨rfl, b1⟩
      obtain ⟨hc1, hf1⟩ := bcells b1
      have l1 : w.heap.size < w1.heap.size := by have := b1.size; simp at this; omega
      have q0 := (hc1 w.heap.size 0 (by simp)).trans r0
      have q1 := (hc1 w.heap.size 1 (by simp)).trans r1
      have B1 := B0.trans (b1.mono B0.size)
      clear hc1 hf1 b1
      go_wp2_with fail
      refine (cT w1 (hw.on B1)).mono ?_
      rintro e w2 ⟨rfl, b2⟩
      obtain ⟨hc2, hf2⟩ := bcells b2
      have l2 : w.heap.size < w2.heap.size := by have := b2.size; omega
      have p0 := (hc2 w.heap.size 0 l1).trans q0
      have p1 := (hc2 w.heap.size 1 l1).trans q1
      have B2 := B1.trans (b2.mono B1.size)
      clear hc2 hf2 b2 q0 q1 l1
      go_wp2_with fail
      have B3 := B2.alloc B2.size (.cells #[.int .i64 t, .string wd] 125)
      refine (place_any nm b off c zs _ hn (hc.on B3)).mono ?_
      rintro e w3 ⟨rfl, b3⟩
      have B4 := B3.trans (b3.mono B3.size)
      rw [HF.out]
      by_cases h3 : 0 ≤ fi
      · rw [if_pos h3] at hcE
        go_wp2
        go_ret
        exact ⟨by rw [hcE]; rfl, B4⟩
      · rw [if_neg h3] at hcE
        go_wp2
        go_ret
        exact ⟨by rw [hcE]; rfl, B4⟩
    · rw [if_pos h2] at hcE
      rw [hcE]
      clear hcE
      have cT : ∀ W, TW W → _ := fun W hW => byType_no t W hW h2
      clear h2
      go_enter Tryz.func28, Tryz.ntmps28
      go_wp2_with fail
      refine cN.mono ?_
      rintro e w1 ⟨rfl, b1⟩
      obtain ⟨hc1, hf1⟩ := bcells b1
      have l1 : w.heap.size < w1.heap.size := by have := b1.size; simp at this; omega
      have q0 := (hc1 w.heap.size 0 (by simp)).trans r0
      have q1 := (hc1 w.heap.size 1 (by simp)).trans r1
      have B1 := B0.trans (b1.mono B0.size)
      clear hc1 hf1 b1
      go_wp2_with fail
      refine (cT w1 (hw.on B1)).mono ?_
      rintro e w2 ⟨rfl, b2⟩
      have B2 := B1.trans (b2.mono B1.size)
      go_wp2
      go_ret
      exact ⟨rfl, B2.alloc B2.size _⟩
end Go.Proofs.YticdcnbeemkapaaGreatDoor
namespace Go.Proofs.YticdcnbeemkapaaGreatDoor
open Go.RowKit
set_option linter.unusedVariables false

theorem schema_none (p : Option Addr) (c : Nat) (w : World) :
    Calls Tryz.prog 12 #[.slice p 0 c] w fun e w' => e = .returned (errR 5) ∧ w' = w := by
  go_enter Tryz.func12, Tryz.ntmps12
  go_wp2
  go_ret
  exact ⟨rfl, rfl⟩
theorem schema_full (p : Option Addr) (n c : Nat) (w : World) (hn : 6 < n) :
    Calls Tryz.prog 12 #[.slice p n c] w fun e w' => e = .returned (errR 4) ∧ w' = w := by
  have h0 : ((n : Int) == 0) = false := by simp; omega
  have h6 : (6 : Int) < (n : Int) := by omega
  go_enter Tryz.func12, Tryz.ntmps12
  go_wp2
  go_ret
  exact ⟨rfl, rfl⟩
theorem schGo_at {zs : List (ByteArray × Int)} {k : Nat} (h : k < zs.length) : schGo (zs.take k) (zs.drop k) = if colE (zs.take k) zs[k].1.data.toList zs[k].2 ≠ 0 then colE (zs.take k) zs[k].1.data.toList zs[k].2 else schGo (zs.take (k + 1)) (zs.drop (k + 1)) := by
  rw [List.drop_eq_getElem_cons h, schGo, List.take_succ_eq_append_getElem h]
/-- Is an error nil? -/
theorem err_neq (k : Int) (W : World) : Sem.run Tryz.prog (binOp .neq 33 (errR k) .nilIface) W = .ok (.bool (k != 0)) W := by
  by_cases h : k = 0
  · subst h; kernel_rfl
  · rw [errR_n h, show (k != 0) = true by simpa using h]; kernel_rfl
theorem err_gneq (k : Int) (W : World) (j : Nat) : Sem.run Tryz.prog (eqGuard .neq 33 (.tmp j) (.const .nilIface) (errR k) .nilIface) W = .ok () W := by
  by_cases h : k = 0
  · subst h; kernel_rfl
  · rw [errR_n h]; kernel_rfl
set_option maxHeartbeats 2000000 in
theorem schema_some (b off c : Nat) (zs : List (ByteArray × Int)) (w : World) (hw : TW w) (h1 : zs.length ≠ 0) (h6 : ¬ 6 < zs.length) (hcap : zs.length ≤ c) (hl : ∀ z ∈ zs, z.1.size ≤ maxLen) (hc : ColsIn w b off zs) :
    Calls Tryz.prog 12 #[.slice (some ⟨b, off, none⟩) zs.length c] w fun e w' => e = .returned (errR (schGo [] zs)) ∧ Below w.heap.size w w' := by
  have z0 : ((zs.length : Int) == 0) = false := by rw [beq_eq_false_iff_ne]; omega
  have z6 : ¬ (6 : Int) < (zs.length : Int) := by omega
  obtain ⟨E, hE⟩ : ∃ E, schGo [] zs = E := ⟨_, rfl⟩
  rw [hE]
  go_enter Tryz.func12, Tryz.ntmps12
  go_wp2
  go_loopg [3, 4, 5, 16] zs.length (fun gg _ _ _ s8 wr => ∃ kk : Nat, kk ≤ zs.length ∧ zs.length - kk ≤ gg ∧ s8 = .int .i64 kk ∧ Aside (Below w.heap.size w wr) ∧ Hid (E = schGo (zs.take kk) (zs.drop kk)))
  case atStart => exact ⟨0, Nat.zero_le _, by omega, rfl, Below.refl _ w, (show Hid _ by simp [Hid, hE])⟩
  case round =>
    obtain ⟨kk, hkk, hg, rfl, BW, HS⟩ := hrel
    by_cases hlt : kk < zs.length
    · have hltz : (kk : Int) < (zs.length : Int) := by omega
      have hin := hc.on BW.out
      obtain ⟨c0, c1⟩ := hin.2 kk hlt
      have HS2 : Hid (E = if colE (zs.take kk) zs[kk].1.data.toList zs[kk].2 ≠ 0 then colE (zs.take kk) zs[kk].1.data.toList zs[kk].2 else schGo (zs.take (kk + 1)) (zs.drop (kk + 1))) := HS.out.trans (schGo_at hlt)
      have hsz := hl _ (List.getElem_mem hlt)
      generalize hy : zs[kk] = y at c0 c1 HS2 hsz
      obtain ⟨yn, yt⟩ := y
      have B1 := BW.out.alloc BW.out.size (.cells #[.string yn, .int .i64 yt] 30)
      have hlen : (zs.take kk).length = kk := by rw [List.length_take]; omega
      have cC := fun q => checkCol_any yn yt b off c (zs.take kk) ((wr.alloc (.cells #[.string yn, .int .i64 yt] 30)).drewN q) hsz (hw.on (below_drewN B1 q)) (by omega) ((hc.on (below_drewN B1 q)).take kk)
      rw [hlen] at cC
      simp only at HS2
      generalize hce : colE (zs.take kk) yn.data.toList yt = ce at cC HS2
      have e1 := err_neq ce
      have e2 := err_gneq ce
      have k1 : (0 : Int) ≤ (kk : Int) := by omega
      have k2 : (kk : Int) ≤ (c : Int) := by omega
      clear HS hy hin hc hl hce
      go_wp2
      go_region_with (go_at_call 28; refine (cC _).mono ?_; rintro e w' ⟨rfl, b2⟩)
      have B2 := (below_drewN B1 _).trans (b2.mono (below_drewN B1 _).size)
      by_cases hz : ce = 0
      · have hb : (ce != 0) = false := by simpa using hz
        rw [hb] at e1
        have HS3 : Hid (E = schGo (zs.take (kk + 1)) (zs.drop (kk + 1))) := by
          have := HS2.out
          rwa [if_neg (by simpa using hz)] at this
        clear HS2 hz hb
        go_wp2
        go_roundg (zs.length - (kk + 1))
        case measure => omega
        case rel => exact ⟨kk + 1, by omega, by omega, by go_num, B2, HS3⟩
      · have hb : (ce != 0) = true := by simpa using hz
        rw [hb] at e1
        have HS3 : E = ce := by
          have := HS2.out
          rwa [if_pos hz] at this
        subst HS3
        clear HS2 hz hb
        go_wp2
        go_ret
        exact ⟨rfl, B2⟩
    · have hltz : ¬ (kk : Int) < (zs.length : Int) := by omega
      have : kk = zs.length := by omega
      have hz : E = 0 := by
        rw [HS.out, this, List.drop_length]; cases zs.take zs.length <;> rfl
      subst hz
      clear HS
      go_wp2
      go_ret
      exact ⟨rfl, BW.out⟩
theorem schema_any (b off c : Nat) (zs : List (ByteArray × Int)) (w : World) (hw : TW w) (hcap : zs.length ≤ c) (hl : ∀ z ∈ zs, z.1.size ≤ maxLen) (hc : ColsIn w b off zs) :
    Calls Tryz.prog 12 #[.slice (some ⟨b, off, none⟩) zs.length c] w fun e w' => e = .returned (errR (schE zs)) ∧ Below w.heap.size w w' := by
  rw [schE]
  by_cases h1 : zs.length = 0
  · rw [if_pos h1, h1]
    exact (schema_none _ c w).mono fun e w' hh => ⟨hh.1, by rw [hh.2]; exact Below.refl _ _⟩
  · rw [if_neg h1]
    by_cases h6 : 6 < zs.length
    · rw [if_pos h6]
      exact (schema_full _ _ c w h6).mono fun e w' hh => ⟨hh.1, by rw [hh.2]; exact Below.refl _ _⟩
    · rw [if_neg h6]
      exact schema_some b off c zs w hw h1 h6 hcap hl hc
/-- Of a schema that is right the names differ: each is found where it is. -/
theorem schGo_zero : ∀ (a r : List (ByteArray × Int)), schGo a r = 0 → ∀ k (h : k < r.length), colE (a ++ r.take k) r[k].1.data.toList r[k].2 = 0
  | a, [], _, k, h => absurd h (by simp)
  | a, c :: r, h0, k, h => by
    rw [schGo] at h0
    by_cases hc : colE a c.1.data.toList c.2 = 0
    · rw [if_neg (by simpa using hc)] at h0
      cases k with
      | zero => simpa using hc
      | succ k =>
        have := schGo_zero (a ++ [c]) r h0 k (by simpa using h)
        simpa [List.append_assoc] using this
    · rw [if_pos hc] at h0
      exact absurd h0 hc
theorem colE_zero {a : List (ByteArray × Int)} {nm : List UInt8} {t : Int} (h : colE a nm t = 0) : nameB nm = true ∧ (1 ≤ t ∧ t ≤ 3) ∧ findN nm a = -1 := by
  rw [colE] at h
  split at h
  · exact absurd h (by decide)
  · rename_i h1
    split at h
    · exact absurd h (by decide)
    · rename_i h2
      split at h
      · exact absurd h (by decide)
      · rename_i h3
        refine ⟨by simpa using h1, Classical.not_not.1 h2, ?_⟩
        rcases findN_cases nm a with ⟨e, _⟩ | ⟨k, e, _⟩
        · exact e
        · rw [e] at h3; exact absurd (by omega) h3
theorem schE_zero {zs : List (ByteArray × Int)} (h : schE zs = 0) : zs.length ≠ 0 ∧ zs.length ≤ 6 ∧ ∀ k (h : k < zs.length), nameB zs[k].1.data.toList = true ∧ (1 ≤ zs[k].2 ∧ zs[k].2 ≤ 3) ∧ findN zs[k].1.data.toList zs = k := by
  rw [schE] at h
  split at h
  · exact absurd h (by decide)
  · rename_i h1
    split at h
    · exact absurd h (by decide)
    · rename_i h6
      refine ⟨h1, by omega, fun k hk => ?_⟩
      obtain ⟨e1, e2, e3⟩ := colE_zero (schGo_zero [] zs h k hk)
      refine ⟨e1, e2, findN_hit hk rfl fun j hj he => ?_⟩
      rcases findN_cases zs[k].1.data.toList ([] ++ zs.take k) with ⟨_, hn⟩ | ⟨i, ei, _⟩
      · have hj2 : j < ([] ++ zs.take k).length := by simp; omega
        have := hn j hj2
        simp only [List.nil_append, List.getElem_take] at this
        exact this he
      · rw [e3] at ei; omega
end Go.Proofs.YticdcnbeemkapaaGreatDoor
