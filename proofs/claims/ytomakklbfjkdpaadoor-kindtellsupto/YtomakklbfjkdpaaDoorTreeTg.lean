/-
  Is an expression too great (package tree)?
-/
import Derived.Test.YtomakklbfjkdpaaDoorTreeWk
namespace Go.Proofs.YtomakklbfjkdpaaDoor
open Go.RowKit Go.BigFrame
set_option linter.unusedVariables false

def ftg (s : Nat) (x : Ex) (d : Nat) : Nat × Bool := (s + 1, decide (s + 1 ≤ 200) && decide (d ≤ 30))
/-- Too many nodes, or too deep. -/
def tgB (x : Ex) : Bool := !(foldP ftg 0 (x.pre 1)).2
/-- A number that is counted on. -/
def CntIn (p : Nat) (W : World) (s : Nat) (m : Nat) : Prop := W.cell? ⟨p, 0, none⟩ = some (.int .i64 (s : Int)) ∧ W.frozen? ⟨p, 0, none⟩ = false ∧ p < W.heap.size ∧ s ≤ 200
set_option maxHeartbeats 1000000 in
set_option maxRecDepth 20000 in
theorem tg1_any (p : Nat) (W : World) (v : Value) (lo : Nat → Prop) (x : Ex) (d s m : Nat) (hx : ExIn W lo v x) (hd : d ≤ 1048577) (hs : CntIn p W s (m + 1)) :
    Calls Tryd.prog 48 #[v, .int .i64 (d : Int), .pointer (some ⟨p, 0, none⟩)] W fun e w' => e = .returned (.bool (ftg s x d).2) ∧ ((ftg s x d).2 = true → CntIn p w' (ftg s x d).1 m) ∧ ((ftg s x d).2 = false → True) ∧ But p W w' := by
  obtain ⟨o1, n1, t1, k1, s1, p1, m1, c1, a1, rfl⟩ := hx.agg
  obtain ⟨h1, h2, h3, h4⟩ := hs
  have bb := But.alloc (But.refl p W) (by omega) (.cells #[.string o1, .string n1, .int .i64 t1, .int .i64 k1, .string s1, .slice p1 m1 c1, .int .i64 a1] 27)
  have BF : Aside (∀ u, But p W ((W.setCell ⟨p, 0, none⟩ u).alloc (.cells #[.string o1, .string n1, .int .i64 t1, .int .i64 k1, .string s1, .slice p1 m1 c1, .int .i64 a1] 27))) := fun u => ((But.refl p W).set 0 u).alloc (by simp [World.setCell]; omega) _
  clear bb
  by_cases h200 : s + 1 ≤ 200
  · have h200z : (s : Int) + 1 ≤ 200 := by omega
    by_cases h30 : d ≤ 30
    · have h30z : (d : Int) ≤ 30 := by omega
      have hR : ftg s x d = (s + 1, true) := by rw [ftg, decide_eq_true h200, decide_eq_true h30]; rfl
      rw [hR]
      have hC : Aside (CntIn p ((W.setCell ⟨p, 0, none⟩ (.int .i64 ((s : Int) + 1))).alloc (.cells #[.string o1, .string n1, .int .i64 t1, .int .i64 k1, .string s1, .slice p1 m1 c1, .int .i64 a1] 27)) (s + 1) m) := by
        refine ⟨?_, ?_, by simp [World.setCell]; omega, by omega⟩
        · rw [World.cell?_alloc_past _ _ _ (by simpa [World.setCell] using h3), World.cell?_setCell_same W ⟨p, 0, none⟩ _ h1]
          rfl
        · rw [World.frozen?_alloc_past _ _ _ (by simpa [World.setCell] using h3)]
          simpa using h2
      clear hx hR h200 h30 h4
      generalize s + 1 = S2 at hC ⊢
      go_enter Tryd.func48, Tryd.ntmps48
      go_wp2
      go_ret
      first
        | exact ⟨ret_bool (by simp), fun _ => hC.out, fun _ => trivial, BF.out _⟩
        | exact ⟨ret_bool (by simp [h30z]), hC.out, BF.out _⟩
        | exact ⟨rfl, hC.out, BF.out _⟩
    · have h30z : ¬ (d : Int) ≤ 30 := by omega
      have hR : ftg s x d = (s + 1, false) := by rw [ftg, decide_eq_false h30, Bool.and_false]
      rw [hR]
      clear hx hR h200 h30 h4
      generalize s + 1 = S2
      go_enter Tryd.func48, Tryd.ntmps48
      go_wp2
      go_ret
      first
        | exact ⟨ret_bool (by simp), BF.out _⟩
        | exact ⟨ret_bool (by simp [h30z]), BF.out _⟩
        | exact ⟨rfl, BF.out _⟩
  · have h200z : ¬ (s : Int) + 1 ≤ 200 := by omega
    have hR : ftg s x d = (s + 1, false) := by rw [ftg, decide_eq_false h200, Bool.false_and]
    rw [hR]
    clear hx hR h200
    generalize s + 1 = S2
    go_enter Tryd.func48, Tryd.ntmps48
    go_wp2
    go_ret
    exact ⟨rfl, BF.out _⟩
set_option maxHeartbeats 1000000 in
theorem tooGreat_any (x : Ex) (lo : Nat → Prop) (v : Value) (w : World) (hx : ExIn w lo v x) (hsz : (x.pre 1).length ≤ 1048576) :
    Calls Tryd.prog 32 #[v] w fun e w' => e = .returned (.bool (tgB x)) ∧ Below w.heap.size w w' := by
  obtain ⟨o1, n1, t1, k1, s1, p1, m1, c1, a1, rfl⟩ := hx.agg
  have b1 : Below w.heap.size w ((w.alloc (.cells #[.string o1, .string n1, .int .i64 t1, .int .i64 k1, .string s1, .slice p1 m1 c1, .int .i64 a1] 27)).alloc (.cells #[.int .i64 0] 3)) := (al w _).trans ((al _ _).mono (by simp))
  have cW := walk_any ftg 48 (fun args W => by kernel_rfl) (w.heap.size + 1) (CntIn (w.heap.size + 1)) (fun _ _ => True) (fun b => lo b ∧ b < w.heap.size) _ _ x 0 (by simp) ((ExIn.low (fun b h1 h2 => ⟨h2, h1⟩) _ _ hx).on b1) (fun b h1 _ => by have := h1.2; omega) hsz
    (fun W v y d s m _ hy hd hs => tg1_any _ W v _ y d s m hy hd hs)
    (fun W W' s m hb hz hs => by
      obtain ⟨h1, h2, h3, h4⟩ := hs
      exact ⟨by rw [hb.cell (p := ⟨w.heap.size + 1, 0, none⟩) (by simp)]; exact h1, by rw [hb.frozen (p := ⟨w.heap.size + 1, 0, none⟩) (by simp)]; exact h2, by omega, h4⟩)
    ⟨by rw [World.cell?_alloc_at _ _ _ _ (by simp)]; rfl, by rw [World.frozen?_alloc_at _ _ _ _ (by simp)], by simp, by omega⟩
  rw [tgB]
  generalize foldP ftg 0 (x.pre 1) = T at cW
  obtain ⟨T1, T2⟩ := T
  simp only at cW ⊢
  go_enter Tryd.func32, Tryd.ntmps32
  go_wp2_with fail
  refine cW.mono ?_
  rintro e w2 ⟨rfl, _, _, b2⟩
  have b3 : Below w.heap.size w w2 := b1.trans (b2.below.mono (by omega))
  go_wp2
  go_ret
  exact ⟨rfl, b3⟩
end Go.Proofs.YtomakklbfjkdpaaDoor
