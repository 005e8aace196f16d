/-
  Size of package tree: how many nodes an expression has.
-/
import Derived.Test.YtnpinbpjfngknaaGreatDoorLo6
namespace Go.Proofs.YtnpinbpjfngknaaGreatDoor
open Go.RowKit Go.BigFrame
set_option linter.unusedVariables false

def fsz (s : Nat) (x : Ex) (d : Nat) : Nat × Bool := (s + 1, true)
theorem fold_sz : ∀ (l : List (Ex × Nat)) (s : Nat), foldP fsz s l = (s + l.length, true)
  | [], s => by rw [foldP]; rfl
  | q :: r, s => by
    rw [foldP, if_pos (show (fsz s q.1 q.2).2 = true from rfl), fold_sz r]
    simp [fsz]
    omega
/-- A number that is counted on, and is not over. -/
def SizIn (p : Nat) (W : World) (s : Nat) (m : Nat) : Prop := W.cell? ⟨p, 0, none⟩ = some (.int .i64 (s : Int)) ∧ W.frozen? ⟨p, 0, none⟩ = false ∧ p < W.heap.size ∧ s + m ≤ 1048576
set_option maxHeartbeats 1000000 in
set_option maxRecDepth 20000 in
theorem sz1_any (p : Nat) (W : World) (v : Value) (lo : Nat → Prop) (x : Ex) (d s m : Nat) (hx : ExIn W lo v x) (hd : d ≤ 1048577) (hs : SizIn p W s (m + 1)) :
    Calls Tryz.prog 31 #[v, .int .i64 (d : Int), .pointer (some ⟨p, 0, none⟩)] W fun e w' => e = .returned (.bool (fsz s x d).2) ∧ ((fsz s x d).2 = true → SizIn p w' (fsz s x d).1 m) ∧ ((fsz s x d).2 = false → True) ∧ But p W w' := by
  obtain ⟨o1, n1, t1, k1, s1, p1, m1, c1, a1, rfl⟩ := hx.agg
  obtain ⟨h1, h2, h3, h4⟩ := hs
  have BF : Aside (∀ u, But p W ((W.setCell ⟨p, 0, none⟩ u).alloc (.cells #[.string o1, .string n1, .int .i64 t1, .int .i64 k1, .string s1, .slice p1 m1 c1, .int .i64 a1] 26))) := fun u => ((But.refl p W).set 0 u).alloc (by simp [World.setCell]; omega) _
  have hsz : (s : Int) + 1 ≤ 9223372036854775807 := by omega
  have hs0 : (0 : Int) ≤ (s : Int) := by omega
  have hC : Aside (SizIn p ((W.setCell ⟨p, 0, none⟩ (.int .i64 ((s : Int) + 1))).alloc (.cells #[.string o1, .string n1, .int .i64 t1, .int .i64 k1, .string s1, .slice p1 m1 c1, .int .i64 a1] 26)) (s + 1) m) := by
    refine ⟨?_, ?_, by simp [World.setCell]; omega, by omega⟩
    · rw [World.cell?_alloc_past _ _ _ (by simpa [World.setCell] using h3), World.cell?_setCell_same W ⟨p, 0, none⟩ _ h1]
      rfl
    · rw [World.frozen?_alloc_past _ _ _ (by simpa [World.setCell] using h3)]
      simpa using h2
  obtain ⟨S2, hS2⟩ : ∃ S2, s + 1 = S2 := ⟨_, rfl⟩
  have hR : fsz s x d = (S2, true) := by rw [← hS2]; rfl
  rw [hS2] at hC
  rw [hR]
  clear hx hR hS2 h4 hd
  go_enter Tryz.func31, Tryz.ntmps31
  go_wp2
  go_ret
  first
    | exact ⟨rfl, fun _ => hC.out, fun _ => trivial, BF.out _⟩
    | exact ⟨rfl, hC.out, BF.out _⟩
set_option maxHeartbeats 1000000 in
theorem size_any (x : Ex) (lo : Nat → Prop) (v : Value) (w : World) (hx : ExIn w lo v x) (hsz : (x.pre 1).length ≤ 1048576) :
    Calls Tryz.prog 13 #[v] w fun e w' => e = .returned (.int .i64 ((x.pre 1).length : Int)) ∧ Below w.heap.size w w' := by
  obtain ⟨o1, n1, t1, k1, s1, p1, m1, c1, a1, rfl⟩ := hx.agg
  have b1 : Below w.heap.size w ((w.alloc (.cells #[.string o1, .string n1, .int .i64 t1, .int .i64 k1, .string s1, .slice p1 m1 c1, .int .i64 a1] 26)).alloc (.cells #[.int .i64 0] 3)) := (al w _).trans ((al _ _).mono (by simp))
  have cW := walk_any fsz 31 (fun args W => by kernel_rfl) (w.heap.size + 1) (SizIn (w.heap.size + 1)) (fun _ _ => True) (fun b => lo b ∧ b < w.heap.size) _ _ x 0 (by simp) ((ExIn.low (fun b h1 h2 => ⟨h2, h1⟩) _ _ hx).on b1) (fun b h1 _ => by have := h1.2; omega) hsz
    (fun W v y d s m _ hy hd hs => sz1_any _ W v _ y d s m hy hd hs)
    (fun W W' s m hb hz hs => by
      obtain ⟨h1, h2, h3, h4⟩ := hs
      exact ⟨by rw [hb.cell (p := ⟨w.heap.size + 1, 0, none⟩) (by simp)]; exact h1, by rw [hb.frozen (p := ⟨w.heap.size + 1, 0, none⟩) (by simp)]; exact h2, by omega, h4⟩)
    ⟨by rw [World.cell?_alloc_at _ _ _ _ (by simp)]; rfl, by rw [World.frozen?_alloc_at _ _ _ _ (by simp)], by simp, by omega⟩
  rw [fold_sz, Nat.zero_add] at cW
  simp only at cW
  generalize (x.pre 1).length = L at cW ⊢
  clear hx hsz
  go_enter Tryz.func13, Tryz.ntmps13
  go_wp2_with fail
  refine cW.mono ?_
  rintro e w2 ⟨rfl, hst, _, b2⟩
  have b3 : Below w.heap.size w w2 := b1.trans (b2.below.mono (by omega))
  obtain ⟨c0, _, hl, _⟩ := hst (by first | trivial | rfl)
  clear cW b1 b2
  go_wp2
  go_ret
  exact ⟨rfl, b3⟩
end Go.Proofs.YtnpinbpjfngknaaGreatDoor
