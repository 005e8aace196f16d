/-
  TreeCh, KdCol, in one text.
-/
import Derived.Test.YtkoejkpjkcejcaaGreatDoorQTreeCk
import Derived.Test.YtkoejkpjkcejcaaGreatDoorQKdRuleC
namespace Go.Proofs.YtkoejkpjkcejcaaGreatDoor
open Go.RowKit Go.BigFrame
set_option linter.unusedVariables false

def fck (s : Int) (x : Ex) (d : Nat) : Int × Bool := (nodeE x, nodeE x == 0)
/-- What Check says of an expression. -/
def ckP (x : Ex) : Int := if tgB x = true then 4 else (foldP fck 0 (x.pre 1)).1
/-- The variable of the error. -/
def ErrIn (p : Nat) (W : World) (s : Int) (m : Nat) : Prop := (W.cell? ⟨p, 0, none⟩ = some (errV s) ∧ W.frozen? ⟨p, 0, none⟩ = false ∧ p < W.heap.size) ∧ TEnv W ∧ 12 ≤ p
set_option maxHeartbeats 1000000 in
set_option maxRecDepth 20000 in
theorem check1_any (p : Nat) (W : World) (v : Value) (lo : Nat → Prop) (x : Ex) (d : Nat) (s : Int) (m : Nat) (hx : ExIn W lo v x) (hs : ErrIn p W s (m + 1)) :
    Calls Tryz.prog 29 #[v, .int .i64 (d : Int), .pointer (some ⟨p, 0, none⟩)] W fun e w' => e = .returned (.bool (fck s x d).2) ∧ ((fck s x d).2 = true → ErrIn p w' (fck s x d).1 m) ∧ ((fck s x d).2 = false → ErrIn p w' (fck s x d).1 0) ∧ But p W w' := by
  obtain ⟨⟨h1, h2, h3⟩, henv, hG⟩ := hs
  obtain ⟨o1, n1, t1, k1, s1, p1, m1, c1, a1, rfl⟩ := hx.agg
  have b1 : Below W.heap.size W (W.alloc (.cells #[.string o1, .string n1, .int .i64 t1, .int .i64 k1, .string s1, .slice p1 m1 c1, .int .i64 a1] 26)) := al W _
  have cN := checkNode_any x lo _ _ (henv.on b1) (hx.on b1)
  have q1 := errK_eql (nodeE x)
  have q2 := errK_geql (nodeE x)
  have key : Hid (∀ w', But p W w' → w'.cell? ⟨p, 0, none⟩ = some (errV (nodeE x)) → w'.frozen? ⟨p, 0, none⟩ = false → ∀ j, ErrIn p w' (nodeE x) j) := fun w' hb hc hf j => ⟨⟨hc, hf, by have := hb.size; omega⟩, henv.but hb hG, hG⟩
  rw [fck]
  show Calls Tryz.prog 29 _ W fun e w' => e = .returned (.bool (nodeE x == 0)) ∧ ((nodeE x == 0) = true → ErrIn p w' (nodeE x) m) ∧ ((nodeE x == 0) = false → ErrIn p w' (nodeE x) 0) ∧ But p W w'
  have fin : Hid (∀ w1, Below (W.alloc (.cells #[.string o1, .string n1, .int .i64 t1, .int .i64 k1, .string s1, .slice p1 m1 c1, .int .i64 a1] 26)).heap.size (W.alloc (.cells #[.string o1, .string n1, .int .i64 t1, .int .i64 k1, .string s1, .slice p1 m1 c1, .int .i64 a1] 26)) w1 → (∀ j, ErrIn p (w1.setCell ⟨p, 0, none⟩ (errV (nodeE x))) (nodeE x) j) ∧ But p W (w1.setCell ⟨p, 0, none⟩ (errV (nodeE x)))) := fun w1 b2 => by
    have b3 : Below W.heap.size W w1 := b1.trans (b2.mono (by simp))
    have bb : But p W (w1.setCell ⟨p, 0, none⟩ (errV (nodeE x))) := (But.of_below' b3 (Nat.le_of_lt h3)).set 0 _
    have e1 : w1.cell? ⟨p, 0, none⟩ = some (errV s) := by rw [b3.cell (p := ⟨p, 0, none⟩) h3]; exact h1
    have e2 : w1.frozen? ⟨p, 0, none⟩ = false := by rw [b3.frozen (p := ⟨p, 0, none⟩) h3]; exact h2
    exact ⟨key.out _ bb (World.cell?_setCell_same w1 ⟨p, 0, none⟩ _ e1) (by simpa using e2), bb⟩
  clear key
  generalize nodeE x = K at *
  by_cases hK : K = 0
  · have hU : errV K = .nilIface := if_pos hK
    have hQ : (K == 0) = true := by simpa using hK
    rw [hU] at cN q1 q2 fin
    rw [hQ] at q1
    rw [hQ]
    clear hU hQ hK
    clear henv hx
    go_enter Tryz.func29, Tryz.ntmps29
    go_wp2_with fail
    refine cN.mono ?_
    rintro e w1 ⟨rfl, b2⟩
    have b3 : Below W.heap.size W w1 := b1.trans (b2.mono (by simp))
    have e1 : w1.cell? ⟨p, 0, none⟩ = some (errV s) := by rw [b3.cell (p := ⟨p, 0, none⟩) h3]; exact h1
    have e2 : w1.frozen? ⟨p, 0, none⟩ = false := by rw [b3.frozen (p := ⟨p, 0, none⟩) h3]; exact h2
    have FN : Hid ((∀ j, ErrIn p (w1.setCell ⟨p, 0, none⟩ .nilIface) K j) ∧ But p W (w1.setCell ⟨p, 0, none⟩ .nilIface)) := fin.out w1 b2
    have hl : p < w1.heap.size := by have := b3.size; omega
    clear fin cN b1 b2 b3 h1 h2
    go_wp2
    go_ret
    exact ⟨rfl, fun _ => FN.out.1 _, fun _ => FN.out.1 _, FN.out.2⟩
  · have hU : errV K = .iface 29 (.int .i64 K) := if_neg hK
    have hQ : (K == 0) = false := by simpa using hK
    rw [hU] at cN q1 q2 fin
    rw [hQ] at q1
    rw [hQ]
    clear hU hQ hK
    clear henv hx
    go_enter Tryz.func29, Tryz.ntmps29
    go_wp2_with fail
    refine cN.mono ?_
    rintro e w1 ⟨rfl, b2⟩
    have b3 : Below W.heap.size W w1 := b1.trans (b2.mono (by simp))
    have e1 : w1.cell? ⟨p, 0, none⟩ = some (errV s) := by rw [b3.cell (p := ⟨p, 0, none⟩) h3]; exact h1
    have e2 : w1.frozen? ⟨p, 0, none⟩ = false := by rw [b3.frozen (p := ⟨p, 0, none⟩) h3]; exact h2
    have FN : Hid ((∀ j, ErrIn p (w1.setCell ⟨p, 0, none⟩ (.iface 29 (.int .i64 K))) K j) ∧ But p W (w1.setCell ⟨p, 0, none⟩ (.iface 29 (.int .i64 K)))) := fin.out w1 b2
    have hl : p < w1.heap.size := by have := b3.size; omega
    clear fin cN b1 b2 b3 h1 h2
    go_wp2
    go_ret
    exact ⟨rfl, fun _ => FN.out.1 _, fun _ => FN.out.1 _, FN.out.2⟩
set_option maxHeartbeats 1000000 in
set_option maxRecDepth 20000 in
theorem check_tree (x : Ex) (lo : Nat → Prop) (v : Value) (w : World) (henv : TEnv w) (hx : ExIn w lo v x) (hsz : (x.pre 1).length ≤ 1048576) :
    Calls Tryz.prog 11 #[v] w fun e w' => e = .returned (errV (ckP x)) ∧ Below w.heap.size w w' := by
  obtain ⟨o1, n1, t1, k1, s1, p1, m1, c1, a1, rfl⟩ := hx.agg
  have b1 : Below w.heap.size w (w.alloc (.cells #[.string o1, .string n1, .int .i64 t1, .int .i64 k1, .string s1, .slice p1 m1 c1, .int .i64 a1] 26)) := al w _
  have cT := tooGreat_any x (fun b => lo b ∧ b < w.heap.size) _ _ ((ExIn.low (fun b h1 h2 => ⟨h2, h1⟩) _ _ hx).on b1) hsz
  have hG := henv.big
  have cW : ∀ w1 : World, Below (w.alloc (.cells #[.string o1, .string n1, .int .i64 t1, .int .i64 k1, .string s1, .slice p1 m1 c1, .int .i64 a1] 26)).heap.size (w.alloc (.cells #[.string o1, .string n1, .int .i64 t1, .int .i64 k1, .string s1, .slice p1 m1 c1, .int .i64 a1] 26)) w1 → Calls Tryz.prog 28 #[.agg #[.string o1, .string n1, .int .i64 t1, .int .i64 k1, .string s1, .slice p1 m1 c1, .int .i64 a1], .func (.func 29) #[] #[.pointer (some ⟨w1.heap.size, 0, none⟩)]] (w1.alloc (.cells #[.nilIface] 38)) fun e w' => e = .returned (.bool (foldP fck 0 (x.pre 1)).2) ∧ w'.cell? ⟨w1.heap.size, 0, none⟩ = some (errV (foldP fck 0 (x.pre 1)).1) ∧ w1.heap.size < w'.heap.size ∧ Below w.heap.size w w' := by
    intro w1 b2
    have b3 : Below w.heap.size w w1 := b1.trans (b2.mono (by simp))
    have hz1 : w.heap.size + 1 ≤ w1.heap.size := by have := b2.size; simpa using this
    have b4 : Below w.heap.size w (w1.alloc (.cells #[.nilIface] 38)) := b3.trans ((al _ _).mono b3.size)
    have cc := walk_any fck 29 (fun args W => by kernel_rfl) w1.heap.size (ErrIn w1.heap.size) (fun W s => ErrIn w1.heap.size W s 0) (fun b => lo b ∧ b < w.heap.size) (w1.alloc (.cells #[.nilIface] 38)) _ x 0 (by simp) ((ExIn.low (fun b h1 h2 => ⟨h2, h1⟩) _ _ hx).on b4) (fun b h1 _ => by have := h1.2; omega) hsz
      (fun W v y d s m _ hy _ hs => check1_any _ W v _ y d s m hy hs)
      (fun W W' s m hb hz hs => by
        obtain ⟨⟨h1, h2, h3⟩, h4, h5⟩ := hs
        exact ⟨⟨by rw [hb.cell (p := ⟨w1.heap.size, 0, none⟩) (by simp)]; exact h1, by rw [hb.frozen (p := ⟨w1.heap.size, 0, none⟩) (by simp)]; exact h2, by omega⟩, h4.onB hb (by simp; omega) hz, h5⟩)
      ⟨⟨by rw [World.cell?_alloc_at _ _ _ _ rfl]; rfl, World.frozen?_alloc_at _ _ _ _ rfl, by simp⟩, henv.on b4, by omega⟩
    refine cc.mono ?_
    rintro e w' ⟨he, g1, g2, g3⟩
    have gz := g3.size
    simp at gz
    refine ⟨he, ?_, by omega, b4.trans (g3.below.mono (by omega))⟩
    cases hq : (foldP fck 0 (x.pre 1)).2
    · exact (g2 hq).1.1
    · exact (g1 hq).1.1
  obtain ⟨K, hK⟩ : ∃ K, errV (ckP x) = K := ⟨_, rfl⟩
  have HK : Hid (errV (ckP x) = K) := hK
  rw [hK]
  rw [ckP] at HK
  generalize foldP fck 0 (x.pre 1) = T at cW HK
  obtain ⟨T1, T2⟩ := T
  simp only at cW HK
  generalize tgB x = G at cT HK
  cases G
  · have HV : Hid (errV T1 = K) := by show _ = _; rw [← HK.out]; rfl
    clear HK
    generalize errV T1 = U at *
    go_enter Tryz.func11, Tryz.ntmps11
    go_wp2_with fail
    refine cT.mono ?_
    rintro e w1 ⟨rfl, b2⟩
    have cc := cW w1 b2
    have hz1 : w.heap.size < w1.heap.size := by have := b2.size; simp at this; omega
    have gB : ∀ i, w1.cell? ⟨w.heap.size, i, none⟩ = (#[.string o1, .string n1, .int .i64 t1, .int .i64 k1, .string s1, .slice p1 m1 c1, .int .i64 a1] : Array Value)[i]? := fun i => by rw [b2.cell (p := ⟨w.heap.size, i, none⟩) (by simp), World.cell?_alloc_at _ _ _ _ rfl]
    have g0 : w1.cell? ⟨w.heap.size, 0, none⟩ = some (.string o1) := gB 0
    have g1 : w1.cell? ⟨w.heap.size, 1, none⟩ = some (.string n1) := gB 1
    have g2 : w1.cell? ⟨w.heap.size, 2, none⟩ = some (.int .i64 t1) := gB 2
    have g3 : w1.cell? ⟨w.heap.size, 3, none⟩ = some (.int .i64 k1) := gB 3
    have g4 : w1.cell? ⟨w.heap.size, 4, none⟩ = some (.string s1) := gB 4
    have g5 : w1.cell? ⟨w.heap.size, 5, none⟩ = some (.slice p1 m1 c1) := gB 5
    have g6 : w1.cell? ⟨w.heap.size, 6, none⟩ = some (.int .i64 a1) := gB 6
    clear gB cW
    go_wp2_with fail
    refine cc.mono ?_
    rintro e w2 ⟨rfl, hc2, hl2, b5⟩
    go_wp2
    go_ret
    exact ⟨by rw [← HV.out]; rfl, b5⟩
  · have HV : Hid ((.iface 29 (.int .i64 4) : Value) = K) := by show _ = _; rw [← HK.out]; rfl
    clear HK cW
    go_enter Tryz.func11, Tryz.ntmps11
    go_wp2_with fail
    refine cT.mono ?_
    rintro e w1 ⟨rfl, b2⟩
    go_wp2
    go_ret
    exact ⟨by rw [← HV.out]; rfl, b1.trans (b2.mono (by simp))⟩
end Go.Proofs.YtkoejkpjkcejcaaGreatDoor
namespace Go.Proofs.YtkoejkpjkcejcaaGreatDoor
open Go.RowKit Go.BigFrame
set_option linter.unusedVariables false

end Go.Proofs.YtkoejkpjkcejcaaGreatDoor
