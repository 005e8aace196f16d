/-
  slices.Concat of two lists of types, and Equal.
-/
import Derived.Test.YtnpinbpjfngknaaDoorVfC
namespace Go.Proofs.YtnpinbpjfngknaaDoor
open Go.RowKit
set_option linter.unusedVariables false

set_option maxHeartbeats 4000000 in
theorem concat_any (sb : Nat) (p1 p2 : Option Addr) (n1 n2 k1 k2 : Nat) (t1 t2 : List Int) (w : World) (B : Nat) (hB : B < w.heap.size) (h1 : StkAt w B (.slice p1 n1 k1) t1) (h2 : StkAt w B (.slice p2 n2 k2) t2) (hn1 : t1.length = n1) (hn2 : t2.length = n2) (hsb : sb < w.heap.size) (c0 : w.cell? ⟨sb, 0, none⟩ = some (.slice p1 n1 k1)) (c1 : w.cell? ⟨sb, 1, none⟩ = some (.slice p2 n2 k2)) (hl : n1 + n2 ≤ 64) :
    Calls Tryd.prog 42 #[.slice (some ⟨sb, 0, none⟩) 2 2] w fun e w' => (∃ v, e = .returned v ∧ Aside (StkAt w' B v (t1 ++ t2))) ∧ Below w.heap.size w w' := by
  have z1 : ¬ ((n1 : Int) < 0) := by omega
  have z2 : ¬ ((n1 : Int) + (n2 : Int) < 0) := by omega
  have cG : Calls Tryd.prog 59 #[.slice none 0 0, .int .i64 ((n1 : Int) + (n2 : Int))] w fun e w' => (∃ v, e = .returned v ∧ Aside (w'.ownsRow w.heap.size 3 1 v 0 [])) ∧ Below w.heap.size w w' := by
    by_cases h0 : n1 + n2 = 0
    · rw [show (n1 : Int) + (n2 : Int) = 0 by omega]
      refine (grow_zero w).mono ?_
      rintro e w' ⟨rfl, rfl⟩
      exact ⟨⟨_, rfl, (show Aside _ from World.ownsRow_nil _ _ _ _)⟩, Below.refl _ _⟩
    · rw [show (n1 : Int) + (n2 : Int) = ((n1 + n2 : Nat) : Int) by omega]
      exact grow_some (n1 + n2) w (by omega) (by omega)
  have H1 : Aside (StkAt w B (.slice p1 n1 k1) t1) := h1
  have H2 : Aside (StkAt w B (.slice p2 n2 k2) t2) := h2
  have HN1 : Hid (t1.length = n1) := hn1
  have HN2 : Hid (t2.length = n2) := hn2
  clear h1 h2 hn1 hn2
  go_enter Tryd.func42, Tryd.ntmps42
  go_wp2
  refine wp_loop_rounds 3 ?_
  rw [rounds_succ]
  go_wp2
  rw [rounds_succ]
  go_wp2
  rw [rounds_succ]
  go_wp2_with fail
  refine cG.mono ?_
  rintro e w1 ⟨⟨v, rfl, OW⟩, b1⟩
  have hs1 := b1.size
  have d0 : w1.cell? ⟨sb, 0, none⟩ = some (.slice p1 n1 k1) := by rw [b1.cell (p := ⟨sb, 0, none⟩) hsb]; exact c0
  have d1 : w1.cell? ⟨sb, 1, none⟩ = some (.slice p2 n2 k2) := by rw [b1.cell (p := ⟨sb, 1, none⟩) hsb]; exact c1
  clear cG c0 c1
  go_wp2
  refine wp_loop_rounds 3 ?_
  rw [rounds_succ]
  go_wp2_with (at_builtin; refine wpList_append_stk rfl _ _ rfl w.heap.size B v 0 [] rfl OW.out _ t1 rfl (H1.out.on b1) (by rw [HN1.out]; omega) hs1 ?_)
  intro v2 w2 OW2 b2 g2
  have b3 : Below w.heap.size w w2 := b1.trans b2
  have hs2 := b3.size
  have d2 : w2.cell? ⟨sb, 1, none⟩ = some (.slice p2 n2 k2) := by rw [b2.cell (p := ⟨sb, 1, none⟩) hsb]; exact d1
  have O2 : Aside (w2.ownsRow w.heap.size 3 1 v2 t1.length (intC t1)) := OW2
  clear d0 d1 OW2 g2 OW b1 b2 hs1
  go_wp2
  rw [rounds_succ]
  go_wp2_with (at_builtin; refine wpList_append_stk rfl _ _ rfl w.heap.size B v2 _ _ rfl O2.out _ t2 rfl (H2.out.on b3) (by rw [HN1.out, HN2.out]; omega) hs2 ?_)
  intro v3 w3 OW3 b4 g3
  have O3 : Aside (StkAt w3 B v3 (t1 ++ t2)) := own_stk (by simp) OW3 hB (by rw [HN1.out, HN2.out]; omega)
  have b5 : Below w.heap.size w w3 := b3.trans b4
  clear OW3 g3 O2 d2
  go_wp2
  rw [rounds_succ]
  go_wp2
  go_ret
  exact ⟨⟨_, rfl, O3⟩, b5⟩
theorem eqL_ne {xs ys : List Int} {k : Nat} (h1 : k < xs.length) (h2 : k < ys.length) (h : xs[k] ≠ ys[k]) : xs ≠ ys := by
  rintro rfl; exact h rfl
set_option maxHeartbeats 4000000 in
theorem equal_any (u1 u2 : Value) (t1 t2 : List Int) (w : World) (B : Nat) (h1 : StkAt w B u1 t1) (h2 : StkAt w B u2 t2) (hl1 : t1.length ≤ 100000) (hl2 : t2.length ≤ 100000) :
    Calls Tryd.prog 30 #[u1, u2] w fun e w' => e = .returned (.bool (decide (t1 = t2))) ∧ ∃ q, w' = w.drewN q := by
  obtain ⟨p1, k1, rfl, r1⟩ := h1
  obtain ⟨p2, k2, rfl, r2⟩ := h2
  have i1 : IntsAt w p1 t1 := StkAt.ints (n := t1.length) (c := k1) (B := B) ⟨p1, k1, rfl, r1⟩
  have i2 : IntsAt w p2 t2 := StkAt.ints (n := t2.length) (c := k2) (B := B) ⟨p2, k2, rfl, r2⟩
  clear r1 r2
  by_cases hn : t1.length = t2.length
  · obtain ⟨n, hn1⟩ : ∃ n, t1.length = n := ⟨_, rfl⟩
    have hn2 : t2.length = n := by omega
    obtain ⟨D, hD⟩ : ∃ D, decide (t1 = t2) = D := ⟨_, rfl⟩
    have HD : Hid (decide (t1 = t2) = D) := hD
    rw [hD, hn1, hn2]
    have hne : ((n : Int) != (n : Int)) = false := by simp
    have HN1 : Hid (t1.length = n) := hn1
    have HN2 : Hid (t2.length = n) := hn2
    have HI1 : Aside (IntsAt w p1 t1) := i1
    have HI2 : Aside (IntsAt w p2 t2) := i2
    have hnb : n ≤ 100000 := by omega
    clear hD hn hn1 hn2 hl1 hl2 i1 i2
    go_enter Tryd.func30, Tryd.ntmps30
    go_wp2
    go_loopg [13] n (fun g s13 wr => ∃ k q : Nat, k ≤ n ∧ n - k ≤ g ∧ s13 = .int .i64 k ∧ wr = w.drewN q ∧ Aside (t1.take k = t2.take k))
    case atStart => exact ⟨0, 0, Nat.zero_le _, by omega, rfl, rfl, (show Aside _ from rfl)⟩
    case round =>
      obtain ⟨k, q, hk, hg, rfl, rfl, HE⟩ := hrel
      by_cases hlt : k < n
      · have hltz : (k : Int) < (n : Int) := by omega
        have k0 : (0 : Int) ≤ (k : Int) := by omega
        have e1 : k < t1.length := by rw [HN1.out]; exact hlt
        have e2 : k < t2.length := by rw [HN2.out]; exact hlt
        rcases HI1.out with h | ⟨b1, o1, rfl, hb1, hc1⟩
        · exact absurd h (by omega)
        rcases HI2.out with h | ⟨b2, o2, rfl, hb2, hc2⟩
        · exact absurd h (by omega)
        have g1 := hc1 k e1
        have g2 := hc2 k e2
        have HS : Hid (t1[k] = t2[k] → t1.take (k + 1) = t2.take (k + 1)) := fun h => by rw [List.take_succ_eq_append_getElem e1, List.take_succ_eq_append_getElem e2, HE.out, h]
        have HX : Hid (t1[k] ≠ t2[k] → t1 ≠ t2) := fun h => eqL_ne e1 e2 h
        clear hc1 hc2
        generalize t1[k] = x at g1 HS HX
        generalize t2[k] = y at g2 HS HX
        by_cases hxy : x = y
        · have HT : Aside (t1.take (k + 1) = t2.take (k + 1)) := HS.out hxy
          have hb : (x != y) = false := by simpa using hxy
          clear HS HX HE hxy
          go_wp2_with fail
          go_quiet (fail)
          go_wp2
          go_roundg (n - (k + 1))
          case measure => omega
          case rel => exact ⟨k + 1, _, by omega, by omega, by go_num, rfl, HT⟩
        · have hb : (x != y) = true := by simpa using hxy
          have hD := HD.out
          rw [decide_eq_false (HX.out hxy)] at hD
          subst hD
          clear HS HX HE hxy
          go_wp2_with fail
          go_quiet (fail)
          go_wp2
          go_ret
          exact ⟨rfl, q + nq, by simp [World.drewN, Nat.add_assoc]⟩
      · have hltz : ¬ (k : Int) < (n : Int) := by omega
        have hD := HD.out
        have he : t1 = t2 := by
          have := HE.out
          rwa [List.take_of_length_le (by rw [HN1.out]; omega), List.take_of_length_le (by rw [HN2.out]; omega)] at this
        rw [decide_eq_true he] at hD
        subst hD
        clear HE he
        go_wp2
        go_ret
        exact ⟨rfl, q, rfl⟩
  · rw [decide_eq_false (fun h => hn (by rw [h]))]
    have hne : ((t1.length : Int) != (t2.length : Int)) = true := by simp; omega
    clear i1 i2
    go_enter Tryd.func30, Tryd.ntmps30
    go_wp2
    go_ret
    exact ⟨rfl, 0, rfl⟩
end Go.Proofs.YtnpinbpjfngknaaDoor
