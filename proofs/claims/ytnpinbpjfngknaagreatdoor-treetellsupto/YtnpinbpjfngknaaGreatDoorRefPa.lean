/-
  The document's Parse (package sluiceref1), over what its Tokens and its Expr give.
-/
import Derived.Test.YtnpinbpjfngknaaGreatDoorTreeOx
import Derived.Test.YtnpinbpjfngknaaGreatDoorLoB
import Derived.Test.YtnpinbpjfngknaaGreatDoorLoY
namespace Go.Proofs.YtnpinbpjfngknaaGreatDoor
open Go.RowKit
set_option linter.unusedVariables false
set_option linter.unusedSimpArgs false

theorem set7_below {n : Nat} {w w1 : World} (h : Below n w w1) {z : Nat} (hz : n ≤ z) (v0 v1 v2 v3 v4 v5 v6 : Value) : Below n w (((((((w1.setCell ⟨z, 0, none⟩ v0).setCell ⟨z, 1, none⟩ v1).setCell ⟨z, 2, none⟩ v2).setCell ⟨z, 3, none⟩ v3).setCell ⟨z, 4, none⟩ v4).setCell ⟨z, 5, none⟩ v5).setCell ⟨z, 6, none⟩ v6) :=
  ((((((h.setCell (p := ⟨z, 0, none⟩) hz v0).setCell (p := ⟨z, 1, none⟩) hz v1).setCell (p := ⟨z, 2, none⟩) hz v2).setCell (p := ⟨z, 3, none⟩) hz v3).setCell (p := ⟨z, 4, none⟩) hz v4).setCell (p := ⟨z, 5, none⟩) hz v5).setCell (p := ⟨z, 6, none⟩) hz v6
set_option maxHeartbeats 8000000 in
set_option maxRecDepth 20000 in
theorem refParse_bad (s : ByteArray) (w : World) (R : List Tok) (E : Int) (P : Nat) (hE : E ≠ 0) (cT : ∀ W, Calls Tryz.prog 15 #[.string s] W fun e w' => (∃ v, e = .returned (.tuple #[v, .int .i64 E, .int .i64 (P : Nat)]) ∧ IsToks w' v R) ∧ Below W.heap.size W w') :
    Calls Tryz.prog 4 #[.string s] w fun e w' => (∃ v, e = .returned (.tuple #[v, .int .i64 E, .int .i64 (P : Nat)]) ∧ ExIn w' (fun b => w.heap.size ≤ b) v ex0) ∧ Below w.heap.size w w' := by
  have hEb : (E != 0) = true := by simpa using hE
  have X0 : Box7 (w.alloc zE) w.heap.size (.string ⟨#[]⟩) (.string ⟨#[]⟩) (.int .i64 0) (.int .i64 0) (.string ⟨#[]⟩) (.slice none 0 0) (.int .i64 0) := box7_alloc w _ _ _ _ _ _ _ _
  have hz : (w.alloc zE).heap.size = w.heap.size + 1 := by simp [zE]
  have b0 := al w zE
  have cT := cT (w.alloc zE)
  go_enter Tryz.func4, Tryz.ntmps4
  go_wp2_with fail
  refine cT.mono ?_
  rintro e w1 ⟨⟨v, rfl, ht⟩, b1⟩
  have X1 := X0.on b1
  have B1 : Below w.heap.size w w1 := b0.trans (b1.mono (by omega))
  have hz1 : w.heap.size + 1 ≤ w1.heap.size := by have := b1.size; omega
  clear cT b1 X0 b0 hz
  obtain ⟨d0, d1, d2, d3, d4, d5, d6, df, dl⟩ := X1
  have df0 := df 0
  have df1 := df 1
  have df2 := df 2
  have df3 := df 3
  have df4 := df 4
  have df5 := df 5
  have df6 := df 6
  clear df
  go_wp2
  refine bodyPost_ret (v := .tuple #[.agg #[.string ⟨#[]⟩, .string ⟨#[]⟩, .int .i64 0, .int .i64 0, .string ⟨#[]⟩, .slice none 0 0, .int .i64 0], .int .i64 E, .int .i64 (P : Nat)]) (by simp [results, Tryz.results4, go_sem, d0, d1, d2, d3, d4, d5, d6, dl]) rfl ⟨⟨_, rfl, ?_⟩, ?_⟩
  · exact ex_zero _ _
  · exact set7_below B1 (Nat.le_refl _) _ _ _ _ _ _ _
set_option maxHeartbeats 8000000 in
set_option maxRecDepth 20000 in
theorem refParse_good (s : ByteArray) (w : World) (R : List Tok) (P : Nat) (x : Ex) (s1 : St) (hn : R.length ≤ 400) (hss : s.size ≤ 400) (hi : s1.i ≤ 1000) (hsz : x.size ≤ 1048576) (cT : ∀ W, Calls Tryz.prog 15 #[.string s] W fun e w' => (∃ v, e = .returned (.tuple #[v, .int .i64 0, .int .i64 (P : Nat)]) ∧ IsToks w' v R) ∧ Below W.heap.size W w') (cE : ∀ r tp tc, GivesE r tp tc R s.size 0 ⟨0, -1⟩ x s1) (E : Int) (Q : Int) (y : Ex) (hres : (if 0 ≤ (endD R s.size s1).bad then (ex0, 2, (endD R s.size s1).bad) else if x.small = true then (x, 0, 0) else (ex0, 4, 0)) = (y, E, Q)) :
    Calls Tryz.prog 4 #[.string s] w fun e w' => (∃ v, e = .returned (.tuple #[v, .int .i64 E, .int .i64 Q]) ∧ ExIn w' (fun b => w.heap.size ≤ b) v y) ∧ Below w.heap.size w w' := by
  have X0 : Box7 (w.alloc zE) w.heap.size (.string ⟨#[]⟩) (.string ⟨#[]⟩) (.int .i64 0) (.int .i64 0) (.string ⟨#[]⟩) (.slice none 0 0) (.int .i64 0) := box7_alloc w _ _ _ _ _ _ _ _
  have hz : (w.alloc zE).heap.size = w.heap.size + 1 := by simp [zE]
  have b0 := al w zE
  have cT := cT (w.alloc zE)
  go_enter Tryz.func4, Tryz.ntmps4
  go_wp2_with fail
  refine cT.mono ?_
  rintro e w1 ⟨⟨v, rfl, ht⟩, b1⟩
  have X1 := X0.on b1
  have B1 : Below w.heap.size w w1 := b0.trans (b1.mono (by omega))
  have hz1 : w.heap.size + 1 ≤ w1.heap.size := by have := b1.size; omega
  clear cT b1 X0 b0 hz
  obtain ⟨p, c, rfl, hm, htk⟩ := ht
  have al1 := al w1 (.cells #[.slice p R.length c, .int .i64 0, .int .i64 (s.size : Int), .int .i64 (-1)] 50)
  have kc : ∀ i, (w1.alloc (.cells #[.slice p R.length c, .int .i64 0, .int .i64 (s.size : Int), .int .i64 (-1)] 50)).cell? ⟨w1.heap.size, i, none⟩ = (#[.slice p R.length c, .int .i64 0, .int .i64 (s.size : Int), .int .i64 (-1)] : Array Value)[i]? := fun i => World.cell?_alloc_at _ _ _ _ rfl
  have kf : ∀ i, (w1.alloc (.cells #[.slice p R.length c, .int .i64 0, .int .i64 (s.size : Int), .int .i64 (-1)] 50)).frozen? ⟨w1.heap.size, i, none⟩ = false := fun i => World.frozen?_alloc_at _ _ _ _ rfl
  have H2 : InAt (w1.alloc (.cells #[.slice p R.length c, .int .i64 0, .int .i64 (s.size : Int), .int .i64 (-1)] 50)) w1.heap.size p c R s.size ⟨0, -1⟩ := ⟨kc 0, kc 1, kc 2, kc 3, kf 1, kf 3, by simp, by
    rcases htk with h | ⟨b, off, e, h⟩
    · exact .inl h
    · exact .inr ⟨b, off, e, by have := h.1; omega, h.on al1⟩⟩
  have X2 := X1.on al1
  have B2 : Below w.heap.size w _ := B1.trans (al1.mono (by omega))
  have cE := cE w1.heap.size p c _ H2
  go_wp2_with fail
  refine cE.mono ?_
  rintro e w3 ⟨v, rfl, hx, h3, b3⟩
  have hz2 : (w1.alloc (.cells #[.slice p R.length c, .int .i64 0, .int .i64 (s.size : Int), .int .i64 (-1)] 50)).heap.size = w1.heap.size + 1 := by simp
  have hx3 : ExIn w3 (fun b => w.heap.size + 1 ≤ b) v x := hx.lowB (by omega)
  have X3 := X2.but b3 (by omega)
  have B3 : Below w.heap.size w w3 := B2.trans (b3.below.mono (by omega))
  obtain ⟨o1, n1, t1, k1, z1, p1, m1, c1, a1, rfl⟩ := hx.agg
  have al3 := al w3 (.cells #[.string o1, .string n1, .int .i64 t1, .int .i64 k1, .string z1, .slice p1 m1 c1, .int .i64 a1] 26)
  have L3 := box7_alloc w3 (.string o1) (.string n1) (.int .i64 t1) (.int .i64 k1) (.string z1) (.slice p1 m1 c1) (.int .i64 a1) 26
  have hz3 : w1.heap.size + 1 ≤ w3.heap.size := by have := b3.size; omega
  have H3 := h3
  obtain ⟨g0, g1, g2, g3, gf1, gf3, glt, _⟩ := h3
  clear cE hx b3 X1 X2 H2 B2 kc kf hz2 htk B1 al1 cT
  by_cases hA : s1.i < R.length
  · have hAz : (s1.i : Int) < (R.length : Int) := by omega
    have hbad : 0 ≤ (failT R s.size s1).bad := by
      rw [failT]
      split
      · exact pos_nn _ _ _
      · rename_i h; omega
    have hend : endD R s.size s1 = failT R s.size s1 := by rw [endD, if_pos hA]
    rw [hend, if_pos hbad] at hres
    simp only [Prod.mk.injEq] at hres
    obtain ⟨rfl, rfl, rfl⟩ := hres
    have cF := in_fail _ _ p c R s.size s1 (H3.on al3) hn (by omega)
    clear hend
    go_wp2_with fail
    refine cF.mono ?_
    rintro e w5 ⟨rfl, h5, b5⟩
    have B5 : Below w.heap.size w w5 := (B3.trans (al3.mono (by omega))).trans (b5.below.mono (by omega))
    have X5 := (X3.on al3).but b5 (by omega)
    obtain ⟨q0, q1, q2, q3, qf1, qf3, qlt, _⟩ := h5
    clear g0 g1 g2 g3 gf1 gf3 glt cF b5 X3 L3
    obtain ⟨d0, d1, d2, d3, d4, d5, d6, df, dl⟩ := X5
    have df0 := df 0
    have df1 := df 1
    have df2 := df 2
    have df3 := df 3
    have df4 := df 4
    have df5 := df 5
    have df6 := df 6
    clear df
    go_wp2
    go_region
    go_wp2
    refine bodyPost_ret (v := .tuple #[.agg #[.string ⟨#[]⟩, .string ⟨#[]⟩, .int .i64 0, .int .i64 0, .string ⟨#[]⟩, .slice none 0 0, .int .i64 0], .int .i64 2, .int .i64 (failT R s.size s1).bad]) (by simp [results, Tryz.results4, go_sem, d0, d1, d2, d3, d4, d5, d6, dl]) rfl ⟨⟨_, rfl, ?_⟩, ?_⟩
    · exact ex_zero _ _
    · exact Below.drew (set7_below B5 (Nat.le_refl _) _ _ _ _ _ _ _)
  · have hAz : ¬ (s1.i : Int) < (R.length : Int) := by omega
    have hend : endD R s.size s1 = s1 := by rw [endD, if_neg hA]
    rw [hend] at hres
    clear hend
    by_cases hbad : 0 ≤ s1.bad
    · rw [if_pos hbad] at hres
      simp only [Prod.mk.injEq] at hres
      obtain ⟨rfl, rfl, rfl⟩ := hres
      obtain ⟨d0, d1, d2, d3, d4, d5, d6, df, dl⟩ := X3
      have df0 := df 0
      have df1 := df 1
      have df2 := df 2
      have df3 := df 3
      have df4 := df 4
      have df5 := df 5
      have df6 := df 6
      clear df
      go_wp2
      go_region
      go_wp2
      refine bodyPost_ret (v := .tuple #[.agg #[.string ⟨#[]⟩, .string ⟨#[]⟩, .int .i64 0, .int .i64 0, .string ⟨#[]⟩, .slice none 0 0, .int .i64 0], .int .i64 2, .int .i64 s1.bad]) (by simp [results, Tryz.results4, go_sem, d0, d1, d2, d3, d4, d5, d6, dl]) rfl ⟨⟨_, rfl, ?_⟩, ?_⟩
      · exact ex_zero _ _
      · exact Below.drew ((set7_below B3 (Nat.le_refl _) _ _ _ _ _ _ _).alloc (by simp [World.setCell]; omega) _)
    · rw [if_neg hbad] at hres
      have cS := refSmall_any x _ _ _ (hx3.on al3) hsz
      have X4 := X3.on al3
      have L4 := L3
      obtain ⟨l0, l1, l2, l3, l4, l5, l6, lf, ll⟩ := L3
      cases hsm : x.small
      · skip
        rw [hsm] at cS hres
        simp only [Bool.false_eq_true, if_false, if_true, Prod.mk.injEq] at hres
        obtain ⟨rfl, rfl, rfl⟩ := hres
        go_wp2_with fail
        refine cS.mono ?_
        rintro e w5 ⟨rfl, b5⟩
        have B5 : Below w.heap.size w w5 := (B3.trans (al3.mono (by omega))).trans (b5.mono (by simp; omega))
        have X5 := X4.on b5
        obtain ⟨y0, y1, y2, y3, y4, y5, y6, yf, yl⟩ := L4.on b5
        have hx5 := (hx3.on al3).on b5
        clear cS b5 X4 L4 yf l0 l1 l2 l3 l4 l5 l6 lf ll
        obtain ⟨d0, d1, d2, d3, d4, d5, d6, df, dl⟩ := X5
        have df0 := df 0
        have df1 := df 1
        have df2 := df 2
        have df3 := df 3
        have df4 := df 4
        have df5 := df 5
        have df6 := df 6
        clear df
        go_wp2
        refine bodyPost_ret (v := .tuple #[.agg #[.string ⟨#[]⟩, .string ⟨#[]⟩, .int .i64 0, .int .i64 0, .string ⟨#[]⟩, .slice none 0 0, .int .i64 0], .int .i64 4, .int .i64 0]) (by simp [results, Tryz.results4, go_sem, d0, d1, d2, d3, d4, d5, d6, dl]) rfl ⟨⟨_, rfl, ?_⟩, ?_⟩
        · exact ex_zero _ _
        · exact set7_below B5 (Nat.le_refl _) _ _ _ _ _ _ _
      · skip
        rw [hsm] at cS hres
        simp only [Bool.false_eq_true, if_false, if_true, Prod.mk.injEq] at hres
        obtain ⟨rfl, rfl, rfl⟩ := hres
        go_wp2_with fail
        refine cS.mono ?_
        rintro e w5 ⟨rfl, b5⟩
        have B5 : Below w.heap.size w w5 := (B3.trans (al3.mono (by omega))).trans (b5.mono (by simp; omega))
        have X5 := X4.on b5
        obtain ⟨y0, y1, y2, y3, y4, y5, y6, yf, yl⟩ := L4.on b5
        have hx5 := (hx3.on al3).on b5
        clear cS b5 X4 L4 yf l0 l1 l2 l3 l4 l5 l6 lf ll
        obtain ⟨d0, d1, d2, d3, d4, d5, d6, df, dl⟩ := X5
        have df0 := df 0
        have df1 := df 1
        have df2 := df 2
        have df3 := df 3
        have df4 := df 4
        have df5 := df 5
        have df6 := df 6
        clear df
        go_wp2
        refine bodyPost_ret (v := .tuple #[.agg #[.string o1, .string n1, .int .i64 t1, .int .i64 k1, .string z1, .slice p1 m1 c1, .int .i64 a1], .int .i64 0, .int .i64 0]) (by simp [results, Tryz.results4, go_sem, d0, d1, d2, d3, d4, d5, d6, dl]) rfl ⟨⟨_, rfl, ?_⟩, ?_⟩
        · exact (hx5.set7 (own_ne (Nat.lt_succ_self _)) _ _ _ _ _ _ _).lowB (Nat.le_succ _)
        · exact set7_below B5 (Nat.le_refl _) _ _ _ _ _ _ _
end Go.Proofs.YtnpinbpjfngknaaGreatDoor
