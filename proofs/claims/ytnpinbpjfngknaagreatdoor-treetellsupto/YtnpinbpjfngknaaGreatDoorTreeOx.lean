/-
  The document's reading of an expression of a level (package sluiceref1, In.Expr): what went wrong, not, -, and the tightest.
-/
import Derived.Test.YtnpinbpjfngknaaGreatDoorTreeOw
import Derived.Test.YtnpinbpjfngknaaGreatDoorLo3
namespace Go.Proofs.YtnpinbpjfngknaaGreatDoor
open Go.RowKit
set_option linter.unusedVariables false
set_option linter.unusedSimpArgs false

set_option maxHeartbeats 8000000 in
set_option maxRecDepth 20000 in
theorem expr_bad (r : Nat) (tp : Option Addr) (tc : Nat) (ts : List Tok) (en : Nat) (st : St) (hn : ts.length ≤ 400) (hi : st.i ≤ 1000) (lv : Int) (hb : 0 ≤ st.bad) : GivesE r tp tc ts en lv st ex0 st := by
  intro w h
  obtain ⟨hz, bz, hrl⟩ := in_z h
  have hT : TokNe tp ts w.heap.size := h.ne (Nat.le_refl _)
  have X0 : Box7 (w.alloc zE) w.heap.size (.string ⟨#[]⟩) (.string ⟨#[]⟩) (.int .i64 0) (.int .i64 0) (.string ⟨#[]⟩) (.slice none 0 0) (.int .i64 0) := box7_alloc w _ _ _ _ _ _ _ _
  obtain ⟨g0, g1, g2, g3, gf1, gf3, glt, _⟩ := h
  clear X0
  go_enter Tryz.func16, Tryz.ntmps16
  go_wp2
  exact bodyPost_ret (v := .agg #[.string ⟨#[]⟩, .string ⟨#[]⟩, .int .i64 0, .int .i64 0, .string ⟨#[]⟩, .slice none 0 0, .int .i64 0]) (by simp [results, Tryz.results16, go_sem]) rfl ⟨_, rfl, ex_zero _ _, hz, bz⟩
set_option maxHeartbeats 8000000 in
set_option maxRecDepth 20000 in
theorem expr_one (r : Nat) (tp : Option Addr) (tc : Nat) (ts : List Tok) (en : Nat) (st : St) (hn : ts.length ≤ 400) (hi : st.i ≤ 1000) (x : Ex) (s1 : St) (hb : st.bad < 0) (hs : isT ts st [45] = false) (cO : GivesO r tp tc ts en st x s1) : GivesE r tp tc ts en 5 st x s1 := by
  intro w h
  obtain ⟨hz, bz, hrl⟩ := in_z h
  have hT : TokNe tp ts w.heap.size := h.ne (Nat.le_refl _)
  have X0 : Box7 (w.alloc zE) w.heap.size (.string ⟨#[]⟩) (.string ⟨#[]⟩) (.int .i64 0) (.int .i64 0) (.string ⟨#[]⟩) (.slice none 0 0) (.int .i64 0) := box7_alloc w _ _ _ _ _ _ _ _
  have hb0 : ¬ 0 ≤ st.bad := by omega
  have cA := in_at _ r tp tc ts en st hz hn (by omega)
  have cH := fun W hW => has_no W r tp tc ts en st ⟨#[45]⟩ hW hn hi hs
  obtain ⟨g0, g1, g2, g3, gf1, gf3, glt, _⟩ := h
  clear hs
  go_enter Tryz.func16, Tryz.ntmps16
  go_wp2_with fail
  refine cA.mono ?_
  rintro e w1 ⟨rfl, q, rfl⟩
  have H1 : InAt ((w.alloc zE).drewN q) r tp tc ts en st := hz.same rfl
  have B1 : But r w ((w.alloc zE).drewN q) := bz.drewN q
  have X1 : Box7 ((w.alloc zE).drewN q) w.heap.size (.string ⟨#[]⟩) (.string ⟨#[]⟩) (.int .i64 0) (.int .i64 0) (.string ⟨#[]⟩) (.slice none 0 0) (.int .i64 0) := ⟨X0.c0, X0.c1, X0.c2, X0.c3, X0.c4, X0.c5, X0.c6, X0.fz, X0.lt⟩
  have hz1 : w.heap.size + 1 ≤ ((w.alloc zE).drewN q).heap.size := Nat.le_of_eq (by simp [zE, World.drewN])
  clear cA hz bz X0 g0 g1 g2 g3 gf1 gf3 glt
  generalize hW1 : (w.alloc zE).drewN q = W1 at H1 B1 X1 hz1
  clear hW1
  go_wp2_with fail
  refine (cH _ H1).mono ?_
  rintro e w2 ⟨rfl, h2, b2⟩
  have B2 : But r w w2 := B1.trans b2
  have X2 := X1.but b2 (by omega)
  have hz2 : w.heap.size + 1 ≤ w2.heap.size := by have := b2.size; omega
  clear cH b2 X1 B1 H1 hz1
  go_wp2_with fail
  refine (cO _ h2).mono ?_
  rintro e w3 ⟨v, rfl, hx, h3, b3⟩
  have hx3 := hx.lowB hz2
  obtain ⟨o1, n1, t1, k1, z1, p1, m1, c1, a1, rfl⟩ := hx.agg
  have B3 : But r w w3 := B2.trans b3
  have X3 := X2.but b3 (by omega)
  clear cO b3 X2 B2 h2 hx
  obtain ⟨d0, d1, d2, d3, d4, d5, d6, df, dl⟩ := X3
  have df0 := df 0
  have df1 := df 1
  have df2 := df 2
  have df3 := df 3
  have df4 := df 4
  have df5 := df 5
  have df6 := df 6
  clear df
  go_wp2
  refine bodyPost_ret (v := .agg #[.string o1, .string n1, .int .i64 t1, .int .i64 k1, .string z1, .slice p1 m1 c1, .int .i64 a1]) (by simp [results, Tryz.results16, go_sem, d0, d1, d2, d3, d4, d5, d6, dl]) rfl ⟨_, rfl, ?_, ?_, ?_⟩
  · exact (hx3.set7 (own_ne (Nat.lt_succ_self _)) _ _ _ _ _ _ _).lowB (Nat.le_succ _)
  · exact h3.set7 (by omega) hT _ _ _ _ _ _ _
  · exact B3.set7 (Nat.le_refl _) (by omega) _ _ _ _ _ _ _
set_option maxHeartbeats 8000000 in
set_option maxRecDepth 20000 in
theorem expr_neg (r : Nat) (tp : Option Addr) (tc : Nat) (ts : List Tok) (en : Nat) (st : St) (hn : ts.length ≤ 400) (hi : st.i ≤ 1000) (x : Ex) (s1 : St) (hb : st.bad < 0) (hs : isT ts st [45] = true) (cE : GivesE r tp tc ts en 5 (adv st) x s1) : GivesE r tp tc ts en 5 st (op1 [110, 101, 103] (posAt ts en st.i) [x]) s1 := by
  intro w h
  obtain ⟨hz, bz, hrl⟩ := in_z h
  have hT : TokNe tp ts w.heap.size := h.ne (Nat.le_refl _)
  have X0 : Box7 (w.alloc zE) w.heap.size (.string ⟨#[]⟩) (.string ⟨#[]⟩) (.int .i64 0) (.int .i64 0) (.string ⟨#[]⟩) (.slice none 0 0) (.int .i64 0) := box7_alloc w _ _ _ _ _ _ _ _
  have hb0 : ¬ 0 ≤ st.bad := by omega
  have cA := in_at _ r tp tc ts en st hz hn (by omega)
  have cH := fun W hW => has_yes W r tp tc ts en st ⟨#[45]⟩ hW hn hi hs
  obtain ⟨g0, g1, g2, g3, gf1, gf3, glt, _⟩ := h
  clear hs
  go_enter Tryz.func16, Tryz.ntmps16
  go_wp2_with fail
  refine cA.mono ?_
  rintro e w1 ⟨rfl, q, rfl⟩
  have H1 : InAt ((w.alloc zE).drewN q) r tp tc ts en st := hz.same rfl
  have B1 : But r w ((w.alloc zE).drewN q) := bz.drewN q
  have X1 : Box7 ((w.alloc zE).drewN q) w.heap.size (.string ⟨#[]⟩) (.string ⟨#[]⟩) (.int .i64 0) (.int .i64 0) (.string ⟨#[]⟩) (.slice none 0 0) (.int .i64 0) := ⟨X0.c0, X0.c1, X0.c2, X0.c3, X0.c4, X0.c5, X0.c6, X0.fz, X0.lt⟩
  have hz1 : w.heap.size + 1 ≤ ((w.alloc zE).drewN q).heap.size := Nat.le_of_eq (by simp [zE, World.drewN])
  clear cA hz bz X0 g0 g1 g2 g3 gf1 gf3 glt
  generalize hW1 : (w.alloc zE).drewN q = W1 at H1 B1 X1 hz1
  clear hW1
  go_wp2_with fail
  refine (cH _ H1).mono ?_
  rintro e w2 ⟨rfl, h2, b2⟩
  have B2 : But r w w2 := B1.trans b2
  have X2 := X1.but b2 (by omega)
  have hz2 : w.heap.size + 1 ≤ w2.heap.size := by have := b2.size; omega
  clear cH b2 X1 B1 H1 hz1
  go_wp2_with fail
  refine (cE _ h2).mono ?_
  rintro e w3 ⟨v, rfl, hx, h3, b3⟩
  have hx3 := hx.lowB hz2
  obtain ⟨o1, n1, t1, k1, z1, p1, m1, c1, a1, rfl⟩ := hx.agg
  have B3 : But r w w3 := B2.trans b3
  have X3 := X2.but b3 (by omega)
  have hz3 : w.heap.size + 1 ≤ w3.heap.size := by have := b3.size; omega
  clear cE b3 X2 B2 h2 hx
  obtain ⟨d0, d1, d2, d3, d4, d5, d6, df, dl⟩ := X3
  have df0 := df 0
  have df1 := df 1
  have df2 := df 2
  have df3 := df 3
  have df4 := df 4
  have df5 := df 5
  have df6 := df 6
  clear df
  go_wp2
  refine bodyPost_ret (v := .agg #[.string ⟨#[110, 101, 103]⟩, .string ⟨#[]⟩, .int .i64 0, .int .i64 0, .string ⟨#[]⟩, .slice (some ⟨w3.heap.size + 1, 0, none⟩) 1 1, .int .i64 (posAt ts en st.i)]) (by simp [results, Tryz.results16, go_sem, d0, d1, d2, d3, d4, d5, d6, dl]) rfl ⟨_, rfl, ?_, ?_, ?_⟩
  · exact ex_one (op := ⟨#[110, 101, 103]⟩) (nm := ⟨#[]⟩) (vs := ⟨#[]⟩) ((hx3.set7 (own_ne (Nat.lt_succ_self _)) _ _ _ _ _ _ _).lowB (Nat.le_succ _)) ((al _ _).trans ((al _ _).mono (by simp))) (by simp [World.setCell]) (by show _ ≤ _; omega) (fun i => World.cell?_alloc_at _ _ _ _ (by simp [World.setCell])) (by decide) (by decide) (by decide)
  · exact ((h3.set7 (by omega) hT _ _ _ _ _ _ _).on (al _ _)).on (al _ _)
  · exact ((B3.set7 (Nat.le_refl _) (by omega) _ _ _ _ _ _ _).on (al _ _) hrl).on (al _ _) hrl
set_option maxHeartbeats 8000000 in
set_option maxRecDepth 20000 in
theorem expr_not (r : Nat) (tp : Option Addr) (tc : Nat) (ts : List Tok) (en : Nat) (st : St) (hn : ts.length ≤ 400) (hi : st.i ≤ 1000) (x : Ex) (s1 : St) (hb : st.bad < 0) (hs : isT ts st [110, 111, 116] = true) (cE : GivesE r tp tc ts en 2 (adv st) x s1) : GivesE r tp tc ts en 2 st (op1 [110, 111, 116] (posAt ts en st.i) [x]) s1 := by
  intro w h
  obtain ⟨hz, bz, hrl⟩ := in_z h
  have hT : TokNe tp ts w.heap.size := h.ne (Nat.le_refl _)
  have X0 : Box7 (w.alloc zE) w.heap.size (.string ⟨#[]⟩) (.string ⟨#[]⟩) (.int .i64 0) (.int .i64 0) (.string ⟨#[]⟩) (.slice none 0 0) (.int .i64 0) := box7_alloc w _ _ _ _ _ _ _ _
  have hb0 : ¬ 0 ≤ st.bad := by omega
  have cA := in_at _ r tp tc ts en st hz hn (by omega)
  have cH := fun W hW => has_yes W r tp tc ts en st ⟨#[110, 111, 116]⟩ hW hn hi hs
  obtain ⟨g0, g1, g2, g3, gf1, gf3, glt, _⟩ := h
  clear hs
  go_enter Tryz.func16, Tryz.ntmps16
  go_wp2_with fail
  refine cA.mono ?_
  rintro e w1 ⟨rfl, q, rfl⟩
  have H1 : InAt ((w.alloc zE).drewN q) r tp tc ts en st := hz.same rfl
  have B1 : But r w ((w.alloc zE).drewN q) := bz.drewN q
  have X1 : Box7 ((w.alloc zE).drewN q) w.heap.size (.string ⟨#[]⟩) (.string ⟨#[]⟩) (.int .i64 0) (.int .i64 0) (.string ⟨#[]⟩) (.slice none 0 0) (.int .i64 0) := ⟨X0.c0, X0.c1, X0.c2, X0.c3, X0.c4, X0.c5, X0.c6, X0.fz, X0.lt⟩
  have hz1 : w.heap.size + 1 ≤ ((w.alloc zE).drewN q).heap.size := Nat.le_of_eq (by simp [zE, World.drewN])
  clear cA hz bz X0 g0 g1 g2 g3 gf1 gf3 glt
  generalize hW1 : (w.alloc zE).drewN q = W1 at H1 B1 X1 hz1
  clear hW1
  go_wp2_with fail
  refine (cH _ H1).mono ?_
  rintro e w2 ⟨rfl, h2, b2⟩
  have B2 : But r w w2 := B1.trans b2
  have X2 := X1.but b2 (by omega)
  have hz2 : w.heap.size + 1 ≤ w2.heap.size := by have := b2.size; omega
  clear cH b2 X1 B1 H1 hz1
  go_wp2_with fail
  refine (cE _ h2).mono ?_
  rintro e w3 ⟨v, rfl, hx, h3, b3⟩
  have hx3 := hx.lowB hz2
  obtain ⟨o1, n1, t1, k1, z1, p1, m1, c1, a1, rfl⟩ := hx.agg
  have B3 : But r w w3 := B2.trans b3
  have X3 := X2.but b3 (by omega)
  have hz3 : w.heap.size + 1 ≤ w3.heap.size := by have := b3.size; omega
  clear cE b3 X2 B2 h2 hx
  obtain ⟨d0, d1, d2, d3, d4, d5, d6, df, dl⟩ := X3
  have df0 := df 0
  have df1 := df 1
  have df2 := df 2
  have df3 := df 3
  have df4 := df 4
  have df5 := df 5
  have df6 := df 6
  clear df
  go_wp2
  refine bodyPost_ret (v := .agg #[.string ⟨#[110, 111, 116]⟩, .string ⟨#[]⟩, .int .i64 0, .int .i64 0, .string ⟨#[]⟩, .slice (some ⟨w3.heap.size + 1, 0, none⟩) 1 1, .int .i64 (posAt ts en st.i)]) (by simp [results, Tryz.results16, go_sem, d0, d1, d2, d3, d4, d5, d6, dl]) rfl ⟨_, rfl, ?_, ?_, ?_⟩
  · exact ex_one (op := ⟨#[110, 111, 116]⟩) (nm := ⟨#[]⟩) (vs := ⟨#[]⟩) ((hx3.set7 (own_ne (Nat.lt_succ_self _)) _ _ _ _ _ _ _).lowB (Nat.le_succ _)) ((al _ _).trans ((al _ _).mono (by simp))) (by simp [World.setCell]) (by show _ ≤ _; omega) (fun i => World.cell?_alloc_at _ _ _ _ (by simp [World.setCell])) (by decide) (by decide) (by decide)
  · exact ((h3.set7 (by omega) hT _ _ _ _ _ _ _).on (al _ _)).on (al _ _)
  · exact ((B3.set7 (Nat.le_refl _) (by omega) _ _ _ _ _ _ _).on (al _ _) hrl).on (al _ _) hrl
end Go.Proofs.YtnpinbpjfngknaaGreatDoor
