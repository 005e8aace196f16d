/-
  TreeOw, TreeOx, TreeOl, in one text.
-/
import Derived.Test.YtkoejkpjkcejcaaGreatDoorGrAu
import Derived.Test.YtkoejkpjkcejcaaGreatDoorGrAg
import Derived.Test.YtkoejkpjkcejcaaGreatDoorGrAq
import Derived.Deep.CutRange
namespace Go.Proofs.YtkoejkpjkcejcaaGreatDoor
open Go.RowKit
set_option linter.unusedVariables false
set_option linter.unusedSimpArgs false

set_option maxHeartbeats 8000000 in
set_option maxRecDepth 20000 in
theorem one_colA (r : Nat) (tp : Option Addr) (tc : Nat) (ts : List Tok) (en : Nat) (st : St) (hn : ts.length ≤ 400) (hi : st.i ≤ 1000) (hb1 : isT ts st [40] = false) (hb2 : isT ts st [108, 101, 110] = false) (hb3 : isT ts st [105, 102] = false) (hzz : ∀ t ∈ ts, t.2.1.size ≤ 400) (hnm : (takeT ts en st).1.size ≤ 400) (hno : ¬ (st.i < ts.length ∧ st.bad < 0)) :
  GivesO r tp tc ts en st (.node ⟨#[99, 111, 108]⟩ (takeT ts en st).1 0 0 ⟨#[]⟩ (posAt ts en st.i) []) (takeT ts en st).2 := by
  intro w h
  obtain ⟨hz, bz, hrl⟩ := in_z h
  have hT : TokNe tp ts w.heap.size := h.ne (Nat.le_refl _)
  have cA := in_at _ r tp tc ts en st hz hn (by omega)
  have cH1 := fun q => has_no ((w.alloc zE).drewN q) r tp tc ts en st ⟨#[40]⟩ (hz.same rfl) hn hi hb1
  have cH2 := fun W hW => has_no W r tp tc ts en st ⟨#[108, 101, 110]⟩ hW hn hi hb2
  have cH3 := fun W hW => has_no W r tp tc ts en st ⟨#[105, 102]⟩ hW hn hi hb3
  have X0 : Box7 (w.alloc zE) w.heap.size (.string ⟨#[]⟩) (.string ⟨#[]⟩) (.int .i64 0) (.int .i64 0) (.string ⟨#[]⟩) (.slice none 0 0) (.int .i64 0) := box7_alloc w _ _ _ _ _ _ _ _
  clear hb1 hb2 hb3 h hz
  have cK := fun W hW => in_take W r tp tc ts en st hW hn hi hzz
  obtain ⟨NM, s1, hK⟩ : ∃ NM s1, takeT ts en st = (NM, s1) := ⟨_, _, rfl⟩
  rw [hK] at cK hnm ⊢
  simp only at cK hnm ⊢
  clear hK
  by_cases hlt : st.i < ts.length
  · have hltz : (st.i : Int) < (ts.length : Int) := by omega
    have hltn : decide ((st.i : Int) < (ts.length : Int)) = true := decide_eq_true hltz
    have hb0 : ¬ st.bad < 0 := fun hb => hno ⟨hlt, hb⟩
    have hbdd : decide (st.bad < 0) = false := decide_eq_false hb0
    go_enter Tryz.func41, Tryz.ntmps41
    go_wp2_with fail
    refine cA.mono ?_
    rintro e w1 ⟨rfl, q, rfl⟩
    go_wp2_with fail
    refine (cH1 q).mono ?_
    rintro e w2 ⟨rfl, h2, b2⟩
    go_wp2_with fail
    refine (cH2 w2 h2).mono ?_
    rintro e w3 ⟨rfl, h3, b3⟩
    go_wp2_with fail
    refine (cH3 w3 h3).mono ?_
    rintro e w4 ⟨rfl, h4, b4⟩
    have B4 : But r w w4 := (((bz.drewN q).trans b2).trans b3).trans b4
    have Z4 : But r (w.alloc zE) w4 := ((((But.refl r _).drewN q).trans b2).trans b3).trans b4
    have X4 := X0.but Z4 (by omega)
    have hz4 : w.heap.size + 1 ≤ w4.heap.size := by have := Z4.size; simpa [zE] using this
    clear b2 b3 b4 h2 h3 cH1 cH2 cH3 cA bz X0 Z4
    have H4 := h4
    obtain ⟨g0, g1, g2, g3, gf1, gf3, glt, _⟩ := h4
    go_wp2
    go_big_quiet (fail)
    have H5 : InAt (w4.drewN nq) r tp tc ts en st := H4.same rfl
    have B5 : But r w (w4.drewN nq) := B4.drewN nq
    have X5 : Box7 (w4.drewN nq) w.heap.size (.string ⟨#[]⟩) (.string ⟨#[]⟩) (.int .i64 0) (.int .i64 0) (.string ⟨#[]⟩) (.slice none 0 0) (.int .i64 0) := ⟨X4.c0, X4.c1, X4.c2, X4.c3, X4.c4, X4.c5, X4.c6, X4.fz, X4.lt⟩
    go_wp2_with fail
    refine (cK _ H5).mono ?_
    rintro e w8 ⟨rfl, h8, b8⟩
    have B8 : But r w w8 := B5.trans b8
    have X8 := X5.but b8 (by omega)
    clear b8
    obtain ⟨d0, d1, d2, d3, d4, d5, d6, df, dl⟩ := X8
    have df0 := df 0
    have df1 := df 1
    have df2 := df 2
    have df3 := df 3
    have df4 := df 4
    have df5 := df 5
    have df6 := df 6
    clear df
    go_wp2
    refine bodyPost_ret (v := .agg #[.string ⟨#[99, 111, 108]⟩, .string NM, .int .i64 0, .int .i64 0, .string ⟨#[]⟩, .slice none 0 0, .int .i64 (posAt ts en st.i)]) (by simp [results, Tryz.results41, go_sem, d0, d1, d2, d3, d4, d5, d6, dl]) rfl ⟨_, rfl, ?_, ?_, ?_⟩
    · exact ex_leaf (by decide) (by unfold maxLen; omega) (by decide)
    · exact h8.set7 (by omega) hT _ _ _ _ _ _ _
    · exact B8.set7 (Nat.le_refl _) (by omega) _ _ _ _ _ _ _
  · have hltz : ¬ (st.i : Int) < (ts.length : Int) := by omega
    have hltn : decide ((st.i : Int) < (ts.length : Int)) = false := decide_eq_false hltz
    go_enter Tryz.func41, Tryz.ntmps41
    go_wp2_with fail
    refine cA.mono ?_
    rintro e w1 ⟨rfl, q, rfl⟩
    go_wp2_with fail
    refine (cH1 q).mono ?_
    rintro e w2 ⟨rfl, h2, b2⟩
    go_wp2_with fail
    refine (cH2 w2 h2).mono ?_
    rintro e w3 ⟨rfl, h3, b3⟩
    go_wp2_with fail
    refine (cH3 w3 h3).mono ?_
    rintro e w4 ⟨rfl, h4, b4⟩
    have B4 : But r w w4 := (((bz.drewN q).trans b2).trans b3).trans b4
    have Z4 : But r (w.alloc zE) w4 := ((((But.refl r _).drewN q).trans b2).trans b3).trans b4
    have X4 := X0.but Z4 (by omega)
    have hz4 : w.heap.size + 1 ≤ w4.heap.size := by have := Z4.size; simpa [zE] using this
    clear b2 b3 b4 h2 h3 cH1 cH2 cH3 cA bz X0 Z4
    have H4 := h4
    obtain ⟨g0, g1, g2, g3, gf1, gf3, glt, _⟩ := h4
    go_wp2
    go_big_quiet (fail)
    have H5 : InAt (w4.drewN nq) r tp tc ts en st := H4.same rfl
    have B5 : But r w (w4.drewN nq) := B4.drewN nq
    have X5 : Box7 (w4.drewN nq) w.heap.size (.string ⟨#[]⟩) (.string ⟨#[]⟩) (.int .i64 0) (.int .i64 0) (.string ⟨#[]⟩) (.slice none 0 0) (.int .i64 0) := ⟨X4.c0, X4.c1, X4.c2, X4.c3, X4.c4, X4.c5, X4.c6, X4.fz, X4.lt⟩
    go_wp2_with fail
    refine (cK _ H5).mono ?_
    rintro e w8 ⟨rfl, h8, b8⟩
    have B8 : But r w w8 := B5.trans b8
    have X8 := X5.but b8 (by omega)
    clear b8
    obtain ⟨d0, d1, d2, d3, d4, d5, d6, df, dl⟩ := X8
    have df0 := df 0
    have df1 := df 1
    have df2 := df 2
    have df3 := df 3
    have df4 := df 4
    have df5 := df 5
    have df6 := df 6
    clear df
    go_wp2
    refine bodyPost_ret (v := .agg #[.string ⟨#[99, 111, 108]⟩, .string NM, .int .i64 0, .int .i64 0, .string ⟨#[]⟩, .slice none 0 0, .int .i64 (posAt ts en st.i)]) (by simp [results, Tryz.results41, go_sem, d0, d1, d2, d3, d4, d5, d6, dl]) rfl ⟨_, rfl, ?_, ?_, ?_⟩
    · exact ex_leaf (by decide) (by unfold maxLen; omega) (by decide)
    · exact h8.set7 (by omega) hT _ _ _ _ _ _ _
    · exact B8.set7 (Nat.le_refl _) (by omega) _ _ _ _ _ _ _
set_option maxHeartbeats 8000000 in
set_option maxRecDepth 20000 in
theorem one_colB (r : Nat) (tp : Option Addr) (tc : Nat) (ts : List Tok) (en : Nat) (st : St) (hn : ts.length ≤ 400) (hi : st.i ≤ 1000) (hb1 : isT ts st [40] = false) (hb2 : isT ts st [108, 101, 110] = false) (hb3 : isT ts st [105, 102] = false) (hzz : ∀ t ∈ ts, t.2.1.size ≤ 400) (hnm : (takeT ts en st).1.size ≤ 400) (hbad : st.bad < 0) (hlt : st.i < ts.length) (hv : valT ts[st.i] = false) :
  GivesO r tp tc ts en st (.node ⟨#[99, 111, 108]⟩ (takeT ts en st).1 0 0 ⟨#[]⟩ (posAt ts en st.i) []) (takeT ts en st).2 := by
  intro w h
  rcases h.toks with h9 | ⟨tb, off, rfl, hbr, hin⟩
  · exact absurd h9 (by omega)
  have hltz : (st.i : Int) < (ts.length : Int) := by omega
  have i0 : (0 : Int) ≤ (st.i : Int) := by omega
  have hltn : decide ((st.i : Int) < (ts.length : Int)) = true := decide_eq_true hltz
  have hbdd : decide (st.bad < 0) = true := decide_eq_true hbad
  obtain ⟨hz, bz, hrl⟩ := in_z h
  have hT : TokNe (some ⟨tb, off, none⟩) ts w.heap.size := h.ne (Nat.le_refl _)
  have cA := in_at _ r (some ⟨tb, off, none⟩) tc ts en st hz hn (by omega)
  have cH1 := fun q => has_no ((w.alloc zE).drewN q) r (some ⟨tb, off, none⟩) tc ts en st ⟨#[40]⟩ (hz.same rfl) hn hi hb1
  have cH2 := fun W hW => has_no W r (some ⟨tb, off, none⟩) tc ts en st ⟨#[108, 101, 110]⟩ hW hn hi hb2
  have cH3 := fun W hW => has_no W r (some ⟨tb, off, none⟩) tc ts en st ⟨#[105, 102]⟩ hW hn hi hb3
  have X0 : Box7 (w.alloc zE) w.heap.size (.string ⟨#[]⟩) (.string ⟨#[]⟩) (.int .i64 0) (.int .i64 0) (.string ⟨#[]⟩) (.slice none 0 0) (.int .i64 0) := box7_alloc w _ _ _ _ _ _ _ _
  clear hb1 hb2 hb3 h hz
  have cK := fun W hW => in_take W r (some ⟨tb, off, none⟩) tc ts en st hW hn hi hzz
  obtain ⟨NM, s1, hK⟩ : ∃ NM s1, takeT ts en st = (NM, s1) := ⟨_, _, rfl⟩
  rw [hK] at cK hnm ⊢
  simp only at cK hnm ⊢
  clear hK
  have hD : ∀ W, InAt W r (some ⟨tb, off, none⟩) tc ts en st → W.cell? ⟨tb, off + st.i * 3, none⟩ = some (.int .i64 ts[st.i].1) ∧ W.cell? ⟨tb, off + st.i * 3 + 1, none⟩ = some (.string ts[st.i].2.1) ∧ W.cell? ⟨tb, off + st.i * 3 + 2, none⟩ = some (.int .i64 (ts[st.i].2.2 : Int)) ∧ tb < W.heap.size := fun W hW => by
    rcases hW.toks with h9 | ⟨b2, o2, e2, _, h2⟩
    · exact absurd h9 (by omega)
    · simp only [Option.some.injEq, Addr.mk.injEq] at e2
      obtain ⟨rfl, rfl, _⟩ := e2
      exact ⟨(h2.2 _ hlt).1, (h2.2 _ hlt).2.1, (h2.2 _ hlt).2.2, h2.1⟩
  generalize ts[st.i] = y at hD hv
  obtain ⟨yk, yx, ya⟩ := y
  simp only at hD
  simp only [valT, Bool.or_eq_false_iff, Bool.and_eq_false_iff, decide_eq_false_iff_not] at hv
  obtain ⟨⟨n2, n3⟩, h1⟩ := hv
  have k2 : (yk == 2) = false := by simpa using n2
  have k3 : (yk == 3) = false := by simpa using n3
  clear n2 n3 hin
  rcases h1 with h1 | ⟨h1, h4⟩
  · have k1 : (yk == 1) = false := by simpa using h1
    clear h1
    go_enter Tryz.func41, Tryz.ntmps41
    go_wp2_with fail
    refine cA.mono ?_
    rintro e w1 ⟨rfl, q, rfl⟩
    go_wp2_with fail
    refine (cH1 q).mono ?_
    rintro e w2 ⟨rfl, h2, b2⟩
    go_wp2_with fail
    refine (cH2 w2 h2).mono ?_
    rintro e w3 ⟨rfl, h3, b3⟩
    go_wp2_with fail
    refine (cH3 w3 h3).mono ?_
    rintro e w4 ⟨rfl, h4, b4⟩
    have B4 : But r w w4 := (((bz.drewN q).trans b2).trans b3).trans b4
    have Z4 : But r (w.alloc zE) w4 := ((((But.refl r _).drewN q).trans b2).trans b3).trans b4
    have X4 := X0.but Z4 (by omega)
    have hz4 : w.heap.size + 1 ≤ w4.heap.size := by have := Z4.size; simpa [zE] using this
    clear b2 b3 b4 h2 h3 cH1 cH2 cH3 cA bz X0 Z4
    have H4 := h4
    obtain ⟨g0, g1, g2, g3, gf1, gf3, glt, _⟩ := h4
    go_wp2
    go_big_quiet (fail)
    go_wp2
    obtain ⟨W5, hW5⟩ : ∃ W5, w4.drewN nq = W5 := ⟨_, rfl⟩
    have H5 : InAt W5 r (some ⟨tb, off, none⟩) tc ts en st := by rw [← hW5]; exact H4.same rfl
    have X5 : Box7 W5 w.heap.size (.string ⟨#[]⟩) (.string ⟨#[]⟩) (.int .i64 0) (.int .i64 0) (.string ⟨#[]⟩) (.slice none 0 0) (.int .i64 0) := by rw [← hW5]; exact ⟨X4.c0, X4.c1, X4.c2, X4.c3, X4.c4, X4.c5, X4.c6, X4.fz, X4.lt⟩
    have B5 : But r w W5 := by rw [← hW5]; exact B4.drewN nq
    have hz5 : w.heap.size + 1 ≤ W5.heap.size := by rw [← hW5]; exact hz4
    rw [hW5]
    clear hW5 H4 g0 g1 g2 g3 gf1 gf3 glt X4 B4 hz4
    have K5 := H5
    obtain ⟨g0, g1, g2, g3, gf1, gf3, glt, _⟩ := K5
    obtain ⟨q0, q1, q2, q3⟩ := hD W5 H5
    have hrn : r ≠ W5.heap.size := by omega
    have htn : tb ≠ W5.heap.size := by omega
    clear hD
    go_region
    obtain ⟨W6, hW6⟩ : ∃ W6, (W5.alloc (.cells #[.int .i64 yk, .string yx, .int .i64 (ya : Int)] 83)).drew = W6 := ⟨_, rfl⟩
    have b6 : Below W5.heap.size W5 W6 := by rw [← hW6]; exact Below.drew ((Below.refl _ _).alloc (Nat.le_refl _) _)
    have T6 : ∀ i, W6.cell? ⟨W5.heap.size, i, none⟩ = (#[.int .i64 yk, .string yx, .int .i64 (ya : Int)] : Array Value)[i]? := fun i => by rw [← hW6]; exact World.cell?_alloc_at _ _ _ _ rfl
    have t0 : W6.cell? ⟨W5.heap.size, 0, none⟩ = some (.int .i64 yk) := T6 0
    have t1 : W6.cell? ⟨W5.heap.size, 1, none⟩ = some (.string yx) := T6 1
    have hz6 : W5.heap.size + 1 ≤ W6.heap.size := by rw [← hW6]; simp [World.drew]
    rw [hW6]
    have H6 := H5.on b6
    have X6 := X5.on b6
    have B6 : But r w W6 := B5.trans (But.of_below b6 (by omega))
    clear hW6 T6 H5 g0 g1 g2 g3 gf1 gf3 glt X5 B5 q0 q1 q2 q3 hrn htn b6
    have hz6r : r < W6.heap.size := by omega
    go_wp2_with fail
    refine (cK _ H6).mono ?_
    rintro e w8 ⟨rfl, h8, b8⟩
    have B8 : But r w w8 := B6.trans b8
    have X8 := X6.but b8 (by omega)
    clear b8
    obtain ⟨d0, d1, d2, d3, d4, d5, d6, df, dl⟩ := X8
    have df0 := df 0
    have df1 := df 1
    have df2 := df 2
    have df3 := df 3
    have df4 := df 4
    have df5 := df 5
    have df6 := df 6
    clear df
    go_wp2
    refine bodyPost_ret (v := .agg #[.string ⟨#[99, 111, 108]⟩, .string NM, .int .i64 0, .int .i64 0, .string ⟨#[]⟩, .slice none 0 0, .int .i64 (posAt ts en st.i)]) (by simp [results, Tryz.results41, go_sem, d0, d1, d2, d3, d4, d5, d6, dl]) rfl ⟨_, rfl, ?_, ?_, ?_⟩
    · exact ex_leaf (by decide) (by unfold maxLen; omega) (by decide)
    · exact h8.set7 (by omega) hT _ _ _ _ _ _ _
    · exact B8.set7 (Nat.le_refl _) (by omega) _ _ _ _ _ _ _
  · by_cases hk : yk = 1
    · have k1 : (yk == 1) = true := by simpa using hk
      have s1 : (yx.toList == [116, 114, 117, 101]) = false := by rw [Lib.toList_data]; exact h1
      have s2 : (yx.toList == [102, 97, 108, 115, 101]) = false := by rw [Lib.toList_data]; exact h4
      clear h1 h4 hk
      go_enter Tryz.func41, Tryz.ntmps41
      go_wp2_with fail
      refine cA.mono ?_
      rintro e w1 ⟨rfl, q, rfl⟩
      go_wp2_with fail
      refine (cH1 q).mono ?_
      rintro e w2 ⟨rfl, h2, b2⟩
      go_wp2_with fail
      refine (cH2 w2 h2).mono ?_
      rintro e w3 ⟨rfl, h3, b3⟩
      go_wp2_with fail
      refine (cH3 w3 h3).mono ?_
      rintro e w4 ⟨rfl, h4, b4⟩
      have B4 : But r w w4 := (((bz.drewN q).trans b2).trans b3).trans b4
      have Z4 : But r (w.alloc zE) w4 := ((((But.refl r _).drewN q).trans b2).trans b3).trans b4
      have X4 := X0.but Z4 (by omega)
      have hz4 : w.heap.size + 1 ≤ w4.heap.size := by have := Z4.size; simpa [zE] using this
      clear b2 b3 b4 h2 h3 cH1 cH2 cH3 cA bz X0 Z4
      have H4 := h4
      obtain ⟨g0, g1, g2, g3, gf1, gf3, glt, _⟩ := h4
      go_wp2
      go_big_quiet (fail)
      go_wp2
      obtain ⟨W5, hW5⟩ : ∃ W5, w4.drewN nq = W5 := ⟨_, rfl⟩
      have H5 : InAt W5 r (some ⟨tb, off, none⟩) tc ts en st := by rw [← hW5]; exact H4.same rfl
      have X5 : Box7 W5 w.heap.size (.string ⟨#[]⟩) (.string ⟨#[]⟩) (.int .i64 0) (.int .i64 0) (.string ⟨#[]⟩) (.slice none 0 0) (.int .i64 0) := by rw [← hW5]; exact ⟨X4.c0, X4.c1, X4.c2, X4.c3, X4.c4, X4.c5, X4.c6, X4.fz, X4.lt⟩
      have B5 : But r w W5 := by rw [← hW5]; exact B4.drewN nq
      have hz5 : w.heap.size + 1 ≤ W5.heap.size := by rw [← hW5]; exact hz4
      rw [hW5]
      clear hW5 H4 g0 g1 g2 g3 gf1 gf3 glt X4 B4 hz4
      have K5 := H5
      obtain ⟨g0, g1, g2, g3, gf1, gf3, glt, _⟩ := K5
      obtain ⟨q0, q1, q2, q3⟩ := hD W5 H5
      have hrn : r ≠ W5.heap.size := by omega
      have htn : tb ≠ W5.heap.size := by omega
      clear hD
      go_region
      obtain ⟨W6, hW6⟩ : ∃ W6, (W5.alloc (.cells #[.int .i64 yk, .string yx, .int .i64 (ya : Int)] 83)).drew = W6 := ⟨_, rfl⟩
      have b6 : Below W5.heap.size W5 W6 := by rw [← hW6]; exact Below.drew ((Below.refl _ _).alloc (Nat.le_refl _) _)
      have T6 : ∀ i, W6.cell? ⟨W5.heap.size, i, none⟩ = (#[.int .i64 yk, .string yx, .int .i64 (ya : Int)] : Array Value)[i]? := fun i => by rw [← hW6]; exact World.cell?_alloc_at _ _ _ _ rfl
      have t0 : W6.cell? ⟨W5.heap.size, 0, none⟩ = some (.int .i64 yk) := T6 0
      have t1 : W6.cell? ⟨W5.heap.size, 1, none⟩ = some (.string yx) := T6 1
      have hz6 : W5.heap.size + 1 ≤ W6.heap.size := by rw [← hW6]; simp [World.drew]
      rw [hW6]
      have H6 := H5.on b6
      have X6 := X5.on b6
      have B6 : But r w W6 := B5.trans (But.of_below b6 (by omega))
      clear hW6 T6 H5 g0 g1 g2 g3 gf1 gf3 glt X5 B5 q0 q1 q2 q3 hrn htn b6
      have hz6r : r < W6.heap.size := by omega
      go_wp2_with fail
      refine (cK _ H6).mono ?_
      rintro e w8 ⟨rfl, h8, b8⟩
      have B8 : But r w w8 := B6.trans b8
      have X8 := X6.but b8 (by omega)
      clear b8
      obtain ⟨d0, d1, d2, d3, d4, d5, d6, df, dl⟩ := X8
      have df0 := df 0
      have df1 := df 1
      have df2 := df 2
      have df3 := df 3
      have df4 := df 4
      have df5 := df 5
      have df6 := df 6
      clear df
      go_wp2
      refine bodyPost_ret (v := .agg #[.string ⟨#[99, 111, 108]⟩, .string NM, .int .i64 0, .int .i64 0, .string ⟨#[]⟩, .slice none 0 0, .int .i64 (posAt ts en st.i)]) (by simp [results, Tryz.results41, go_sem, d0, d1, d2, d3, d4, d5, d6, dl]) rfl ⟨_, rfl, ?_, ?_, ?_⟩
      · exact ex_leaf (by decide) (by unfold maxLen; omega) (by decide)
      · exact h8.set7 (by omega) hT _ _ _ _ _ _ _
      · exact B8.set7 (Nat.le_refl _) (by omega) _ _ _ _ _ _ _
    · have k1 : (yk == 1) = false := by simpa using hk
      clear h1 h4 hk
      go_enter Tryz.func41, Tryz.ntmps41
      go_wp2_with fail
      refine cA.mono ?_
      rintro e w1 ⟨rfl, q, rfl⟩
      go_wp2_with fail
      refine (cH1 q).mono ?_
      rintro e w2 ⟨rfl, h2, b2⟩
      go_wp2_with fail
      refine (cH2 w2 h2).mono ?_
      rintro e w3 ⟨rfl, h3, b3⟩
      go_wp2_with fail
      refine (cH3 w3 h3).mono ?_
      rintro e w4 ⟨rfl, h4, b4⟩
      have B4 : But r w w4 := (((bz.drewN q).trans b2).trans b3).trans b4
      have Z4 : But r (w.alloc zE) w4 := ((((But.refl r _).drewN q).trans b2).trans b3).trans b4
      have X4 := X0.but Z4 (by omega)
      have hz4 : w.heap.size + 1 ≤ w4.heap.size := by have := Z4.size; simpa [zE] using this
      clear b2 b3 b4 h2 h3 cH1 cH2 cH3 cA bz X0 Z4
      have H4 := h4
      obtain ⟨g0, g1, g2, g3, gf1, gf3, glt, _⟩ := h4
      go_wp2
      go_big_quiet (fail)
      go_wp2
      obtain ⟨W5, hW5⟩ : ∃ W5, w4.drewN nq = W5 := ⟨_, rfl⟩
      have H5 : InAt W5 r (some ⟨tb, off, none⟩) tc ts en st := by rw [← hW5]; exact H4.same rfl
      have X5 : Box7 W5 w.heap.size (.string ⟨#[]⟩) (.string ⟨#[]⟩) (.int .i64 0) (.int .i64 0) (.string ⟨#[]⟩) (.slice none 0 0) (.int .i64 0) := by rw [← hW5]; exact ⟨X4.c0, X4.c1, X4.c2, X4.c3, X4.c4, X4.c5, X4.c6, X4.fz, X4.lt⟩
      have B5 : But r w W5 := by rw [← hW5]; exact B4.drewN nq
      have hz5 : w.heap.size + 1 ≤ W5.heap.size := by rw [← hW5]; exact hz4
      rw [hW5]
      clear hW5 H4 g0 g1 g2 g3 gf1 gf3 glt X4 B4 hz4
      have K5 := H5
      obtain ⟨g0, g1, g2, g3, gf1, gf3, glt, _⟩ := K5
      obtain ⟨q0, q1, q2, q3⟩ := hD W5 H5
      have hrn : r ≠ W5.heap.size := by omega
      have htn : tb ≠ W5.heap.size := by omega
      clear hD
      go_region
      obtain ⟨W6, hW6⟩ : ∃ W6, (W5.alloc (.cells #[.int .i64 yk, .string yx, .int .i64 (ya : Int)] 83)).drew = W6 := ⟨_, rfl⟩
      have b6 : Below W5.heap.size W5 W6 := by rw [← hW6]; exact Below.drew ((Below.refl _ _).alloc (Nat.le_refl _) _)
      have T6 : ∀ i, W6.cell? ⟨W5.heap.size, i, none⟩ = (#[.int .i64 yk, .string yx, .int .i64 (ya : Int)] : Array Value)[i]? := fun i => by rw [← hW6]; exact World.cell?_alloc_at _ _ _ _ rfl
      have t0 : W6.cell? ⟨W5.heap.size, 0, none⟩ = some (.int .i64 yk) := T6 0
      have t1 : W6.cell? ⟨W5.heap.size, 1, none⟩ = some (.string yx) := T6 1
      have hz6 : W5.heap.size + 1 ≤ W6.heap.size := by rw [← hW6]; simp [World.drew]
      rw [hW6]
      have H6 := H5.on b6
      have X6 := X5.on b6
      have B6 : But r w W6 := B5.trans (But.of_below b6 (by omega))
      clear hW6 T6 H5 g0 g1 g2 g3 gf1 gf3 glt X5 B5 q0 q1 q2 q3 hrn htn b6
      have hz6r : r < W6.heap.size := by omega
      go_wp2_with fail
      refine (cK _ H6).mono ?_
      rintro e w8 ⟨rfl, h8, b8⟩
      have B8 : But r w w8 := B6.trans b8
      have X8 := X6.but b8 (by omega)
      clear b8
      obtain ⟨d0, d1, d2, d3, d4, d5, d6, df, dl⟩ := X8
      have df0 := df 0
      have df1 := df 1
      have df2 := df 2
      have df3 := df 3
      have df4 := df 4
      have df5 := df 5
      have df6 := df 6
      clear df
      go_wp2
      refine bodyPost_ret (v := .agg #[.string ⟨#[99, 111, 108]⟩, .string NM, .int .i64 0, .int .i64 0, .string ⟨#[]⟩, .slice none 0 0, .int .i64 (posAt ts en st.i)]) (by simp [results, Tryz.results41, go_sem, d0, d1, d2, d3, d4, d5, d6, dl]) rfl ⟨_, rfl, ?_, ?_, ?_⟩
      · exact ex_leaf (by decide) (by unfold maxLen; omega) (by decide)
      · exact h8.set7 (by omega) hT _ _ _ _ _ _ _
      · exact B8.set7 (Nat.le_refl _) (by omega) _ _ _ _ _ _ _
end Go.Proofs.YtkoejkpjkcejcaaGreatDoor
namespace Go.Proofs.YtkoejkpjkcejcaaGreatDoor
open Go.RowKit
set_option linter.unusedVariables false
set_option linter.unusedSimpArgs false

set_option maxHeartbeats 8000000 in
set_option maxRecDepth 20000 in
theorem expr_bad (r : Nat) (tp : Option Addr) (tc : Nat) (ts : List Tok) (en : Nat) (st : St) (hn : ts.length ≤ 400) (hi : st.i ≤ 1000) (lv : Int) (hb : 0 ≤ st.bad) : GivesE r tp tc ts en lv st ex0 st := by
  intro w h
  obtain ⟨hz, bz, hrl⟩ := in_z h
  have hT : TokNe tp ts w.heap.size := h.ne (Nat.le_refl _)
  have X0 : Box7 (w.alloc zE) w.heap.size (.string ⟨#[]⟩) (.string ⟨#[]⟩) (.int .i64 0) (.int .i64 0) (.string ⟨#[]⟩) (.slice none 0 0) (.int .i64 0) := box7_alloc w _ _ _ _ _ _ _ _
  obtain ⟨g0, g1, g2, g3, gf1, gf3, glt, _⟩ := h
  clear X0
  go_enter Tryz.func18, Tryz.ntmps18
  go_wp2
  exact bodyPost_ret (v := .agg #[.string ⟨#[]⟩, .string ⟨#[]⟩, .int .i64 0, .int .i64 0, .string ⟨#[]⟩, .slice none 0 0, .int .i64 0]) (by simp [results, Tryz.results18, go_sem]) rfl ⟨_, rfl, ex_zero _ _, hz, bz⟩
set_option maxHeartbeats 8000000 in
set_option maxRecDepth 20000 in
theorem expr_one (r : Nat) (tp : Option Addr) (tc : Nat) (ts : List Tok) (en : Nat) (st : St) (hn : ts.length ≤ 400) (hi : st.i ≤ 1000) (x : Ex) (s1 : St) (hb : st.bad < 0) (hs : isT ts st [45] = false) (cO : GivesO r tp tc ts en st x s1) : GivesE r tp tc ts en 5 st x s1 := by
  intro w h
  obtain ⟨hz, bz, hrl⟩ := in_z h
  have hT : TokNe tp ts w.heap.size := h.ne (Nat.le_refl _)
  have X0 : Box7 (w.alloc zE) w.heap.size (.string ⟨#[]⟩) (.string ⟨#[]⟩) (.int .i64 0) (.int .i64 0) (.string ⟨#[]⟩) (.slice none 0 0) (.int .i64 0) := box7_alloc w _ _ _ _ _ _ _ _
  have hb0 : ¬ 0 ≤ st.bad := by omega
  have cA := in_at _ r tp tc ts en st hz hn (by omega)
  have cH := fun W hW => has_no W r tp tc ts en st ⟨#[45]⟩ hW hn hi hs
  obtain ⟨g0, g1, g2, g3, gf1, gf3, glt, _⟩ := h
  clear hs
  go_enter Tryz.func18, Tryz.ntmps18
  go_wp2_with fail
  refine cA.mono ?_
  rintro e w1 ⟨rfl, q, rfl⟩
  have H1 : InAt ((w.alloc zE).drewN q) r tp tc ts en st := hz.same rfl
  have B1 : But r w ((w.alloc zE).drewN q) := bz.drewN q
  have X1 : Box7 ((w.alloc zE).drewN q) w.heap.size (.string ⟨#[]⟩) (.string ⟨#[]⟩) (.int .i64 0) (.int .i64 0) (.string ⟨#[]⟩) (.slice none 0 0) (.int .i64 0) := ⟨X0.c0, X0.c1, X0.c2, X0.c3, X0.c4, X0.c5, X0.c6, X0.fz, X0.lt⟩
  have hz1 : w.heap.size + 1 ≤ ((w.alloc zE).drewN q).heap.size := Nat.le_of_eq (by simp [zE, World.drewN])
  clear cA hz bz X0 g0 g1 g2 g3 gf1 gf3 glt
  generalize hW1 : (w.alloc zE).drewN q = W1 at H1 B1 X1 hz1
  clear hW1
  go_wp2_with fail
  refine (cH _ H1).mono ?_
  rintro e w2 ⟨rfl, h2, b2⟩
  have B2 : But r w w2 := B1.trans b2
  have X2 := X1.but b2 (by omega)
  have hz2 : w.heap.size + 1 ≤ w2.heap.size := by have := b2.size; omega
  clear cH b2 X1 B1 H1 hz1
  go_wp2_with fail
  refine (cO _ h2).mono ?_
  rintro e w3 ⟨v, rfl, hx, h3, b3⟩
  have hx3 := hx.lowB hz2
  obtain ⟨o1, n1, t1, k1, z1, p1, m1, c1, a1, rfl⟩ := hx.agg
  have B3 : But r w w3 := B2.trans b3
  have X3 := X2.but b3 (by omega)
  clear cO b3 X2 B2 h2 hx
  obtain ⟨d0, d1, d2, d3, d4, d5, d6, df, dl⟩ := X3
  have df0 := df 0
  have df1 := df 1
  have df2 := df 2
  have df3 := df 3
  have df4 := df 4
  have df5 := df 5
  have df6 := df 6
  clear df
  go_wp2
  refine bodyPost_ret (v := .agg #[.string o1, .string n1, .int .i64 t1, .int .i64 k1, .string z1, .slice p1 m1 c1, .int .i64 a1]) (by simp [results, Tryz.results18, go_sem, d0, d1, d2, d3, d4, d5, d6, dl]) rfl ⟨_, rfl, ?_, ?_, ?_⟩
  · exact (hx3.set7 (own_ne (Nat.lt_succ_self _)) _ _ _ _ _ _ _).lowB (Nat.le_succ _)
  · exact h3.set7 (by omega) hT _ _ _ _ _ _ _
  · exact B3.set7 (Nat.le_refl _) (by omega) _ _ _ _ _ _ _
set_option maxHeartbeats 8000000 in
set_option maxRecDepth 20000 in
theorem expr_neg (r : Nat) (tp : Option Addr) (tc : Nat) (ts : List Tok) (en : Nat) (st : St) (hn : ts.length ≤ 400) (hi : st.i ≤ 1000) (x : Ex) (s1 : St) (hb : st.bad < 0) (hs : isT ts st [45] = true) (cE : GivesE r tp tc ts en 5 (adv st) x s1) : GivesE r tp tc ts en 5 st (op1 [110, 101, 103] (posAt ts en st.i) [x]) s1 := by
  intro w h
  obtain ⟨hz, bz, hrl⟩ := in_z h
  have hT : TokNe tp ts w.heap.size := h.ne (Nat.le_refl _)
  have X0 : Box7 (w.alloc zE) w.heap.size (.string ⟨#[]⟩) (.string ⟨#[]⟩) (.int .i64 0) (.int .i64 0) (.string ⟨#[]⟩) (.slice none 0 0) (.int .i64 0) := box7_alloc w _ _ _ _ _ _ _ _
  have hb0 : ¬ 0 ≤ st.bad := by omega
  have cA := in_at _ r tp tc ts en st hz hn (by omega)
  have cH := fun W hW => has_yes W r tp tc ts en st ⟨#[45]⟩ hW hn hi hs
  obtain ⟨g0, g1, g2, g3, gf1, gf3, glt, _⟩ := h
  clear hs
  go_enter Tryz.func18, Tryz.ntmps18
  go_wp2_with fail
  refine cA.mono ?_
  rintro e w1 ⟨rfl, q, rfl⟩
  have H1 : InAt ((w.alloc zE).drewN q) r tp tc ts en st := hz.same rfl
  have B1 : But r w ((w.alloc zE).drewN q) := bz.drewN q
  have X1 : Box7 ((w.alloc zE).drewN q) w.heap.size (.string ⟨#[]⟩) (.string ⟨#[]⟩) (.int .i64 0) (.int .i64 0) (.string ⟨#[]⟩) (.slice none 0 0) (.int .i64 0) := ⟨X0.c0, X0.c1, X0.c2, X0.c3, X0.c4, X0.c5, X0.c6, X0.fz, X0.lt⟩
  have hz1 : w.heap.size + 1 ≤ ((w.alloc zE).drewN q).heap.size := Nat.le_of_eq (by simp [zE, World.drewN])
  clear cA hz bz X0 g0 g1 g2 g3 gf1 gf3 glt
  generalize hW1 : (w.alloc zE).drewN q = W1 at H1 B1 X1 hz1
  clear hW1
  go_wp2_with fail
  refine (cH _ H1).mono ?_
  rintro e w2 ⟨rfl, h2, b2⟩
  have B2 : But r w w2 := B1.trans b2
  have X2 := X1.but b2 (by omega)
  have hz2 : w.heap.size + 1 ≤ w2.heap.size := by have := b2.size; omega
  clear cH b2 X1 B1 H1 hz1
  go_wp2_with fail
  refine (cE _ h2).mono ?_
  rintro e w3 ⟨v, rfl, hx, h3, b3⟩
  have hx3 := hx.lowB hz2
  obtain ⟨o1, n1, t1, k1, z1, p1, m1, c1, a1, rfl⟩ := hx.agg
  have B3 : But r w w3 := B2.trans b3
  have X3 := X2.but b3 (by omega)
  have hz3 : w.heap.size + 1 ≤ w3.heap.size := by have := b3.size; omega
  clear cE b3 X2 B2 h2 hx
  obtain ⟨d0, d1, d2, d3, d4, d5, d6, df, dl⟩ := X3
  have df0 := df 0
  have df1 := df 1
  have df2 := df 2
  have df3 := df 3
  have df4 := df 4
  have df5 := df 5
  have df6 := df 6
  clear df
  go_wp2
  refine bodyPost_ret (v := .agg #[.string ⟨#[110, 101, 103]⟩, .string ⟨#[]⟩, .int .i64 0, .int .i64 0, .string ⟨#[]⟩, .slice (some ⟨w3.heap.size + 1, 0, none⟩) 1 1, .int .i64 (posAt ts en st.i)]) (by simp [results, Tryz.results18, go_sem, d0, d1, d2, d3, d4, d5, d6, dl]) rfl ⟨_, rfl, ?_, ?_, ?_⟩
  · exact ex_one (op := ⟨#[110, 101, 103]⟩) (nm := ⟨#[]⟩) (vs := ⟨#[]⟩) ((hx3.set7 (own_ne (Nat.lt_succ_self _)) _ _ _ _ _ _ _).lowB (Nat.le_succ _)) ((al _ _).trans ((al _ _).mono (by simp))) (by simp [World.setCell]) (by show _ ≤ _; omega) (fun i => World.cell?_alloc_at _ _ _ _ (by simp [World.setCell])) (by decide) (by decide) (by decide)
  · exact ((h3.set7 (by omega) hT _ _ _ _ _ _ _).on (al _ _)).on (al _ _)
  · exact ((B3.set7 (Nat.le_refl _) (by omega) _ _ _ _ _ _ _).on (al _ _) hrl).on (al _ _) hrl
set_option maxHeartbeats 8000000 in
set_option maxRecDepth 20000 in
theorem expr_not (r : Nat) (tp : Option Addr) (tc : Nat) (ts : List Tok) (en : Nat) (st : St) (hn : ts.length ≤ 400) (hi : st.i ≤ 1000) (x : Ex) (s1 : St) (hb : st.bad < 0) (hs : isT ts st [110, 111, 116] = true) (cE : GivesE r tp tc ts en 2 (adv st) x s1) : GivesE r tp tc ts en 2 st (op1 [110, 111, 116] (posAt ts en st.i) [x]) s1 := by
  intro w h
  obtain ⟨hz, bz, hrl⟩ := in_z h
  have hT : TokNe tp ts w.heap.size := h.ne (Nat.le_refl _)
  have X0 : Box7 (w.alloc zE) w.heap.size (.string ⟨#[]⟩) (.string ⟨#[]⟩) (.int .i64 0) (.int .i64 0) (.string ⟨#[]⟩) (.slice none 0 0) (.int .i64 0) := box7_alloc w _ _ _ _ _ _ _ _
  have hb0 : ¬ 0 ≤ st.bad := by omega
  have cA := in_at _ r tp tc ts en st hz hn (by omega)
  have cH := fun W hW => has_yes W r tp tc ts en st ⟨#[110, 111, 116]⟩ hW hn hi hs
  obtain ⟨g0, g1, g2, g3, gf1, gf3, glt, _⟩ := h
  clear hs
  go_enter Tryz.func18, Tryz.ntmps18
  go_wp2_with fail
  refine cA.mono ?_
  rintro e w1 ⟨rfl, q, rfl⟩
  have H1 : InAt ((w.alloc zE).drewN q) r tp tc ts en st := hz.same rfl
  have B1 : But r w ((w.alloc zE).drewN q) := bz.drewN q
  have X1 : Box7 ((w.alloc zE).drewN q) w.heap.size (.string ⟨#[]⟩) (.string ⟨#[]⟩) (.int .i64 0) (.int .i64 0) (.string ⟨#[]⟩) (.slice none 0 0) (.int .i64 0) := ⟨X0.c0, X0.c1, X0.c2, X0.c3, X0.c4, X0.c5, X0.c6, X0.fz, X0.lt⟩
  have hz1 : w.heap.size + 1 ≤ ((w.alloc zE).drewN q).heap.size := Nat.le_of_eq (by simp [zE, World.drewN])
  clear cA hz bz X0 g0 g1 g2 g3 gf1 gf3 glt
  generalize hW1 : (w.alloc zE).drewN q = W1 at H1 B1 X1 hz1
  clear hW1
  go_wp2_with fail
  refine (cH _ H1).mono ?_
  rintro e w2 ⟨rfl, h2, b2⟩
  have B2 : But r w w2 := B1.trans b2
  have X2 := X1.but b2 (by omega)
  have hz2 : w.heap.size + 1 ≤ w2.heap.size := by have := b2.size; omega
  clear cH b2 X1 B1 H1 hz1
  go_wp2_with fail
  refine (cE _ h2).mono ?_
  rintro e w3 ⟨v, rfl, hx, h3, b3⟩
  have hx3 := hx.lowB hz2
  obtain ⟨o1, n1, t1, k1, z1, p1, m1, c1, a1, rfl⟩ := hx.agg
  have B3 : But r w w3 := B2.trans b3
  have X3 := X2.but b3 (by omega)
  have hz3 : w.heap.size + 1 ≤ w3.heap.size := by have := b3.size; omega
  clear cE b3 X2 B2 h2 hx
  obtain ⟨d0, d1, d2, d3, d4, d5, d6, df, dl⟩ := X3
  have df0 := df 0
  have df1 := df 1
  have df2 := df 2
  have df3 := df 3
  have df4 := df 4
  have df5 := df 5
  have df6 := df 6
  clear df
  go_wp2
  refine bodyPost_ret (v := .agg #[.string ⟨#[110, 111, 116]⟩, .string ⟨#[]⟩, .int .i64 0, .int .i64 0, .string ⟨#[]⟩, .slice (some ⟨w3.heap.size + 1, 0, none⟩) 1 1, .int .i64 (posAt ts en st.i)]) (by simp [results, Tryz.results18, go_sem, d0, d1, d2, d3, d4, d5, d6, dl]) rfl ⟨_, rfl, ?_, ?_, ?_⟩
  · exact ex_one (op := ⟨#[110, 111, 116]⟩) (nm := ⟨#[]⟩) (vs := ⟨#[]⟩) ((hx3.set7 (own_ne (Nat.lt_succ_self _)) _ _ _ _ _ _ _).lowB (Nat.le_succ _)) ((al _ _).trans ((al _ _).mono (by simp))) (by simp [World.setCell]) (by show _ ≤ _; omega) (fun i => World.cell?_alloc_at _ _ _ _ (by simp [World.setCell])) (by decide) (by decide) (by decide)
  · exact ((h3.set7 (by omega) hT _ _ _ _ _ _ _).on (al _ _)).on (al _ _)
  · exact ((B3.set7 (Nat.le_refl _) (by omega) _ _ _ _ _ _ _).on (al _ _) hrl).on (al _ _) hrl
end Go.Proofs.YtkoejkpjkcejcaaGreatDoor
namespace Go.Proofs.YtkoejkpjkcejcaaGreatDoor
open Go.RowKit
set_option linter.unusedVariables false
set_option linter.unusedSimpArgs false

/-- An expression in a variable of its own. -/
def BoxE (w : World) (b : Nat) (lo : Nat → Prop) (x : Ex) : Prop := ∃ (o n : ByteArray) (t k : Int) (s : ByteArray) (p : Option Addr) (m c : Nat) (a : Int), Box7 w b (.string o) (.string n) (.int .i64 t) (.int .i64 k) (.string s) (.slice p m c) (.int .i64 a) ∧ ExIn w lo (.agg #[.string o, .string n, .int .i64 t, .int .i64 k, .string s, .slice p m c, .int .i64 a]) x
/-- What lies in memory in the loop. -/
structure LW (w : World) (r XB SB : Nat) (tp : Option Addr) (tc : Nat) (ts : List Tok) (en : Nat) (SS : List ByteArray) (wr : World) (E : Ex) (S : St) : Prop where
  bx : BoxE wr XB (fun b => w.heap.size + 1 ≤ b ∧ b ≠ XB) E
  rz : Box7 wr w.heap.size (.string ⟨#[]⟩) (.string ⟨#[]⟩) (.int .i64 0) (.int .i64 0) (.string ⟨#[]⟩) (.slice none 0 0) (.int .i64 0)
  ir : InAt wr r tp tc ts en S
  bt : But r w wr
  sg : ∀ j (h : j < SS.length), wr.cell? ⟨SB, j, none⟩ = some (.string SS[j])
  sl : SB < wr.heap.size
theorem LW.but {w : World} {r XB SB : Nat} {tp : Option Addr} {tc : Nat} {ts : List Tok} {en : Nat} {SS : List ByteArray} {wr w' : World} {E : Ex} {S S2 : St} (h : LW w r XB SB tp tc ts en SS wr E S) (hr : r < w.heap.size) (hX : w.heap.size + 1 ≤ XB) (hS : w.heap.size + 1 ≤ SB) (hb : But r wr w') (hi : InAt w' r tp tc ts en S2) : LW w r XB SB tp tc ts en SS w' E S2 := by
  obtain ⟨⟨o, n, t, k, s, p, m, c, a, b7, hx⟩, h2, h3, h4, h5, h6⟩ := h
  exact ⟨⟨o, n, t, k, s, p, m, c, a, b7.but hb (by omega), hx.but hb (fun b hb => by have := hb.1; omega)⟩, h2.but hb (by omega), hi, h4.trans hb, fun j hj => by rw [hb.cell _ h6 (by omega)]; exact h5 j hj, by have := hb.size; omega⟩
theorem LW.on {w : World} {r XB SB : Nat} {tp : Option Addr} {tc : Nat} {ts : List Tok} {en : Nat} {SS : List ByteArray} {wr w' : World} {E : Ex} {S : St} (h : LW w r XB SB tp tc ts en SS wr E S) (hb : Below wr.heap.size wr w') : LW w r XB SB tp tc ts en SS w' E S := by
  obtain ⟨⟨o, n, t, k, s, p, m, c, a, b7, hx⟩, h2, h3, h4, h5, h6⟩ := h
  exact ⟨⟨o, n, t, k, s, p, m, c, a, b7.on hb, hx.on hb⟩, h2.on hb, h3.on hb, h4.trans (But.of_below' hb (Nat.le_of_lt h3.lt)), fun j hj => by rw [hb.cell (p := ⟨SB, j, none⟩) h6]; exact h5 j hj, by have := hb.size; omega⟩
theorem LW.put {w : World} {r XB SB : Nat} {tp : Option Addr} {tc : Nat} {ts : List Tok} {en : Nat} {SS : List ByteArray} {W : World} {E E3 : Ex} {S : St} (h : LW w r XB SB tp tc ts en SS W E S) (hr : r < w.heap.size) (hX : w.heap.size + 1 ≤ XB) (hS : SB ≠ XB) (hT : TokNe tp ts XB) {o n : ByteArray} {t k : Int} {s : ByteArray} {p : Option Addr} {m c : Nat} {a : Int} (hx : ExIn W (fun b => w.heap.size + 1 ≤ b ∧ b ≠ XB) (.agg #[.string o, .string n, .int .i64 t, .int .i64 k, .string s, .slice p m c, .int .i64 a]) E3) : LW w r XB SB tp tc ts en SS (((((((W.setCell ⟨XB, 0, none⟩ (.string o)).setCell ⟨XB, 1, none⟩ (.string n)).setCell ⟨XB, 2, none⟩ (.int .i64 t)).setCell ⟨XB, 3, none⟩ (.int .i64 k)).setCell ⟨XB, 4, none⟩ (.string s)).setCell ⟨XB, 5, none⟩ (.slice p m c)).setCell ⟨XB, 6, none⟩ (.int .i64 a)) E3 S := by
  obtain ⟨⟨o', n', t', k', s', p', m', c', a', b7, hx'⟩, h2, h3, h4, h5, h6⟩ := h
  have hB : But XB W (((((((W.setCell ⟨XB, 0, none⟩ (.string o)).setCell ⟨XB, 1, none⟩ (.string n)).setCell ⟨XB, 2, none⟩ (.int .i64 t)).setCell ⟨XB, 3, none⟩ (.int .i64 k)).setCell ⟨XB, 4, none⟩ (.string s)).setCell ⟨XB, 5, none⟩ (.slice p m c)).setCell ⟨XB, 6, none⟩ (.int .i64 a)) := (((((((But.refl XB W).set 0 _).set 1 _).set 2 _).set 3 _).set 4 _).set 5 _).set 6 _
  exact ⟨⟨o, n, t, k, s, p, m, c, a, b7.set _ _ _ _ _ _ _, hx.but hB (fun b hb => hb.2)⟩, h2.far (by omega) _ _ _ _ _ _ _, h3.set7 (by omega) hT _ _ _ _ _ _ _, h4.set7 (by omega) (by omega) _ _ _ _ _ _ _, fun j hj => by rw [hB.cell _ h6 hS]; exact h5 j hj, by have := hB.size; omega⟩
theorem sgl_len (lv : Nat) : ∀ g ∈ sgl lv, g.length ≤ 10 := by
  intro g hg
  unfold sgl at hg
  split at hg
  all_goals
    simp only [List.mem_cons, List.not_mem_nil, or_false] at hg
  · rw [hg]; decide
  · rw [hg]; decide
  · rcases hg with rfl | rfl | rfl | rfl | rfl | rfl <;> decide
  · rcases hg with rfl | rfl <;> decide
  · rcases hg with rfl | rfl | rfl <;> decide
theorem ba_eta (B : ByteArray) : (⟨B.data.toList.toArray⟩ : ByteArray) = B := by cases B; simp
/-- One sign of a level, and what follows. -/
def OneL (ts : List Tok) (en : Nat) (sub : St → Ex × St) (lv : Nat) (E : Ex) (S : St) (kk : Nat) (ag : Bool) (E2 : Ex) (S2 : St) : Prop :=
  (ag = true → ∃ g, firstT ts S (sgl lv) = some g ∧ E2 = op1 g (posAt ts en S.i) [E, (sub (adv S)).1] ∧ S2 = (sub (adv S)).2) ∧ (ag = false → E2 = E ∧ S2 = S ∧ firstT ts S (sgl lv) = firstT ts S ((sgl lv).drop kk))
/-- What is left to be read behind. -/
def OutR (ts : List Tok) (en : Nat) (sub : St → Ex × St) (lv : Nat) (PL : Ex × St) (ag : Bool) (E : Ex) (S : St) (k gg : Nat) : Prop :=
  (ag = true → pLoop ts en sub lv k E S = PL ∧ ts.length < S.i + k ∧ ts.length + 2 - S.i ≤ gg) ∧ (ag = false → PL = (E, S))
theorem firstT_cons {ts : List Tok} {S : St} {gs : List (List UInt8)} {k : Nat} (h : k < gs.length) : firstT ts S (gs.drop k) = if isT ts S gs[k] = true then some gs[k] else firstT ts S (gs.drop (k + 1)) := by
  rw [List.drop_eq_getElem_cons h, firstT]
theorem map_get {SS : List ByteArray} {gs : List (List UInt8)} (h : SS.map (·.data.toList) = gs) (k : Nat) (hk : k < SS.length) : ∃ h2 : k < gs.length, gs[k] = SS[k].data.toList := by
  subst h
  exact ⟨by simpa using hk, by simp⟩
set_option maxHeartbeats 16000000 in
set_option maxRecDepth 20000 in
theorem expr_lev (r : Nat) (tp : Option Addr) (tc : Nat) (ts : List Tok) (en : Nat) (st : St) (lv : Nat) (hl : lv < 5) (hl2 : lv ≠ 2) (sub : St → Ex × St) (hn : ts.length ≤ 400) (hi : st.i ≤ ts.length) (hb : st.bad < 0) (hm : Mono ts sub) (cE0 : GivesE r tp tc ts en ((lv : Int) + 1) st (sub st).1 (sub st).2) (cE : ∀ s, st.i + 1 ≤ s.i → s.i ≤ ts.length → GivesE r tp tc ts en ((lv : Int) + 1) s (sub s).1 (sub s).2) : GivesE r tp tc ts en (lv : Int) st (pLoop ts en sub lv (ts.length + 1) (sub st).1 (sub st).2).1 (pLoop ts en sub lv (ts.length + 1) (sub st).1 (sub st).2).2 := by
  intro w h
  obtain ⟨hz, bz, hrl⟩ := in_z h
  have hT : TokNe tp ts w.heap.size := h.ne (Nat.le_refl _)
  have X0 : Box7 (w.alloc zE) w.heap.size (.string ⟨#[]⟩) (.string ⟨#[]⟩) (.int .i64 0) (.int .i64 0) (.string ⟨#[]⟩) (.slice none 0 0) (.int .i64 0) := box7_alloc w _ _ _ _ _ _ _ _
  have hTg : ∀ z, w.heap.size ≤ z → TokNe tp ts z := fun z hz => h.ne hz
  have hb0 : ¬ 0 ≤ st.bad := by omega
  have cA := in_at _ r tp tc ts en st hz hn (by omega)
  have q2 : ((lv : Int) == 2) = false := by simp; omega
  have q5 : ((lv : Int) == 5) = false := by simp; omega
  have hms := hm st hi
  have CE : Hid (∀ s, st.i + 1 ≤ s.i → s.i ≤ ts.length → GivesE r tp tc ts en ((lv : Int) + 1) s (sub s).1 (sub s).2) := cE
  have HMo : Hid (Mono ts sub) := hm
  obtain ⟨PL, hPL⟩ : ∃ PL, pLoop ts en sub lv (ts.length + 1) (sub st).1 (sub st).2 = PL := ⟨_, rfl⟩
  have HP : Hid (pLoop ts en sub lv (ts.length + 1) (sub st).1 (sub st).2 = PL) := hPL
  rw [hPL]
  obtain ⟨g0, g1, g2, g3, gf1, gf3, glt, _⟩ := h
  clear cE hm hPL
  go_enter Tryz.func18, Tryz.ntmps18
  go_wp2_with fail
  refine cA.mono ?_
  rintro e w1 ⟨rfl, q, rfl⟩
  have H1 : InAt ((w.alloc zE).drewN q) r tp tc ts en st := hz.same rfl
  have B1 : But r w ((w.alloc zE).drewN q) := bz.drewN q
  have X1 : Box7 ((w.alloc zE).drewN q) w.heap.size (.string ⟨#[]⟩) (.string ⟨#[]⟩) (.int .i64 0) (.int .i64 0) (.string ⟨#[]⟩) (.slice none 0 0) (.int .i64 0) := ⟨X0.c0, X0.c1, X0.c2, X0.c3, X0.c4, X0.c5, X0.c6, X0.fz, X0.lt⟩
  have hz1 : w.heap.size + 1 ≤ ((w.alloc zE).drewN q).heap.size := Nat.le_of_eq (by simp [zE, World.drewN])
  clear cA hz bz X0 g0 g1 g2 g3 gf1 gf3 glt
  generalize hW1 : (w.alloc zE).drewN q = W1 at H1 B1 X1 hz1
  clear hW1
  go_wp2_with fail
  refine (cE0 _ H1).mono ?_
  rintro e w3 ⟨v, rfl, hx, h3, b3⟩
  have hx3 := hx.lowB hz1
  obtain ⟨o1, n1, t1, k1, z1, p1, m1, c1, a1, rfl⟩ := hx.agg
  have B3 : But r w w3 := B1.trans b3
  have X3 := X1.but b3 (by omega)
  have hz3 : w.heap.size + 1 ≤ w3.heap.size := by have := b3.size; omega
  have hr3 := h3.lt
  have al3 := al w3 (.cells #[.string o1, .string n1, .int .i64 t1, .int .i64 k1, .string z1, .slice p1 m1 c1, .int .i64 a1] 26)
  have L3 := box7_alloc w3 (.string o1) (.string n1) (.int .i64 t1) (.int .i64 k1) (.string z1) (.slice p1 m1 c1) (.int .i64 a1) 26
  have BE3 : BoxE (w3.alloc (.cells #[.string o1, .string n1, .int .i64 t1, .int .i64 k1, .string z1, .slice p1 m1 c1, .int .i64 a1] 26)) w3.heap.size (fun b => w.heap.size + 1 ≤ b ∧ b ≠ w3.heap.size) (sub st).1 := ⟨o1, n1, t1, k1, z1, p1, m1, c1, a1, L3, (ExIn.low (fun b hb h => ⟨h, by omega⟩) _ _ hx3).on al3⟩
  have X4 := X3.on al3
  have I4 := h3.on al3
  have B4 : But r w (w3.alloc (.cells #[.string o1, .string n1, .int .i64 t1, .int .i64 k1, .string z1, .slice p1 m1 c1, .int .i64 a1] 26)) := B3.alloc (Nat.le_of_lt hr3) _
  have hz4 : w3.heap.size + 1 ≤ (w3.alloc (.cells #[.string o1, .string n1, .int .i64 t1, .int .i64 k1, .string z1, .slice p1 m1 c1, .int .i64 a1] 26)).heap.size := by simp
  obtain ⟨SS, hSS, hS6, cS⟩ := signs_any lv (by omega) (w3.alloc (.cells #[.string o1, .string n1, .int .i64 t1, .int .i64 k1, .string z1, .slice p1 m1 c1, .int .i64 a1] 26))
  clear cE0 b3 X1 B1 H1 hx hx3 L3 X3 B3 h3
  go_wp2_with fail
  refine cS.mono ?_
  rintro e w5 ⟨rfl, hsg, hsl, b5⟩
  have L5 : LW w r w3.heap.size (w3.alloc (.cells #[.string o1, .string n1, .int .i64 t1, .int .i64 k1, .string z1, .slice p1 m1 c1, .int .i64 a1] 26)).heap.size tp tc ts en SS w5 (sub st).1 (sub st).2 := by
    obtain ⟨o, n, t, k, s, p, m, c, a, b7, hx⟩ := BE3
    exact ⟨⟨o, n, t, k, s, p, m, c, a, b7.on b5, hx.on b5⟩, X4.on b5, I4.on b5, B4.trans (But.of_below' b5 (Nat.le_of_lt I4.lt)), hsg, hsl⟩
  obtain ⟨XB, hXB⟩ : ∃ XB, w3.heap.size = XB := ⟨_, rfl⟩
  have hSBe : (w3.alloc (.cells #[.string o1, .string n1, .int .i64 t1, .int .i64 k1, .string z1, .slice p1 m1 c1, .int .i64 a1] 26)).heap.size = XB + 1 := by simp [hXB]
  rw [hXB, hSBe] at L5
  rw [hSBe, hXB]
  have hXl : w.heap.size + 1 ≤ XB := by omega
  have LL : Aside (LW w r XB (XB + 1) tp tc ts en SS w5 (sub st).1 (sub st).2) := L5
  have HSS : Hid (SS.map (·.data.toList) = sgl lv) := hSS
  obtain ⟨NS, hNS⟩ : ∃ NS, SS.length = NS := ⟨_, rfl⟩
  have HNS : Hid (SS.length = NS) := hNS
  rw [hNS] at hS6 ⊢
  clear cS hsg hsl b5 L5 BE3 X4 I4 B4 hz4 al3 hXB hSBe hSS hNS hz3
  go_wp2
  go_loopg [5, 10, 11, 12, 13] (ts.length + 3) (fun gg _ s10 _ _ _ wr => ∃ (ag : Bool) (E : Ex) (S : St) (k : Nat), s10 = .bool ag ∧ Aside (LW w r XB (XB + 1) tp tc ts en SS wr E S) ∧ Hid (OutR ts en sub lv PL ag E S k gg) ∧ st.i ≤ S.i ∧ S.i ≤ ts.length)
  case atStart => exact ⟨true, _, _, ts.length + 1, rfl, LL, (show Hid _ from ⟨fun _ => ⟨HP.out, by omega, by omega⟩, fun h => absurd h (by decide)⟩), hms.1, hms.2⟩
  case round =>
    obtain ⟨ag, E, S, k, rfl, LR, HPL, hSi, hSl⟩ := hrel
    clear LL
    cases ag with
    | false =>
      have hP := HPL.out.2 rfl
      subst hP
      have L1 := LR.out
      clear HPL HP
      obtain ⟨⟨o, n, t, kq, s, p, mq, c, a, b7, hx⟩, rz, ir, bt, sg, sl⟩ := L1
      obtain ⟨d0, d1, d2, d3, d4, d5, d6, df, dl⟩ := rz
      obtain ⟨e0, e1, e2, e3, e4, e5, e6, ef, el⟩ := b7
      have df0 := df 0
      have df1 := df 1
      have df2 := df 2
      have df3 := df 3
      have df4 := df 4
      have df5 := df 5
      have df6 := df 6
      clear df ef sg LR
      go_wp2
      refine bodyPost_ret (v := .agg #[.string o, .string n, .int .i64 t, .int .i64 kq, .string s, .slice p mq c, .int .i64 a]) (by simp [results, Tryz.results18, go_sem, d0, d1, d2, d3, d4, d5, d6, dl]) rfl ⟨_, rfl, ?_, ?_, ?_⟩
      · exact (((ExIn.low (lo' := fun b => w.heap.size + 1 ≤ b) (fun b _ h => h.1) _ _ hx).set7 (own_ne (Nat.lt_succ_self _)) _ _ _ _ _ _ _)).lowB (Nat.le_succ _)
      · exact ir.set7 (by omega) hT _ _ _ _ _ _ _
      · exact bt.set7 (Nat.le_refl _) (by omega) _ _ _ _ _ _ _
    | true =>
      have hP := HPL.out.1 rfl
      have hgg := hP.2.2
      have HPk : Hid (pLoop ts en sub lv k E S = PL ∧ ts.length < S.i + k) := ⟨hP.1, hP.2.1⟩
      clear hP HPL HP
      go_wp2
      go_loopg [5, 10, 11, 12, 13] NS (fun g2 _ s10 s11 _ _ wi => ∃ (kk : Nat) (a2 : Bool) (E2 : Ex) (S2 : St), kk ≤ NS ∧ NS - kk ≤ g2 ∧ s11 = .int .i64 kk ∧ s10 = .bool a2 ∧ Aside (LW w r XB (XB + 1) tp tc ts en SS wi E2 S2) ∧ Hid (OneL ts en sub lv E S kk a2 E2 S2))
      case atStart => exact ⟨0, false, E, S, Nat.zero_le _, by omega, rfl, rfl, LR, (show Hid _ from ⟨fun h => absurd h (by decide), fun _ => ⟨rfl, rfl, rfl⟩⟩)⟩
      case round =>
        obtain ⟨kk, a2, E2, S2, hkk, hg2, rfl, rfl, LI, HO⟩ := hrel
        clear LR
        cases a2 with
        | true =>
          obtain ⟨g, hf, rfl, rfl⟩ := HO.out.1 rfl
          have hTl := isT_lt (firstT_is hf).2
          obtain ⟨k', rfl⟩ : ∃ k', k = k' + 1 := ⟨k - 1, by have := HPk.out.2; omega⟩
          have hmx := HMo.out (adv S) (by show S.i + 1 ≤ _; omega)
          have hai : (adv S).i = S.i + 1 := rfl
          rw [hai] at hmx
          have hp := HPk.out.1
          rw [pLoop, hf] at hp
          simp only at hp
          rw [if_neg hl2] at hp
          have HN : Hid (OutR ts en sub lv PL true (op1 g (posAt ts en S.i) [E, (sub (adv S)).1]) (sub (adv S)).2 k' (ts.length + 2 - (sub (adv S)).2.i)) := ⟨fun _ => ⟨hp, by have := HPk.out.2; omega, Nat.le_refl _⟩, fun h => absurd h (by decide)⟩
          clear hf HPk HO hp
          go_wp2
          all_goals
            go_roundg (ts.length + 2 - (sub (adv S)).2.i)
            case measure => omega
            case rel => exact ⟨true, _, _, k', rfl, LI, HN, by omega, by omega⟩
        | false =>
          obtain ⟨rfl, rfl, hfd⟩ := HO.out.2 rfl
          by_cases hlt : kk < NS
          · have hltz : (kk : Int) < (NS : Int) := by omega
            have h0z : (0 : Int) ≤ (kk : Int) := by omega
            have hks : kk < SS.length := by rw [HNS.out]; exact hlt
            obtain ⟨hkg, hge⟩ := map_get HSS.out kk hks
            have hF := hfd
            rw [firstT_cons hkg, hge] at hF
            have L1 := LI.out
            have hsgk := L1.sg kk hks
            have hsl := L1.sl
            have cA2 := in_at wr r tp tc ts en S2 L1.ir hn (by omega)
            have hgs : SS[kk].size ≤ 10 := by
              have := sgl_len lv _ (List.getElem_mem hkg)
              rw [hge] at this
              simpa using this
            generalize hGB : SS[kk] = GB at hsgk hF hgs
            have HGB : Hid (SS[kk] = GB) := hGB
            clear hGB
            have HF : Hid (firstT ts S2 (sgl lv) = if isT ts S2 GB.data.toList = true then some GB.data.toList else firstT ts S2 ((sgl lv).drop (kk + 1))) := hF
            clear hF hfd HO hge
            go_wp2_with fail
            refine cA2.mono ?_
            rintro e wj ⟨rfl, q2', rfl⟩
            have L2 := L1.on (below_drewN (Below.refl _ wr) q2')
            have hsgk2 : (wr.drewN q2').cell? ⟨XB + 1, kk, none⟩ = some (.string GB) := hsgk
            have hsl2 : XB + 1 < (wr.drewN q2').heap.size := hsl
            clear cA2 L1 LI hsgk hsl
            generalize wr.drewN q2' = wj at L2 hsgk2 hsl2 ⊢
            by_cases hT2 : isT ts S2 GB.data.toList = true
            · have hTl := isT_lt hT2
              have cH2 := has_yes wj r tp tc ts en S2 GB L2.ir hn (by omega) hT2
              have hai : (adv S2).i = S2.i + 1 := rfl
              have cX := CE.out (adv S2) (by rw [hai]; omega) (by rw [hai]; omega)
              have hmx := HMo.out (adv S2) (by rw [hai]; omega)
              rw [hai] at hmx
              have HO2 : Hid (OneL ts en sub lv E2 S2 (kk + 1) true (op1 GB.data.toList (posAt ts en S2.i) [E2, (sub (adv S2)).1]) (sub (adv S2)).2) := ⟨fun _ => ⟨GB.data.toList, by rw [HF.out, if_pos hT2], rfl, rfl⟩, fun h => absurd h (by decide)⟩
              clear HF hT2
              go_wp2_with fail
              refine cH2.mono ?_
              rintro e wk ⟨rfl, ik, bk⟩
              have LK := L2.but hrl hXl (by omega) bk ik
              have hzk : XB + 1 < wk.heap.size := by have := bk.size; omega
              clear cH2 L2 ik bk hsgk2 hsl2
              go_wp2_with fail
              refine (cX _ LK.ir).mono ?_
              rintro e wl ⟨v, rfl, hy, il, bl⟩
              have LM := LK.but hrl hXl (by omega) bl il
              have hzl : wk.heap.size ≤ wl.heap.size := bl.size
              obtain ⟨u0, u1, u2, u3, u4, u5, u6, u7, u8, rfl⟩ := hy.agg
              have hyl := ExIn.low (lo' := fun b => w.heap.size + 1 ≤ b ∧ b ≠ XB) (fun b _ h => ⟨by omega, by omega⟩) _ _ hy
              clear cX LK il bl hy
              have LM2 := LM
              obtain ⟨⟨o, n, t, kq, s, p, mq, c, a, b7, hx⟩, rz, ir, bt, sg, sl⟩ := LM
              have bW : Below wl.heap.size wl ((((wl.alloc (.cells #[.string u0, .string u1, .int .i64 u2, .int .i64 u3, .string u4, .slice u5 u6 u7, .int .i64 u8] 26)).alloc (.cells #[.string o, .string n, .int .i64 t, .int .i64 kq, .string s, .slice p mq c, .int .i64 a] 26)).alloc (.cells #[.string o, .string n, .int .i64 t, .int .i64 kq, .string s, .slice p mq c, .int .i64 a, .string u0, .string u1, .int .i64 u2, .int .i64 u3, .string u4, .slice u5 u6 u7, .int .i64 u8] 26)))  := ((((al wl (.cells #[.string u0, .string u1, .int .i64 u2, .int .i64 u3, .string u4, .slice u5 u6 u7, .int .i64 u8] 26))).alloc (by simp) (.cells #[.string o, .string n, .int .i64 t, .int .i64 kq, .string s, .slice p mq c, .int .i64 a] 26)).alloc (by simp; omega) (.cells #[.string o, .string n, .int .i64 t, .int .i64 kq, .string s, .slice p mq c, .int .i64 a, .string u0, .string u1, .int .i64 u2, .int .i64 u3, .string u4, .slice u5 u6 u7, .int .i64 u8] 26))
              obtain ⟨x0, x1, x2, x3, x4, x5, x6, xf, xl⟩ := b7.on bW
              have xf0 := xf 0
              have xf1 := xf 1
              have xf2 := xf 2
              have xf3 := xf 3
              have xf4 := xf 4
              have xf5 := xf 5
              have xf6 := xf 6
              obtain ⟨e0, e1, e2, e3, e4, e5, e6, ef, el⟩ := b7
              have sgk := sg kk hks
              rw [HGB.out] at sgk
              clear ef sg xf
              obtain ⟨PA, hPA⟩ : ∃ PA, posAt ts en S2.i = PA := ⟨_, rfl⟩
              rw [hPA] at HO2 ⊢
              clear hPA
              have hlen3 : wl.heap.size + 1 + 1 < ((((wl.alloc (.cells #[.string u0, .string u1, .int .i64 u2, .int .i64 u3, .string u4, .slice u5 u6 u7, .int .i64 u8] 26)).alloc (.cells #[.string o, .string n, .int .i64 t, .int .i64 kq, .string s, .slice p mq c, .int .i64 a] 26)).alloc (.cells #[.string o, .string n, .int .i64 t, .int .i64 kq, .string s, .slice p mq c, .int .i64 a, .string u0, .string u1, .int .i64 u2, .int .i64 u3, .string u4, .slice u5 u6 u7, .int .i64 u8] 26))).heap.size := by simp
              have hnode := ex_two (op := GB) (nm := ⟨#[]⟩) (vs := ⟨#[]⟩) (vt := 0) (vn := 0) (pos := PA) hx hyl bW hlen3 (show w.heap.size + 1 ≤ wl.heap.size + 1 + 1 ∧ wl.heap.size + 1 + 1 ≠ XB from ⟨by omega, by omega⟩) (fun i => World.cell?_alloc_at _ _ _ _ (by simp)) (by unfold maxLen; omega) (by decide) (by decide)
              have LP := (LM2.on bW).put hrl hXl (by omega) (hTg XB (by omega)) hnode
              have LF := (show Aside _ from LP.on ((Below.refl _ _).drew))
              rw [show op1 GB.data.toList PA [E2, (sub (adv S2)).1] = .node GB ⟨#[]⟩ 0 0 ⟨#[]⟩ PA [E2, (sub (adv S2)).1] by rw [op1, ba_eta]] at HO2
              clear LM2 LP hnode hyl hx rz ir bt bW hlen3
              go_wp2
              go_region
              go_wp2
              go_roundg (NS - (kk + 1))
              case measure => omega
              case rel => exact ⟨kk + 1, true, _, _, by omega, by omega, by go_num, rfl, LF, HO2⟩
            · have hTf : isT ts S2 GB.data.toList = false := by simpa using hT2
              have cH2 := has_no wj r tp tc ts en S2 GB L2.ir hn (by omega) hTf
              have HO2 : Hid (OneL ts en sub lv E2 S2 (kk + 1) false E2 S2) := ⟨fun h => absurd h (by decide), fun _ => ⟨rfl, rfl, by rw [HF.out, if_neg hT2]⟩⟩
              clear HF hT2 hTf
              go_wp2_with fail
              refine cH2.mono ?_
              rintro e wk ⟨rfl, ik, bk⟩
              have LK : Aside (LW w r XB (XB + 1) tp tc ts en SS wk E2 S2) := L2.but hrl hXl (by omega) bk ik
              clear cH2 L2 ik bk
              go_wp2
              go_roundg (NS - (kk + 1))
              case measure => omega
              case rel => exact ⟨kk + 1, false, E2, S2, by omega, by omega, by go_num, rfl, LK, HO2⟩
          · have hltz : ¬ (kk : Int) < (NS : Int) := by omega
            have hF : firstT ts S2 (sgl lv) = none := by
              rw [hfd, List.drop_eq_nil_of_le (by rw [← HSS.out, List.length_map, HNS.out]; omega), firstT]
            obtain ⟨k', rfl⟩ : ∃ k', k = k' + 1 := ⟨k - 1, by have := HPk.out.2; omega⟩
            have hp := HPk.out.1
            rw [pLoop, hF] at hp
            have HN : Hid (OutR ts en sub lv PL false E2 S2 0 0) := ⟨fun h => absurd h (by decide), fun _ => hp.symm⟩
            clear hF HPk HO hp hfd
            go_wp2
            go_roundg 0
            case measure => omega
            case rel => exact ⟨false, _, _, 0, rfl, LI, HN, by omega, by omega⟩
set_option maxHeartbeats 16000000 in
set_option maxRecDepth 20000 in
theorem expr_cmp (r : Nat) (tp : Option Addr) (tc : Nat) (ts : List Tok) (en : Nat) (st : St) (sub : St → Ex × St) (hn : ts.length ≤ 400) (hi : st.i ≤ ts.length) (hb : st.bad < 0) (hs : isT ts st [110, 111, 116] = false) (hm : Mono ts sub) (cE0 : GivesE r tp tc ts en 3 st (sub st).1 (sub st).2) (cE : ∀ s, st.i + 1 ≤ s.i → s.i ≤ ts.length → GivesE r tp tc ts en 3 s (sub s).1 (sub s).2) : GivesE r tp tc ts en 2 st (pLoop ts en sub 2 (ts.length + 1) (sub st).1 (sub st).2).1 (pLoop ts en sub 2 (ts.length + 1) (sub st).1 (sub st).2).2 := by
  intro w h
  obtain ⟨hz, bz, hrl⟩ := in_z h
  have hT : TokNe tp ts w.heap.size := h.ne (Nat.le_refl _)
  have X0 : Box7 (w.alloc zE) w.heap.size (.string ⟨#[]⟩) (.string ⟨#[]⟩) (.int .i64 0) (.int .i64 0) (.string ⟨#[]⟩) (.slice none 0 0) (.int .i64 0) := box7_alloc w _ _ _ _ _ _ _ _
  have hTg : ∀ z, w.heap.size ≤ z → TokNe tp ts z := fun z hz => h.ne hz
  have hb0 : ¬ 0 ≤ st.bad := by omega
  have cA := in_at _ r tp tc ts en st hz hn (by omega)
  have cH := fun W hW => has_no W r tp tc ts en st ⟨#[110, 111, 116]⟩ hW hn (by omega) hs
  clear hs
  have hms := hm st hi
  have CE : Hid (∀ s, st.i + 1 ≤ s.i → s.i ≤ ts.length → GivesE r tp tc ts en 3 s (sub s).1 (sub s).2) := cE
  have HMo : Hid (Mono ts sub) := hm
  obtain ⟨PL, hPL⟩ : ∃ PL, pLoop ts en sub 2 (ts.length + 1) (sub st).1 (sub st).2 = PL := ⟨_, rfl⟩
  have HP : Hid (pLoop ts en sub 2 (ts.length + 1) (sub st).1 (sub st).2 = PL) := hPL
  rw [hPL]
  obtain ⟨g0, g1, g2, g3, gf1, gf3, glt, _⟩ := h
  clear cE hm hPL
  go_enter Tryz.func18, Tryz.ntmps18
  go_wp2_with fail
  refine cA.mono ?_
  rintro e w1 ⟨rfl, q, rfl⟩
  have H1 : InAt ((w.alloc zE).drewN q) r tp tc ts en st := hz.same rfl
  have B1 : But r w ((w.alloc zE).drewN q) := bz.drewN q
  have X1 : Box7 ((w.alloc zE).drewN q) w.heap.size (.string ⟨#[]⟩) (.string ⟨#[]⟩) (.int .i64 0) (.int .i64 0) (.string ⟨#[]⟩) (.slice none 0 0) (.int .i64 0) := ⟨X0.c0, X0.c1, X0.c2, X0.c3, X0.c4, X0.c5, X0.c6, X0.fz, X0.lt⟩
  have hz1 : w.heap.size + 1 ≤ ((w.alloc zE).drewN q).heap.size := Nat.le_of_eq (by simp [zE, World.drewN])
  clear cA hz bz X0 g0 g1 g2 g3 gf1 gf3 glt
  generalize hW1 : (w.alloc zE).drewN q = W1 at H1 B1 X1 hz1
  clear hW1
  go_wp2_with fail
  refine (cH _ H1).mono ?_
  rintro e w2 ⟨rfl, h2, b2⟩
  have B2 : But r w w2 := B1.trans b2
  have X2 := X1.but b2 (by omega)
  have hz2 : w.heap.size + 1 ≤ w2.heap.size := by have := b2.size; omega
  clear cH b2 X1 B1 H1 hz1
  go_wp2_with fail
  refine (cE0 _ h2).mono ?_
  rintro e w3 ⟨v, rfl, hx, h3, b3⟩
  have hx3 := hx.lowB hz2
  obtain ⟨o1, n1, t1, k1, z1, p1, m1, c1, a1, rfl⟩ := hx.agg
  have B3 : But r w w3 := B2.trans b3
  have X3 := X2.but b3 (by omega)
  have hz3 : w.heap.size + 1 ≤ w3.heap.size := by have := b3.size; omega
  have hr3 := h3.lt
  have al3 := al w3 (.cells #[.string o1, .string n1, .int .i64 t1, .int .i64 k1, .string z1, .slice p1 m1 c1, .int .i64 a1] 26)
  have L3 := box7_alloc w3 (.string o1) (.string n1) (.int .i64 t1) (.int .i64 k1) (.string z1) (.slice p1 m1 c1) (.int .i64 a1) 26
  have BE3 : BoxE (w3.alloc (.cells #[.string o1, .string n1, .int .i64 t1, .int .i64 k1, .string z1, .slice p1 m1 c1, .int .i64 a1] 26)) w3.heap.size (fun b => w.heap.size + 1 ≤ b ∧ b ≠ w3.heap.size) (sub st).1 := ⟨o1, n1, t1, k1, z1, p1, m1, c1, a1, L3, (ExIn.low (fun b hb h => ⟨h, by omega⟩) _ _ hx3).on al3⟩
  have X4 := X3.on al3
  have I4 := h3.on al3
  have B4 : But r w (w3.alloc (.cells #[.string o1, .string n1, .int .i64 t1, .int .i64 k1, .string z1, .slice p1 m1 c1, .int .i64 a1] 26)) := B3.alloc (Nat.le_of_lt hr3) _
  have hz4 : w3.heap.size + 1 ≤ (w3.alloc (.cells #[.string o1, .string n1, .int .i64 t1, .int .i64 k1, .string z1, .slice p1 m1 c1, .int .i64 a1] 26)).heap.size := by simp
  obtain ⟨SS, hSS, hS6, cS⟩ := signs_any 2 (by omega) (w3.alloc (.cells #[.string o1, .string n1, .int .i64 t1, .int .i64 k1, .string z1, .slice p1 m1 c1, .int .i64 a1] 26))
  clear cE0 b3 X2 B2 h2 hx hx3 L3 X3 B3 h3
  go_wp2_with fail
  refine cS.mono ?_
  rintro e w5 ⟨rfl, hsg, hsl, b5⟩
  have L5 : LW w r w3.heap.size (w3.alloc (.cells #[.string o1, .string n1, .int .i64 t1, .int .i64 k1, .string z1, .slice p1 m1 c1, .int .i64 a1] 26)).heap.size tp tc ts en SS w5 (sub st).1 (sub st).2 := by
    obtain ⟨o, n, t, k, s, p, m, c, a, b7, hx⟩ := BE3
    exact ⟨⟨o, n, t, k, s, p, m, c, a, b7.on b5, hx.on b5⟩, X4.on b5, I4.on b5, B4.trans (But.of_below' b5 (Nat.le_of_lt I4.lt)), hsg, hsl⟩
  obtain ⟨XB, hXB⟩ : ∃ XB, w3.heap.size = XB := ⟨_, rfl⟩
  have hSBe : (w3.alloc (.cells #[.string o1, .string n1, .int .i64 t1, .int .i64 k1, .string z1, .slice p1 m1 c1, .int .i64 a1] 26)).heap.size = XB + 1 := by simp [hXB]
  rw [hXB, hSBe] at L5
  rw [hSBe, hXB]
  have hXl : w.heap.size + 1 ≤ XB := by omega
  have LL : Aside (LW w r XB (XB + 1) tp tc ts en SS w5 (sub st).1 (sub st).2) := L5
  have HSS : Hid (SS.map (·.data.toList) = sgl 2) := hSS
  obtain ⟨NS, hNS⟩ : ∃ NS, SS.length = NS := ⟨_, rfl⟩
  have HNS : Hid (SS.length = NS) := hNS
  rw [hNS] at hS6 ⊢
  clear cS hsg hsl b5 L5 BE3 X4 I4 B4 hz4 al3 hXB hSBe hSS hNS hz3
  go_wp2
  go_loopg [5, 10, 11, 12, 13] (ts.length + 3) (fun gg _ s10 _ _ _ wr => ∃ (ag : Bool) (E : Ex) (S : St) (k : Nat), s10 = .bool ag ∧ Aside (LW w r XB (XB + 1) tp tc ts en SS wr E S) ∧ Hid (OutR ts en sub 2 PL ag E S k gg) ∧ st.i ≤ S.i ∧ S.i ≤ ts.length)
  case atStart => exact ⟨true, _, _, ts.length + 1, rfl, LL, (show Hid _ from ⟨fun _ => ⟨HP.out, by omega, by omega⟩, fun h => absurd h (by decide)⟩), hms.1, hms.2⟩
  case round =>
    obtain ⟨ag, E, S, k, rfl, LR, HPL, hSi, hSl⟩ := hrel
    clear LL
    cases ag with
    | false =>
      have hP := HPL.out.2 rfl
      subst hP
      have L1 := LR.out
      clear HPL HP
      obtain ⟨⟨o, n, t, kq, s, p, mq, c, a, b7, hx⟩, rz, ir, bt, sg, sl⟩ := L1
      obtain ⟨d0, d1, d2, d3, d4, d5, d6, df, dl⟩ := rz
      obtain ⟨e0, e1, e2, e3, e4, e5, e6, ef, el⟩ := b7
      have df0 := df 0
      have df1 := df 1
      have df2 := df 2
      have df3 := df 3
      have df4 := df 4
      have df5 := df 5
      have df6 := df 6
      clear df ef sg LR
      go_wp2
      refine bodyPost_ret (v := .agg #[.string o, .string n, .int .i64 t, .int .i64 kq, .string s, .slice p mq c, .int .i64 a]) (by simp [results, Tryz.results18, go_sem, d0, d1, d2, d3, d4, d5, d6, dl]) rfl ⟨_, rfl, ?_, ?_, ?_⟩
      · exact (((ExIn.low (lo' := fun b => w.heap.size + 1 ≤ b) (fun b _ h => h.1) _ _ hx).set7 (own_ne (Nat.lt_succ_self _)) _ _ _ _ _ _ _)).lowB (Nat.le_succ _)
      · exact ir.set7 (by omega) hT _ _ _ _ _ _ _
      · exact bt.set7 (Nat.le_refl _) (by omega) _ _ _ _ _ _ _
    | true =>
      have hP := HPL.out.1 rfl
      have hgg := hP.2.2
      have HPk : Hid (pLoop ts en sub 2 k E S = PL ∧ ts.length < S.i + k) := ⟨hP.1, hP.2.1⟩
      clear hP HPL HP
      go_wp2
      go_loopg [5, 10, 11, 12, 13] NS (fun g2 _ s10 s11 _ _ wi => ∃ (kk : Nat) (a2 : Bool) (E2 : Ex) (S2 : St), kk ≤ NS ∧ NS - kk ≤ g2 ∧ s11 = .int .i64 kk ∧ s10 = .bool a2 ∧ Aside (LW w r XB (XB + 1) tp tc ts en SS wi E2 S2) ∧ Hid (OneL ts en sub 2 E S kk a2 E2 S2))
      case atStart => exact ⟨0, false, E, S, Nat.zero_le _, by omega, rfl, rfl, LR, (show Hid _ from ⟨fun h => absurd h (by decide), fun _ => ⟨rfl, rfl, rfl⟩⟩)⟩
      case round =>
        obtain ⟨kk, a2, E2, S2, hkk, hg2, rfl, rfl, LI, HO⟩ := hrel
        clear LR
        cases a2 with
        | true =>
          obtain ⟨g, hf, rfl, rfl⟩ := HO.out.1 rfl
          obtain ⟨k', rfl⟩ : ∃ k', k = k' + 1 := ⟨k - 1, by have := HPk.out.2; omega⟩
          have hp := HPk.out.1
          rw [pLoop, hf] at hp
          simp only at hp
          rw [if_pos trivial] at hp
          subst hp
          clear hf HPk HO
          by_cases hltq : kk < NS
          all_goals
            have hltqz : (kk : Int) < (NS : Int) ∨ ¬ (kk : Int) < (NS : Int) := by omega
            obtain ⟨⟨o, n, t, kq, s, p, mq, c, a, b7, hx⟩, rz, ir, bt, sg, sl⟩ := LI.out
            obtain ⟨d0, d1, d2, d3, d4, d5, d6, df, dl⟩ := rz
            obtain ⟨e0, e1, e2, e3, e4, e5, e6, ef, el⟩ := b7
            have df0 := df 0
            have df1 := df 1
            have df2 := df 2
            have df3 := df 3
            have df4 := df 4
            have df5 := df 5
            have df6 := df 6
            clear df ef sg LI
            go_wp2
            refine bodyPost_ret (v := .agg #[.string o, .string n, .int .i64 t, .int .i64 kq, .string s, .slice p mq c, .int .i64 a]) (by simp [results, Tryz.results18, go_sem, d0, d1, d2, d3, d4, d5, d6, dl]) rfl ⟨_, rfl, ?_, ?_, ?_⟩
            · exact (((ExIn.low (lo' := fun b => w.heap.size + 1 ≤ b) (fun b _ h => h.1) _ _ hx).set7 (own_ne (Nat.lt_succ_self _)) _ _ _ _ _ _ _)).lowB (Nat.le_succ _)
            · exact ir.set7 (by omega) hT _ _ _ _ _ _ _
            · exact bt.set7 (Nat.le_refl _) (by omega) _ _ _ _ _ _ _
        | false =>
          obtain ⟨rfl, rfl, hfd⟩ := HO.out.2 rfl
          by_cases hlt : kk < NS
          · have hltz : (kk : Int) < (NS : Int) := by omega
            have h0z : (0 : Int) ≤ (kk : Int) := by omega
            have hks : kk < SS.length := by rw [HNS.out]; exact hlt
            obtain ⟨hkg, hge⟩ := map_get HSS.out kk hks
            have hF := hfd
            rw [firstT_cons hkg, hge] at hF
            have L1 := LI.out
            have hsgk := L1.sg kk hks
            have hsl := L1.sl
            have cA2 := in_at wr r tp tc ts en S2 L1.ir hn (by omega)
            have hgs : SS[kk].size ≤ 10 := by
              have := sgl_len 2 _ (List.getElem_mem hkg)
              rw [hge] at this
              simpa using this
            generalize hGB : SS[kk] = GB at hsgk hF hgs
            have HGB : Hid (SS[kk] = GB) := hGB
            clear hGB
            have HF : Hid (firstT ts S2 (sgl 2) = if isT ts S2 GB.data.toList = true then some GB.data.toList else firstT ts S2 ((sgl 2).drop (kk + 1))) := hF
            clear hF hfd HO hge
            go_wp2_with fail
            refine cA2.mono ?_
            rintro e wj ⟨rfl, q2', rfl⟩
            have L2 := L1.on (below_drewN (Below.refl _ wr) q2')
            have hsgk2 : (wr.drewN q2').cell? ⟨XB + 1, kk, none⟩ = some (.string GB) := hsgk
            have hsl2 : XB + 1 < (wr.drewN q2').heap.size := hsl
            clear cA2 L1 LI hsgk hsl
            generalize wr.drewN q2' = wj at L2 hsgk2 hsl2 ⊢
            by_cases hT2 : isT ts S2 GB.data.toList = true
            · have hTl := isT_lt hT2
              have cH2 := has_yes wj r tp tc ts en S2 GB L2.ir hn (by omega) hT2
              have hai : (adv S2).i = S2.i + 1 := rfl
              have cX := CE.out (adv S2) (by rw [hai]; omega) (by rw [hai]; omega)
              have hmx := HMo.out (adv S2) (by rw [hai]; omega)
              rw [hai] at hmx
              have HO2 : Hid (OneL ts en sub 2 E2 S2 (kk + 1) true (op1 GB.data.toList (posAt ts en S2.i) [E2, (sub (adv S2)).1]) (sub (adv S2)).2) := ⟨fun _ => ⟨GB.data.toList, by rw [HF.out, if_pos hT2], rfl, rfl⟩, fun h => absurd h (by decide)⟩
              clear HF hT2
              go_wp2_with fail
              refine cH2.mono ?_
              rintro e wk ⟨rfl, ik, bk⟩
              have LK := L2.but hrl hXl (by omega) bk ik
              have hzk : XB + 1 < wk.heap.size := by have := bk.size; omega
              clear cH2 L2 ik bk hsgk2 hsl2
              go_wp2_with fail
              refine (cX _ LK.ir).mono ?_
              rintro e wl ⟨v, rfl, hy, il, bl⟩
              have LM := LK.but hrl hXl (by omega) bl il
              have hzl : wk.heap.size ≤ wl.heap.size := bl.size
              obtain ⟨u0, u1, u2, u3, u4, u5, u6, u7, u8, rfl⟩ := hy.agg
              have hyl := ExIn.low (lo' := fun b => w.heap.size + 1 ≤ b ∧ b ≠ XB) (fun b _ h => ⟨by omega, by omega⟩) _ _ hy
              clear cX LK il bl hy
              have LM2 := LM
              obtain ⟨⟨o, n, t, kq, s, p, mq, c, a, b7, hx⟩, rz, ir, bt, sg, sl⟩ := LM
              have bW : Below wl.heap.size wl ((((wl.alloc (.cells #[.string u0, .string u1, .int .i64 u2, .int .i64 u3, .string u4, .slice u5 u6 u7, .int .i64 u8] 26)).alloc (.cells #[.string o, .string n, .int .i64 t, .int .i64 kq, .string s, .slice p mq c, .int .i64 a] 26)).alloc (.cells #[.string o, .string n, .int .i64 t, .int .i64 kq, .string s, .slice p mq c, .int .i64 a, .string u0, .string u1, .int .i64 u2, .int .i64 u3, .string u4, .slice u5 u6 u7, .int .i64 u8] 26)))  := ((((al wl (.cells #[.string u0, .string u1, .int .i64 u2, .int .i64 u3, .string u4, .slice u5 u6 u7, .int .i64 u8] 26))).alloc (by simp) (.cells #[.string o, .string n, .int .i64 t, .int .i64 kq, .string s, .slice p mq c, .int .i64 a] 26)).alloc (by simp; omega) (.cells #[.string o, .string n, .int .i64 t, .int .i64 kq, .string s, .slice p mq c, .int .i64 a, .string u0, .string u1, .int .i64 u2, .int .i64 u3, .string u4, .slice u5 u6 u7, .int .i64 u8] 26))
              obtain ⟨x0, x1, x2, x3, x4, x5, x6, xf, xl⟩ := b7.on bW
              have xf0 := xf 0
              have xf1 := xf 1
              have xf2 := xf 2
              have xf3 := xf 3
              have xf4 := xf 4
              have xf5 := xf 5
              have xf6 := xf 6
              obtain ⟨e0, e1, e2, e3, e4, e5, e6, ef, el⟩ := b7
              have sgk := sg kk hks
              rw [HGB.out] at sgk
              clear ef sg xf
              obtain ⟨PA, hPA⟩ : ∃ PA, posAt ts en S2.i = PA := ⟨_, rfl⟩
              rw [hPA] at HO2 ⊢
              clear hPA
              have hlen3 : wl.heap.size + 1 + 1 < ((((wl.alloc (.cells #[.string u0, .string u1, .int .i64 u2, .int .i64 u3, .string u4, .slice u5 u6 u7, .int .i64 u8] 26)).alloc (.cells #[.string o, .string n, .int .i64 t, .int .i64 kq, .string s, .slice p mq c, .int .i64 a] 26)).alloc (.cells #[.string o, .string n, .int .i64 t, .int .i64 kq, .string s, .slice p mq c, .int .i64 a, .string u0, .string u1, .int .i64 u2, .int .i64 u3, .string u4, .slice u5 u6 u7, .int .i64 u8] 26))).heap.size := by simp
              have hnode := ex_two (op := GB) (nm := ⟨#[]⟩) (vs := ⟨#[]⟩) (vt := 0) (vn := 0) (pos := PA) hx hyl bW hlen3 (show w.heap.size + 1 ≤ wl.heap.size + 1 + 1 ∧ wl.heap.size + 1 + 1 ≠ XB from ⟨by omega, by omega⟩) (fun i => World.cell?_alloc_at _ _ _ _ (by simp)) (by unfold maxLen; omega) (by decide) (by decide)
              have LP := (LM2.on bW).put hrl hXl (by omega) (hTg XB (by omega)) hnode
              have LF := (show Aside _ from LP.on ((Below.refl _ _).drew))
              rw [show op1 GB.data.toList PA [E2, (sub (adv S2)).1] = .node GB ⟨#[]⟩ 0 0 ⟨#[]⟩ PA [E2, (sub (adv S2)).1] by rw [op1, ba_eta]] at HO2
              clear LM2 LP hnode hyl hx rz ir bt bW hlen3
              go_wp2
              go_region
              go_wp2
              go_roundg (NS - (kk + 1))
              case measure => omega
              case rel => exact ⟨kk + 1, true, _, _, by omega, by omega, by go_num, rfl, LF, HO2⟩
            · have hTf : isT ts S2 GB.data.toList = false := by simpa using hT2
              have cH2 := has_no wj r tp tc ts en S2 GB L2.ir hn (by omega) hTf
              have HO2 : Hid (OneL ts en sub 2 E2 S2 (kk + 1) false E2 S2) := ⟨fun h => absurd h (by decide), fun _ => ⟨rfl, rfl, by rw [HF.out, if_neg hT2]⟩⟩
              clear HF hT2 hTf
              go_wp2_with fail
              refine cH2.mono ?_
              rintro e wk ⟨rfl, ik, bk⟩
              have LK : Aside (LW w r XB (XB + 1) tp tc ts en SS wk E2 S2) := L2.but hrl hXl (by omega) bk ik
              clear cH2 L2 ik bk
              go_wp2
              go_roundg (NS - (kk + 1))
              case measure => omega
              case rel => exact ⟨kk + 1, false, E2, S2, by omega, by omega, by go_num, rfl, LK, HO2⟩
          · have hltz : ¬ (kk : Int) < (NS : Int) := by omega
            have hF : firstT ts S2 (sgl 2) = none := by
              rw [hfd, List.drop_eq_nil_of_le (by rw [← HSS.out, List.length_map, HNS.out]; omega), firstT]
            obtain ⟨k', rfl⟩ : ∃ k', k = k' + 1 := ⟨k - 1, by have := HPk.out.2; omega⟩
            have hp := HPk.out.1
            rw [pLoop, hF] at hp
            subst hp
            clear hF HPk HO hfd
            obtain ⟨⟨o, n, t, kq, s, p, mq, c, a, b7, hx⟩, rz, ir, bt, sg, sl⟩ := LI.out
            obtain ⟨d0, d1, d2, d3, d4, d5, d6, df, dl⟩ := rz
            obtain ⟨e0, e1, e2, e3, e4, e5, e6, ef, el⟩ := b7
            have df0 := df 0
            have df1 := df 1
            have df2 := df 2
            have df3 := df 3
            have df4 := df 4
            have df5 := df 5
            have df6 := df 6
            clear df ef sg LI
            go_wp2
            refine bodyPost_ret (v := .agg #[.string o, .string n, .int .i64 t, .int .i64 kq, .string s, .slice p mq c, .int .i64 a]) (by simp [results, Tryz.results18, go_sem, d0, d1, d2, d3, d4, d5, d6, dl]) rfl ⟨_, rfl, ?_, ?_, ?_⟩
            · exact (((ExIn.low (lo' := fun b => w.heap.size + 1 ≤ b) (fun b _ h => h.1) _ _ hx).set7 (own_ne (Nat.lt_succ_self _)) _ _ _ _ _ _ _)).lowB (Nat.le_succ _)
            · exact ir.set7 (by omega) hT _ _ _ _ _ _ _
            · exact bt.set7 (Nat.le_refl _) (by omega) _ _ _ _ _ _ _
end Go.Proofs.YtkoejkpjkcejcaaGreatDoor
