/-
  The document's reading of what is the tightest (package sluiceref1, In.one): values and columns.
-/
import Derived.Test.YtnpinbpjfngknaaGreatDoorTreeOe
import Derived.Test.YtnpinbpjfngknaaGreatDoorRef4
import Derived.BigQuiet
namespace Go.Proofs.YtnpinbpjfngknaaGreatDoor
open Go.RowKit
set_option linter.unusedVariables false
set_option linter.unusedSimpArgs false

theorem Box7.next {w : World} {b r : Nat} {a0 a1 a2 a3 a4 a5 a6 : Value} (h : Box7 w b a0 a1 a2 a3 a4 a5 a6) (hr : b ≠ r) (v : Value) : Box7 (w.setCell ⟨r, 1, none⟩ v) b a0 a1 a2 a3 a4 a5 a6 := by
  obtain ⟨c0, c1, c2, c3, c4, c5, c6, fz, lt⟩ := h
  refine ⟨?_, ?_, ?_, ?_, ?_, ?_, ?_, fun o => by simpa using fz o, by simpa [World.setCell] using lt⟩
  all_goals simp [World.cell?_setCell_other, c0, c1, c2, c3, c4, c5, c6]
set_option maxHeartbeats 8000000 in
set_option maxRecDepth 20000 in
theorem one_val (r : Nat) (tp : Option Addr) (tc : Nat) (ts : List Tok) (en : Nat) (st : St) (hn : ts.length ≤ 400) (hi : st.i ≤ 1000) (hb1 : isT ts st [40] = false) (hb2 : isT ts st [108, 101, 110] = false) (hb3 : isT ts st [105, 102] = false) (hbad : st.bad < 0) (hlt : st.i < ts.length) (hv : valT ts[st.i] = true) (cR : ∀ W, Calls Tryz.prog 35 #[.string ts[st.i].2.1] W fun e w' => e = .returned (refR (readV ts[st.i].2.1)) ∧ Below W.heap.size W w') (hsz : (readV ts[st.i].2.1).2.2.1.length ≤ 400) :
  GivesO r tp tc ts en st (.node ⟨#[118, 97, 108]⟩ ⟨#[]⟩ (readV ts[st.i].2.1).1 (readV ts[st.i].2.1).2.1 ⟨(readV ts[st.i].2.1).2.2.1.toArray⟩ (posAt ts en st.i) []) (adv st) := by
  intro w h
  rcases h.toks with h9 | ⟨tb, off, rfl, hbr, hin⟩
  · exact absurd h9 (by omega)
  have hltz : (st.i : Int) < (ts.length : Int) := by omega
  have i0 : (0 : Int) ≤ (st.i : Int) := by omega
  have hltn : decide ((st.i : Int) < (ts.length : Int)) = true := decide_eq_true hltz
  have hbdd : decide (st.bad < 0) = true := decide_eq_true hbad
  obtain ⟨hz, bz, hrl⟩ := in_z h
  have hT : TokNe (some ⟨tb, off, none⟩) ts w.heap.size := h.ne (Nat.le_refl _)
  have cA := in_at _ r (some ⟨tb, off, none⟩) tc ts en st hz hn (by omega)
  have cH1 := fun q => has_no ((w.alloc zE).drewN q) r (some ⟨tb, off, none⟩) tc ts en st ⟨#[40]⟩ (hz.same rfl) hn hi hb1
  have cH2 := fun W hW => has_no W r (some ⟨tb, off, none⟩) tc ts en st ⟨#[108, 101, 110]⟩ hW hn hi hb2
  have cH3 := fun W hW => has_no W r (some ⟨tb, off, none⟩) tc ts en st ⟨#[105, 102]⟩ hW hn hi hb3
  have X0 : Box7 (w.alloc zE) w.heap.size (.string ⟨#[]⟩) (.string ⟨#[]⟩) (.int .i64 0) (.int .i64 0) (.string ⟨#[]⟩) (.slice none 0 0) (.int .i64 0) := box7_alloc w _ _ _ _ _ _ _ _
  clear hb1 hb2 hb3 h hz
  have hD : ∀ W, InAt W r (some ⟨tb, off, none⟩) tc ts en st → W.cell? ⟨tb, off + st.i * 3, none⟩ = some (.int .i64 ts[st.i].1) ∧ W.cell? ⟨tb, off + st.i * 3 + 1, none⟩ = some (.string ts[st.i].2.1) ∧ W.cell? ⟨tb, off + st.i * 3 + 2, none⟩ = some (.int .i64 (ts[st.i].2.2 : Int)) ∧ tb < W.heap.size := fun W hW => by
    rcases hW.toks with h9 | ⟨b2, o2, e2, _, h2⟩
    · exact absurd h9 (by omega)
    · simp only [Option.some.injEq, Addr.mk.injEq] at e2
      obtain ⟨rfl, rfl, _⟩ := e2
      exact ⟨(h2.2 _ hlt).1, (h2.2 _ hlt).2.1, (h2.2 _ hlt).2.2, h2.1⟩
  generalize ts[st.i] = y at hD cR hv hsz ⊢
  obtain ⟨yk, yx, ya⟩ := y
  simp only at hD cR hsz ⊢
  simp only [valT, Bool.or_eq_true, Bool.and_eq_true, decide_eq_true_eq, beq_iff_eq] at hv
  obtain ⟨RT, RN, RS, RE, hR⟩ : ∃ a b c d, readV yx = (a, b, c, d) := ⟨_, _, _, _, rfl⟩
  rw [hR] at cR hsz ⊢
  simp only [refR] at cR hsz ⊢
  clear hR hin
  rcases hv with (h2 | h3) | ⟨h1, h4 | h4⟩
  · have k2 : (yk == 2) = true := by simpa using h2
    clear h2
    go_enter Tryz.func38, Tryz.ntmps38
    go_wp2_with fail
    refine cA.mono ?_
    rintro e w1 ⟨rfl, q, rfl⟩
    go_wp2_with fail
    refine (cH1 q).mono ?_
    rintro e w2 ⟨rfl, h2, b2⟩
    go_wp2_with fail
    refine (cH2 w2 h2).mono ?_
    rintro e w3 ⟨rfl, h3, b3⟩
    go_wp2_with fail
    refine (cH3 w3 h3).mono ?_
    rintro e w4 ⟨rfl, h4, b4⟩
    have B4 : But r w w4 := (((bz.drewN q).trans b2).trans b3).trans b4
    have Z4 : But r (w.alloc zE) w4 := ((((But.refl r _).drewN q).trans b2).trans b3).trans b4
    have X4 := X0.but Z4 (by omega)
    have hz4 : w.heap.size + 1 ≤ w4.heap.size := by have := Z4.size; simpa [zE] using this
    clear b2 b3 b4 h2 h3 cH1 cH2 cH3 cA bz X0 Z4
    have H4 := h4
    obtain ⟨g0, g1, g2, g3, gf1, gf3, glt, _⟩ := h4
    go_wp2
    go_big_quiet (fail)
    go_wp2
    obtain ⟨W5, hW5⟩ : ∃ W5, w4.drewN nq = W5 := ⟨_, rfl⟩
    have H5 : InAt W5 r (some ⟨tb, off, none⟩) tc ts en st := by rw [← hW5]; exact H4.same rfl
    have X5 : Box7 W5 w.heap.size (.string ⟨#[]⟩) (.string ⟨#[]⟩) (.int .i64 0) (.int .i64 0) (.string ⟨#[]⟩) (.slice none 0 0) (.int .i64 0) := by rw [← hW5]; exact ⟨X4.c0, X4.c1, X4.c2, X4.c3, X4.c4, X4.c5, X4.c6, X4.fz, X4.lt⟩
    have B5 : But r w W5 := by rw [← hW5]; exact B4.drewN nq
    have hz5 : w.heap.size + 1 ≤ W5.heap.size := by rw [← hW5]; exact hz4
    rw [hW5]
    clear hW5 H4 g0 g1 g2 g3 gf1 gf3 glt X4 B4 hz4
    have K5 := H5
    obtain ⟨g0, g1, g2, g3, gf1, gf3, glt, _⟩ := K5
    obtain ⟨q0, q1, q2, q3⟩ := hD W5 H5
    have hrn : r ≠ W5.heap.size := by omega
    have htn : tb ≠ W5.heap.size := by omega
    clear hD
    go_region
    obtain ⟨W6, hW6⟩ : ∃ W6, (W5.alloc (.cells #[.int .i64 yk, .string yx, .int .i64 (ya : Int)] 79)).drew = W6 := ⟨_, rfl⟩
    have b6 : Below W5.heap.size W5 W6 := by rw [← hW6]; exact Below.drew ((Below.refl _ _).alloc (Nat.le_refl _) _)
    have T6 : ∀ i, W6.cell? ⟨W5.heap.size, i, none⟩ = (#[.int .i64 yk, .string yx, .int .i64 (ya : Int)] : Array Value)[i]? := fun i => by rw [← hW6]; exact World.cell?_alloc_at _ _ _ _ rfl
    have t0 : W6.cell? ⟨W5.heap.size, 0, none⟩ = some (.int .i64 yk) := T6 0
    have t1 : W6.cell? ⟨W5.heap.size, 1, none⟩ = some (.string yx) := T6 1
    have hz6 : W5.heap.size + 1 ≤ W6.heap.size := by rw [← hW6]; simp [World.drew]
    rw [hW6]
    have H6 := H5.on b6
    have X6 := X5.on b6
    have B6 : But r w W6 := B5.trans (But.of_below b6 (by omega))
    clear hW6 T6 H5 g0 g1 g2 g3 gf1 gf3 glt X5 B5 q0 q1 q2 q3 hrn htn b6
    go_wp2_with fail
    refine (cR _).mono ?_
    rintro e w7 ⟨rfl, b7⟩
    have H7 := H6.on b7
    have X7 := X6.on b7
    have B7 : But r w w7 := B6.trans (But.of_below b7 (by omega))
    have hz7 := b7.size
    clear H6 X6 B6 b7 t0 t1 cR
    have K7 := H7
    obtain ⟨g0, g1, g2, g3, gf1, gf3, glt, _⟩ := K7
    obtain ⟨d0, d1, d2, d3, d4, d5, d6, df, dl⟩ := X7
    have df0 := df 0
    have df1 := df 1
    have df2 := df 2
    have df3 := df 3
    have df4 := df 4
    have df5 := df 5
    have df6 := df 6
    clear df
    go_wp2
    refine bodyPost_ret (v := .agg #[.string ⟨#[118, 97, 108]⟩, .string ⟨#[]⟩, .int .i64 RT, .int .i64 RN, .string ⟨RS.toArray⟩, .slice none 0 0, .int .i64 (posAt ts en st.i)]) (by simp [results, Tryz.results38, go_sem, d0, d1, d2, d3, d4, d5, d6, dl]) rfl ⟨_, rfl, ?_, ?_, ?_⟩
    · exact ex_leaf (by decide) (by decide) (by rw [show (⟨RS.toArray⟩ : ByteArray).size = RS.length from by simp [ByteArray.size]]; unfold maxLen; omega)
    · exact (H7.next.set7 (by omega) hT _ _ _ _ _ _ _).on ((Below.refl _ _).alloc (Nat.le_refl _) _)
    · exact ((B7.set 1 _).set7 (Nat.le_refl _) (by omega) _ _ _ _ _ _ _).on ((Below.refl _ _).alloc (Nat.le_refl _) _) hrl
  · have k2 : (yk == 2) = false := by rw [h3]; decide
    have k3 : (yk == 3) = true := by simpa using h3
    clear h3
    go_enter Tryz.func38, Tryz.ntmps38
    go_wp2_with fail
    refine cA.mono ?_
    rintro e w1 ⟨rfl, q, rfl⟩
    go_wp2_with fail
    refine (cH1 q).mono ?_
    rintro e w2 ⟨rfl, h2, b2⟩
    go_wp2_with fail
    refine (cH2 w2 h2).mono ?_
    rintro e w3 ⟨rfl, h3, b3⟩
    go_wp2_with fail
    refine (cH3 w3 h3).mono ?_
    rintro e w4 ⟨rfl, h4, b4⟩
    have B4 : But r w w4 := (((bz.drewN q).trans b2).trans b3).trans b4
    have Z4 : But r (w.alloc zE) w4 := ((((But.refl r _).drewN q).trans b2).trans b3).trans b4
    have X4 := X0.but Z4 (by omega)
    have hz4 : w.heap.size + 1 ≤ w4.heap.size := by have := Z4.size; simpa [zE] using this
    clear b2 b3 b4 h2 h3 cH1 cH2 cH3 cA bz X0 Z4
    have H4 := h4
    obtain ⟨g0, g1, g2, g3, gf1, gf3, glt, _⟩ := h4
    go_wp2
    go_big_quiet (fail)
    go_wp2
    obtain ⟨W5, hW5⟩ : ∃ W5, w4.drewN nq = W5 := ⟨_, rfl⟩
    have H5 : InAt W5 r (some ⟨tb, off, none⟩) tc ts en st := by rw [← hW5]; exact H4.same rfl
    have X5 : Box7 W5 w.heap.size (.string ⟨#[]⟩) (.string ⟨#[]⟩) (.int .i64 0) (.int .i64 0) (.string ⟨#[]⟩) (.slice none 0 0) (.int .i64 0) := by rw [← hW5]; exact ⟨X4.c0, X4.c1, X4.c2, X4.c3, X4.c4, X4.c5, X4.c6, X4.fz, X4.lt⟩
    have B5 : But r w W5 := by rw [← hW5]; exact B4.drewN nq
    have hz5 : w.heap.size + 1 ≤ W5.heap.size := by rw [← hW5]; exact hz4
    rw [hW5]
    clear hW5 H4 g0 g1 g2 g3 gf1 gf3 glt X4 B4 hz4
    have K5 := H5
    obtain ⟨g0, g1, g2, g3, gf1, gf3, glt, _⟩ := K5
    obtain ⟨q0, q1, q2, q3⟩ := hD W5 H5
    have hrn : r ≠ W5.heap.size := by omega
    have htn : tb ≠ W5.heap.size := by omega
    clear hD
    go_region
    obtain ⟨W6, hW6⟩ : ∃ W6, (W5.alloc (.cells #[.int .i64 yk, .string yx, .int .i64 (ya : Int)] 79)).drew = W6 := ⟨_, rfl⟩
    have b6 : Below W5.heap.size W5 W6 := by rw [← hW6]; exact Below.drew ((Below.refl _ _).alloc (Nat.le_refl _) _)
    have T6 : ∀ i, W6.cell? ⟨W5.heap.size, i, none⟩ = (#[.int .i64 yk, .string yx, .int .i64 (ya : Int)] : Array Value)[i]? := fun i => by rw [← hW6]; exact World.cell?_alloc_at _ _ _ _ rfl
    have t0 : W6.cell? ⟨W5.heap.size, 0, none⟩ = some (.int .i64 yk) := T6 0
    have t1 : W6.cell? ⟨W5.heap.size, 1, none⟩ = some (.string yx) := T6 1
    have hz6 : W5.heap.size + 1 ≤ W6.heap.size := by rw [← hW6]; simp [World.drew]
    rw [hW6]
    have H6 := H5.on b6
    have X6 := X5.on b6
    have B6 : But r w W6 := B5.trans (But.of_below b6 (by omega))
    clear hW6 T6 H5 g0 g1 g2 g3 gf1 gf3 glt X5 B5 q0 q1 q2 q3 hrn htn b6
    go_wp2_with fail
    refine (cR _).mono ?_
    rintro e w7 ⟨rfl, b7⟩
    have H7 := H6.on b7
    have X7 := X6.on b7
    have B7 : But r w w7 := B6.trans (But.of_below b7 (by omega))
    have hz7 := b7.size
    clear H6 X6 B6 b7 t0 t1 cR
    have K7 := H7
    obtain ⟨g0, g1, g2, g3, gf1, gf3, glt, _⟩ := K7
    obtain ⟨d0, d1, d2, d3, d4, d5, d6, df, dl⟩ := X7
    have df0 := df 0
    have df1 := df 1
    have df2 := df 2
    have df3 := df 3
    have df4 := df 4
    have df5 := df 5
    have df6 := df 6
    clear df
    go_wp2
    refine bodyPost_ret (v := .agg #[.string ⟨#[118, 97, 108]⟩, .string ⟨#[]⟩, .int .i64 RT, .int .i64 RN, .string ⟨RS.toArray⟩, .slice none 0 0, .int .i64 (posAt ts en st.i)]) (by simp [results, Tryz.results38, go_sem, d0, d1, d2, d3, d4, d5, d6, dl]) rfl ⟨_, rfl, ?_, ?_, ?_⟩
    · exact ex_leaf (by decide) (by decide) (by rw [show (⟨RS.toArray⟩ : ByteArray).size = RS.length from by simp [ByteArray.size]]; unfold maxLen; omega)
    · exact (H7.next.set7 (by omega) hT _ _ _ _ _ _ _).on ((Below.refl _ _).alloc (Nat.le_refl _) _)
    · exact ((B7.set 1 _).set7 (Nat.le_refl _) (by omega) _ _ _ _ _ _ _).on ((Below.refl _ _).alloc (Nat.le_refl _) _) hrl
  · have k2 : (yk == 2) = false := by rw [h1]; decide
    have k3 : (yk == 3) = false := by rw [h1]; decide
    have k1 : (yk == 1) = true := by simpa using h1
    have s1 : (yx.toList == [116, 114, 117, 101]) = true := by rw [Lib.toList_data, h4]; decide
    clear h1 h4
    go_enter Tryz.func38, Tryz.ntmps38
    go_wp2_with fail
    refine cA.mono ?_
    rintro e w1 ⟨rfl, q, rfl⟩
    go_wp2_with fail
    refine (cH1 q).mono ?_
    rintro e w2 ⟨rfl, h2, b2⟩
    go_wp2_with fail
    refine (cH2 w2 h2).mono ?_
    rintro e w3 ⟨rfl, h3, b3⟩
    go_wp2_with fail
    refine (cH3 w3 h3).mono ?_
    rintro e w4 ⟨rfl, h4, b4⟩
    have B4 : But r w w4 := (((bz.drewN q).trans b2).trans b3).trans b4
    have Z4 : But r (w.alloc zE) w4 := ((((But.refl r _).drewN q).trans b2).trans b3).trans b4
    have X4 := X0.but Z4 (by omega)
    have hz4 : w.heap.size + 1 ≤ w4.heap.size := by have := Z4.size; simpa [zE] using this
    clear b2 b3 b4 h2 h3 cH1 cH2 cH3 cA bz X0 Z4
    have H4 := h4
    obtain ⟨g0, g1, g2, g3, gf1, gf3, glt, _⟩ := h4
    go_wp2
    go_big_quiet (fail)
    go_wp2
    obtain ⟨W5, hW5⟩ : ∃ W5, w4.drewN nq = W5 := ⟨_, rfl⟩
    have H5 : InAt W5 r (some ⟨tb, off, none⟩) tc ts en st := by rw [← hW5]; exact H4.same rfl
    have X5 : Box7 W5 w.heap.size (.string ⟨#[]⟩) (.string ⟨#[]⟩) (.int .i64 0) (.int .i64 0) (.string ⟨#[]⟩) (.slice none 0 0) (.int .i64 0) := by rw [← hW5]; exact ⟨X4.c0, X4.c1, X4.c2, X4.c3, X4.c4, X4.c5, X4.c6, X4.fz, X4.lt⟩
    have B5 : But r w W5 := by rw [← hW5]; exact B4.drewN nq
    have hz5 : w.heap.size + 1 ≤ W5.heap.size := by rw [← hW5]; exact hz4
    rw [hW5]
    clear hW5 H4 g0 g1 g2 g3 gf1 gf3 glt X4 B4 hz4
    have K5 := H5
    obtain ⟨g0, g1, g2, g3, gf1, gf3, glt, _⟩ := K5
    obtain ⟨q0, q1, q2, q3⟩ := hD W5 H5
    have hrn : r ≠ W5.heap.size := by omega
    have htn : tb ≠ W5.heap.size := by omega
    clear hD
    go_region
    obtain ⟨W6, hW6⟩ : ∃ W6, (W5.alloc (.cells #[.int .i64 yk, .string yx, .int .i64 (ya : Int)] 79)).drew = W6 := ⟨_, rfl⟩
    have b6 : Below W5.heap.size W5 W6 := by rw [← hW6]; exact Below.drew ((Below.refl _ _).alloc (Nat.le_refl _) _)
    have T6 : ∀ i, W6.cell? ⟨W5.heap.size, i, none⟩ = (#[.int .i64 yk, .string yx, .int .i64 (ya : Int)] : Array Value)[i]? := fun i => by rw [← hW6]; exact World.cell?_alloc_at _ _ _ _ rfl
    have t0 : W6.cell? ⟨W5.heap.size, 0, none⟩ = some (.int .i64 yk) := T6 0
    have t1 : W6.cell? ⟨W5.heap.size, 1, none⟩ = some (.string yx) := T6 1
    have hz6 : W5.heap.size + 1 ≤ W6.heap.size := by rw [← hW6]; simp [World.drew]
    rw [hW6]
    have H6 := H5.on b6
    have X6 := X5.on b6
    have B6 : But r w W6 := B5.trans (But.of_below b6 (by omega))
    clear hW6 T6 H5 g0 g1 g2 g3 gf1 gf3 glt X5 B5 q0 q1 q2 q3 hrn htn b6
    go_wp2_with fail
    refine (cR _).mono ?_
    rintro e w7 ⟨rfl, b7⟩
    have H7 := H6.on b7
    have X7 := X6.on b7
    have B7 : But r w w7 := B6.trans (But.of_below b7 (by omega))
    have hz7 := b7.size
    clear H6 X6 B6 b7 t0 t1 cR
    have K7 := H7
    obtain ⟨g0, g1, g2, g3, gf1, gf3, glt, _⟩ := K7
    obtain ⟨d0, d1, d2, d3, d4, d5, d6, df, dl⟩ := X7
    have df0 := df 0
    have df1 := df 1
    have df2 := df 2
    have df3 := df 3
    have df4 := df 4
    have df5 := df 5
    have df6 := df 6
    clear df
    go_wp2
    refine bodyPost_ret (v := .agg #[.string ⟨#[118, 97, 108]⟩, .string ⟨#[]⟩, .int .i64 RT, .int .i64 RN, .string ⟨RS.toArray⟩, .slice none 0 0, .int .i64 (posAt ts en st.i)]) (by simp [results, Tryz.results38, go_sem, d0, d1, d2, d3, d4, d5, d6, dl]) rfl ⟨_, rfl, ?_, ?_, ?_⟩
    · exact ex_leaf (by decide) (by decide) (by rw [show (⟨RS.toArray⟩ : ByteArray).size = RS.length from by simp [ByteArray.size]]; unfold maxLen; omega)
    · exact (H7.next.set7 (by omega) hT _ _ _ _ _ _ _).on ((Below.refl _ _).alloc (Nat.le_refl _) _)
    · exact ((B7.set 1 _).set7 (Nat.le_refl _) (by omega) _ _ _ _ _ _ _).on ((Below.refl _ _).alloc (Nat.le_refl _) _) hrl
  · have k2 : (yk == 2) = false := by rw [h1]; decide
    have k3 : (yk == 3) = false := by rw [h1]; decide
    have k1 : (yk == 1) = true := by simpa using h1
    have s1 : (yx.toList == [116, 114, 117, 101]) = false := by rw [Lib.toList_data, h4]; decide
    have s2 : (yx.toList == [102, 97, 108, 115, 101]) = true := by rw [Lib.toList_data, h4]; decide
    clear h1 h4
    go_enter Tryz.func38, Tryz.ntmps38
    go_wp2_with fail
    refine cA.mono ?_
    rintro e w1 ⟨rfl, q, rfl⟩
    go_wp2_with fail
    refine (cH1 q).mono ?_
    rintro e w2 ⟨rfl, h2, b2⟩
    go_wp2_with fail
    refine (cH2 w2 h2).mono ?_
    rintro e w3 ⟨rfl, h3, b3⟩
    go_wp2_with fail
    refine (cH3 w3 h3).mono ?_
    rintro e w4 ⟨rfl, h4, b4⟩
    have B4 : But r w w4 := (((bz.drewN q).trans b2).trans b3).trans b4
    have Z4 : But r (w.alloc zE) w4 := ((((But.refl r _).drewN q).trans b2).trans b3).trans b4
    have X4 := X0.but Z4 (by omega)
    have hz4 : w.heap.size + 1 ≤ w4.heap.size := by have := Z4.size; simpa [zE] using this
    clear b2 b3 b4 h2 h3 cH1 cH2 cH3 cA bz X0 Z4
    have H4 := h4
    obtain ⟨g0, g1, g2, g3, gf1, gf3, glt, _⟩ := h4
    go_wp2
    go_big_quiet (fail)
    go_wp2
    obtain ⟨W5, hW5⟩ : ∃ W5, w4.drewN nq = W5 := ⟨_, rfl⟩
    have H5 : InAt W5 r (some ⟨tb, off, none⟩) tc ts en st := by rw [← hW5]; exact H4.same rfl
    have X5 : Box7 W5 w.heap.size (.string ⟨#[]⟩) (.string ⟨#[]⟩) (.int .i64 0) (.int .i64 0) (.string ⟨#[]⟩) (.slice none 0 0) (.int .i64 0) := by rw [← hW5]; exact ⟨X4.c0, X4.c1, X4.c2, X4.c3, X4.c4, X4.c5, X4.c6, X4.fz, X4.lt⟩
    have B5 : But r w W5 := by rw [← hW5]; exact B4.drewN nq
    have hz5 : w.heap.size + 1 ≤ W5.heap.size := by rw [← hW5]; exact hz4
    rw [hW5]
    clear hW5 H4 g0 g1 g2 g3 gf1 gf3 glt X4 B4 hz4
    have K5 := H5
    obtain ⟨g0, g1, g2, g3, gf1, gf3, glt, _⟩ := K5
    obtain ⟨q0, q1, q2, q3⟩ := hD W5 H5
    have hrn : r ≠ W5.heap.size := by omega
    have htn : tb ≠ W5.heap.size := by omega
    clear hD
    go_region
    obtain ⟨W6, hW6⟩ : ∃ W6, (W5.alloc (.cells #[.int .i64 yk, .string yx, .int .i64 (ya : Int)] 79)).drew = W6 := ⟨_, rfl⟩
    have b6 : Below W5.heap.size W5 W6 := by rw [← hW6]; exact Below.drew ((Below.refl _ _).alloc (Nat.le_refl _) _)
    have T6 : ∀ i, W6.cell? ⟨W5.heap.size, i, none⟩ = (#[.int .i64 yk, .string yx, .int .i64 (ya : Int)] : Array Value)[i]? := fun i => by rw [← hW6]; exact World.cell?_alloc_at _ _ _ _ rfl
    have t0 : W6.cell? ⟨W5.heap.size, 0, none⟩ = some (.int .i64 yk) := T6 0
    have t1 : W6.cell? ⟨W5.heap.size, 1, none⟩ = some (.string yx) := T6 1
    have hz6 : W5.heap.size + 1 ≤ W6.heap.size := by rw [← hW6]; simp [World.drew]
    rw [hW6]
    have H6 := H5.on b6
    have X6 := X5.on b6
    have B6 : But r w W6 := B5.trans (But.of_below b6 (by omega))
    clear hW6 T6 H5 g0 g1 g2 g3 gf1 gf3 glt X5 B5 q0 q1 q2 q3 hrn htn b6
    go_wp2_with fail
    refine (cR _).mono ?_
    rintro e w7 ⟨rfl, b7⟩
    have H7 := H6.on b7
    have X7 := X6.on b7
    have B7 : But r w w7 := B6.trans (But.of_below b7 (by omega))
    have hz7 := b7.size
    clear H6 X6 B6 b7 t0 t1 cR
    have K7 := H7
    obtain ⟨g0, g1, g2, g3, gf1, gf3, glt, _⟩ := K7
    obtain ⟨d0, d1, d2, d3, d4, d5, d6, df, dl⟩ := X7
    have df0 := df 0
    have df1 := df 1
    have df2 := df 2
    have df3 := df 3
    have df4 := df 4
    have df5 := df 5
    have df6 := df 6
    clear df
    go_wp2
    refine bodyPost_ret (v := .agg #[.string ⟨#[118, 97, 108]⟩, .string ⟨#[]⟩, .int .i64 RT, .int .i64 RN, .string ⟨RS.toArray⟩, .slice none 0 0, .int .i64 (posAt ts en st.i)]) (by simp [results, Tryz.results38, go_sem, d0, d1, d2, d3, d4, d5, d6, dl]) rfl ⟨_, rfl, ?_, ?_, ?_⟩
    · exact ex_leaf (by decide) (by decide) (by rw [show (⟨RS.toArray⟩ : ByteArray).size = RS.length from by simp [ByteArray.size]]; unfold maxLen; omega)
    · exact (H7.next.set7 (by omega) hT _ _ _ _ _ _ _).on ((Below.refl _ _).alloc (Nat.le_refl _) _)
    · exact ((B7.set 1 _).set7 (Nat.le_refl _) (by omega) _ _ _ _ _ _ _).on ((Below.refl _ _).alloc (Nat.le_refl _) _) hrl
end Go.Proofs.YtnpinbpjfngknaaGreatDoor
