/-
  What an if comes to: package eval's come.
-/
import Derived.Test.YticdcnbeemkapaaGreatDoorQEvCm
import Derived.Deep.RegionWith
namespace Go.Proofs.YticdcnbeemkapaaGreatDoor
open Go.RowKit Go.BigFrame
set_option linter.unusedVariables false

set_option maxHeartbeats 8000000 in
set_option maxRecDepth 20000 in
theorem come_3 (zs : List (ByteArray × Int)) (b off c rb ro rc : Nat) (rs : List V3) (op nm vs : ByteArray) (vt vn pos : Int) (x y z : Ex) (h1 : op.data.toList ≠ [118, 97, 108]) (h2 : op.data.toList ≠ [99, 111, 108]) (h5 : op.data.toList = [105, 102]) (ihx : ComeAt zs b off c rb ro rc rs x) (Tx : Int) (hcx : comes Tx (cmP zs rs x)) (ihy : ComeAt zs b off c rb ro rc rs y) (Ty : Int) (hcy : comes Ty (cmP zs rs y)) (ihz : ComeAt zs b off c rb ro rc rs z) (Tz : Int) (hcz : comes Tz (cmP zs rs z)) : ComeAt zs b off c rb ro rc rs (.node op nm vt vn vs pos [x, y, z] : Ex) := by
  intro lo v w t k s e henv hx hc hr hR
  rw [ExIn] at hx
  obtain ⟨p, ca, rfl, ⟨hm, hmc⟩, ho, hnm, hvs, hparts⟩ := hx
  rcases hparts with h | ⟨ba, oa, rfl, hbl, hlo, hE⟩
  · exact absurd h (by simp)
  have hlen : [x, y, z].length = 3 := rfl
  rw [hlen] at hm hmc ⊢
  obtain ⟨b1, box⟩ := come_box w #[.string op, .string nm, .int .i64 vt, .int .i64 vn, .string vs, .slice (some ⟨ba, oa, none⟩) 3 ca, .int .i64 pos]
  have BOX : Hid (∀ wr, Below (w.heap.size + 2) ((w.alloc (.cells #[.string op, .string nm, .int .i64 vt, .int .i64 vn, .string vs, .slice (some ⟨ba, oa, none⟩) 3 ca, .int .i64 pos] 26)).alloc (.cells #[.int .i64 0, .int .i64 0, .string ⟨#[]⟩] 23)) wr → (∀ i, wr.cell? ⟨w.heap.size, i, none⟩ = (#[.string op, .string nm, .int .i64 vt, .int .i64 vn, .string vs, .slice (some ⟨ba, oa, none⟩) 3 ca, .int .i64 pos] : Array Value)[i]?) ∧ (wr.cell? ⟨w.heap.size + 1, 0, none⟩ = some (.int .i64 0) ∧ wr.cell? ⟨w.heap.size + 1, 1, none⟩ = some (.int .i64 0) ∧ wr.cell? ⟨w.heap.size + 1, 2, none⟩ = some (.string ⟨#[]⟩) ∧ (∀ o, wr.frozen? ⟨w.heap.size + 1, o, none⟩ = false)) ∧ w.heap.size + 2 ≤ wr.heap.size ∧ Below w.heap.size w wr) := box
  have PA : Aside (∀ j (h : j < [x, y, z].length), ∃ v0 v1 v2 v3 v4 v5 v6, w.cell? ⟨ba, oa + j * 7, none⟩ = some v0 ∧ w.cell? ⟨ba, oa + j * 7 + 1, none⟩ = some v1 ∧ w.cell? ⟨ba, oa + j * 7 + 2, none⟩ = some v2 ∧ w.cell? ⟨ba, oa + j * 7 + 3, none⟩ = some v3 ∧ w.cell? ⟨ba, oa + j * 7 + 4, none⟩ = some v4 ∧ w.cell? ⟨ba, oa + j * 7 + 5, none⟩ = some v5 ∧ w.cell? ⟨ba, oa + j * 7 + 6, none⟩ = some v6 ∧ ExIn w lo (.agg #[v0, v1, v2, v3, v4, v5, v6]) [x, y, z][j]) := exsIn_at w lo ba [x, y, z] oa hE
  obtain ⟨u0, u1, u2, u3, u4, u5, u6, u7, u8, e0, e1, e2, e3, e4, e5, e6, hy⟩ := part_at PA.out b1 hbl 0 (by simp)
  simp only [Nat.zero_mul, Nat.add_zero, List.getElem_cons_zero] at e0 e1 e2 e3 e4 e5 e6 hy
  rw [cmP_op h1 h2] at hR
  simp only [List.map_cons, List.map_nil] at hR
  obtain ⟨tf, kf, sf, ef, hf⟩ : ∃ tf kf sf ef, cmP zs rs x = ((tf, kf, sf), ef) := ⟨_, _, _, _, rfl⟩
  have cX := ihx lo _ ((w.alloc (.cells #[.string op, .string nm, .int .i64 vt, .int .i64 vn, .string vs, .slice (some ⟨ba, oa, none⟩) 3 ca, .int .i64 pos] 26)).alloc (.cells #[.int .i64 0, .int .i64 0, .string ⟨#[]⟩] 23)) tf kf sf ef (henv.on b1) (hy.on b1) (hc.on b1) (hr.on b1) hf
  rw [hf] at hcx hR
  have HEN : Aside (REnv w) := henv
  have HCO : Aside (ColsIn w b off zs) := hc
  have HRO : Aside (RowAt w rb ro rs) := hr
  have q1 : (op.toList == [118, 97, 108]) = false := by rw [Lib.toList_data]; simpa using h1
  have q2 : (op.toList == [99, 111, 108]) = false := by rw [Lib.toList_data]; simpa using h2
  have hblr : ba < ((w.alloc (.cells #[.string op, .string nm, .int .i64 vt, .int .i64 vn, .string vs, .slice (some ⟨ba, oa, none⟩) 3 ca, .int .i64 pos] 26)).alloc (.cells #[.int .i64 0, .int .i64 0, .string ⟨#[]⟩] 23)).heap.size := by simp; omega
  clear henv hc hr hE hy hf h1 h2 box
  rcases hcx with ⟨h0, hok⟩ | h9
  · simp only at h0
    subst h0
    rw [combP, if_neg (by simp)] at hR
    rw [show errV 0 = .nilIface from rfl] at cX
    have hsf : sf.size ≤ 40 := by
      have := chk_size hok.2.1
      simpa using this
    have q5 : (op.toList == [105, 102]) = true := by rw [Lib.toList_data]; simpa using h5
    have h3 : op.data.toList ≠ [97, 110, 100] := by rw [h5]; decide
    have h4 : op.data.toList ≠ [111, 114] := by rw [h5]; decide
    have q3 : (op.toList == [97, 110, 100]) = false := by rw [Lib.toList_data]; simpa using h3
    have q4 : (op.toList == [111, 114]) = false := by rw [Lib.toList_data]; simpa using h4
    rw [if_neg (by simp [h3, h4]), if_pos h5] at hR
    have hz2 : (2 : Int) < (3 : Int) := by decide
    clear h3 h4 h5
    cases hB0 : (kf == 1)
    · rw [if_neg (by show ¬ isY (tf, kf, sf) = true; unfold isY; simp only; rw [hB0]; decide)] at hR
      replace hR : cmP zs rs z = ((t, k, s), e) := hR
      obtain ⟨u0, u1, u2, u3, u4, u5, u6, u7, u8, c0, c1, c2, c3, c4, c5, c6, hy⟩ := part_at PA.out (Below.refl _ w) hbl 2 (by simp)
      simp only [List.getElem_cons_succ, List.getElem_cons_zero] at hy
      have cY : ∀ W, Below (w.heap.size + 2) ((w.alloc (.cells #[.string op, .string nm, .int .i64 vt, .int .i64 vn, .string vs, .slice (some ⟨ba, oa, none⟩) 3 ca, .int .i64 pos] 26)).alloc (.cells #[.int .i64 0, .int .i64 0, .string ⟨#[]⟩] 23)) W → Calls Tryz.prog 19 #[.agg #[.string u0, .string u1, .int .i64 u2, .int .i64 u3, .string u4, .slice u5 u6 u7, .int .i64 u8], .slice (some ⟨b, off, none⟩) zs.length c, .slice (some ⟨rb, ro, none⟩) rs.length rc] W fun e' w' => e' = .returned (.tuple #[.agg #[.int .i64 t, .int .i64 k, .string s], errV e]) ∧ (w'.cell? ⟨w.heap.size + 1, 0, none⟩ = some (.int .i64 0) ∧ w'.cell? ⟨w.heap.size + 1, 1, none⟩ = some (.int .i64 0) ∧ w'.cell? ⟨w.heap.size + 1, 2, none⟩ = some (.string ⟨#[]⟩) ∧ (∀ o, w'.frozen? ⟨w.heap.size + 1, o, none⟩ = false)) ∧ w.heap.size + 2 ≤ w'.heap.size ∧ Below w.heap.size w w' := fun W hW =>
        (ihz lo _ W t k s e (HEN.out.on (BOX.out W hW).2.2.2) (hy.on (BOX.out W hW).2.2.2) (HCO.out.on (BOX.out W hW).2.2.2) (HRO.out.on (BOX.out W hW).2.2.2) hR).mono fun e' w' h => ⟨h.1, (BOX.out w' (hW.trans (h.2.mono (BOX.out W hW).2.2.1))).2⟩
      have cC : ∀ W, Below (w.heap.size + 2) ((w.alloc (.cells #[.string op, .string nm, .int .i64 vt, .int .i64 vn, .string vs, .slice (some ⟨ba, oa, none⟩) 3 ca, .int .i64 pos] 26)).alloc (.cells #[.int .i64 0, .int .i64 0, .string ⟨#[]⟩] 23)) W → Calls Tryz.prog 38 #[.agg #[.int .i64 tf, .int .i64 kf, .string sf]] W fun e' w' => e' = .returned (.int .i64 2) ∧ Aside (Below (w.heap.size + 2) ((w.alloc (.cells #[.string op, .string nm, .int .i64 vt, .int .i64 vn, .string vs, .slice (some ⟨ba, oa, none⟩) 3 ca, .int .i64 pos] 26)).alloc (.cells #[.int .i64 0, .int .i64 0, .string ⟨#[]⟩] 23)) w') ∧ w'.cell? ⟨w.heap.size, 5, none⟩ = some (.slice (some ⟨ba, oa, none⟩) 3 ca) ∧ (w'.cell? ⟨ba, oa + 2 * 7, none⟩ = some (.string u0) ∧ w'.cell? ⟨ba, oa + 2 * 7 + 1, none⟩ = some (.string u1) ∧ w'.cell? ⟨ba, oa + 2 * 7 + 2, none⟩ = some (.int .i64 u2) ∧ w'.cell? ⟨ba, oa + 2 * 7 + 3, none⟩ = some (.int .i64 u3) ∧ w'.cell? ⟨ba, oa + 2 * 7 + 4, none⟩ = some (.string u4) ∧ w'.cell? ⟨ba, oa + 2 * 7 + 5, none⟩ = some (.slice u5 u6 u7) ∧ w'.cell? ⟨ba, oa + 2 * 7 + 6, none⟩ = some (.int .i64 u8)) ∧ ba < w'.heap.size ∧ w.heap.size < w'.heap.size := fun W hW =>
        (chosen_any tf kf sf W).mono fun e' w' h => by
          have hb := hW.trans (h.2.mono (BOX.out W hW).2.2.1)
          obtain ⟨g1, _, g3, g4⟩ := BOX.out w' hb
          have hkA : ∀ o, w'.cell? ⟨ba, o, none⟩ = w.cell? ⟨ba, o, none⟩ := fun o => g4.cell (p := ⟨ba, o, none⟩) hbl
          simp only [hkA]
          refine ⟨by rw [h.1, hB0]; rfl, hb, g1 5, ⟨c0, c1, c2, c3, c4, c5, c6⟩, by have := g4.size; omega, by omega⟩
      clear hR hy PA HEN HCO HRO b1 ihx ihy ihz hB0 c0 c1 c2 c3 c4 c5 c6
      go_enter Tryz.func19, Tryz.ntmps19
      go_wp2_with fail
      refine cX.mono ?_
      rintro e' w1 ⟨rfl, b2⟩
      have B2 : Aside (Below (w.heap.size + 2) ((w.alloc (.cells #[.string op, .string nm, .int .i64 vt, .int .i64 vn, .string vs, .slice (some ⟨ba, oa, none⟩) 3 ca, .int .i64 pos] 26)).alloc (.cells #[.int .i64 0, .int .i64 0, .string ⟨#[]⟩] 23)) w1) := b2.mono (by simp)
      obtain ⟨hB, ⟨f0, f1, f2, ff⟩, hl, b9⟩ := BOX.out w1 B2.out
      have g0 : w1.cell? ⟨w.heap.size, 0, none⟩ = some (.string op) := hB 0
      have g5 : w1.cell? ⟨w.heap.size, 5, none⟩ = some (.slice (some ⟨ba, oa, none⟩) 3 ca) := hB 5
      have hl0 : w.heap.size < w1.heap.size := by omega
      have hl1 : w.heap.size + 1 < w1.heap.size := by omega
      have BX : Aside (Below (w.heap.size + 2) ((w.alloc (.cells #[.string op, .string nm, .int .i64 vt, .int .i64 vn, .string vs, .slice (some ⟨ba, oa, none⟩) 3 ca, .int .i64 pos] 26)).alloc (.cells #[.int .i64 0, .int .i64 0, .string ⟨#[]⟩] 23)) (w1.alloc (.cells #[.int .i64 tf, .int .i64 kf, .string sf] 23))) := B2.out.alloc (by omega) _
      clear cX hB b2 e0 e1 e2 e3 e4 e5 e6
      go_wp2
      go_region_with (first | (go_at_call 38; refine (cC _ (by repeat (first | exact BX.out | apply below_drewN | refine Below.drew ?_))).mono ?_; rintro e' w2 ⟨rfl, b3, m5, ⟨d0, d1, d2, d3, d4, d5, d6⟩, hl3, hl4⟩) | (go_at_call 19; refine (cY _ (by repeat (first | exact b3.out | apply below_drewN | refine Below.drew ?_))).mono ?_; rintro e' w3 ⟨rfl, ⟨f0, f1, f2, ff⟩, hl5, b9⟩; have hl6 : w.heap.size + 1 < w3.heap.size := by omega))
      all_goals
        go_wp2
        refine bodyPost_ret (v := .tuple #[.agg #[.int .i64 t, .int .i64 k, .string s], errV e]) (by simp [results, Tryz.results19, go_sem, World.cell?_setCell_other, World.cell?_setCell_same, f0, f1, f2]) rfl ⟨rfl, ?_⟩
        exact below3 b9 (by omega) _ _ _
    · rw [if_pos (by show isY (tf, kf, sf) = true; unfold isY; simp only; exact hB0)] at hR
      replace hR : cmP zs rs y = ((t, k, s), e) := hR
      obtain ⟨u0, u1, u2, u3, u4, u5, u6, u7, u8, c0, c1, c2, c3, c4, c5, c6, hy⟩ := part_at PA.out (Below.refl _ w) hbl 1 (by simp)
      simp only [List.getElem_cons_succ, List.getElem_cons_zero] at hy
      have cY : ∀ W, Below (w.heap.size + 2) ((w.alloc (.cells #[.string op, .string nm, .int .i64 vt, .int .i64 vn, .string vs, .slice (some ⟨ba, oa, none⟩) 3 ca, .int .i64 pos] 26)).alloc (.cells #[.int .i64 0, .int .i64 0, .string ⟨#[]⟩] 23)) W → Calls Tryz.prog 19 #[.agg #[.string u0, .string u1, .int .i64 u2, .int .i64 u3, .string u4, .slice u5 u6 u7, .int .i64 u8], .slice (some ⟨b, off, none⟩) zs.length c, .slice (some ⟨rb, ro, none⟩) rs.length rc] W fun e' w' => e' = .returned (.tuple #[.agg #[.int .i64 t, .int .i64 k, .string s], errV e]) ∧ (w'.cell? ⟨w.heap.size + 1, 0, none⟩ = some (.int .i64 0) ∧ w'.cell? ⟨w.heap.size + 1, 1, none⟩ = some (.int .i64 0) ∧ w'.cell? ⟨w.heap.size + 1, 2, none⟩ = some (.string ⟨#[]⟩) ∧ (∀ o, w'.frozen? ⟨w.heap.size + 1, o, none⟩ = false)) ∧ w.heap.size + 2 ≤ w'.heap.size ∧ Below w.heap.size w w' := fun W hW =>
        (ihy lo _ W t k s e (HEN.out.on (BOX.out W hW).2.2.2) (hy.on (BOX.out W hW).2.2.2) (HCO.out.on (BOX.out W hW).2.2.2) (HRO.out.on (BOX.out W hW).2.2.2) hR).mono fun e' w' h => ⟨h.1, (BOX.out w' (hW.trans (h.2.mono (BOX.out W hW).2.2.1))).2⟩
      have cC : ∀ W, Below (w.heap.size + 2) ((w.alloc (.cells #[.string op, .string nm, .int .i64 vt, .int .i64 vn, .string vs, .slice (some ⟨ba, oa, none⟩) 3 ca, .int .i64 pos] 26)).alloc (.cells #[.int .i64 0, .int .i64 0, .string ⟨#[]⟩] 23)) W → Calls Tryz.prog 38 #[.agg #[.int .i64 tf, .int .i64 kf, .string sf]] W fun e' w' => e' = .returned (.int .i64 1) ∧ Aside (Below (w.heap.size + 2) ((w.alloc (.cells #[.string op, .string nm, .int .i64 vt, .int .i64 vn, .string vs, .slice (some ⟨ba, oa, none⟩) 3 ca, .int .i64 pos] 26)).alloc (.cells #[.int .i64 0, .int .i64 0, .string ⟨#[]⟩] 23)) w') ∧ w'.cell? ⟨w.heap.size, 5, none⟩ = some (.slice (some ⟨ba, oa, none⟩) 3 ca) ∧ (w'.cell? ⟨ba, oa + 1 * 7, none⟩ = some (.string u0) ∧ w'.cell? ⟨ba, oa + 1 * 7 + 1, none⟩ = some (.string u1) ∧ w'.cell? ⟨ba, oa + 1 * 7 + 2, none⟩ = some (.int .i64 u2) ∧ w'.cell? ⟨ba, oa + 1 * 7 + 3, none⟩ = some (.int .i64 u3) ∧ w'.cell? ⟨ba, oa + 1 * 7 + 4, none⟩ = some (.string u4) ∧ w'.cell? ⟨ba, oa + 1 * 7 + 5, none⟩ = some (.slice u5 u6 u7) ∧ w'.cell? ⟨ba, oa + 1 * 7 + 6, none⟩ = some (.int .i64 u8)) ∧ ba < w'.heap.size ∧ w.heap.size < w'.heap.size := fun W hW =>
        (chosen_any tf kf sf W).mono fun e' w' h => by
          have hb := hW.trans (h.2.mono (BOX.out W hW).2.2.1)
          obtain ⟨g1, _, g3, g4⟩ := BOX.out w' hb
          have hkA : ∀ o, w'.cell? ⟨ba, o, none⟩ = w.cell? ⟨ba, o, none⟩ := fun o => g4.cell (p := ⟨ba, o, none⟩) hbl
          simp only [hkA]
          refine ⟨by rw [h.1, hB0]; rfl, hb, g1 5, ⟨c0, c1, c2, c3, c4, c5, c6⟩, by have := g4.size; omega, by omega⟩
      clear hR hy PA HEN HCO HRO b1 ihx ihy ihz hB0 c0 c1 c2 c3 c4 c5 c6
      go_enter Tryz.func19, Tryz.ntmps19
      go_wp2_with fail
      refine cX.mono ?_
      rintro e' w1 ⟨rfl, b2⟩
      have B2 : Aside (Below (w.heap.size + 2) ((w.alloc (.cells #[.string op, .string nm, .int .i64 vt, .int .i64 vn, .string vs, .slice (some ⟨ba, oa, none⟩) 3 ca, .int .i64 pos] 26)).alloc (.cells #[.int .i64 0, .int .i64 0, .string ⟨#[]⟩] 23)) w1) := b2.mono (by simp)
      obtain ⟨hB, ⟨f0, f1, f2, ff⟩, hl, b9⟩ := BOX.out w1 B2.out
      have g0 : w1.cell? ⟨w.heap.size, 0, none⟩ = some (.string op) := hB 0
      have g5 : w1.cell? ⟨w.heap.size, 5, none⟩ = some (.slice (some ⟨ba, oa, none⟩) 3 ca) := hB 5
      have hl0 : w.heap.size < w1.heap.size := by omega
      have hl1 : w.heap.size + 1 < w1.heap.size := by omega
      have BX : Aside (Below (w.heap.size + 2) ((w.alloc (.cells #[.string op, .string nm, .int .i64 vt, .int .i64 vn, .string vs, .slice (some ⟨ba, oa, none⟩) 3 ca, .int .i64 pos] 26)).alloc (.cells #[.int .i64 0, .int .i64 0, .string ⟨#[]⟩] 23)) (w1.alloc (.cells #[.int .i64 tf, .int .i64 kf, .string sf] 23))) := B2.out.alloc (by omega) _
      clear cX hB b2 e0 e1 e2 e3 e4 e5 e6
      go_wp2
      go_region_with (first | (go_at_call 38; refine (cC _ (by repeat (first | exact BX.out | apply below_drewN | refine Below.drew ?_))).mono ?_; rintro e' w2 ⟨rfl, b3, m5, ⟨d0, d1, d2, d3, d4, d5, d6⟩, hl3, hl4⟩) | (go_at_call 19; refine (cY _ (by repeat (first | exact b3.out | apply below_drewN | refine Below.drew ?_))).mono ?_; rintro e' w3 ⟨rfl, ⟨f0, f1, f2, ff⟩, hl5, b9⟩; have hl6 : w.heap.size + 1 < w3.heap.size := by omega))
      all_goals
        go_wp2
        refine bodyPost_ret (v := .tuple #[.agg #[.int .i64 t, .int .i64 k, .string s], errV e]) (by simp [results, Tryz.results19, go_sem, World.cell?_setCell_other, World.cell?_setCell_same, f0, f1, f2]) rfl ⟨rfl, ?_⟩
        exact below3 b9 (by omega) _ _ _
  · simp only [noV, Prod.mk.injEq] at h9
    obtain ⟨⟨rfl, rfl, rfl⟩, rfl⟩ := h9
    rw [combP, if_pos (by decide)] at hR
    simp only [noV, Prod.mk.injEq] at hR
    obtain ⟨⟨rfl, rfl, rfl⟩, rfl⟩ := hR
    rw [show errV 9 = .iface 42 (.int .i64 9) from rfl] at cX ⊢
    clear PA HEN HCO HRO b1
    go_enter Tryz.func19, Tryz.ntmps19
    go_wp2_with fail
    refine cX.mono ?_
    rintro e w1 ⟨rfl, b2⟩
    obtain ⟨_, ⟨f0, f1, f2, ff⟩, hl, b9⟩ := BOX.out w1 (b2.mono (by simp))
    have hl1 : w.heap.size + 1 < w1.heap.size := by omega
    clear cX BOX b2 e0 e1 e2 e3 e4 e5 e6
    go_wp2
    obtain ⟨r0, r1, r2⟩ := res3 f0 f1 f2 hl1 (.int .i64 0) (.int .i64 0) (.string ⟨#[]⟩) (.cells #[.int .i64 0, .int .i64 0, .string ⟨#[]⟩] 23)
    refine bodyPost_ret (v := .tuple #[.agg #[.int .i64 0, .int .i64 0, .string ⟨#[]⟩], .iface 42 (.int .i64 9)]) (by simp [results, Tryz.results19, go_sem, r0, r1, r2]) rfl ⟨rfl, ?_⟩
    exact (below3 b9 (by omega) _ _ _).alloc (by simp [World.setCell]; omega) _
end Go.Proofs.YticdcnbeemkapaaGreatDoor
