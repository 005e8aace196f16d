/-
  What an expression of two parts comes to: package eval's come.
-/
import Derived.Test.YticdcnbeemkapaaGreatDoorQEvCm
namespace Go.Proofs.YticdcnbeemkapaaGreatDoor
open Go.RowKit Go.BigFrame
set_option linter.unusedVariables false

set_option maxHeartbeats 8000000 in
set_option maxRecDepth 20000 in
theorem come_2 (zs : List (ByteArray × Int)) (b off c rb ro rc : Nat) (rs : List V3) (op nm vs : ByteArray) (vt vn pos : Int) (x y : Ex) (h1 : op.data.toList ≠ [118, 97, 108]) (h2 : op.data.toList ≠ [99, 111, 108]) (h5 : op.data.toList ≠ [105, 102]) (ihx : ComeAt zs b off c rb ro rc rs x) (Tx : Int) (hcx : comes Tx (cmP zs rs x)) (ihy : ComeAt zs b off c rb ro rc rs y) (Ty : Int) (hcy : comes Ty (cmP zs rs y)) : ComeAt zs b off c rb ro rc rs (.node op nm vt vn vs pos [x, y] : Ex) := by
  intro lo v w t k s e henv hx hc hr hR
  rw [ExIn] at hx
  obtain ⟨p, ca, rfl, ⟨hm, hmc⟩, ho, hnm, hvs, hparts⟩ := hx
  rcases hparts with h | ⟨ba, oa, rfl, hbl, hlo, hE⟩
  · exact absurd h (by simp)
  have hlen : [x, y].length = 2 := rfl
  rw [hlen] at hm hmc ⊢
  obtain ⟨b1, box⟩ := come_box w #[.string op, .string nm, .int .i64 vt, .int .i64 vn, .string vs, .slice (some ⟨ba, oa, none⟩) 2 ca, .int .i64 pos]
  have BOX : Hid (∀ wr, Below (w.heap.size + 2) ((w.alloc (.cells #[.string op, .string nm, .int .i64 vt, .int .i64 vn, .string vs, .slice (some ⟨ba, oa, none⟩) 2 ca, .int .i64 pos] 26)).alloc (.cells #[.int .i64 0, .int .i64 0, .string ⟨#[]⟩] 23)) wr → (∀ i, wr.cell? ⟨w.heap.size, i, none⟩ = (#[.string op, .string nm, .int .i64 vt, .int .i64 vn, .string vs, .slice (some ⟨ba, oa, none⟩) 2 ca, .int .i64 pos] : Array Value)[i]?) ∧ (wr.cell? ⟨w.heap.size + 1, 0, none⟩ = some (.int .i64 0) ∧ wr.cell? ⟨w.heap.size + 1, 1, none⟩ = some (.int .i64 0) ∧ wr.cell? ⟨w.heap.size + 1, 2, none⟩ = some (.string ⟨#[]⟩) ∧ (∀ o, wr.frozen? ⟨w.heap.size + 1, o, none⟩ = false)) ∧ w.heap.size + 2 ≤ wr.heap.size ∧ Below w.heap.size w wr) := box
  have PA : Aside (∀ j (h : j < [x, y].length), ∃ v0 v1 v2 v3 v4 v5 v6, w.cell? ⟨ba, oa + j * 7, none⟩ = some v0 ∧ w.cell? ⟨ba, oa + j * 7 + 1, none⟩ = some v1 ∧ w.cell? ⟨ba, oa + j * 7 + 2, none⟩ = some v2 ∧ w.cell? ⟨ba, oa + j * 7 + 3, none⟩ = some v3 ∧ w.cell? ⟨ba, oa + j * 7 + 4, none⟩ = some v4 ∧ w.cell? ⟨ba, oa + j * 7 + 5, none⟩ = some v5 ∧ w.cell? ⟨ba, oa + j * 7 + 6, none⟩ = some v6 ∧ ExIn w lo (.agg #[v0, v1, v2, v3, v4, v5, v6]) [x, y][j]) := exsIn_at w lo ba [x, y] oa hE
  obtain ⟨u0, u1, u2, u3, u4, u5, u6, u7, u8, e0, e1, e2, e3, e4, e5, e6, hy⟩ := part_at PA.out b1 hbl 0 (by simp)
  simp only [Nat.zero_mul, Nat.add_zero, List.getElem_cons_zero] at e0 e1 e2 e3 e4 e5 e6 hy
  rw [cmP_op h1 h2] at hR
  simp only [List.map_cons, List.map_nil] at hR
  obtain ⟨tf, kf, sf, ef, hf⟩ : ∃ tf kf sf ef, cmP zs rs x = ((tf, kf, sf), ef) := ⟨_, _, _, _, rfl⟩
  have cX := ihx lo _ ((w.alloc (.cells #[.string op, .string nm, .int .i64 vt, .int .i64 vn, .string vs, .slice (some ⟨ba, oa, none⟩) 2 ca, .int .i64 pos] 26)).alloc (.cells #[.int .i64 0, .int .i64 0, .string ⟨#[]⟩] 23)) tf kf sf ef (henv.on b1) (hy.on b1) (hc.on b1) (hr.on b1) hf
  rw [hf] at hcx hR
  have HEN : Aside (REnv w) := henv
  have HCO : Aside (ColsIn w b off zs) := hc
  have HRO : Aside (RowAt w rb ro rs) := hr
  have q1 : (op.toList == [118, 97, 108]) = false := by rw [Lib.toList_data]; simpa using h1
  have q2 : (op.toList == [99, 111, 108]) = false := by rw [Lib.toList_data]; simpa using h2
  have hblr : ba < ((w.alloc (.cells #[.string op, .string nm, .int .i64 vt, .int .i64 vn, .string vs, .slice (some ⟨ba, oa, none⟩) 2 ca, .int .i64 pos] 26)).alloc (.cells #[.int .i64 0, .int .i64 0, .string ⟨#[]⟩] 23)).heap.size := by simp; omega
  obtain ⟨tg, kg, sg, eg, hg2⟩ : ∃ tg kg sg eg, cmP zs rs y = ((tg, kg, sg), eg) := ⟨_, _, _, _, rfl⟩
  rw [hg2] at hcy hR
  have hca : ¬ ca = 1 := by omega
  obtain ⟨i0v, hiv, hzv0, hzv1, hzv2⟩ := info_parts info_val
  clear henv hc hr hE hy hf h1 h2 box
  rcases hcx with ⟨h0, hok⟩ | h9
  · simp only at h0
    subst h0
    rw [combP, if_neg (by simp)] at hR
    rw [show errV 0 = .nilIface from rfl] at cX
    have hsf : sf.size ≤ 40 := by
      have := chk_size hok.2.1
      simpa using this
    have q5 : (op.toList == [105, 102]) = false := by rw [Lib.toList_data]; simpa using h5
    have cI := isTrue_any tf kf sf
    obtain ⟨B0, hB0⟩ : ∃ B, (kf == 1) = B := ⟨_, rfl⟩
    have hiy : isY (tf, kf, sf) = B0 := hB0
    rw [hB0] at cI
    clear hB0 b1
    by_cases h3 : op.data.toList = [97, 110, 100]
    · have h4 : op.data.toList ≠ [111, 114] := by rw [h3]; decide
      have q3 : (op.toList == [97, 110, 100]) = true := by rw [Lib.toList_data]; simpa using h3
      have q4 : (op.toList == [111, 114]) = false := by rw [Lib.toList_data]; simpa using h4
      cases B0
      · rw [if_pos (by simp [h3, hiy])] at hR
        clear h3 h4 h5
        go_enter Tryz.func19, Tryz.ntmps19
        go_wp2_with fail
        refine cX.mono ?_
        rintro e' w1 ⟨rfl, b2⟩
        have B2 : Aside (Below (w.heap.size + 2) ((w.alloc (.cells #[.string op, .string nm, .int .i64 vt, .int .i64 vn, .string vs, .slice (some ⟨ba, oa, none⟩) 2 ca, .int .i64 pos] 26)).alloc (.cells #[.int .i64 0, .int .i64 0, .string ⟨#[]⟩] 23)) w1) := b2.mono (by simp)
        obtain ⟨hB, ⟨f0, f1, f2, ff⟩, hl, b9⟩ := BOX.out w1 B2.out
        have g0 : w1.cell? ⟨w.heap.size, 0, none⟩ = some (.string op) := hB 0
        have g5 : w1.cell? ⟨w.heap.size, 5, none⟩ = some (.slice (some ⟨ba, oa, none⟩) 2 ca) := hB 5
        have hl0 : w.heap.size < w1.heap.size := by omega
        have hl1 : w.heap.size + 1 < w1.heap.size := by omega
        have BX : Aside (Below (w.heap.size + 2) ((w.alloc (.cells #[.string op, .string nm, .int .i64 vt, .int .i64 vn, .string vs, .slice (some ⟨ba, oa, none⟩) 2 ca, .int .i64 pos] 26)).alloc (.cells #[.int .i64 0, .int .i64 0, .string ⟨#[]⟩] 23)) (w1.alloc (.cells #[.int .i64 tf, .int .i64 kf, .string sf] 23))) := B2.out.alloc (by omega) _
        clear cX hB b2 e0 e1 e2 e3 e4 e5 e6
        go_wp2_with fail
        refine (cI _).mono ?_
        rintro e' w2 ⟨rfl, b3⟩
        have B2W : Aside (Below (w.heap.size + 2) ((w.alloc (.cells #[.string op, .string nm, .int .i64 vt, .int .i64 vn, .string vs, .slice (some ⟨ba, oa, none⟩) 2 ca, .int .i64 pos] 26)).alloc (.cells #[.int .i64 0, .int .i64 0, .string ⟨#[]⟩] 23)) w2) := BX.out.trans (b3.mono (by simp; omega))
        have hw1 : w1.heap.size < w2.heap.size := by have := b3.size; simp at this; omega
        obtain ⟨k1, k2, k3⟩ := box_at w1 _ _ b3 (by simp)
        have j0 : w2.cell? ⟨w1.heap.size, 0, none⟩ = some (.int .i64 tf) := k1 0
        have j1 : w2.cell? ⟨w1.heap.size, 1, none⟩ = some (.int .i64 kf) := k1 1
        have j2 : w2.cell? ⟨w1.heap.size, 2, none⟩ = some (.string sf) := k1 2
        clear b3 k1 k2 k3 f0 f1 f2 ff b9 g0 g5 BX
        simp only [Prod.mk.injEq] at hR
        obtain ⟨⟨rfl, rfl, rfl⟩, rfl⟩ := hR
        obtain ⟨hB3, ⟨f0, f1, f2, ff⟩, hl5, b9⟩ := BOX.out w2 B2W.out
        have n0 : w2.cell? ⟨w.heap.size, 0, none⟩ = some (.string op) := hB3 0
        have hl6 : w.heap.size + 1 < w2.heap.size := by omega
        have hl7 : w.heap.size < w2.heap.size := by omega
        clear hB3
        go_wp2
        refine bodyPost_ret (v := .tuple #[.agg #[.int .i64 tf, .int .i64 kf, .string sf], .nilIface]) (by simp [results, Tryz.results19, go_sem, World.cell?_setCell_other, World.cell?_setCell_same, f0, f1, f2]) rfl ⟨rfl, ?_⟩
        exact below3 b9 (by omega) _ _ _
      · rw [if_neg (by simp [h4, hiy]), if_neg h5] at hR
        simp only [List.map_cons, List.map_nil] at hR
        clear h3 h4 h5
        go_enter Tryz.func19, Tryz.ntmps19
        go_wp2_with fail
        refine cX.mono ?_
        rintro e' w1 ⟨rfl, b2⟩
        have B2 : Aside (Below (w.heap.size + 2) ((w.alloc (.cells #[.string op, .string nm, .int .i64 vt, .int .i64 vn, .string vs, .slice (some ⟨ba, oa, none⟩) 2 ca, .int .i64 pos] 26)).alloc (.cells #[.int .i64 0, .int .i64 0, .string ⟨#[]⟩] 23)) w1) := b2.mono (by simp)
        obtain ⟨hB, ⟨f0, f1, f2, ff⟩, hl, b9⟩ := BOX.out w1 B2.out
        have g0 : w1.cell? ⟨w.heap.size, 0, none⟩ = some (.string op) := hB 0
        have g5 : w1.cell? ⟨w.heap.size, 5, none⟩ = some (.slice (some ⟨ba, oa, none⟩) 2 ca) := hB 5
        have hl0 : w.heap.size < w1.heap.size := by omega
        have hl1 : w.heap.size + 1 < w1.heap.size := by omega
        have BX : Aside (Below (w.heap.size + 2) ((w.alloc (.cells #[.string op, .string nm, .int .i64 vt, .int .i64 vn, .string vs, .slice (some ⟨ba, oa, none⟩) 2 ca, .int .i64 pos] 26)).alloc (.cells #[.int .i64 0, .int .i64 0, .string ⟨#[]⟩] 23)) (w1.alloc (.cells #[.int .i64 tf, .int .i64 kf, .string sf] 23))) := B2.out.alloc (by omega) _
        clear cX hB b2 e0 e1 e2 e3 e4 e5 e6
        go_wp2_with fail
        refine (cI _).mono ?_
        rintro e' w2 ⟨rfl, b3⟩
        have B2W : Aside (Below (w.heap.size + 2) ((w.alloc (.cells #[.string op, .string nm, .int .i64 vt, .int .i64 vn, .string vs, .slice (some ⟨ba, oa, none⟩) 2 ca, .int .i64 pos] 26)).alloc (.cells #[.int .i64 0, .int .i64 0, .string ⟨#[]⟩] 23)) w2) := BX.out.trans (b3.mono (by simp; omega))
        have hw1 : w1.heap.size < w2.heap.size := by have := b3.size; simp at this; omega
        obtain ⟨k1, k2, k3⟩ := box_at w1 _ _ b3 (by simp)
        have j0 : w2.cell? ⟨w1.heap.size, 0, none⟩ = some (.int .i64 tf) := k1 0
        have j1 : w2.cell? ⟨w1.heap.size, 1, none⟩ = some (.int .i64 kf) := k1 1
        have j2 : w2.cell? ⟨w1.heap.size, 2, none⟩ = some (.string sf) := k1 2
        clear b3 k1 k2 k3 f0 f1 f2 ff b9 g0 g5 BX
        have hR2 : Hid ((if firstE [((tg, kg, sg), eg)] ≠ 0 then (noV, firstE [((tg, kg, sg), eg)]) else doP op.data.toList [(tf, kf, sf), (tg, kg, sg)]) = ((t, k, s), e)) := hR
        clear hR
        have hB2 := BOX.out _ B2W.out
        have n0 : w2.cell? ⟨w.heap.size, 0, none⟩ = some (.string op) := hB2.1 0
        have n5 : w2.cell? ⟨w.heap.size, 5, none⟩ = some (.slice (some ⟨ba, oa, none⟩) 2 ca) := hB2.1 5
        have hz2 : w.heap.size + 2 ≤ w2.heap.size := hB2.2.2.1
        have hz0 : w.heap.size < w2.heap.size := by omega
        have hz1 : w.heap.size + 1 < w2.heap.size := by omega
        have OW0 : Aside ((w2.alloc (.cells #[.int .i64 tf, .int .i64 kf, .string sf] 23)).ownsRow (w.heap.size + 2) 23 3 (.slice (some ⟨w2.heap.size, 0, none⟩) 1 1) 1 (vcells [(tf, kf, sf)])) := World.ownsRow_lit w2 #[.int .i64 tf, .int .i64 kf, .string sf] 1 hz2 (by decide) rfl
        have BW0 : Aside (Below (w.heap.size + 2) ((w.alloc (.cells #[.string op, .string nm, .int .i64 vt, .int .i64 vn, .string vs, .slice (some ⟨ba, oa, none⟩) 2 ca, .int .i64 pos] 26)).alloc (.cells #[.int .i64 0, .int .i64 0, .string ⟨#[]⟩] 23)) (w2.alloc (.cells #[.int .i64 tf, .int .i64 kf, .string sf] 23))) := B2W.out.alloc hz2 _
        clear hB2
        go_wp2
        go_loopg [10, 12, 13, 14, 82] 1 (fun gg s10 _ _ _ s82 wr => ∃ (kk : Nat) (q : Option Addr) (cp : Nat) (vv : List V3), kk ≤ 1 ∧ 1 - kk ≤ gg ∧ s82 = .int .i64 kk ∧ s10 = .slice q (kk + 1) cp ∧ Aside (wr.ownsRow (w.heap.size + 2) 23 3 (.slice q (kk + 1) cp) (kk + 1) (vcells vv)) ∧ Aside (Below (w.heap.size + 2) ((w.alloc (.cells #[.string op, .string nm, .int .i64 vt, .int .i64 vn, .string vs, .slice (some ⟨ba, oa, none⟩) 2 ca, .int .i64 pos] 26)).alloc (.cells #[.int .i64 0, .int .i64 0, .string ⟨#[]⟩] 23)) wr) ∧ Hid ((kk = 0 → vv = [(tf, kf, sf)]) ∧ (kk = 1 → vv = [(tf, kf, sf), (tg, kg, sg)] ∧ eg = 0)))
        case atStart => exact ⟨0, some ⟨_, 0, none⟩, 1, [(tf, kf, sf)], by decide, by decide, rfl, by rfl, (show Aside _ by simpa using OW0), (show Aside _ by simpa using BW0), (show Hid _ from ⟨fun _ => rfl, fun h => absurd h (by decide)⟩)⟩
        case round =>
          obtain ⟨kk, q, cp, vv, hkk, hg, rfl, rfl, OW, BW, HV⟩ := hrel
          obtain ⟨hBr, ⟨f0, f1, f2, ff⟩, hzr, bwr⟩ := BOX.out wr BW.out
          have i0 : wr.cell? ⟨w.heap.size, 0, none⟩ = some (.string op) := hBr 0
          have hr0 : w.heap.size < wr.heap.size := by omega
          have hr1 : w.heap.size + 1 < wr.heap.size := by omega
          clear hBr OW0 BW0 n0 n5
          by_cases hlt : kk < 1
          · obtain rfl : kk = 0 := by omega
            obtain rfl := HV.out.1 rfl
            obtain ⟨u0, u1, u2, u3, u4, u5, u6, u7, u8, e0, e1, e2, e3, e4, e5, e6, hy⟩ := part_at PA.out bwr hbl 1 (by simp)
            simp only [Nat.one_mul, List.getElem_cons_succ, List.getElem_cons_zero] at e0 e1 e2 e3 e4 e5 e6 hy
            have hbr : ba < wr.heap.size := by have := bwr.size; omega
            have b3 : Below w.heap.size w (wr.alloc (.cells #[.string u0, .string u1, .int .i64 u2, .int .i64 u3, .string u4, .slice u5 u6 u7, .int .i64 u8] 26)) := bwr.alloc bwr.size _
            have cY := ihy lo _ (wr.alloc (.cells #[.string u0, .string u1, .int .i64 u2, .int .i64 u3, .string u4, .slice u5 u6 u7, .int .i64 u8] 26)) tg kg sg eg (HEN.out.on b3) (hy.on b3) (HCO.out.on b3) (HRO.out.on b3) hg2
            clear hy hlt HV
            rcases hcy with ⟨hg0, hokg⟩ | h9
            · simp only at hg0
              subst hg0
              rw [show errV 0 = .nilIface from rfl] at cY
              go_wp2_with fail
              refine cY.mono ?_
              rintro e' w4 ⟨rfl, b4⟩
              have hz4 : wr.heap.size + 1 ≤ w4.heap.size := by have := b4.size; simpa using this
              have b5 : Below (w.heap.size + 2) wr w4 := ((Below.refl _ wr).alloc (by omega) _).trans (b4.mono (by simp; omega))
              have OW4 := own_but (OW.out.alloc (.cells #[.string u0, .string u1, .int .i64 u2, .int .i64 u3, .string u4, .slice u5 u6 u7, .int .i64 u8] 26)) (But.of_below' (r := 0) b4 (Nat.zero_le _)) (by omega)
              have OW5 := OW4.alloc (.cells #[.int .i64 tg, .int .i64 kg, .string sg] 23)
              have BW5 : Aside (Below (w.heap.size + 2) ((w.alloc (.cells #[.string op, .string nm, .int .i64 vt, .int .i64 vn, .string vs, .slice (some ⟨ba, oa, none⟩) 2 ca, .int .i64 pos] 26)).alloc (.cells #[.int .i64 0, .int .i64 0, .string ⟨#[]⟩] 23)) (w4.alloc (.cells #[.int .i64 tg, .int .i64 kg, .string sg] 23))) := (BW.out.trans b5).alloc (by omega) _
              clear cY b4 b3 e0 e1 e2 e3 e4 e5 e6 OW OW4 b5 i0 f0 f1 f2 ff
              go_wp2_with (at_builtin; refine wpList_append_own _ rfl _ _ 41 rfl (w.heap.size + 2) 23 i0v _ 3 32 Tryz.underlying41 hiv hzv0 hzv1 hzv2 rfl (by decide) _ _ _ rfl (OW5.alloc _) ⟨w4.heap.size + 1, 0, none⟩ 1 1 [.int .i64 tg, .int .i64 kg, .string sg] rfl rfl ?c1 ?c2 ?c3 ?c4 ?c5 ?_)
              case c1 =>
                intro i u hu
                rw [Go.WideShapes.add_plain, World.cell?_alloc_at _ _ _ _ (by simp)]
                simpa using hu
              case c2 =>
                intro u hu
                simp at hu
                rcases hu with rfl | rfl | rfl <;> rfl
              case c3 => simp [maxLen]
              case c4 => omega
              case c5 => simp; omega
              · intro v' w5 hown' hgrow _
                have hlo3 : ∀ j, (Value.slice q (0 + 1) cp).ownBlock = some j → w.heap.size + 2 ≤ j := fun j hj => (OW5.lt j hj).1
                have bg : Below (w.heap.size + 2) (w4.alloc (.cells #[.int .i64 tg, .int .i64 kg, .string sg] 23)) w5 := ((Below.refl _ _).alloc (by simp; omega) _).grown hgrow (by simp; omega) hlo3
                have BW6 : Aside (Below (w.heap.size + 2) ((w.alloc (.cells #[.string op, .string nm, .int .i64 vt, .int .i64 vn, .string vs, .slice (some ⟨ba, oa, none⟩) 2 ca, .int .i64 pos] 26)).alloc (.cells #[.int .i64 0, .int .i64 0, .string ⟨#[]⟩] 23)) w5) := BW5.out.trans bg
                obtain ⟨q5, c5, rfl⟩ := lown_slice hown'
                have ow6 : w5.ownsRow (w.heap.size + 2) 23 3 (.slice q5 (1 + 1) c5) (1 + 1) (vcells [(tf, kf, sf), (tg, kg, sg)]) := hown'
                clear hown' hgrow OW5 bg BW5
                go_wp2
                go_roundg 0
                case measure => omega
                case rel => exact ⟨1, q5, c5, _, by decide, by decide, by go_num, rfl, (show Aside _ from ow6), BW6, (show Hid _ from ⟨fun h => absurd h (by decide), fun _ => ⟨rfl, by first | trivial | rfl⟩⟩)⟩
            · simp only [noV, Prod.mk.injEq] at h9
              obtain ⟨⟨rfl, rfl, rfl⟩, rfl⟩ := h9
              have hfin := hR2.out
              rw [if_pos (by decide)] at hfin
              simp only [noV, firstE, Prod.mk.injEq] at hfin
              obtain ⟨⟨rfl, rfl, rfl⟩, he⟩ := hfin
              obtain rfl : e = 9 := by rw [← he]; rfl
              rw [show errV 9 = .iface 42 (.int .i64 9) from rfl] at cY
              clear he hR2
              go_wp2_with fail
              refine cY.mono ?_
              rintro e' w4 ⟨rfl, b4⟩
              have b5 : Below (w.heap.size + 2) wr w4 := ((Below.refl _ wr).alloc (by omega) _).trans (b4.mono (by simp; omega))
              obtain ⟨_, ⟨f0, f1, f2, ff⟩, hl5, b9⟩ := BOX.out w4 (BW.out.trans b5)
              have hl6 : w.heap.size + 1 < w4.heap.size := by omega
              clear cY b4 b3 e0 e1 e2 e3 e4 e5 e6 b5
              go_wp2
              obtain ⟨r0, r1, r2⟩ := res3 f0 f1 f2 hl6 (.int .i64 0) (.int .i64 0) (.string ⟨#[]⟩) (.cells #[.int .i64 0, .int .i64 0, .string ⟨#[]⟩] 23)
              refine bodyPost_ret (v := .tuple #[.agg #[.int .i64 0, .int .i64 0, .string ⟨#[]⟩], .iface 42 (.int .i64 9)]) (by simp [results, Tryz.results19, go_sem, r0, r1, r2]) rfl ⟨rfl, ?_⟩
              exact (below3 b9 (by omega) _ _ _).alloc (by simp [World.setCell]; omega) _
          · obtain rfl : kk = 1 := by omega
            obtain ⟨rfl, hg0⟩ := HV.out.2 rfl
            subst hg0
            have hokg : okV Ty (tg, kg, sg) := by
              rcases hcy with h | h
              · exact h.2
              · simp only [noV, Prod.mk.injEq] at h
                exact absurd h.2 (by decide)
            have hsg : sg.size ≤ 40 := by
              have := chk_size hokg.2.1
              simpa using this
            have hfin := hR2.out
            rw [if_neg (by simp [firstE])] at hfin
            have cD := do_any op q cp 2 [(tf, kf, sf), (tg, kg, sg)] wr (HEN.out.on bwr) rfl (by decide) (ownVals rfl OW.out) (fun v hv => by
              rcases List.mem_cons.1 hv with rfl | hv
              · exact ⟨by unfold maxLen; simp only; omega, hok.2.2⟩
              · obtain rfl := List.mem_singleton.1 hv
                exact ⟨by unfold maxLen; simp only; omega, hokg.2.2⟩) t k s e hfin
            clear hfin hR2 OW HV
            go_wp2_with fail
            refine cD.mono ?_
            rintro e' w5 ⟨rfl, b5⟩
            obtain ⟨_, ⟨f0, f1, f2, ff⟩, hl5, b9⟩ := BOX.out w5 (BW.out.trans (b5.mono (by omega)))
            have hl6 : w.heap.size + 1 < w5.heap.size := by omega
            clear cD b5
            go_wp2
            refine bodyPost_ret (v := .tuple #[.agg #[.int .i64 t, .int .i64 k, .string s], errV e]) (by simp [results, Tryz.results19, go_sem, World.cell?_setCell_other, World.cell?_setCell_same, f0, f1, f2]) rfl ⟨rfl, ?_⟩
            exact below3 b9 (by omega) _ _ _
    · have q3 : (op.toList == [97, 110, 100]) = false := by rw [Lib.toList_data]; simpa using h3
      by_cases h4 : op.data.toList = [111, 114]
      · have q4 : (op.toList == [111, 114]) = true := by rw [Lib.toList_data]; simpa using h4
        cases B0
        · rw [if_neg (by simp [h3, hiy]), if_neg h5] at hR
          simp only [List.map_cons, List.map_nil] at hR
          clear h3 h4 h5
          go_enter Tryz.func19, Tryz.ntmps19
          go_wp2_with fail
          refine cX.mono ?_
          rintro e' w1 ⟨rfl, b2⟩
          have B2 : Aside (Below (w.heap.size + 2) ((w.alloc (.cells #[.string op, .string nm, .int .i64 vt, .int .i64 vn, .string vs, .slice (some ⟨ba, oa, none⟩) 2 ca, .int .i64 pos] 26)).alloc (.cells #[.int .i64 0, .int .i64 0, .string ⟨#[]⟩] 23)) w1) := b2.mono (by simp)
          obtain ⟨hB, ⟨f0, f1, f2, ff⟩, hl, b9⟩ := BOX.out w1 B2.out
          have g0 : w1.cell? ⟨w.heap.size, 0, none⟩ = some (.string op) := hB 0
          have g5 : w1.cell? ⟨w.heap.size, 5, none⟩ = some (.slice (some ⟨ba, oa, none⟩) 2 ca) := hB 5
          have hl0 : w.heap.size < w1.heap.size := by omega
          have hl1 : w.heap.size + 1 < w1.heap.size := by omega
          have BX : Aside (Below (w.heap.size + 2) ((w.alloc (.cells #[.string op, .string nm, .int .i64 vt, .int .i64 vn, .string vs, .slice (some ⟨ba, oa, none⟩) 2 ca, .int .i64 pos] 26)).alloc (.cells #[.int .i64 0, .int .i64 0, .string ⟨#[]⟩] 23)) (w1.alloc (.cells #[.int .i64 tf, .int .i64 kf, .string sf] 23))) := B2.out.alloc (by omega) _
          clear cX hB b2 e0 e1 e2 e3 e4 e5 e6
          go_wp2_with fail
          refine (cI _).mono ?_
          rintro e' w2 ⟨rfl, b3⟩
          have B2W : Aside (Below (w.heap.size + 2) ((w.alloc (.cells #[.string op, .string nm, .int .i64 vt, .int .i64 vn, .string vs, .slice (some ⟨ba, oa, none⟩) 2 ca, .int .i64 pos] 26)).alloc (.cells #[.int .i64 0, .int .i64 0, .string ⟨#[]⟩] 23)) w2) := BX.out.trans (b3.mono (by simp; omega))
          have hw1 : w1.heap.size < w2.heap.size := by have := b3.size; simp at this; omega
          obtain ⟨k1, k2, k3⟩ := box_at w1 _ _ b3 (by simp)
          have j0 : w2.cell? ⟨w1.heap.size, 0, none⟩ = some (.int .i64 tf) := k1 0
          have j1 : w2.cell? ⟨w1.heap.size, 1, none⟩ = some (.int .i64 kf) := k1 1
          have j2 : w2.cell? ⟨w1.heap.size, 2, none⟩ = some (.string sf) := k1 2
          clear b3 k1 k2 k3 f0 f1 f2 ff b9 g0 g5 BX
          have hR2 : Hid ((if firstE [((tg, kg, sg), eg)] ≠ 0 then (noV, firstE [((tg, kg, sg), eg)]) else doP op.data.toList [(tf, kf, sf), (tg, kg, sg)]) = ((t, k, s), e)) := hR
          clear hR
          have hB2 := BOX.out _ B2W.out
          have n0 : w2.cell? ⟨w.heap.size, 0, none⟩ = some (.string op) := hB2.1 0
          have n5 : w2.cell? ⟨w.heap.size, 5, none⟩ = some (.slice (some ⟨ba, oa, none⟩) 2 ca) := hB2.1 5
          have hz2 : w.heap.size + 2 ≤ w2.heap.size := hB2.2.2.1
          have hz0 : w.heap.size < w2.heap.size := by omega
          have hz1 : w.heap.size + 1 < w2.heap.size := by omega
          have OW0 : Aside ((w2.alloc (.cells #[.int .i64 tf, .int .i64 kf, .string sf] 23)).ownsRow (w.heap.size + 2) 23 3 (.slice (some ⟨w2.heap.size, 0, none⟩) 1 1) 1 (vcells [(tf, kf, sf)])) := World.ownsRow_lit w2 #[.int .i64 tf, .int .i64 kf, .string sf] 1 hz2 (by decide) rfl
          have BW0 : Aside (Below (w.heap.size + 2) ((w.alloc (.cells #[.string op, .string nm, .int .i64 vt, .int .i64 vn, .string vs, .slice (some ⟨ba, oa, none⟩) 2 ca, .int .i64 pos] 26)).alloc (.cells #[.int .i64 0, .int .i64 0, .string ⟨#[]⟩] 23)) (w2.alloc (.cells #[.int .i64 tf, .int .i64 kf, .string sf] 23))) := B2W.out.alloc hz2 _
          clear hB2
          go_wp2
          go_loopg [10, 12, 13, 14, 82] 1 (fun gg s10 _ _ _ s82 wr => ∃ (kk : Nat) (q : Option Addr) (cp : Nat) (vv : List V3), kk ≤ 1 ∧ 1 - kk ≤ gg ∧ s82 = .int .i64 kk ∧ s10 = .slice q (kk + 1) cp ∧ Aside (wr.ownsRow (w.heap.size + 2) 23 3 (.slice q (kk + 1) cp) (kk + 1) (vcells vv)) ∧ Aside (Below (w.heap.size + 2) ((w.alloc (.cells #[.string op, .string nm, .int .i64 vt, .int .i64 vn, .string vs, .slice (some ⟨ba, oa, none⟩) 2 ca, .int .i64 pos] 26)).alloc (.cells #[.int .i64 0, .int .i64 0, .string ⟨#[]⟩] 23)) wr) ∧ Hid ((kk = 0 → vv = [(tf, kf, sf)]) ∧ (kk = 1 → vv = [(tf, kf, sf), (tg, kg, sg)] ∧ eg = 0)))
          case atStart => exact ⟨0, some ⟨_, 0, none⟩, 1, [(tf, kf, sf)], by decide, by decide, rfl, by rfl, (show Aside _ by simpa using OW0), (show Aside _ by simpa using BW0), (show Hid _ from ⟨fun _ => rfl, fun h => absurd h (by decide)⟩)⟩
          case round =>
            obtain ⟨kk, q, cp, vv, hkk, hg, rfl, rfl, OW, BW, HV⟩ := hrel
            obtain ⟨hBr, ⟨f0, f1, f2, ff⟩, hzr, bwr⟩ := BOX.out wr BW.out
            have i0 : wr.cell? ⟨w.heap.size, 0, none⟩ = some (.string op) := hBr 0
            have hr0 : w.heap.size < wr.heap.size := by omega
            have hr1 : w.heap.size + 1 < wr.heap.size := by omega
            clear hBr OW0 BW0 n0 n5
            by_cases hlt : kk < 1
            · obtain rfl : kk = 0 := by omega
              obtain rfl := HV.out.1 rfl
              obtain ⟨u0, u1, u2, u3, u4, u5, u6, u7, u8, e0, e1, e2, e3, e4, e5, e6, hy⟩ := part_at PA.out bwr hbl 1 (by simp)
              simp only [Nat.one_mul, List.getElem_cons_succ, List.getElem_cons_zero] at e0 e1 e2 e3 e4 e5 e6 hy
              have hbr : ba < wr.heap.size := by have := bwr.size; omega
              have b3 : Below w.heap.size w (wr.alloc (.cells #[.string u0, .string u1, .int .i64 u2, .int .i64 u3, .string u4, .slice u5 u6 u7, .int .i64 u8] 26)) := bwr.alloc bwr.size _
              have cY := ihy lo _ (wr.alloc (.cells #[.string u0, .string u1, .int .i64 u2, .int .i64 u3, .string u4, .slice u5 u6 u7, .int .i64 u8] 26)) tg kg sg eg (HEN.out.on b3) (hy.on b3) (HCO.out.on b3) (HRO.out.on b3) hg2
              clear hy hlt HV
              rcases hcy with ⟨hg0, hokg⟩ | h9
              · simp only at hg0
                subst hg0
                rw [show errV 0 = .nilIface from rfl] at cY
                go_wp2_with fail
                refine cY.mono ?_
                rintro e' w4 ⟨rfl, b4⟩
                have hz4 : wr.heap.size + 1 ≤ w4.heap.size := by have := b4.size; simpa using this
                have b5 : Below (w.heap.size + 2) wr w4 := ((Below.refl _ wr).alloc (by omega) _).trans (b4.mono (by simp; omega))
                have OW4 := own_but (OW.out.alloc (.cells #[.string u0, .string u1, .int .i64 u2, .int .i64 u3, .string u4, .slice u5 u6 u7, .int .i64 u8] 26)) (But.of_below' (r := 0) b4 (Nat.zero_le _)) (by omega)
                have OW5 := OW4.alloc (.cells #[.int .i64 tg, .int .i64 kg, .string sg] 23)
                have BW5 : Aside (Below (w.heap.size + 2) ((w.alloc (.cells #[.string op, .string nm, .int .i64 vt, .int .i64 vn, .string vs, .slice (some ⟨ba, oa, none⟩) 2 ca, .int .i64 pos] 26)).alloc (.cells #[.int .i64 0, .int .i64 0, .string ⟨#[]⟩] 23)) (w4.alloc (.cells #[.int .i64 tg, .int .i64 kg, .string sg] 23))) := (BW.out.trans b5).alloc (by omega) _
                clear cY b4 b3 e0 e1 e2 e3 e4 e5 e6 OW OW4 b5 i0 f0 f1 f2 ff
                go_wp2_with (at_builtin; refine wpList_append_own _ rfl _ _ 41 rfl (w.heap.size + 2) 23 i0v _ 3 32 Tryz.underlying41 hiv hzv0 hzv1 hzv2 rfl (by decide) _ _ _ rfl (OW5.alloc _) ⟨w4.heap.size + 1, 0, none⟩ 1 1 [.int .i64 tg, .int .i64 kg, .string sg] rfl rfl ?c1 ?c2 ?c3 ?c4 ?c5 ?_)
                case c1 =>
                  intro i u hu
                  rw [Go.WideShapes.add_plain, World.cell?_alloc_at _ _ _ _ (by simp)]
                  simpa using hu
                case c2 =>
                  intro u hu
                  simp at hu
                  rcases hu with rfl | rfl | rfl <;> rfl
                case c3 => simp [maxLen]
                case c4 => omega
                case c5 => simp; omega
                · intro v' w5 hown' hgrow _
                  have hlo3 : ∀ j, (Value.slice q (0 + 1) cp).ownBlock = some j → w.heap.size + 2 ≤ j := fun j hj => (OW5.lt j hj).1
                  have bg : Below (w.heap.size + 2) (w4.alloc (.cells #[.int .i64 tg, .int .i64 kg, .string sg] 23)) w5 := ((Below.refl _ _).alloc (by simp; omega) _).grown hgrow (by simp; omega) hlo3
                  have BW6 : Aside (Below (w.heap.size + 2) ((w.alloc (.cells #[.string op, .string nm, .int .i64 vt, .int .i64 vn, .string vs, .slice (some ⟨ba, oa, none⟩) 2 ca, .int .i64 pos] 26)).alloc (.cells #[.int .i64 0, .int .i64 0, .string ⟨#[]⟩] 23)) w5) := BW5.out.trans bg
                  obtain ⟨q5, c5, rfl⟩ := lown_slice hown'
                  have ow6 : w5.ownsRow (w.heap.size + 2) 23 3 (.slice q5 (1 + 1) c5) (1 + 1) (vcells [(tf, kf, sf), (tg, kg, sg)]) := hown'
                  clear hown' hgrow OW5 bg BW5
                  go_wp2
                  go_roundg 0
                  case measure => omega
                  case rel => exact ⟨1, q5, c5, _, by decide, by decide, by go_num, rfl, (show Aside _ from ow6), BW6, (show Hid _ from ⟨fun h => absurd h (by decide), fun _ => ⟨rfl, by first | trivial | rfl⟩⟩)⟩
              · simp only [noV, Prod.mk.injEq] at h9
                obtain ⟨⟨rfl, rfl, rfl⟩, rfl⟩ := h9
                have hfin := hR2.out
                rw [if_pos (by decide)] at hfin
                simp only [noV, firstE, Prod.mk.injEq] at hfin
                obtain ⟨⟨rfl, rfl, rfl⟩, he⟩ := hfin
                obtain rfl : e = 9 := by rw [← he]; rfl
                rw [show errV 9 = .iface 42 (.int .i64 9) from rfl] at cY
                clear he hR2
                go_wp2_with fail
                refine cY.mono ?_
                rintro e' w4 ⟨rfl, b4⟩
                have b5 : Below (w.heap.size + 2) wr w4 := ((Below.refl _ wr).alloc (by omega) _).trans (b4.mono (by simp; omega))
                obtain ⟨_, ⟨f0, f1, f2, ff⟩, hl5, b9⟩ := BOX.out w4 (BW.out.trans b5)
                have hl6 : w.heap.size + 1 < w4.heap.size := by omega
                clear cY b4 b3 e0 e1 e2 e3 e4 e5 e6 b5
                go_wp2
                obtain ⟨r0, r1, r2⟩ := res3 f0 f1 f2 hl6 (.int .i64 0) (.int .i64 0) (.string ⟨#[]⟩) (.cells #[.int .i64 0, .int .i64 0, .string ⟨#[]⟩] 23)
                refine bodyPost_ret (v := .tuple #[.agg #[.int .i64 0, .int .i64 0, .string ⟨#[]⟩], .iface 42 (.int .i64 9)]) (by simp [results, Tryz.results19, go_sem, r0, r1, r2]) rfl ⟨rfl, ?_⟩
                exact (below3 b9 (by omega) _ _ _).alloc (by simp [World.setCell]; omega) _
            · obtain rfl : kk = 1 := by omega
              obtain ⟨rfl, hg0⟩ := HV.out.2 rfl
              subst hg0
              have hokg : okV Ty (tg, kg, sg) := by
                rcases hcy with h | h
                · exact h.2
                · simp only [noV, Prod.mk.injEq] at h
                  exact absurd h.2 (by decide)
              have hsg : sg.size ≤ 40 := by
                have := chk_size hokg.2.1
                simpa using this
              have hfin := hR2.out
              rw [if_neg (by simp [firstE])] at hfin
              have cD := do_any op q cp 2 [(tf, kf, sf), (tg, kg, sg)] wr (HEN.out.on bwr) rfl (by decide) (ownVals rfl OW.out) (fun v hv => by
                rcases List.mem_cons.1 hv with rfl | hv
                · exact ⟨by unfold maxLen; simp only; omega, hok.2.2⟩
                · obtain rfl := List.mem_singleton.1 hv
                  exact ⟨by unfold maxLen; simp only; omega, hokg.2.2⟩) t k s e hfin
              clear hfin hR2 OW HV
              go_wp2_with fail
              refine cD.mono ?_
              rintro e' w5 ⟨rfl, b5⟩
              obtain ⟨_, ⟨f0, f1, f2, ff⟩, hl5, b9⟩ := BOX.out w5 (BW.out.trans (b5.mono (by omega)))
              have hl6 : w.heap.size + 1 < w5.heap.size := by omega
              clear cD b5
              go_wp2
              refine bodyPost_ret (v := .tuple #[.agg #[.int .i64 t, .int .i64 k, .string s], errV e]) (by simp [results, Tryz.results19, go_sem, World.cell?_setCell_other, World.cell?_setCell_same, f0, f1, f2]) rfl ⟨rfl, ?_⟩
              exact below3 b9 (by omega) _ _ _
        · rw [if_pos (by simp [h4, hiy])] at hR
          clear h3 h4 h5
          go_enter Tryz.func19, Tryz.ntmps19
          go_wp2_with fail
          refine cX.mono ?_
          rintro e' w1 ⟨rfl, b2⟩
          have B2 : Aside (Below (w.heap.size + 2) ((w.alloc (.cells #[.string op, .string nm, .int .i64 vt, .int .i64 vn, .string vs, .slice (some ⟨ba, oa, none⟩) 2 ca, .int .i64 pos] 26)).alloc (.cells #[.int .i64 0, .int .i64 0, .string ⟨#[]⟩] 23)) w1) := b2.mono (by simp)
          obtain ⟨hB, ⟨f0, f1, f2, ff⟩, hl, b9⟩ := BOX.out w1 B2.out
          have g0 : w1.cell? ⟨w.heap.size, 0, none⟩ = some (.string op) := hB 0
          have g5 : w1.cell? ⟨w.heap.size, 5, none⟩ = some (.slice (some ⟨ba, oa, none⟩) 2 ca) := hB 5
          have hl0 : w.heap.size < w1.heap.size := by omega
          have hl1 : w.heap.size + 1 < w1.heap.size := by omega
          have BX : Aside (Below (w.heap.size + 2) ((w.alloc (.cells #[.string op, .string nm, .int .i64 vt, .int .i64 vn, .string vs, .slice (some ⟨ba, oa, none⟩) 2 ca, .int .i64 pos] 26)).alloc (.cells #[.int .i64 0, .int .i64 0, .string ⟨#[]⟩] 23)) (w1.alloc (.cells #[.int .i64 tf, .int .i64 kf, .string sf] 23))) := B2.out.alloc (by omega) _
          clear cX hB b2 e0 e1 e2 e3 e4 e5 e6
          go_wp2_with fail
          refine (cI _).mono ?_
          rintro e' w2 ⟨rfl, b3⟩
          have B2W : Aside (Below (w.heap.size + 2) ((w.alloc (.cells #[.string op, .string nm, .int .i64 vt, .int .i64 vn, .string vs, .slice (some ⟨ba, oa, none⟩) 2 ca, .int .i64 pos] 26)).alloc (.cells #[.int .i64 0, .int .i64 0, .string ⟨#[]⟩] 23)) w2) := BX.out.trans (b3.mono (by simp; omega))
          have hw1 : w1.heap.size < w2.heap.size := by have := b3.size; simp at this; omega
          obtain ⟨k1, k2, k3⟩ := box_at w1 _ _ b3 (by simp)
          have j0 : w2.cell? ⟨w1.heap.size, 0, none⟩ = some (.int .i64 tf) := k1 0
          have j1 : w2.cell? ⟨w1.heap.size, 1, none⟩ = some (.int .i64 kf) := k1 1
          have j2 : w2.cell? ⟨w1.heap.size, 2, none⟩ = some (.string sf) := k1 2
          clear b3 k1 k2 k3 f0 f1 f2 ff b9 g0 g5 BX
          simp only [Prod.mk.injEq] at hR
          obtain ⟨⟨rfl, rfl, rfl⟩, rfl⟩ := hR
          obtain ⟨hB3, ⟨f0, f1, f2, ff⟩, hl5, b9⟩ := BOX.out w2 B2W.out
          have n0 : w2.cell? ⟨w.heap.size, 0, none⟩ = some (.string op) := hB3 0
          have hl6 : w.heap.size + 1 < w2.heap.size := by omega
          have hl7 : w.heap.size < w2.heap.size := by omega
          clear hB3
          go_wp2
          refine bodyPost_ret (v := .tuple #[.agg #[.int .i64 tf, .int .i64 kf, .string sf], .nilIface]) (by simp [results, Tryz.results19, go_sem, World.cell?_setCell_other, World.cell?_setCell_same, f0, f1, f2]) rfl ⟨rfl, ?_⟩
          exact below3 b9 (by omega) _ _ _
      · have q4 : (op.toList == [111, 114]) = false := by rw [Lib.toList_data]; simpa using h4
        rw [if_neg (by simp [h3, h4]), if_neg h5] at hR
        simp only [List.map_cons, List.map_nil] at hR
        clear h3 h4 h5
        go_enter Tryz.func19, Tryz.ntmps19
        go_wp2_with fail
        refine cX.mono ?_
        rintro e' w1 ⟨rfl, b2⟩
        have B2 : Aside (Below (w.heap.size + 2) ((w.alloc (.cells #[.string op, .string nm, .int .i64 vt, .int .i64 vn, .string vs, .slice (some ⟨ba, oa, none⟩) 2 ca, .int .i64 pos] 26)).alloc (.cells #[.int .i64 0, .int .i64 0, .string ⟨#[]⟩] 23)) w1) := b2.mono (by simp)
        obtain ⟨hB, ⟨f0, f1, f2, ff⟩, hl, b9⟩ := BOX.out w1 B2.out
        have g0 : w1.cell? ⟨w.heap.size, 0, none⟩ = some (.string op) := hB 0
        have g5 : w1.cell? ⟨w.heap.size, 5, none⟩ = some (.slice (some ⟨ba, oa, none⟩) 2 ca) := hB 5
        have hl0 : w.heap.size < w1.heap.size := by omega
        have hl1 : w.heap.size + 1 < w1.heap.size := by omega
        have BX : Aside (Below (w.heap.size + 2) ((w.alloc (.cells #[.string op, .string nm, .int .i64 vt, .int .i64 vn, .string vs, .slice (some ⟨ba, oa, none⟩) 2 ca, .int .i64 pos] 26)).alloc (.cells #[.int .i64 0, .int .i64 0, .string ⟨#[]⟩] 23)) (w1.alloc (.cells #[.int .i64 tf, .int .i64 kf, .string sf] 23))) := B2.out.alloc (by omega) _
        clear cX hB b2 e0 e1 e2 e3 e4 e5 e6
        have B2W := BX
        have hR2 : Hid ((if firstE [((tg, kg, sg), eg)] ≠ 0 then (noV, firstE [((tg, kg, sg), eg)]) else doP op.data.toList [(tf, kf, sf), (tg, kg, sg)]) = ((t, k, s), e)) := hR
        clear hR
        have hB2 := BOX.out _ B2W.out
        have n0 : (w1.alloc (.cells #[.int .i64 tf, .int .i64 kf, .string sf] 23)).cell? ⟨w.heap.size, 0, none⟩ = some (.string op) := hB2.1 0
        have n5 : (w1.alloc (.cells #[.int .i64 tf, .int .i64 kf, .string sf] 23)).cell? ⟨w.heap.size, 5, none⟩ = some (.slice (some ⟨ba, oa, none⟩) 2 ca) := hB2.1 5
        have hz2 : w.heap.size + 2 ≤ (w1.alloc (.cells #[.int .i64 tf, .int .i64 kf, .string sf] 23)).heap.size := hB2.2.2.1
        have hz0 : w.heap.size < (w1.alloc (.cells #[.int .i64 tf, .int .i64 kf, .string sf] 23)).heap.size := by omega
        have hz1 : w.heap.size + 1 < (w1.alloc (.cells #[.int .i64 tf, .int .i64 kf, .string sf] 23)).heap.size := by omega
        have OW0 : Aside (((w1.alloc (.cells #[.int .i64 tf, .int .i64 kf, .string sf] 23)).alloc (.cells #[.int .i64 tf, .int .i64 kf, .string sf] 23)).ownsRow (w.heap.size + 2) 23 3 (.slice (some ⟨(w1.alloc (.cells #[.int .i64 tf, .int .i64 kf, .string sf] 23)).heap.size, 0, none⟩) 1 1) 1 (vcells [(tf, kf, sf)])) := World.ownsRow_lit (w1.alloc (.cells #[.int .i64 tf, .int .i64 kf, .string sf] 23)) #[.int .i64 tf, .int .i64 kf, .string sf] 1 hz2 (by decide) rfl
        have BW0 : Aside (Below (w.heap.size + 2) ((w.alloc (.cells #[.string op, .string nm, .int .i64 vt, .int .i64 vn, .string vs, .slice (some ⟨ba, oa, none⟩) 2 ca, .int .i64 pos] 26)).alloc (.cells #[.int .i64 0, .int .i64 0, .string ⟨#[]⟩] 23)) ((w1.alloc (.cells #[.int .i64 tf, .int .i64 kf, .string sf] 23)).alloc (.cells #[.int .i64 tf, .int .i64 kf, .string sf] 23))) := B2W.out.alloc hz2 _
        clear hB2
        go_wp2
        go_loopg [10, 12, 13, 14, 82] 1 (fun gg s10 _ _ _ s82 wr => ∃ (kk : Nat) (q : Option Addr) (cp : Nat) (vv : List V3), kk ≤ 1 ∧ 1 - kk ≤ gg ∧ s82 = .int .i64 kk ∧ s10 = .slice q (kk + 1) cp ∧ Aside (wr.ownsRow (w.heap.size + 2) 23 3 (.slice q (kk + 1) cp) (kk + 1) (vcells vv)) ∧ Aside (Below (w.heap.size + 2) ((w.alloc (.cells #[.string op, .string nm, .int .i64 vt, .int .i64 vn, .string vs, .slice (some ⟨ba, oa, none⟩) 2 ca, .int .i64 pos] 26)).alloc (.cells #[.int .i64 0, .int .i64 0, .string ⟨#[]⟩] 23)) wr) ∧ Hid ((kk = 0 → vv = [(tf, kf, sf)]) ∧ (kk = 1 → vv = [(tf, kf, sf), (tg, kg, sg)] ∧ eg = 0)))
        case atStart => exact ⟨0, some ⟨_, 0, none⟩, 1, [(tf, kf, sf)], by decide, by decide, rfl, by rfl, (show Aside _ by simpa using OW0), (show Aside _ by simpa using BW0), (show Hid _ from ⟨fun _ => rfl, fun h => absurd h (by decide)⟩)⟩
        case round =>
          obtain ⟨kk, q, cp, vv, hkk, hg, rfl, rfl, OW, BW, HV⟩ := hrel
          obtain ⟨hBr, ⟨f0, f1, f2, ff⟩, hzr, bwr⟩ := BOX.out wr BW.out
          have i0 : wr.cell? ⟨w.heap.size, 0, none⟩ = some (.string op) := hBr 0
          have hr0 : w.heap.size < wr.heap.size := by omega
          have hr1 : w.heap.size + 1 < wr.heap.size := by omega
          clear hBr OW0 BW0 n0 n5
          by_cases hlt : kk < 1
          · obtain rfl : kk = 0 := by omega
            obtain rfl := HV.out.1 rfl
            obtain ⟨u0, u1, u2, u3, u4, u5, u6, u7, u8, e0, e1, e2, e3, e4, e5, e6, hy⟩ := part_at PA.out bwr hbl 1 (by simp)
            simp only [Nat.one_mul, List.getElem_cons_succ, List.getElem_cons_zero] at e0 e1 e2 e3 e4 e5 e6 hy
            have hbr : ba < wr.heap.size := by have := bwr.size; omega
            have b3 : Below w.heap.size w (wr.alloc (.cells #[.string u0, .string u1, .int .i64 u2, .int .i64 u3, .string u4, .slice u5 u6 u7, .int .i64 u8] 26)) := bwr.alloc bwr.size _
            have cY := ihy lo _ (wr.alloc (.cells #[.string u0, .string u1, .int .i64 u2, .int .i64 u3, .string u4, .slice u5 u6 u7, .int .i64 u8] 26)) tg kg sg eg (HEN.out.on b3) (hy.on b3) (HCO.out.on b3) (HRO.out.on b3) hg2
            clear hy hlt HV
            rcases hcy with ⟨hg0, hokg⟩ | h9
            · simp only at hg0
              subst hg0
              rw [show errV 0 = .nilIface from rfl] at cY
              go_wp2_with fail
              refine cY.mono ?_
              rintro e' w4 ⟨rfl, b4⟩
              have hz4 : wr.heap.size + 1 ≤ w4.heap.size := by have := b4.size; simpa using this
              have b5 : Below (w.heap.size + 2) wr w4 := ((Below.refl _ wr).alloc (by omega) _).trans (b4.mono (by simp; omega))
              have OW4 := own_but (OW.out.alloc (.cells #[.string u0, .string u1, .int .i64 u2, .int .i64 u3, .string u4, .slice u5 u6 u7, .int .i64 u8] 26)) (But.of_below' (r := 0) b4 (Nat.zero_le _)) (by omega)
              have OW5 := OW4.alloc (.cells #[.int .i64 tg, .int .i64 kg, .string sg] 23)
              have BW5 : Aside (Below (w.heap.size + 2) ((w.alloc (.cells #[.string op, .string nm, .int .i64 vt, .int .i64 vn, .string vs, .slice (some ⟨ba, oa, none⟩) 2 ca, .int .i64 pos] 26)).alloc (.cells #[.int .i64 0, .int .i64 0, .string ⟨#[]⟩] 23)) (w4.alloc (.cells #[.int .i64 tg, .int .i64 kg, .string sg] 23))) := (BW.out.trans b5).alloc (by omega) _
              clear cY b4 b3 e0 e1 e2 e3 e4 e5 e6 OW OW4 b5 i0 f0 f1 f2 ff
              go_wp2_with (at_builtin; refine wpList_append_own _ rfl _ _ 41 rfl (w.heap.size + 2) 23 i0v _ 3 32 Tryz.underlying41 hiv hzv0 hzv1 hzv2 rfl (by decide) _ _ _ rfl (OW5.alloc _) ⟨w4.heap.size + 1, 0, none⟩ 1 1 [.int .i64 tg, .int .i64 kg, .string sg] rfl rfl ?c1 ?c2 ?c3 ?c4 ?c5 ?_)
              case c1 =>
                intro i u hu
                rw [Go.WideShapes.add_plain, World.cell?_alloc_at _ _ _ _ (by simp)]
                simpa using hu
              case c2 =>
                intro u hu
                simp at hu
                rcases hu with rfl | rfl | rfl <;> rfl
              case c3 => simp [maxLen]
              case c4 => omega
              case c5 => simp; omega
              · intro v' w5 hown' hgrow _
                have hlo3 : ∀ j, (Value.slice q (0 + 1) cp).ownBlock = some j → w.heap.size + 2 ≤ j := fun j hj => (OW5.lt j hj).1
                have bg : Below (w.heap.size + 2) (w4.alloc (.cells #[.int .i64 tg, .int .i64 kg, .string sg] 23)) w5 := ((Below.refl _ _).alloc (by simp; omega) _).grown hgrow (by simp; omega) hlo3
                have BW6 : Aside (Below (w.heap.size + 2) ((w.alloc (.cells #[.string op, .string nm, .int .i64 vt, .int .i64 vn, .string vs, .slice (some ⟨ba, oa, none⟩) 2 ca, .int .i64 pos] 26)).alloc (.cells #[.int .i64 0, .int .i64 0, .string ⟨#[]⟩] 23)) w5) := BW5.out.trans bg
                obtain ⟨q5, c5, rfl⟩ := lown_slice hown'
                have ow6 : w5.ownsRow (w.heap.size + 2) 23 3 (.slice q5 (1 + 1) c5) (1 + 1) (vcells [(tf, kf, sf), (tg, kg, sg)]) := hown'
                clear hown' hgrow OW5 bg BW5
                go_wp2
                go_roundg 0
                case measure => omega
                case rel => exact ⟨1, q5, c5, _, by decide, by decide, by go_num, rfl, (show Aside _ from ow6), BW6, (show Hid _ from ⟨fun h => absurd h (by decide), fun _ => ⟨rfl, by first | trivial | rfl⟩⟩)⟩
            · simp only [noV, Prod.mk.injEq] at h9
              obtain ⟨⟨rfl, rfl, rfl⟩, rfl⟩ := h9
              have hfin := hR2.out
              rw [if_pos (by decide)] at hfin
              simp only [noV, firstE, Prod.mk.injEq] at hfin
              obtain ⟨⟨rfl, rfl, rfl⟩, he⟩ := hfin
              obtain rfl : e = 9 := by rw [← he]; rfl
              rw [show errV 9 = .iface 42 (.int .i64 9) from rfl] at cY
              clear he hR2
              go_wp2_with fail
              refine cY.mono ?_
              rintro e' w4 ⟨rfl, b4⟩
              have b5 : Below (w.heap.size + 2) wr w4 := ((Below.refl _ wr).alloc (by omega) _).trans (b4.mono (by simp; omega))
              obtain ⟨_, ⟨f0, f1, f2, ff⟩, hl5, b9⟩ := BOX.out w4 (BW.out.trans b5)
              have hl6 : w.heap.size + 1 < w4.heap.size := by omega
              clear cY b4 b3 e0 e1 e2 e3 e4 e5 e6 b5
              go_wp2
              obtain ⟨r0, r1, r2⟩ := res3 f0 f1 f2 hl6 (.int .i64 0) (.int .i64 0) (.string ⟨#[]⟩) (.cells #[.int .i64 0, .int .i64 0, .string ⟨#[]⟩] 23)
              refine bodyPost_ret (v := .tuple #[.agg #[.int .i64 0, .int .i64 0, .string ⟨#[]⟩], .iface 42 (.int .i64 9)]) (by simp [results, Tryz.results19, go_sem, r0, r1, r2]) rfl ⟨rfl, ?_⟩
              exact (below3 b9 (by omega) _ _ _).alloc (by simp [World.setCell]; omega) _
          · obtain rfl : kk = 1 := by omega
            obtain ⟨rfl, hg0⟩ := HV.out.2 rfl
            subst hg0
            have hokg : okV Ty (tg, kg, sg) := by
              rcases hcy with h | h
              · exact h.2
              · simp only [noV, Prod.mk.injEq] at h
                exact absurd h.2 (by decide)
            have hsg : sg.size ≤ 40 := by
              have := chk_size hokg.2.1
              simpa using this
            have hfin := hR2.out
            rw [if_neg (by simp [firstE])] at hfin
            have cD := do_any op q cp 2 [(tf, kf, sf), (tg, kg, sg)] wr (HEN.out.on bwr) rfl (by decide) (ownVals rfl OW.out) (fun v hv => by
              rcases List.mem_cons.1 hv with rfl | hv
              · exact ⟨by unfold maxLen; simp only; omega, hok.2.2⟩
              · obtain rfl := List.mem_singleton.1 hv
                exact ⟨by unfold maxLen; simp only; omega, hokg.2.2⟩) t k s e hfin
            clear hfin hR2 OW HV
            go_wp2_with fail
            refine cD.mono ?_
            rintro e' w5 ⟨rfl, b5⟩
            obtain ⟨_, ⟨f0, f1, f2, ff⟩, hl5, b9⟩ := BOX.out w5 (BW.out.trans (b5.mono (by omega)))
            have hl6 : w.heap.size + 1 < w5.heap.size := by omega
            clear cD b5
            go_wp2
            refine bodyPost_ret (v := .tuple #[.agg #[.int .i64 t, .int .i64 k, .string s], errV e]) (by simp [results, Tryz.results19, go_sem, World.cell?_setCell_other, World.cell?_setCell_same, f0, f1, f2]) rfl ⟨rfl, ?_⟩
            exact below3 b9 (by omega) _ _ _
  · simp only [noV, Prod.mk.injEq] at h9
    obtain ⟨⟨rfl, rfl, rfl⟩, rfl⟩ := h9
    rw [combP, if_pos (by decide)] at hR
    simp only [noV, Prod.mk.injEq] at hR
    obtain ⟨⟨rfl, rfl, rfl⟩, rfl⟩ := hR
    rw [show errV 9 = .iface 42 (.int .i64 9) from rfl] at cX ⊢
    clear PA HEN HCO HRO b1
    go_enter Tryz.func19, Tryz.ntmps19
    go_wp2_with fail
    refine cX.mono ?_
    rintro e w1 ⟨rfl, b2⟩
    obtain ⟨_, ⟨f0, f1, f2, ff⟩, hl, b9⟩ := BOX.out w1 (b2.mono (by simp))
    have hl1 : w.heap.size + 1 < w1.heap.size := by omega
    clear cX BOX b2 e0 e1 e2 e3 e4 e5 e6
    go_wp2
    obtain ⟨r0, r1, r2⟩ := res3 f0 f1 f2 hl1 (.int .i64 0) (.int .i64 0) (.string ⟨#[]⟩) (.cells #[.int .i64 0, .int .i64 0, .string ⟨#[]⟩] 23)
    refine bodyPost_ret (v := .tuple #[.agg #[.int .i64 0, .int .i64 0, .string ⟨#[]⟩], .iface 42 (.int .i64 9)]) (by simp [results, Tryz.results19, go_sem, r0, r1, r2]) rfl ⟨rfl, ?_⟩
    exact (below3 b9 (by omega) _ _ _).alloc (by simp [World.setCell]; omega) _
end Go.Proofs.YticdcnbeemkapaaGreatDoor
