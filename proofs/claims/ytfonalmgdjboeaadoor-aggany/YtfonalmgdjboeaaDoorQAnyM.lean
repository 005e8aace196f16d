/-
  AggAny, walked: its closed fact; then four Accs of the same rows.
-/
import Derived.Test.YtfonalmgdjboeaaDoorGrAh
import Derived.Test.YtfonalmgdjboeaaDoorQAnyP
namespace Go.Proofs.YtfonalmgdjboeaaDoor
open Go.RowKit
set_option linter.unusedVariables false

set_option maxHeartbeats 8000000 in
set_option maxRecDepth 20000 in
theorem any_walk (ap : Option Addr) (ac : Nat) (xs : List ByteArray) (tp : Option Addr) (tc : Nat) (ts : List Int) (rp : Option Addr) (rc : Nat) (rws : List (List V3)) (cut : Int) (w : World) (hE : AnyE w ap xs tp ts rp rws) :
    Calls Tryd.prog 4 #[.slice ap xs.length ac, .slice tp ts.length tc, .slice rp rws.length rc, .int .i64 cut] w fun e w' => e = .returned (.bool true) ∧ Aside (Below w.heap.size w w') := by
  have HE : Aside (AnyE w ap xs tp ts rp rws) := hE
  have hml : (rws.length : Int) ≤ 9223372036854775807 := by have := hE.rl; unfold maxLen at this; omega
  have c1 := new_lit w w hE.env (Below.refl _ _)
  clear hE
  generalize hXN : xs.length = XN at *
  generalize hTN : ts.length = TN at *
  generalize hRN : rws.length = RN at *
  have HXN : Hid (xs.length = XN) := hXN
  have HTN : Hid (ts.length = TN) := hTN
  have HRN : Hid (rws.length = RN) := hRN
  clear hXN hTN hRN
  go_enter Tryd.func4, Tryd.ntmps4
  go_wp2_with fail
  refine c1.mono ?_
  rintro e W1 ⟨⟨o, ov, rfl, A1, L1⟩, B1⟩
  clear c1
  have c2 := add_lit o ov [] 9223372036854775807 W1 A1.out (by decide) (by unfold inB; omega)
  clear A1
  go_wp2_with fail
  refine c2.mono ?_
  rintro e W2 ⟨rfl, A2, K2⟩
  have B2 : Aside (Below w.heap.size w W2) := B1.out.trans (K2.out.below B1.out.size (fun k hk hs => by have := L1.out k hs; omega))
  have c3 := add_lit o ov _ 5 W2 A2.out (by decide) (by unfold inB; omega)
  clear c2 K2 A2 B1
  go_wp2_with fail
  refine c3.mono ?_
  rintro e W3 ⟨rfl, A3, K3⟩
  have B3 : Aside (Below w.heap.size w W3) := B2.out.trans (K3.out.below B2.out.size (fun k hk hs => by have := L1.out k hs; omega))
  have c4 := over_c o ov W3 A3.out
  clear c3 K3 B2
  go_wp2_with fail
  refine c4.mono ?_
  rintro e W4 ⟨rfl, K4⟩
  have A4 := A3.out.on K4.out
  have B4 : Aside (Below w.heap.size w W4) := B3.out.trans (K4.out.mono B3.out.size)
  have c5 := add_lit o ov _ (-7) W4 A4 (by decide) (by unfold inB; omega)
  clear c4 K4 B3 A3 A4
  go_wp2_with fail
  refine c5.mono ?_
  rintro e W5 ⟨rfl, A5, K5⟩
  have B5 : Aside (Below w.heap.size w W5) := B4.out.trans (K5.out.below B4.out.size (fun k hk hs => by have := L1.out k hs; omega))
  have c6 := fact_c o ov W5 A5.out
  clear c5 K5 B4
  go_wp2_with fail
  refine c6.mono ?_
  rintro e W6 ⟨⟨fb, fo, fc, rfl, fl, f0⟩, K6⟩
  have B6 : Aside (Below w.heap.size w W6) := B5.out.trans (K6.out.mono B5.out.size)
  have c7 := told_any 9 W6 ((HE.out.on B6.out).et)
  rw [show errV 9 = .iface 53 (.int .i64 9) from rfl] at c7
  clear c6 K6 B5 A5 L1
  go_wp2_with fail
  refine c7.mono ?_
  rintro e W7 ⟨rfl, K7⟩
  have f7 : W7.cell? ⟨fb, fo + 1, none⟩ = some (.int .i64 9223372036854775805) := by rw [K7.cell (p := ⟨fb, fo + 1, none⟩) fl]; exact f0
  have B7 : Aside (Below w.heap.size w W7) := B6.out.trans (K7.mono B6.out.size)
  clear c7 K7 B6 f0 fl
  by_cases hN : nwE xs ts = 0
  · have cG := fun (W : World) (hW : Below w.heap.size w W) => new_c ap ac xs tp tc ts W (HE.out.on hW).env (HE.out.on hW).ags (HE.out.on hW).tys HE.out.xl HE.out.tl hN
    rw [HXN.out, HTN.out] at cG
    have d1 := cG W7 B7.out
    go_wp2_with fail
    refine d1.mono ?_
    rintro e W8 ⟨a, av, rfl, A8, LA8, K8⟩
    have B8 : Below w.heap.size w W8 := B7.out.trans (K8.mono B7.out.size)
    have UA : ∀ k, accS a av k → k < W8.heap.size := A8.lt
    have EA : ∀ k, accS a av k → w.heap.size ≤ k := fun k hk => by have := LA8 k hk; have := B7.out.size; omega
    have HA8 : Aside (AcAt W8 a av (nwP xs ts) [] ∧ (∀ k, accS a av k → k < W8.heap.size) ∧ (∀ k, accS a av k → w.heap.size ≤ k) ∧ Below w.heap.size w W8) := ⟨A8, UA, EA, B8⟩
    have d2 := cG W8 B8
    clear d1 A8 LA8 K8 UA EA B8 B7 f7
    go_wp2_with fail
    refine d2.mono ?_
    rintro e W9 ⟨b, bv, rfl, A9, LA9, K9⟩
    have HA9 : Aside (AcAt W9 a av (nwP xs ts) [] ∧ AcAt W9 b bv (nwP xs ts) [] ∧ (∀ k, accS a av k → k < W8.heap.size) ∧ (∀ k, accS b bv k → W8.heap.size ≤ k ∧ k < W9.heap.size) ∧ (∀ k, accS a av k → w.heap.size ≤ k) ∧ w.heap.size ≤ W8.heap.size ∧ W8.heap.size ≤ W9.heap.size ∧ Below w.heap.size w W9) := ⟨HA8.out.1.on K9, A9, HA8.out.2.1, fun k hk => ⟨LA9 k hk, A9.lt k hk⟩, HA8.out.2.2.1, HA8.out.2.2.2.size, K9.size, HA8.out.2.2.2.trans (K9.mono HA8.out.2.2.2.size)⟩
    have d3 := cG W9 HA9.out.2.2.2.2.2.2.2
    clear d2 A9 LA9 K9 HA8
    go_wp2_with fail
    refine d3.mono ?_
    rintro e W10 ⟨c, cv, rfl, A10, LA10, K10⟩
    have HA10 : Aside (AcAt W10 a av (nwP xs ts) [] ∧ AcAt W10 b bv (nwP xs ts) [] ∧ AcAt W10 c cv (nwP xs ts) [] ∧ (∀ k, accS a av k → w.heap.size ≤ k ∧ k < W8.heap.size) ∧ (∀ k, accS b bv k → W8.heap.size ≤ k ∧ k < W9.heap.size) ∧ (∀ k, accS c cv k → W9.heap.size ≤ k ∧ k < W10.heap.size) ∧ w.heap.size ≤ W8.heap.size ∧ W8.heap.size ≤ W9.heap.size ∧ W9.heap.size ≤ W10.heap.size ∧ Below w.heap.size w W10) := by
      obtain ⟨h1, h2, h3, h4, h5, h6, h7, h8⟩ := HA9.out
      exact ⟨h1.on K10, h2.on K10, A10, fun k hk => ⟨h5 k hk, h3 k hk⟩, h4, fun k hk => ⟨LA10 k hk, A10.lt k hk⟩, h6, h7, K10.size, h8.trans (K10.mono h8.size)⟩
    have d4 := cG W10 HA10.out.2.2.2.2.2.2.2.2.2
    clear d3 A10 LA10 K10 HA9 cG
    go_wp2_with fail
    refine d4.mono ?_
    rintro e W11 ⟨d, dv, rfl, A11, LA11, K11⟩
    have HAC : Aside (Accs 4 w W11 (nwP xs ts) (fun i => match i with | 0 => a | 1 => b | 2 => c | _ => d) (fun i => match i with | 0 => av | 1 => bv | 2 => cv | _ => dv) (fun _ => [])) := by
      obtain ⟨h1, h2, h3, h4, h5, h6, h7, h8, h9, h10⟩ := HA10.out
      have h11 : ∀ k, accS d dv k → W10.heap.size ≤ k := LA11
      refine ⟨h10.trans (K11.mono h10.size), fun j hj => ?_, fun i j hi hj hij k hk hk2 => ?_, fun j hj k hk => ?_⟩
      · match j, hj with
        | 0, _ => exact h1.on K11
        | 1, _ => exact h2.on K11
        | 2, _ => exact h3.on K11
        | 3, _ => exact A11
      · match i, hi, j, hj with
        | 0, _, 0, _ => exact hij rfl
        | 0, _, 1, _ => have := h4 k hk; have := h5 k hk2; omega
        | 0, _, 2, _ => have := h4 k hk; have := h6 k hk2; omega
        | 0, _, 3, _ => have := h4 k hk; have := h11 k hk2; omega
        | 1, _, 0, _ => have := h5 k hk; have := h4 k hk2; omega
        | 1, _, 1, _ => exact hij rfl
        | 1, _, 2, _ => have := h5 k hk; have := h6 k hk2; omega
        | 1, _, 3, _ => have := h5 k hk; have := h11 k hk2; omega
        | 2, _, 0, _ => have := h6 k hk; have := h4 k hk2; omega
        | 2, _, 1, _ => have := h6 k hk; have := h5 k hk2; omega
        | 2, _, 2, _ => exact hij rfl
        | 2, _, 3, _ => have := h6 k hk; have := h11 k hk2; omega
        | 3, _, 0, _ => have := h11 k hk; have := h4 k hk2; omega
        | 3, _, 1, _ => have := h11 k hk; have := h5 k hk2; omega
        | 3, _, 2, _ => have := h11 k hk; have := h6 k hk2; omega
        | 3, _, 3, _ => exact hij rfl
      · match j, hj with
        | 0, _ => exact (h4 k hk).1
        | 1, _ => have := h5 k hk; omega
        | 2, _ => have := h6 k hk; omega
        | 3, _ => have := h11 k hk; omega
    clear d4 A11 LA11 K11 HA10
    obtain ⟨A, V, rfl, rfl, rfl, rfl, HAD⟩ : ∃ (A : Nat → Nat) (V : Nat → Value), A 0 = a ∧ A 1 = b ∧ A 2 = c ∧ A 3 = d ∧ Aside (Accs 4 w W11 (nwP xs ts) A V (fun _ => [])) := ⟨_, _, rfl, rfl, rfl, rfl, HAC⟩
    clear hN HAC
    generalize nwP xs ts = ps0 at *
    by_cases h60 : (60 : Int) < (RN : Int)
    · have h60n : 60 < RN := by omega
      go_wp2
      go_loopg [28] 60 (fun gg s28 wr => ∃ kk : Nat, kk ≤ 60 ∧ 60 - kk ≤ gg ∧ s28 = .int .i64 kk ∧ Aside (∃ R, Accs 4 w wr ps0 A V R ∧ AnyR ps0 (rws.take 60) cut.toNat kk R))
      case atStart => exact ⟨0, Nat.zero_le _, by omega, rfl, (show Aside _ from ⟨_, HAD.out, AnyR.zero _ _ _⟩)⟩
      case round =>
        obtain ⟨kk, hkk, hg, rfl, SR⟩ := hrel
        clear HAD
        obtain ⟨R, hR, hY⟩ := SR.out
        have HR : Aside (Accs 4 w wr ps0 A V R) := hR
        have HY : Aside (AnyR ps0 (rws.take 60) cut.toNat kk R) := hY
        obtain ⟨l0, l1, l2, l3⟩ := hY.len (by rw [List.length_take]; omega)
        have HL : Aside ((R 0).length ≤ 60 ∧ (R 1).length ≤ 60 ∧ (R 2).length ≤ 60 ∧ (R 3).length ≤ 60) := ⟨l0, l1, l2, l3⟩
        clear SR hR hY l0 l1 l2 l3
        by_cases hlt : kk < 60
        · have hltz : (kk : Int) < (60 : Int) := by omega
          have h0z : (0 : Int) ≤ (kk : Int) := by omega
          have hkr : kk < rws.length := by rw [HRN.out]; omega
          obtain ⟨rb, ro, rfl⟩ := rows_at HE.out.rows (by omega)
          obtain ⟨j, hj⟩ : ∃ j, 60 - 1 - kk = j := ⟨_, rfl⟩
          have hjr : j < rws.length := by rw [HRN.out]; omega
          have hRN60 : (kk : Int) < (RN : Int) := by omega
          have hw1 : IntKind.i64.wrap ((60 : Int) - 1) = (60 : Int) - 1 := by rw [IntKind.wrap_i64]; omega
          have hw2 : IntKind.i64.wrap ((60 : Int) - 1 - (kk : Int)) = (j : Int) := by rw [IntKind.wrap_i64]; omega
          have hw3 : (59 : Int) - (kk : Int) = (j : Int) := by omega
          have hw4 : IntKind.i64.wrap ((59 : Int) - (kk : Int)) = (j : Int) := by rw [IntKind.wrap_i64]; omega
          have hj0 : (0 : Int) ≤ (j : Int) := by omega
          have hj1 : (j : Int) < (RN : Int) := by omega
          have HMO : Aside _ := any_more HY.out (by rw [HRN.out]; omega) hlt hj hkr hjr
          have HJ : Hid (60 - 1 - kk = j) := hj
          obtain ⟨q1, M1, c1, w1, e1⟩ := accs_row HR.out HE.out.rows HE.out.sz kk hkr 0 (by decide) (by have := HL.out; omega)
          clear hj HY
          go_wp2_with fail
          refine e1.mono ?_
          rintro e wA ⟨⟨x1, rfl⟩, AA⟩
          obtain ⟨q2, M2, c2, w2, e2⟩ := accs_row AA.out HE.out.rows HE.out.sz j hjr 1 (by decide) (by show (R 1).length + 1 ≤ 10000; have := HL.out; omega)
          clear e1 w1 HR
          go_wp2_with fail
          refine e2.mono ?_
          rintro e wB ⟨⟨x2, rfl⟩, AB⟩
          clear e2 w2 AA
          by_cases hcut : (kk : Int) < cut
          · obtain ⟨q3, M3, c3, w3, e3⟩ := accs_row AB.out HE.out.rows HE.out.sz kk hkr 2 (by decide) (by show (R 2).length + 1 ≤ 10000; have := HL.out; omega)
            go_wp2_with fail
            refine e3.mono ?_
            rintro e wC ⟨⟨x3, rfl⟩, AC⟩
            have SN : Aside (∃ R, Accs 4 w wC ps0 A V R ∧ AnyR ps0 (rws.take 60) cut.toNat (kk + 1) R) := ⟨_, AC.out, HMO.out.1 (by omega)⟩
            clear e3 w3 AB AC HMO
            go_wp2
            go_roundg (60 - (kk + 1))
            case measure => omega
            case rel => exact ⟨kk + 1, by omega, by omega, by go_num, SN⟩
          · obtain ⟨q3, M3, c3, w3, e3⟩ := accs_row AB.out HE.out.rows HE.out.sz kk hkr 3 (by decide) (by show (R 3).length + 1 ≤ 10000; have := HL.out; omega)
            go_wp2_with fail
            refine e3.mono ?_
            rintro e wC ⟨⟨x3, rfl⟩, AC⟩
            have SN : Aside (∃ R, Accs 4 w wC ps0 A V R ∧ AnyR ps0 (rws.take 60) cut.toNat (kk + 1) R) := ⟨_, AC.out, HMO.out.2 (by omega)⟩
            clear e3 w3 AB AC HMO
            go_wp2
            go_roundg (60 - (kk + 1))
            case measure => omega
            case rel => exact ⟨kk + 1, by omega, by omega, by go_num, SN⟩
        · have hltz : ¬ (kk : Int) < (60 : Int) := by omega
          have hkn : kk = (rws.take 60).length := by rw [List.length_take, HRN.out]; omega
          obtain ⟨p1, p2, p3⟩ := HY.out.end hkn
          have k0 := count_c (A 0) (V 0) ps0 (R 0) wr (HR.out.at_ 0 (by decide))
          have k2 := count_c (A 2) (V 2) ps0 (R 2) wr (HR.out.at_ 2 (by decide))
          have k3 := count_c (A 3) (V 3) ps0 (R 3) wr (HR.out.at_ 3 (by decide))
          have kJ := accs_join HR.out 3 2 (by decide) (by decide) (by decide) (by have := HL.out; omega)
          have hL := HL.out
          have hq1 : (((R 0).length : Int) != ((R 2).length : Int) + ((R 3).length : Int)) = false := by simp; omega
          have hq2 : (((R 0).length : Int) != ((R 1).length : Int)) = false := by simp only [bne_eq_false_iff_eq]; rw [p1.length_eq]
          have hq3 : (((R 3 ++ R 2).length : Int) != ((R 0).length : Int)) = false := by simp only [bne_eq_false_iff_eq]; rw [p2.length_eq]
          have hb2 : ((R 2).length : Int) ≤ 60 := by omega
          have hb3 : ((R 3).length : Int) ≤ 60 := by omega
          have hb20 : (0 : Int) ≤ ((R 2).length : Int) := by omega
          have hb30 : (0 : Int) ≤ ((R 3).length : Int) := by omega
          have HP1 : Aside ((R 1).Perm (R 0)) := p1
          have HP2 : Aside ((R 3 ++ R 2).Perm (R 0)) := p2
          clear hkn HY HL p1 p2 p3 hL HR hlt hkk hg
          go_wp2_with fail
          refine k0.mono ?_
          rintro e wx ⟨rfl, rfl⟩
          go_wp2_with fail
          refine k2.mono ?_
          rintro e wy ⟨rfl, rfl⟩
          go_wp2_with fail
          refine k3.mono ?_
          rintro e wz ⟨rfl, rfl⟩
          clear k0 k2 k3
          go_wp2_with fail
          refine kJ.mono ?_
          rintro e wJ ⟨rfl, AJ⟩
          have j0 := count_c (A 0) (V 0) ps0 (R 0) wJ (AJ.out.at_ 0 (by decide))
          have j1 := count_c (A 1) (V 1) ps0 (R 1) wJ (AJ.out.at_ 1 (by decide))
          have j3 := count_c (A 3) (V 3) ps0 (R 3 ++ R 2) wJ (AJ.out.at_ 3 (by decide))
          obtain ⟨qs, hA0, hU⟩ := AJ.out.at_ 0 (by decide)
          have HU : Aside (Acu ps0 (R 0) qs) := hU
          have r0 := result_p (A 0) (V 0) ps0 (R 0) (R 0) qs wJ (AJ.out.at_ 0 (by decide)) hU (List.Perm.refl _) _ rfl _ rfl
          have r1 := fun (W : World) (hW : Below wJ.heap.size wJ W) => result_p (A 1) (V 1) ps0 (R 1) (R 0) qs W ((AJ.out.at_ 1 (by decide)).on hW) hU HP1.out _ rfl _ rfl
          have r3 := fun (W : World) (hW : Below wJ.heap.size wJ W) => result_p (A 3) (V 3) ps0 (R 3 ++ R 2) (R 0) qs W ((AJ.out.at_ 3 (by decide)).on hW) hU HP2.out _ rfl _ rfl
          have hLL : (reV qs ((R 0).length : Int)).length ≤ 1000000 := by
            have := hU.ok.len
            simp [reV]
            omega
          have BJ : Aside (Below w.heap.size w wJ) := AJ.out.below
          clear kJ AJ hA0 hU HU HP1 HP2
          generalize reV qs ((R 0).length : Int) = L at *
          generalize reE qs ((R 0).length : Int) = E at *
          generalize (R 3 ++ R 2).length = N32 at *
          generalize (R 0).length = N0 at *
          generalize (R 1).length = N1 at *
          go_wp2_with fail
          refine j0.mono ?_
          rintro e wx ⟨rfl, rfl⟩
          go_wp2_with fail
          refine j1.mono ?_
          rintro e wy ⟨rfl, rfl⟩
          go_wp2_with fail
          refine j3.mono ?_
          rintro e wz ⟨rfl, rfl⟩
          go_wp2_with fail
          refine j0.mono ?_
          rintro e wx ⟨rfl, rfl⟩
          clear j0 j1 j3
          by_cases hE0 : E = 0
          · have t0 := r0.1 hE0
            have t1 := fun W hW => (r1 W hW).1 hE0
            have t3 := fun W hW => (r3 W hW).1 hE0
            clear r0 r1 r3 hE0
            go_wp2_with fail
            refine t0.mono ?_
            rintro e X1 ⟨⟨u1, d1, rfl, V1⟩, K1⟩
            have t1' := t1 X1 K1.out
            clear t0 t1
            go_wp2_with fail
            refine t1'.mono ?_
            rintro e X2 ⟨⟨u2, d2, rfl, V2⟩, K2⟩
            have K12 : Aside (Below wx.heap.size wx X2) := K1.out.trans (K2.out.mono K1.out.size)
            have t3' := t3 X2 K12.out
            clear t1' t3
            go_wp2_with fail
            refine t3'.mono ?_
            rintro e X3 ⟨⟨u3, d3, rfl, V3'⟩, K3⟩
            have K13 : Aside (Below wx.heap.size wx X3) := K12.out.trans (K3.out.mono K12.out.size)
            have v1 : ValsAt X3 u1 L := (V1.out.on K2.out).on K3.out
            have v2 : ValsAt X3 u2 L := V2.out.on K3.out
            have g1 := valsEq_c u1 u2 d1 d2 L X3 hLL v1 v2
            have G2 : Aside (∀ W, Below X3.heap.size X3 W → Calls Tryd.prog 13 #[.slice u1 L.length d1, .slice u3 L.length d3] W fun e w' => e = .returned (.bool true) ∧ Aside (Below W.heap.size W w')) := fun W hW => valsEq_c u1 u3 d1 d3 L W hLL (v1.on hW) (V3'.out.on hW)
            have BX : Aside (Below w.heap.size w X3) := BJ.out.trans (K13.out.mono BJ.out.size)
            clear t3' V1 V2 V3' K1 K2 K3 K12 K13 v1 v2 BJ
            go_wp2_with fail
            refine g1.mono ?_
            rintro e X4 ⟨rfl, K4⟩
            have g2 := G2.out X4 K4.out
            clear g1 G2
            go_wp2_with fail
            refine g2.mono ?_
            rintro e X5 ⟨rfl, K5⟩
            have BY : Aside (Below w.heap.size w X5) := BX.out.trans ((K4.out.trans (K5.out.mono K4.out.size)).mono BX.out.size)
            clear g2 K4 K5 BX
            go_wp2
            go_quiet (fail)
            go_wp2
            go_ret
            exact ⟨rfl, (show Aside _ from below_drewN BY.out _)⟩
          · have t0 := r0.2 hE0
            have t1 := fun W hW => (r1 W hW).2 hE0
            have t3 := fun W hW => (r3 W hW).2 hE0
            clear r0 r1 r3 hE0
            go_wp2_with fail
            refine t0.mono ?_
            rintro e X1 ⟨rfl, K1⟩
            have t1' := t1 X1 K1.out
            clear t0 t1
            go_wp2_with fail
            refine t1'.mono ?_
            rintro e X2 ⟨rfl, K2⟩
            have K12 : Aside (Below wx.heap.size wx X2) := K1.out.trans (K2.out.mono K1.out.size)
            have t3' := t3 X2 K12.out
            clear t1' t3
            go_wp2_with fail
            refine t3'.mono ?_
            rintro e X3 ⟨rfl, K3⟩
            have K13 : Aside (Below wx.heap.size wx X3) := K12.out.trans (K3.out.mono K12.out.size)
            have G2 : ∀ W, Calls Tryd.prog 13 #[.slice none 0 0, .slice none 0 0] W fun e w' => e = .returned (.bool true) ∧ Aside (Below W.heap.size W w') := fun W => valsEq_c none none 0 0 [] W (Nat.zero_le _) (.inl rfl) (.inl rfl)
            have BX : Aside (Below w.heap.size w X3) := BJ.out.trans (K13.out.mono BJ.out.size)
            have g1 := G2 X3
            clear t3' K1 K2 K3 K12 K13 BJ
            go_wp2_with fail
            refine g1.mono ?_
            rintro e X4 ⟨rfl, K4⟩
            have g2 := G2 X4
            clear g1 G2
            go_wp2_with fail
            refine g2.mono ?_
            rintro e X5 ⟨rfl, K5⟩
            have BY : Aside (Below w.heap.size w X5) := BX.out.trans ((K4.out.trans (K5.out.mono K4.out.size)).mono BX.out.size)
            clear g2 K4 K5 BX
            go_wp2
            go_quiet (fail)
            go_wp2
            go_ret
            exact ⟨rfl, (show Aside _ from below_drewN BY.out _)⟩
    · have h60n : RN ≤ 60 := by omega
      go_wp2
      go_loopg [28] RN (fun gg s28 wr => ∃ kk : Nat, kk ≤ RN ∧ RN - kk ≤ gg ∧ s28 = .int .i64 kk ∧ Aside (∃ R, Accs 4 w wr ps0 A V R ∧ AnyR ps0 (rws.take RN) cut.toNat kk R))
      case atStart => exact ⟨0, Nat.zero_le _, by omega, rfl, (show Aside _ from ⟨_, HAD.out, AnyR.zero _ _ _⟩)⟩
      case round =>
        obtain ⟨kk, hkk, hg, rfl, SR⟩ := hrel
        clear HAD
        obtain ⟨R, hR, hY⟩ := SR.out
        have HR : Aside (Accs 4 w wr ps0 A V R) := hR
        have HY : Aside (AnyR ps0 (rws.take RN) cut.toNat kk R) := hY
        obtain ⟨l0, l1, l2, l3⟩ := hY.len (by rw [List.length_take]; omega)
        have HL : Aside ((R 0).length ≤ 60 ∧ (R 1).length ≤ 60 ∧ (R 2).length ≤ 60 ∧ (R 3).length ≤ 60) := ⟨l0, l1, l2, l3⟩
        clear SR hR hY l0 l1 l2 l3
        by_cases hlt : kk < RN
        · have hltz : (kk : Int) < (RN : Int) := by omega
          have h0z : (0 : Int) ≤ (kk : Int) := by omega
          have hkr : kk < rws.length := by rw [HRN.out]; omega
          obtain ⟨rb, ro, rfl⟩ := rows_at HE.out.rows (by omega)
          obtain ⟨j, hj⟩ : ∃ j, RN - 1 - kk = j := ⟨_, rfl⟩
          have hjr : j < rws.length := by rw [HRN.out]; omega
          have hRN60 : (kk : Int) < (RN : Int) := by omega
          have hw1 : IntKind.i64.wrap ((RN : Int) - 1) = (RN : Int) - 1 := by rw [IntKind.wrap_i64]; omega
          have hw2 : IntKind.i64.wrap ((RN : Int) - 1 - (kk : Int)) = (j : Int) := by rw [IntKind.wrap_i64]; omega
          have hw3 : (RN : Int) - 1 - (kk : Int) = (j : Int) := by omega
          have hw4 : IntKind.i64.wrap ((RN : Int) - 1 - (kk : Int)) = (j : Int) := by rw [IntKind.wrap_i64]; omega
          have hj0 : (0 : Int) ≤ (j : Int) := by omega
          have hj1 : (j : Int) < (RN : Int) := by omega
          have HMO : Aside _ := any_more HY.out (by rw [HRN.out]; omega) hlt hj hkr hjr
          have HJ : Hid (RN - 1 - kk = j) := hj
          obtain ⟨q1, M1, c1, w1, e1⟩ := accs_row HR.out HE.out.rows HE.out.sz kk hkr 0 (by decide) (by have := HL.out; omega)
          clear hj HY
          go_wp2_with fail
          refine e1.mono ?_
          rintro e wA ⟨⟨x1, rfl⟩, AA⟩
          obtain ⟨q2, M2, c2, w2, e2⟩ := accs_row AA.out HE.out.rows HE.out.sz j hjr 1 (by decide) (by show (R 1).length + 1 ≤ 10000; have := HL.out; omega)
          clear e1 w1 HR
          go_wp2_with fail
          refine e2.mono ?_
          rintro e wB ⟨⟨x2, rfl⟩, AB⟩
          clear e2 w2 AA
          by_cases hcut : (kk : Int) < cut
          · obtain ⟨q3, M3, c3, w3, e3⟩ := accs_row AB.out HE.out.rows HE.out.sz kk hkr 2 (by decide) (by show (R 2).length + 1 ≤ 10000; have := HL.out; omega)
            go_wp2_with fail
            refine e3.mono ?_
            rintro e wC ⟨⟨x3, rfl⟩, AC⟩
            have SN : Aside (∃ R, Accs 4 w wC ps0 A V R ∧ AnyR ps0 (rws.take RN) cut.toNat (kk + 1) R) := ⟨_, AC.out, HMO.out.1 (by omega)⟩
            clear e3 w3 AB AC HMO
            go_wp2
            go_roundg (RN - (kk + 1))
            case measure => omega
            case rel => exact ⟨kk + 1, by omega, by omega, by go_num, SN⟩
          · obtain ⟨q3, M3, c3, w3, e3⟩ := accs_row AB.out HE.out.rows HE.out.sz kk hkr 3 (by decide) (by show (R 3).length + 1 ≤ 10000; have := HL.out; omega)
            go_wp2_with fail
            refine e3.mono ?_
            rintro e wC ⟨⟨x3, rfl⟩, AC⟩
            have SN : Aside (∃ R, Accs 4 w wC ps0 A V R ∧ AnyR ps0 (rws.take RN) cut.toNat (kk + 1) R) := ⟨_, AC.out, HMO.out.2 (by omega)⟩
            clear e3 w3 AB AC HMO
            go_wp2
            go_roundg (RN - (kk + 1))
            case measure => omega
            case rel => exact ⟨kk + 1, by omega, by omega, by go_num, SN⟩
        · have hltz : ¬ (kk : Int) < (RN : Int) := by omega
          have hkn : kk = (rws.take RN).length := by rw [List.length_take, HRN.out]; omega
          obtain ⟨p1, p2, p3⟩ := HY.out.end hkn
          have k0 := count_c (A 0) (V 0) ps0 (R 0) wr (HR.out.at_ 0 (by decide))
          have k2 := count_c (A 2) (V 2) ps0 (R 2) wr (HR.out.at_ 2 (by decide))
          have k3 := count_c (A 3) (V 3) ps0 (R 3) wr (HR.out.at_ 3 (by decide))
          have kJ := accs_join HR.out 3 2 (by decide) (by decide) (by decide) (by have := HL.out; omega)
          have hL := HL.out
          have hq1 : (((R 0).length : Int) != ((R 2).length : Int) + ((R 3).length : Int)) = false := by simp; omega
          have hq2 : (((R 0).length : Int) != ((R 1).length : Int)) = false := by simp only [bne_eq_false_iff_eq]; rw [p1.length_eq]
          have hq3 : (((R 3 ++ R 2).length : Int) != ((R 0).length : Int)) = false := by simp only [bne_eq_false_iff_eq]; rw [p2.length_eq]
          have hb2 : ((R 2).length : Int) ≤ 60 := by omega
          have hb3 : ((R 3).length : Int) ≤ 60 := by omega
          have hb20 : (0 : Int) ≤ ((R 2).length : Int) := by omega
          have hb30 : (0 : Int) ≤ ((R 3).length : Int) := by omega
          have HP1 : Aside ((R 1).Perm (R 0)) := p1
          have HP2 : Aside ((R 3 ++ R 2).Perm (R 0)) := p2
          clear hkn HY HL p1 p2 p3 hL HR hlt hkk hg
          go_wp2_with fail
          refine k0.mono ?_
          rintro e wx ⟨rfl, rfl⟩
          go_wp2_with fail
          refine k2.mono ?_
          rintro e wy ⟨rfl, rfl⟩
          go_wp2_with fail
          refine k3.mono ?_
          rintro e wz ⟨rfl, rfl⟩
          clear k0 k2 k3
          go_wp2_with fail
          refine kJ.mono ?_
          rintro e wJ ⟨rfl, AJ⟩
          have j0 := count_c (A 0) (V 0) ps0 (R 0) wJ (AJ.out.at_ 0 (by decide))
          have j1 := count_c (A 1) (V 1) ps0 (R 1) wJ (AJ.out.at_ 1 (by decide))
          have j3 := count_c (A 3) (V 3) ps0 (R 3 ++ R 2) wJ (AJ.out.at_ 3 (by decide))
          obtain ⟨qs, hA0, hU⟩ := AJ.out.at_ 0 (by decide)
          have HU : Aside (Acu ps0 (R 0) qs) := hU
          have r0 := result_p (A 0) (V 0) ps0 (R 0) (R 0) qs wJ (AJ.out.at_ 0 (by decide)) hU (List.Perm.refl _) _ rfl _ rfl
          have r1 := fun (W : World) (hW : Below wJ.heap.size wJ W) => result_p (A 1) (V 1) ps0 (R 1) (R 0) qs W ((AJ.out.at_ 1 (by decide)).on hW) hU HP1.out _ rfl _ rfl
          have r3 := fun (W : World) (hW : Below wJ.heap.size wJ W) => result_p (A 3) (V 3) ps0 (R 3 ++ R 2) (R 0) qs W ((AJ.out.at_ 3 (by decide)).on hW) hU HP2.out _ rfl _ rfl
          have hLL : (reV qs ((R 0).length : Int)).length ≤ 1000000 := by
            have := hU.ok.len
            simp [reV]
            omega
          have BJ : Aside (Below w.heap.size w wJ) := AJ.out.below
          clear kJ AJ hA0 hU HU HP1 HP2
          generalize reV qs ((R 0).length : Int) = L at *
          generalize reE qs ((R 0).length : Int) = E at *
          generalize (R 3 ++ R 2).length = N32 at *
          generalize (R 0).length = N0 at *
          generalize (R 1).length = N1 at *
          go_wp2_with fail
          refine j0.mono ?_
          rintro e wx ⟨rfl, rfl⟩
          go_wp2_with fail
          refine j1.mono ?_
          rintro e wy ⟨rfl, rfl⟩
          go_wp2_with fail
          refine j3.mono ?_
          rintro e wz ⟨rfl, rfl⟩
          go_wp2_with fail
          refine j0.mono ?_
          rintro e wx ⟨rfl, rfl⟩
          clear j0 j1 j3
          by_cases hE0 : E = 0
          · have t0 := r0.1 hE0
            have t1 := fun W hW => (r1 W hW).1 hE0
            have t3 := fun W hW => (r3 W hW).1 hE0
            clear r0 r1 r3 hE0
            go_wp2_with fail
            refine t0.mono ?_
            rintro e X1 ⟨⟨u1, d1, rfl, V1⟩, K1⟩
            have t1' := t1 X1 K1.out
            clear t0 t1
            go_wp2_with fail
            refine t1'.mono ?_
            rintro e X2 ⟨⟨u2, d2, rfl, V2⟩, K2⟩
            have K12 : Aside (Below wx.heap.size wx X2) := K1.out.trans (K2.out.mono K1.out.size)
            have t3' := t3 X2 K12.out
            clear t1' t3
            go_wp2_with fail
            refine t3'.mono ?_
            rintro e X3 ⟨⟨u3, d3, rfl, V3'⟩, K3⟩
            have K13 : Aside (Below wx.heap.size wx X3) := K12.out.trans (K3.out.mono K12.out.size)
            have v1 : ValsAt X3 u1 L := (V1.out.on K2.out).on K3.out
            have v2 : ValsAt X3 u2 L := V2.out.on K3.out
            have g1 := valsEq_c u1 u2 d1 d2 L X3 hLL v1 v2
            have G2 : Aside (∀ W, Below X3.heap.size X3 W → Calls Tryd.prog 13 #[.slice u1 L.length d1, .slice u3 L.length d3] W fun e w' => e = .returned (.bool true) ∧ Aside (Below W.heap.size W w')) := fun W hW => valsEq_c u1 u3 d1 d3 L W hLL (v1.on hW) (V3'.out.on hW)
            have BX : Aside (Below w.heap.size w X3) := BJ.out.trans (K13.out.mono BJ.out.size)
            clear t3' V1 V2 V3' K1 K2 K3 K12 K13 v1 v2 BJ
            go_wp2_with fail
            refine g1.mono ?_
            rintro e X4 ⟨rfl, K4⟩
            have g2 := G2.out X4 K4.out
            clear g1 G2
            go_wp2_with fail
            refine g2.mono ?_
            rintro e X5 ⟨rfl, K5⟩
            have BY : Aside (Below w.heap.size w X5) := BX.out.trans ((K4.out.trans (K5.out.mono K4.out.size)).mono BX.out.size)
            clear g2 K4 K5 BX
            go_wp2
            go_quiet (fail)
            go_wp2
            go_ret
            exact ⟨rfl, (show Aside _ from below_drewN BY.out _)⟩
          · have t0 := r0.2 hE0
            have t1 := fun W hW => (r1 W hW).2 hE0
            have t3 := fun W hW => (r3 W hW).2 hE0
            clear r0 r1 r3 hE0
            go_wp2_with fail
            refine t0.mono ?_
            rintro e X1 ⟨rfl, K1⟩
            have t1' := t1 X1 K1.out
            clear t0 t1
            go_wp2_with fail
            refine t1'.mono ?_
            rintro e X2 ⟨rfl, K2⟩
            have K12 : Aside (Below wx.heap.size wx X2) := K1.out.trans (K2.out.mono K1.out.size)
            have t3' := t3 X2 K12.out
            clear t1' t3
            go_wp2_with fail
            refine t3'.mono ?_
            rintro e X3 ⟨rfl, K3⟩
            have K13 : Aside (Below wx.heap.size wx X3) := K12.out.trans (K3.out.mono K12.out.size)
            have G2 : ∀ W, Calls Tryd.prog 13 #[.slice none 0 0, .slice none 0 0] W fun e w' => e = .returned (.bool true) ∧ Aside (Below W.heap.size W w') := fun W => valsEq_c none none 0 0 [] W (Nat.zero_le _) (.inl rfl) (.inl rfl)
            have BX : Aside (Below w.heap.size w X3) := BJ.out.trans (K13.out.mono BJ.out.size)
            have g1 := G2 X3
            clear t3' K1 K2 K3 K12 K13 BJ
            go_wp2_with fail
            refine g1.mono ?_
            rintro e X4 ⟨rfl, K4⟩
            have g2 := G2 X4
            clear g1 G2
            go_wp2_with fail
            refine g2.mono ?_
            rintro e X5 ⟨rfl, K5⟩
            have BY : Aside (Below w.heap.size w X5) := BX.out.trans ((K4.out.trans (K5.out.mono K4.out.size)).mono BX.out.size)
            clear g2 K4 K5 BX
            go_wp2
            go_quiet (fail)
            go_wp2
            go_ret
            exact ⟨rfl, (show Aside _ from below_drewN BY.out _)⟩
  · have hbad := fun (W : World) (hW : Below w.heap.size w W) => (new_bad ap ac xs tp tc ts W (HE.out.on hW).env (HE.out.on hW).ags (HE.out.on hW).tys HE.out.xl HE.out.tl _ rfl hN).mono (fun e w' hh => (⟨hh.1, hW.trans (hh.2.out.mono hW.size)⟩ : e = _ ∧ Below w.heap.size w w'))
    rw [HXN.out, HTN.out] at hbad
    clear hN
    generalize nwE xs ts = E at hbad
    have d1 := hbad W7 B7.out
    go_wp2_with fail
    refine d1.mono ?_
    rintro e W8 ⟨rfl, B8⟩
    have d2 := hbad W8 B8
    clear d1 B8
    go_wp2_with fail
    refine d2.mono ?_
    rintro e W9 ⟨rfl, B9⟩
    have d3 := hbad W9 B9
    clear d2 B9
    go_wp2_with fail
    refine d3.mono ?_
    rintro e W10 ⟨rfl, B10⟩
    have d4 := hbad W10 B10
    clear d3 B10 hbad
    go_wp2_with fail
    refine d4.mono ?_
    rintro e W11 ⟨rfl, B11⟩
    have HB : Aside (Below w.heap.size w W11) := B11
    clear d4 B11
    go_wp2
    go_ret
    exact ⟨rfl, HB⟩
end Go.Proofs.YtfonalmgdjboeaaDoor
