/-
  VmTells at any instructions, columns, row and fuel.
-/
import Derived.Test.YtfhlhdddhgkinaaGreatDoorQVtL
namespace Go.Proofs.YtfhlhdddhgkinaaGreatDoor
open Go.RowKit
set_option linter.unusedVariables false

theorem vt_mk (is : List I5) (p : Option Addr) (N c : Nat) (vz rv : Value) (zs : List (ByteArray × Int)) (rs : List V3) (fuel : Int) (w : World) (hr : REnv w) (htw : TW w) (hg : w.cell? ⟨1, 0, none⟩ = some (.iface 183 (.agg #[.pointer (some ⟨5, 40, none⟩)]))) (hgl : 1 < w.heap.size) (hi : InsAt w p is) (hN : is.length = N) (hNm : N ≤ maxLen) (hz : ∀ i ∈ is, i.2.2.2.2.size ≤ maxLen ∧ inB i.2.2.2.1) (hc : ColsV w vz zs) (hrv : ValsV w rv rs) (hsz : SizedV rs)
    (R1 R2 : Rn) (hR1 : runP rs (-1) is 0 0 [] [] = R1) (hR2 : runP rs fuel is 0 0 [] [] = R2) (V1 V2 V : V3) (hV1 : (if R1.2.2.2 = 0 then R1.2.1.headD noV else noV) = V1) (hV2 : (if R2.2.2.2 = 0 then R2.2.1.headD noV else noV) = V2) (M : Nat) (E F : Int) (D : List Nat) (hR : vmR is zs rs fuel = (V, M, E)) (hT : vmT is zs rs = (D, F)) (hD : D.length ≤ 1200) :
    VtC w p N c vz rv fuel (verP is zs).2.2 (rowChk zs rs) R1.2.2.2 R2.2.2.2 R1.2.2.1 R2.2.2.1 V1 V2 V M (errV E) (errV F) E F D := by
  have hgW : ∀ W, Below w.heap.size w W → W.cell? ⟨1, 0, none⟩ = some (.iface 183 (.agg #[.pointer (some ⟨5, 40, none⟩)])) := fun W b => by rw [b.cell (p := ⟨1, 0, none⟩) hgl]; exact hg
  have hrun : ∀ (fl : Int) (R : Rn) (hRR : runP rs fl is 0 0 [] [] = R) (VV : V3) (hVV : (if R.2.2.2 = 0 then R.2.1.headD noV else noV) = VV), (verP is zs).2.2 = 0 → rowChk zs rs = 0 → ∀ W, Below w.heap.size w W → Calls Tryz.prog 19 #[.slice p N c, rv, .int .i64 fl] W fun e w' => (∃ qd cd, e = .returned (.tuple #[.agg #[.int .i64 VV.1, .int .i64 VV.2.1, .string VV.2.2], .slice qd R.2.2.1.length cd, .int .i64 R.2.2.2]) ∧ Aside (IntsAt w' qd (natZ R.2.2.1))) ∧ Below W.heap.size W w' := by
    intro fl R hRR VV hVV h1 h2 W hb
    obtain ⟨hrow, hsch⟩ := rowR_of h2 hsz
    obtain ⟨l, t, hsnd, -, -⟩ := snd_of h1
    have hz0 : rs.length ≠ 0 := by rw [hrow.1]; exact (schE_zero hsch).1
    obtain ⟨q, cq, rfl, hqm, hq⟩ := hrv.on hb
    obtain ⟨rb, ro, rfl, hrb, hcell⟩ := row_cells hq hz0
    exact refRun_any is p N c (some ⟨rb, ro, none⟩) rs.length cq rs zs l t fl W (hi.on hb) hN ⟨rb, ro, rfl, hrb, hcell⟩ rfl hrow (fun i hi => (hz i hi).2) hsnd R hRR VV hVV
  refine ⟨⟨_, _, _, refVer_any is p N c vz zs w hi hN hNm (fun i hi => (hz i hi).1) hc _ _ _ _ rfl rfl rfl⟩, fun W hb => refRowV vz rv zs rs W (hc.on hb) (hrv.on hb) hsz, fun h1 h2 => hrun (-1) R1 hR1 V1 hV1 h1 h2, fun h1 h2 => hrun fuel R2 hR2 V2 hV2 h1 h2, fun W hb => vmRun_any is p N c vz rv zs rs fuel W (hr.on hb) (htw.on hb) (hi.on hb) hN hNm hz (hc.on hb) (hrv.on hb) hsz V M E hR, fun W hb => vmTrace_any is p N c vz rv zs rs W (hr.on hb) (htw.on hb) (hi.on hb) hN hNm hz (hc.on hb) (hrv.on hb) hsz D F hT, fun W hb => same_any E E W (hgW W hb) rfl, fun W hb => same_any F F W (hgW W hb) rfl, fun W p q ca cb ha hb => ints_same p q ca cb D.length (natZ D) W (by unfold natZ; rw [List.length_map]) hD ha hb⟩
theorem tells_vm (is : List I5) (p : Option Addr) (N c : Nat) (vz rv : Value) (zs : List (ByteArray × Int)) (rs : List V3) (fuel : Int) (w : World) (hr : REnv w) (htw : TW w) (hg : w.cell? ⟨1, 0, none⟩ = some (.iface 183 (.agg #[.pointer (some ⟨5, 40, none⟩)]))) (hgl : 1 < w.heap.size) (hi : InsAt w p is) (hN : is.length = N) (hNm : N ≤ maxLen) (hz : ∀ i ∈ is, i.2.2.2.2.size ≤ maxLen ∧ inB i.2.2.2.1) (hc : ColsV w vz zs) (hrv : ValsV w rv rs) (hsz : SizedV rs) :
    Calls Tryz.prog 5 #[.slice p N c, vz, rv, .int .i64 fuel] w fun e w' => e = .returned (.bool true) ∧ Below w.heap.size w w' := by
  obtain ⟨R1, hR1⟩ : ∃ R, runP rs (-1) is 0 0 [] [] = R := ⟨_, rfl⟩
  obtain ⟨R2, hR2⟩ : ∃ R, runP rs fuel is 0 0 [] [] = R := ⟨_, rfl⟩
  have mk := fun V M E D F => vt_mk is p N c vz rv zs rs fuel w hr htw hg hgl hi hN hNm hz hc hrv hsz R1 R2 hR1 hR2 _ _ V rfl rfl M E F D
  obtain ⟨pz, cz, rfl, -⟩ := id hc
  obtain ⟨q, cq, rfl, -, -⟩ := id hrv
  unfold vmR vmT vmE at mk
  rw [hR1, hR2] at mk
  by_cases h1 : (verP is zs).2.2 = 0
  · rw [if_neg (show ¬ (verP is zs).2.2 ≠ 0 by simp [h1])] at mk
    have hle := (snd_of h1).elim fun l h => h.elim fun t h => h.1.most
    have hD1 : R1.2.2.1.length ≤ 1200 := by
      obtain ⟨m, m1, m2, -, -⟩ := run_done rs (-1) is 0 0 [] []
      rw [hR1, List.nil_append] at m1
      rw [m1]
      omega
    generalize (verP is zs).2.2 = E1 at mk h1
    subst h1
    by_cases h2 : rowChk zs rs = 0
    · rw [if_neg (show ¬ rowChk zs rs ≠ 0 by simp [h2]), if_neg (show ¬ rowChk zs rs ≠ 0 by simp [h2])] at mk
      generalize rowChk zs rs = Er at mk h2
      subst h2
      clear hR1 hR2
      obtain ⟨r1, r2, D1, F1⟩ := R1
      obtain ⟨s1, s2, D2, G⟩ := R2
      simp only at mk hD1
      by_cases hf0 : fuel < 0
      · rw [if_pos (Or.inl hf0)] at mk
        by_cases hF : F1 = 0
        · subst hF
          rw [if_neg (show ¬ (0 : Int) ≠ 0 by simp)] at mk
          exact vt_lo0 w p N c pz _ cz q _ cq fuel 0 0 0 G D1 D2 _ _ _ _ hf0 (mk _ _ _ _ _ rfl rfl hD1)
        · rw [if_pos hF] at mk
          exact vt_lo1 w p N c pz _ cz q _ cq fuel 0 0 F1 G D1 D2 _ _ _ _ hF hf0 (mk _ _ _ _ _ rfl rfl (by simp))
      · by_cases hf1 : 1000000 < fuel
        · rw [if_pos (Or.inr hf1)] at mk
          by_cases hF : F1 = 0
          · subst hF
            rw [if_neg (show ¬ (0 : Int) ≠ 0 by simp)] at mk
            exact vt_hi0 w p N c pz _ cz q _ cq fuel 0 0 0 G D1 D2 _ _ _ _ hf0 hf1 (mk _ _ _ _ _ rfl rfl hD1)
          · rw [if_pos hF] at mk
            exact vt_hi1 w p N c pz _ cz q _ cq fuel 0 0 F1 G D1 D2 _ _ _ _ hF hf0 hf1 (mk _ _ _ _ _ rfl rfl (by simp))
        · rw [if_neg (by omega)] at mk
          by_cases hF : F1 = 0
          · subst hF
            rw [if_neg (show ¬ (0 : Int) ≠ 0 by simp)] at mk
            by_cases hG : G = 0
            · subst hG
              exact vt_in00 w p N c pz _ cz q _ cq fuel 0 0 0 0 D1 D2 _ _ _ _ hf0 hf1 (mk _ _ _ _ _ rfl rfl hD1)
            · rw [if_neg hG] at mk
              exact vt_in01 w p N c pz _ cz q _ cq fuel 0 0 0 G D1 D2 _ _ _ _ hG hf0 hf1 (mk _ _ _ _ _ rfl rfl hD1)
          · rw [if_pos hF] at mk
            by_cases hG : G = 0
            · subst hG
              exact vt_in10 w p N c pz _ cz q _ cq fuel 0 0 F1 0 D1 D2 _ _ _ _ hF hf0 hf1 (mk _ _ _ _ _ rfl rfl (by simp))
            · rw [if_neg hG] at mk
              exact vt_in11 w p N c pz _ cz q _ cq fuel 0 0 F1 G D1 D2 _ _ _ _ hF hG hf0 hf1 (mk _ _ _ _ _ rfl rfl (by simp))
    · rw [if_pos h2, if_pos h2] at mk
      exact vt_row w p N c pz _ cz q _ cq fuel 0 _ _ _ _ _ _ _ _ _ h2 (mk _ _ _ _ _ rfl rfl (by simp))
  · rw [if_pos h1, if_pos h1, if_pos h1] at mk
    exact vt_code w p N c pz _ cz q _ cq fuel _ _ _ _ _ _ _ _ _ _ h1 (mk _ _ _ _ _ rfl rfl (by simp))
end Go.Proofs.YtfhlhdddhgkinaaGreatDoor
