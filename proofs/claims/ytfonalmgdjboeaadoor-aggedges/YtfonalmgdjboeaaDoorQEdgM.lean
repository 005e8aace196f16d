/-
  AggEdges, walked: the least and the most of numbers; a sum of as many alike.
-/
import Derived.Test.YtfonalmgdjboeaaDoorQEdgP
import Derived.Deep.RegionHeld3
namespace Go.Proofs.YtfonalmgdjboeaaDoor
open Go.RowKit
set_option linter.unusedVariables false

theorem take_snocI {ls : List Int} {k : Nat} (h : k < ls.length) : (ls.take (k + 1)).map rowE = (ls.take k).map rowE ++ [rowE ls[k]] := by
  rw [List.take_succ_eq_append_getElem h, List.map_append]; rfl
set_option maxHeartbeats 8000000 in
set_option maxRecDepth 20000 in
theorem edges_walk (q : Option Addr) (c : Nat) (ts : List Int) (n times : Int) (w : World) (hae : AEnv w) (het : EtAt w) (htl : ts.length ≤ maxLen) (ht : IntW w q ts) (htz : ∀ t ∈ ts, inB t) (hn : inB n) (htm : inB times) :
    Calls Tryd.prog 5 #[.slice q ts.length c, .int .i64 n, .int .i64 times] w fun e w' => e = .returned (.bool true) ∧ Aside (Below w.heap.size w w') := by
  have HE : Aside (AEnv w ∧ EtAt w) := ⟨hae, het⟩
  have HT : Aside (IntW w q ts) := ht
  have HTZ : Aside (∀ t ∈ ts, inB t) := htz
  have HN : Aside (inB n) := hn
  have hml : (ts.length : Int) ≤ 9223372036854775807 := by unfold maxLen at htl; omega
  have c1 := new_three w hae
  obtain ⟨TN, hTN⟩ : ∃ TN, ts.length = TN := ⟨_, rfl⟩
  have HTN : Hid (ts.length = TN) := hTN
  rw [hTN] at hml ⊢
  clear hae het ht htz hn htl hTN
  go_enter Tryd.func5, Tryd.ntmps5
  go_wp2_with fail
  refine c1.mono ?_
  rintro e W1 ⟨⟨a, v, rfl, A1, L1⟩, B1⟩
  have c2 := none_c a v W1 A1.out
  clear c1
  go_wp2_with fail
  refine c2.mono ?_
  rintro e W2 ⟨rfl, K2⟩
  have A2 : Aside (AcAt W2 a v psE []) := A1.out.on K2.out
  have B2 : Aside (Below w.heap.size w W2) := B1.out.trans (K2.out.mono B1.out.size)
  have c3 := told_any 5 W2 (HE.out.2.on B2.out)
  rw [show errV 5 = .iface 53 (.int .i64 5) from rfl] at c3
  clear c2 A1 B1 K2
  go_wp2_with fail
  refine c3.mono ?_
  rintro e W3 ⟨rfl, K3⟩
  have A3 : Aside (AcAt W3 a v psE ((ts.take 0).map rowE)) := A2.out.on K3
  have B3 : Aside (Below w.heap.size w W3) := B2.out.trans (K3.mono B2.out.size)
  clear c3 A2 B2 K3
  obtain ⟨M, hM⟩ : ∃ M, min TN 60 = M := ⟨_, rfl⟩
  have hM60 : M ≤ 60 := by omega
  have hMT : M ≤ TN := by omega
  have HMX : Hid (∀ k : Nat, k < M ↔ k < TN ∧ k < 60) := fun k => by omega
  clear hM
  go_wp2
  go_loopg [12, 13] M (fun gg s12 s13 wr => ∃ kk : Nat, kk ≤ M ∧ M - kk ≤ gg ∧ s12 = .int .i64 kk ∧ s13 = .int .i64 kk ∧ Aside (AcAt wr a v psE ((ts.take kk).map rowE)) ∧ Aside (Below w.heap.size w wr))
  case atStart => exact ⟨0, Nat.zero_le _, by omega, rfl, rfl, A3, B3⟩
  case round =>
    obtain ⟨kk, hkk, hg, rfl, rfl, AR, BR⟩ := hrel
    clear A3 B3
    have hdec := HMX.out kk
    by_cases hlt : kk < M
    · obtain ⟨h1, h2⟩ := hdec.1 hlt
      have hltz : (kk : Int) < (TN : Int) := by omega
      have h60z : (kk : Int) < 60 := by omega
      have h0z : (0 : Int) ≤ (kk : Int) := by omega
      have hkt : kk < ts.length := by rw [HTN.out]; exact h1
      obtain ⟨tb, to_, rfl, tlt, tc⟩ := HT.out.resolve_left (by omega)
      have t0 : wr.cell? ⟨tb, to_ + kk, none⟩ = some (.int .i64 ts[kk]) := by rw [BR.out.cell (p := ⟨tb, _, none⟩) tlt]; exact tc kk hkt
      have HX : Aside (inB ts[kk]) := HTZ.out _ (List.getElem_mem hkt)
      have HSN : Hid ((ts.take (kk + 1)).map rowE = (ts.take kk).map rowE ++ [rowE ts[kk]]) := take_snocI hkt
      have tlw : tb < wr.heap.size := by have := BR.out.size; omega
      clear tc hdec
      generalize ts[kk] = x at *
      have cI : ∀ W, Below wr.heap.size wr W → Calls Tryd.prog 15 #[.int .i64 x] W fun e w' => e = .returned (.agg #[.int .i64 1, .int .i64 x, .string ⟨#[]⟩]) ∧ Below wr.heap.size wr w' ∧ w'.cell? ⟨tb, to_ + kk, none⟩ = some (.int .i64 x) := fun W hW => (in_any x W).mono fun e w' hh => by
        have hB := hW.trans (hh.2.mono hW.size)
        exact ⟨hh.1, hB, by rw [hB.cell (p := ⟨tb, _, none⟩) tlw]; exact t0⟩
      have cA : ∀ W, Below wr.heap.size wr W → Calls Tryd.prog 9 #[.pointer (some ⟨a, 0, none⟩), .slice (some ⟨W.heap.size, 0, none⟩) 3 3] (W.alloc (.cells #[.int .i64 1, .int .i64 x, .string ⟨#[]⟩, .int .i64 1, .int .i64 x, .string ⟨#[]⟩, .int .i64 0, .int .i64 0, .string ⟨#[]⟩] 26)) fun e w' => e = .returned .nilIface ∧ Aside (AcAt w' a v psE ((ts.take (kk + 1)).map rowE)) ∧ Aside (Below w.heap.size w w') ∧ w'.cell? ⟨tb, to_ + kk, none⟩ = some (.int .i64 x) := fun W hW => (add_three a v _ x W (AR.out.on hW) (by rw [List.length_map, List.length_take]; omega) HX.out).mono fun e w' hh => by
        have hB : Below w.heap.size w W := BR.out.trans (hW.mono BR.out.size)
        have hB2 : Below w.heap.size w w' := hB.trans (hh.2.2.out.below hB.size (fun k hk hs => by have := L1.out k hs; omega))
        refine ⟨hh.1, ?_, hB2, ?_⟩
        · rw [HSN.out]; exact hh.2.1
        · rw [hB2.cell (p := ⟨tb, _, none⟩) tlt, ← BR.out.cell (p := ⟨tb, _, none⟩) tlt]; exact t0
      go_wp2
      go_region_held3 (fun w' => w'.cell? ⟨tb, to_ + kk, none⟩ = some (.int .i64 x)) (go_keep) (first
        | (go_at_call 15; refine (cI _ (by first | exact Below.drew (Below.refl _ _) | exact P1)).mono ?_; rintro e w5 ⟨rfl, P1, p2⟩)
        | (go_at_call 9; refine (cA _ P1).mono ?_; rintro e w7 ⟨rfl, A7, B7, p7⟩))
      all_goals
        go_wp2
        go_roundg (M - (kk + 1))
        case measure => omega
        case rel => exact ⟨kk + 1, by omega, by omega, by go_num, by go_num, A7, B7⟩
    · have hno : ¬ ((kk : Int) < (TN : Int) ∧ (kk : Int) < 60) := fun h => hlt (hdec.2 ⟨by omega, by omega⟩)
      obtain rfl : kk = M := by omega
      clear hdec hlt
      by_cases hT : (kk : Int) < (TN : Int)
      · have h60z : ¬ (kk : Int) < 60 := fun h => hno ⟨hT, h⟩
        clear hno
        have hls : (ts.take kk).length = kk := by rw [List.length_take, HTN.out]; omega
        obtain ⟨lo, hi, ⟨f1, f2, f3⟩, cR⟩ := some_c a v (ts.take kk) wr AR.out (by intro e; rw [e] at hls; simp at hls; omega)
        rw [hls] at cR
        have HF : Aside (lo ∈ ts.take kk ∧ hi ∈ ts.take kk ∧ ∀ x ∈ ts.take kk, lo ≤ x ∧ x ≤ hi) := ⟨f1, f2, f3⟩
        have HLS : Hid ((ts.take kk).length = kk) := hls
        obtain ⟨tb, to_, rfl, tlt, tcc⟩ := HT.out.resolve_left (by rw [HTN.out]; omega)
        have HTC : Aside (∀ j (h : j < ts.length), w.cell? ⟨tb, to_ + j, none⟩ = some (.int .i64 ts[j])) := tcc
        have qk : ((kk : Int) != (kk : Int)) = false := by simp
        have hkp : (0 : Int) < (kk : Int) := by omega
        clear f1 f2 f3 hls AR tcc
        go_wp2_with fail
        refine cR.mono ?_
        rintro e W4 ⟨⟨rb, ro, rc, rfl, rl, r0, r1, r2⟩, K4⟩
        have B4 : Aside (Below w.heap.size w W4) := BR.out.trans (K4.out.mono BR.out.size)
        clear cR K4 BR
        go_wp2
        try rw [decide_eq_true (show 0 < kk by omega)]
        go_loopg [15, 16, 17] kk (fun gg s15 s16 s17 wz => ∃ (jj : Nat) (bl bh : Bool), jj ≤ kk ∧ kk - jj ≤ gg ∧ s15 = .bool bl ∧ s16 = .bool bh ∧ s17 = .int .i64 jj ∧ Hid (bl = decide (lo ∈ (ts.take kk).take jj) ∧ bh = decide (hi ∈ (ts.take kk).take jj)) ∧ Aside (Below W4.heap.size W4 wz))
        case atStart => exact ⟨0, false, false, Nat.zero_le _, by omega, rfl, rfl, rfl, (show Hid _ from ⟨by simp, by simp⟩), (show Aside _ from Below.refl _ _)⟩
        case round =>
          obtain ⟨jj, bl, bh, hjj, hgj, rfl, rfl, rfl, HB2, BZ2⟩ := hrel
          by_cases hltj : jj < kk
          · have hjz : (jj : Int) < (kk : Int) := by omega
            have hj0 : (0 : Int) ≤ (jj : Int) := by omega
            have hjT : (jj : Int) < (TN : Int) := by omega
            have hjl : jj < (ts.take kk).length := by rw [HLS.out]; exact hltj
            have hjt : jj < ts.length := by rw [HTN.out]; omega
            have BW : Below w.heap.size w wr := B4.out.trans (BZ2.out.mono B4.out.size)
            have x0 : wr.cell? ⟨tb, to_ + jj, none⟩ = some (.int .i64 ts[jj]) := by rw [BW.cell (p := ⟨tb, _, none⟩) tlt]; exact HTC.out jj hjt
            have y0 : wr.cell? ⟨rb, ro + 1, none⟩ = some (.int .i64 lo) := by rw [BZ2.out.cell (p := ⟨rb, _, none⟩) rl]; exact r0
            have y1 : wr.cell? ⟨rb, ro + 3 + 1, none⟩ = some (.int .i64 hi) := by rw [BZ2.out.cell (p := ⟨rb, _, none⟩) rl]; exact r1
            have hget : (ts.take kk)[jj] = ts[jj] := List.getElem_take
            have hmem : ts[jj] ∈ ts.take kk := by rw [← hget]; exact List.getElem_mem hjl
            have htk : (ts.take kk).take (jj + 1) = (ts.take kk).take jj ++ [ts[jj]] := by rw [List.take_succ_eq_append_getElem hjl, hget]
            obtain ⟨g1, g2⟩ := HF.out.2.2 _ hmem
            have e1 : (bl || (ts[jj] == lo)) = decide (lo ∈ (ts.take kk).take (jj + 1)) := by
              rw [HB2.out.1, htk, Bool.eq_iff_iff]
              simp only [Bool.or_eq_true, decide_eq_true_eq, beq_iff_eq, List.mem_append, List.mem_singleton]
              exact ⟨fun h => h.imp id Eq.symm, fun h => h.imp id Eq.symm⟩
            have e2 : (bh || (ts[jj] == hi)) = decide (hi ∈ (ts.take kk).take (jj + 1)) := by
              rw [HB2.out.2, htk, Bool.eq_iff_iff]
              simp only [Bool.or_eq_true, decide_eq_true_eq, beq_iff_eq, List.mem_append, List.mem_singleton]
              exact ⟨fun h => h.imp id Eq.symm, fun h => h.imp id Eq.symm⟩
            have HEE : Aside ((bl || (ts[jj] == lo)) = decide (lo ∈ (ts.take kk).take (jj + 1)) ∧ (bh || (ts[jj] == hi)) = decide (hi ∈ (ts.take kk).take (jj + 1))) := ⟨e1, e2⟩
            clear e1 e2 HB2 htk hmem hget BW
            generalize ts[jj] = x at *
            have g3 : ¬ x < lo := by omega
            have g4 : ¬ hi < x := by omega
            cases bl <;> cases bh
            all_goals
              go_wp2
              go_quiet (fail)
              go_wp2
              go_quiet (fail)
              go_wp2
              go_quiet (fail)
              go_wp2
              go_roundg (kk - (jj + 1))
              case measure => omega
              case rel =>
                refine ⟨jj + 1, _, _, by omega, by omega, rfl, rfl, by go_num, (show Hid _ from ⟨?_, ?_⟩), (show Aside _ from below_drewN BZ2.out _)⟩
                · rw [← HEE.out.1]; first | rfl | simp
                · rw [← HEE.out.2]; first | rfl | simp
          · have hjz : ¬ (jj : Int) < (kk : Int) := by omega
            obtain rfl : jj = kk := by omega
            have hbl : bl = true := by rw [HB2.out.1, List.take_of_length_le (by rw [HLS.out]; exact Nat.le_refl _)]; exact decide_eq_true HF.out.1
            have hbh : bh = true := by rw [HB2.out.2, List.take_of_length_le (by rw [HLS.out]; exact Nat.le_refl _)]; exact decide_eq_true HF.out.2.1
            subst hbl hbh
            have BZ : Aside (Below w.heap.size w wr) := B4.out.trans (BZ2.out.mono B4.out.size)
            clear HB2 BZ2 B4 HF HLS r0 r1 r2 rl
            generalize wr = WZ at *
            have hoor : (times < 0 ∨ 100 < times) ∨ (0 ≤ times ∧ times ≤ 100) := by omega
            rcases hoor with hoor | hoor
            · rcases hoor with hneg | hbig
              · go_wp2
                go_ret
                exact ⟨rfl, BZ⟩
              · have hnn : ¬ times < 0 := by omega
                go_wp2
                go_ret
                exact ⟨rfl, BZ⟩
            · obtain ⟨ht0, ht1⟩ := hoor
              obtain ⟨K, rfl⟩ := Int.eq_ofNat_of_zero_le ht0
              have hn0 : ¬ (K : Int) < 0 := by omega
              have hn1 : ¬ (100 : Int) < (K : Int) := by omega
              have hK : K ≤ 100 := by omega
              have s1 := new_lit w WZ (HE.out.1.on BZ.out) BZ.out
              clear ht0 ht1
              go_wp2_with fail
              refine s1.mono ?_
              rintro e Y0 ⟨⟨sb, sw, rfl, SA, SL⟩, SB⟩
              clear s1 BZ
              go_wp2
              go_loopg [8, 19] K (fun gg s8 s19 wr => ∃ kk : Nat, kk ≤ K ∧ K - kk ≤ gg ∧ s8 = .nilIface ∧ s19 = .int .i64 kk ∧ Aside (AcAt wr sb sw psF (List.replicate kk [(1, n, ⟨#[]⟩)])) ∧ Aside (Below w.heap.size w wr))
              case atStart => exact ⟨0, Nat.zero_le _, by omega, rfl, rfl, SA, SB⟩
              case round =>
                obtain ⟨kk, hkk, hg, rfl, rfl, AR, BR⟩ := hrel
                clear SA SB
                by_cases hlt : kk < K
                · have hltz : (kk : Int) < (K : Int) := by omega
                  have i1 := in_any n wr
                  go_wp2_with fail
                  refine i1.mono ?_
                  rintro e wi ⟨rfl, Bi⟩
                  have s2 := add_lit sb sw _ n wi (AR.out.on Bi) (by rw [List.length_replicate]; omega) HN.out
                  clear i1
                  go_wp2_with fail
                  refine s2.mono ?_
                  rintro e wa ⟨rfl, Aa, Ka⟩
                  have AN : Aside (AcAt wa sb sw psF (List.replicate (kk + 1) [(1, n, ⟨#[]⟩)])) := by
                    have := Aa.out
                    rw [← List.replicate_succ'] at this
                    exact this
                  have hBi : Below w.heap.size w wi := BR.out.trans (Bi.mono BR.out.size)
                  have BN : Aside (Below w.heap.size w wa) := hBi.trans (Ka.out.below hBi.size (fun k hk hs => by have := SL.out k hs; omega))
                  clear s2 Aa Ka Bi hBi AR BR
                  go_wp2
                  go_roundg (K - (kk + 1))
                  case measure => omega
                  case rel => exact ⟨kk + 1, by omega, by omega, rfl, by go_num, AN, BN⟩
                · have hltz : ¬ (kk : Int) < (K : Int) := by omega
                  obtain rfl : kk = K := by omega
                  obtain ⟨m1, m2⟩ := many_c sb sw n kk wr AR.out
                  have hKb : -9223372036854775808 ≤ (kk : Int) ∧ (kk : Int) ≤ 9223372036854775807 := by omega
                  by_cases hin : -9223372036854775808 ≤ n * (kk : Int) ∧ n * (kk : Int) ≤ 9223372036854775807
                  · have t1 := m1 hin
                    have t2 := fun W => rk_mul n (kk : Int) W HN.out hKb hin
                    clear m1 m2 AR hKb
                    generalize n * (kk : Int) = X at *
                    have qx : (X == X) = true := by simp
                    clear hin
                    go_wp2_with fail
                    refine t1.mono ?_
                    rintro e wx ⟨⟨rb, ro, rc, rfl, rl, r0⟩, Kx⟩
                    have BX : Aside (Below w.heap.size w wx) := BR.out.trans (Kx.out.mono BR.out.size)
                    clear t1 Kx BR
                    go_wp2_with fail
                    refine (t2 _).mono ?_
                    rintro e wy ⟨rfl, rfl⟩
                    clear t2
                    go_wp2
                    go_quiet (fail)
                    go_wp2
                    go_ret
                    exact ⟨rfl, (show Aside _ from below_drewN BX.out _)⟩
                  · have t1 := m2 hin
                    have t2 := fun W => rk_mulx n (kk : Int) W HN.out hKb hin
                    clear m1 m2 AR hKb hin
                    go_wp2_with fail
                    refine t1.mono ?_
                    rintro e wx ⟨rfl, Kx⟩
                    have BX : Aside (Below w.heap.size w wx) := BR.out.trans (Kx.out.mono BR.out.size)
                    clear t1 Kx BR
                    go_wp2_with fail
                    refine (t2 _).mono ?_
                    rintro e wy ⟨rfl, rfl⟩
                    clear t2
                    go_wp2
                    go_quiet (fail)
                    go_wp2
                    go_ret
                    exact ⟨rfl, (show Aside _ from below_drewN BX.out _)⟩
      · clear hno
        by_cases hz : kk = 0
        · have hk0 : ¬ (0 : Int) < (kk : Int) := by omega
          have AZ := AR.out
          rw [hz, List.take_zero, List.map_nil] at AZ
          have cR := none_c a v wr AZ
          have HZ : Hid (kk = 0) := hz
          clear AZ hz AR
          go_wp2_with fail
          refine cR.mono ?_
          rintro e WZ ⟨rfl, KZ⟩
          have BZ : Aside (Below w.heap.size w WZ) := BR.out.trans (KZ.out.mono BR.out.size)
          clear cR KZ BR
          have hoor : (times < 0 ∨ 100 < times) ∨ (0 ≤ times ∧ times ≤ 100) := by omega
          rcases hoor with hoor | hoor
          · rcases hoor with hneg | hbig
            · go_wp2
              go_ret
              exact ⟨rfl, BZ⟩
            · have hnn : ¬ times < 0 := by omega
              go_wp2
              go_ret
              exact ⟨rfl, BZ⟩
          · obtain ⟨ht0, ht1⟩ := hoor
            obtain ⟨K, rfl⟩ := Int.eq_ofNat_of_zero_le ht0
            have hn0 : ¬ (K : Int) < 0 := by omega
            have hn1 : ¬ (100 : Int) < (K : Int) := by omega
            have hK : K ≤ 100 := by omega
            have s1 := new_lit w WZ (HE.out.1.on BZ.out) BZ.out
            clear ht0 ht1
            go_wp2_with fail
            refine s1.mono ?_
            rintro e Y0 ⟨⟨sb, sw, rfl, SA, SL⟩, SB⟩
            clear s1 BZ
            go_wp2
            go_loopg [8, 19] K (fun gg s8 s19 wr => ∃ kk : Nat, kk ≤ K ∧ K - kk ≤ gg ∧ s8 = .nilIface ∧ s19 = .int .i64 kk ∧ Aside (AcAt wr sb sw psF (List.replicate kk [(1, n, ⟨#[]⟩)])) ∧ Aside (Below w.heap.size w wr))
            case atStart => exact ⟨0, Nat.zero_le _, by omega, rfl, rfl, SA, SB⟩
            case round =>
              obtain ⟨kk, hkk, hg, rfl, rfl, AR, BR⟩ := hrel
              clear SA SB
              by_cases hlt : kk < K
              · have hltz : (kk : Int) < (K : Int) := by omega
                have i1 := in_any n wr
                go_wp2_with fail
                refine i1.mono ?_
                rintro e wi ⟨rfl, Bi⟩
                have s2 := add_lit sb sw _ n wi (AR.out.on Bi) (by rw [List.length_replicate]; omega) HN.out
                clear i1
                go_wp2_with fail
                refine s2.mono ?_
                rintro e wa ⟨rfl, Aa, Ka⟩
                have AN : Aside (AcAt wa sb sw psF (List.replicate (kk + 1) [(1, n, ⟨#[]⟩)])) := by
                  have := Aa.out
                  rw [← List.replicate_succ'] at this
                  exact this
                have hBi : Below w.heap.size w wi := BR.out.trans (Bi.mono BR.out.size)
                have BN : Aside (Below w.heap.size w wa) := hBi.trans (Ka.out.below hBi.size (fun k hk hs => by have := SL.out k hs; omega))
                clear s2 Aa Ka Bi hBi AR BR
                go_wp2
                go_roundg (K - (kk + 1))
                case measure => omega
                case rel => exact ⟨kk + 1, by omega, by omega, rfl, by go_num, AN, BN⟩
              · have hltz : ¬ (kk : Int) < (K : Int) := by omega
                obtain rfl : kk = K := by omega
                obtain ⟨m1, m2⟩ := many_c sb sw n kk wr AR.out
                have hKb : -9223372036854775808 ≤ (kk : Int) ∧ (kk : Int) ≤ 9223372036854775807 := by omega
                by_cases hin : -9223372036854775808 ≤ n * (kk : Int) ∧ n * (kk : Int) ≤ 9223372036854775807
                · have t1 := m1 hin
                  have t2 := fun W => rk_mul n (kk : Int) W HN.out hKb hin
                  clear m1 m2 AR hKb
                  generalize n * (kk : Int) = X at *
                  have qx : (X == X) = true := by simp
                  clear hin
                  go_wp2_with fail
                  refine t1.mono ?_
                  rintro e wx ⟨⟨rb, ro, rc, rfl, rl, r0⟩, Kx⟩
                  have BX : Aside (Below w.heap.size w wx) := BR.out.trans (Kx.out.mono BR.out.size)
                  clear t1 Kx BR
                  go_wp2_with fail
                  refine (t2 _).mono ?_
                  rintro e wy ⟨rfl, rfl⟩
                  clear t2
                  go_wp2
                  go_quiet (fail)
                  go_wp2
                  go_ret
                  exact ⟨rfl, (show Aside _ from below_drewN BX.out _)⟩
                · have t1 := m2 hin
                  have t2 := fun W => rk_mulx n (kk : Int) W HN.out hKb hin
                  clear m1 m2 AR hKb hin
                  go_wp2_with fail
                  refine t1.mono ?_
                  rintro e wx ⟨rfl, Kx⟩
                  have BX : Aside (Below w.heap.size w wx) := BR.out.trans (Kx.out.mono BR.out.size)
                  clear t1 Kx BR
                  go_wp2_with fail
                  refine (t2 _).mono ?_
                  rintro e wy ⟨rfl, rfl⟩
                  clear t2
                  go_wp2
                  go_quiet (fail)
                  go_wp2
                  go_ret
                  exact ⟨rfl, (show Aside _ from below_drewN BX.out _)⟩
        · have hkz : 0 < kk := by omega
          clear hz
          have hls : (ts.take kk).length = kk := by rw [List.length_take, HTN.out]; omega
          obtain ⟨lo, hi, ⟨f1, f2, f3⟩, cR⟩ := some_c a v (ts.take kk) wr AR.out (by intro e; rw [e] at hls; simp at hls; omega)
          rw [hls] at cR
          have HF : Aside (lo ∈ ts.take kk ∧ hi ∈ ts.take kk ∧ ∀ x ∈ ts.take kk, lo ≤ x ∧ x ≤ hi) := ⟨f1, f2, f3⟩
          have HLS : Hid ((ts.take kk).length = kk) := hls
          obtain ⟨tb, to_, rfl, tlt, tcc⟩ := HT.out.resolve_left (by rw [HTN.out]; omega)
          have HTC : Aside (∀ j (h : j < ts.length), w.cell? ⟨tb, to_ + j, none⟩ = some (.int .i64 ts[j])) := tcc
          have qk : ((kk : Int) != (kk : Int)) = false := by simp
          have hkp : (0 : Int) < (kk : Int) := by omega
          clear f1 f2 f3 hls AR tcc
          go_wp2_with fail
          refine cR.mono ?_
          rintro e W4 ⟨⟨rb, ro, rc, rfl, rl, r0, r1, r2⟩, K4⟩
          have B4 : Aside (Below w.heap.size w W4) := BR.out.trans (K4.out.mono BR.out.size)
          clear cR K4 BR
          go_wp2
          try rw [decide_eq_true (show 0 < kk by omega)]
          go_loopg [15, 16, 17] kk (fun gg s15 s16 s17 wz => ∃ (jj : Nat) (bl bh : Bool), jj ≤ kk ∧ kk - jj ≤ gg ∧ s15 = .bool bl ∧ s16 = .bool bh ∧ s17 = .int .i64 jj ∧ Hid (bl = decide (lo ∈ (ts.take kk).take jj) ∧ bh = decide (hi ∈ (ts.take kk).take jj)) ∧ Aside (Below W4.heap.size W4 wz))
          case atStart => exact ⟨0, false, false, Nat.zero_le _, by omega, rfl, rfl, rfl, (show Hid _ from ⟨by simp, by simp⟩), (show Aside _ from Below.refl _ _)⟩
          case round =>
            obtain ⟨jj, bl, bh, hjj, hgj, rfl, rfl, rfl, HB2, BZ2⟩ := hrel
            by_cases hltj : jj < kk
            · have hjz : (jj : Int) < (kk : Int) := by omega
              have hj0 : (0 : Int) ≤ (jj : Int) := by omega
              have hjT : (jj : Int) < (TN : Int) := by omega
              have hjl : jj < (ts.take kk).length := by rw [HLS.out]; exact hltj
              have hjt : jj < ts.length := by rw [HTN.out]; omega
              have BW : Below w.heap.size w wr := B4.out.trans (BZ2.out.mono B4.out.size)
              have x0 : wr.cell? ⟨tb, to_ + jj, none⟩ = some (.int .i64 ts[jj]) := by rw [BW.cell (p := ⟨tb, _, none⟩) tlt]; exact HTC.out jj hjt
              have y0 : wr.cell? ⟨rb, ro + 1, none⟩ = some (.int .i64 lo) := by rw [BZ2.out.cell (p := ⟨rb, _, none⟩) rl]; exact r0
              have y1 : wr.cell? ⟨rb, ro + 3 + 1, none⟩ = some (.int .i64 hi) := by rw [BZ2.out.cell (p := ⟨rb, _, none⟩) rl]; exact r1
              have hget : (ts.take kk)[jj] = ts[jj] := List.getElem_take
              have hmem : ts[jj] ∈ ts.take kk := by rw [← hget]; exact List.getElem_mem hjl
              have htk : (ts.take kk).take (jj + 1) = (ts.take kk).take jj ++ [ts[jj]] := by rw [List.take_succ_eq_append_getElem hjl, hget]
              obtain ⟨g1, g2⟩ := HF.out.2.2 _ hmem
              have e1 : (bl || (ts[jj] == lo)) = decide (lo ∈ (ts.take kk).take (jj + 1)) := by
                rw [HB2.out.1, htk, Bool.eq_iff_iff]
                simp only [Bool.or_eq_true, decide_eq_true_eq, beq_iff_eq, List.mem_append, List.mem_singleton]
                exact ⟨fun h => h.imp id Eq.symm, fun h => h.imp id Eq.symm⟩
              have e2 : (bh || (ts[jj] == hi)) = decide (hi ∈ (ts.take kk).take (jj + 1)) := by
                rw [HB2.out.2, htk, Bool.eq_iff_iff]
                simp only [Bool.or_eq_true, decide_eq_true_eq, beq_iff_eq, List.mem_append, List.mem_singleton]
                exact ⟨fun h => h.imp id Eq.symm, fun h => h.imp id Eq.symm⟩
              have HEE : Aside ((bl || (ts[jj] == lo)) = decide (lo ∈ (ts.take kk).take (jj + 1)) ∧ (bh || (ts[jj] == hi)) = decide (hi ∈ (ts.take kk).take (jj + 1))) := ⟨e1, e2⟩
              clear e1 e2 HB2 htk hmem hget BW
              generalize ts[jj] = x at *
              have g3 : ¬ x < lo := by omega
              have g4 : ¬ hi < x := by omega
              cases bl <;> cases bh
              all_goals
                go_wp2
                go_quiet (fail)
                go_wp2
                go_quiet (fail)
                go_wp2
                go_quiet (fail)
                go_wp2
                go_roundg (kk - (jj + 1))
                case measure => omega
                case rel =>
                  refine ⟨jj + 1, _, _, by omega, by omega, rfl, rfl, by go_num, (show Hid _ from ⟨?_, ?_⟩), (show Aside _ from below_drewN BZ2.out _)⟩
                  · rw [← HEE.out.1]; first | rfl | simp
                  · rw [← HEE.out.2]; first | rfl | simp
            · have hjz : ¬ (jj : Int) < (kk : Int) := by omega
              obtain rfl : jj = kk := by omega
              have hbl : bl = true := by rw [HB2.out.1, List.take_of_length_le (by rw [HLS.out]; exact Nat.le_refl _)]; exact decide_eq_true HF.out.1
              have hbh : bh = true := by rw [HB2.out.2, List.take_of_length_le (by rw [HLS.out]; exact Nat.le_refl _)]; exact decide_eq_true HF.out.2.1
              subst hbl hbh
              have BZ : Aside (Below w.heap.size w wr) := B4.out.trans (BZ2.out.mono B4.out.size)
              clear HB2 BZ2 B4 HF HLS r0 r1 r2 rl
              generalize wr = WZ at *
              have hoor : (times < 0 ∨ 100 < times) ∨ (0 ≤ times ∧ times ≤ 100) := by omega
              rcases hoor with hoor | hoor
              · rcases hoor with hneg | hbig
                · go_wp2
                  go_ret
                  exact ⟨rfl, BZ⟩
                · have hnn : ¬ times < 0 := by omega
                  go_wp2
                  go_ret
                  exact ⟨rfl, BZ⟩
              · obtain ⟨ht0, ht1⟩ := hoor
                obtain ⟨K, rfl⟩ := Int.eq_ofNat_of_zero_le ht0
                have hn0 : ¬ (K : Int) < 0 := by omega
                have hn1 : ¬ (100 : Int) < (K : Int) := by omega
                have hK : K ≤ 100 := by omega
                have s1 := new_lit w WZ (HE.out.1.on BZ.out) BZ.out
                clear ht0 ht1
                go_wp2_with fail
                refine s1.mono ?_
                rintro e Y0 ⟨⟨sb, sw, rfl, SA, SL⟩, SB⟩
                clear s1 BZ
                go_wp2
                go_loopg [8, 19] K (fun gg s8 s19 wr => ∃ kk : Nat, kk ≤ K ∧ K - kk ≤ gg ∧ s8 = .nilIface ∧ s19 = .int .i64 kk ∧ Aside (AcAt wr sb sw psF (List.replicate kk [(1, n, ⟨#[]⟩)])) ∧ Aside (Below w.heap.size w wr))
                case atStart => exact ⟨0, Nat.zero_le _, by omega, rfl, rfl, SA, SB⟩
                case round =>
                  obtain ⟨kk, hkk, hg, rfl, rfl, AR, BR⟩ := hrel
                  clear SA SB
                  by_cases hlt : kk < K
                  · have hltz : (kk : Int) < (K : Int) := by omega
                    have i1 := in_any n wr
                    go_wp2_with fail
                    refine i1.mono ?_
                    rintro e wi ⟨rfl, Bi⟩
                    have s2 := add_lit sb sw _ n wi (AR.out.on Bi) (by rw [List.length_replicate]; omega) HN.out
                    clear i1
                    go_wp2_with fail
                    refine s2.mono ?_
                    rintro e wa ⟨rfl, Aa, Ka⟩
                    have AN : Aside (AcAt wa sb sw psF (List.replicate (kk + 1) [(1, n, ⟨#[]⟩)])) := by
                      have := Aa.out
                      rw [← List.replicate_succ'] at this
                      exact this
                    have hBi : Below w.heap.size w wi := BR.out.trans (Bi.mono BR.out.size)
                    have BN : Aside (Below w.heap.size w wa) := hBi.trans (Ka.out.below hBi.size (fun k hk hs => by have := SL.out k hs; omega))
                    clear s2 Aa Ka Bi hBi AR BR
                    go_wp2
                    go_roundg (K - (kk + 1))
                    case measure => omega
                    case rel => exact ⟨kk + 1, by omega, by omega, rfl, by go_num, AN, BN⟩
                  · have hltz : ¬ (kk : Int) < (K : Int) := by omega
                    obtain rfl : kk = K := by omega
                    obtain ⟨m1, m2⟩ := many_c sb sw n kk wr AR.out
                    have hKb : -9223372036854775808 ≤ (kk : Int) ∧ (kk : Int) ≤ 9223372036854775807 := by omega
                    by_cases hin : -9223372036854775808 ≤ n * (kk : Int) ∧ n * (kk : Int) ≤ 9223372036854775807
                    · have t1 := m1 hin
                      have t2 := fun W => rk_mul n (kk : Int) W HN.out hKb hin
                      clear m1 m2 AR hKb
                      generalize n * (kk : Int) = X at *
                      have qx : (X == X) = true := by simp
                      clear hin
                      go_wp2_with fail
                      refine t1.mono ?_
                      rintro e wx ⟨⟨rb, ro, rc, rfl, rl, r0⟩, Kx⟩
                      have BX : Aside (Below w.heap.size w wx) := BR.out.trans (Kx.out.mono BR.out.size)
                      clear t1 Kx BR
                      go_wp2_with fail
                      refine (t2 _).mono ?_
                      rintro e wy ⟨rfl, rfl⟩
                      clear t2
                      go_wp2
                      go_quiet (fail)
                      go_wp2
                      go_ret
                      exact ⟨rfl, (show Aside _ from below_drewN BX.out _)⟩
                    · have t1 := m2 hin
                      have t2 := fun W => rk_mulx n (kk : Int) W HN.out hKb hin
                      clear m1 m2 AR hKb hin
                      go_wp2_with fail
                      refine t1.mono ?_
                      rintro e wx ⟨rfl, Kx⟩
                      have BX : Aside (Below w.heap.size w wx) := BR.out.trans (Kx.out.mono BR.out.size)
                      clear t1 Kx BR
                      go_wp2_with fail
                      refine (t2 _).mono ?_
                      rintro e wy ⟨rfl, rfl⟩
                      clear t2
                      go_wp2
                      go_quiet (fail)
                      go_wp2
                      go_ret
                      exact ⟨rfl, (show Aside _ from below_drewN BX.out _)⟩
end Go.Proofs.YtfonalmgdjboeaaDoor
