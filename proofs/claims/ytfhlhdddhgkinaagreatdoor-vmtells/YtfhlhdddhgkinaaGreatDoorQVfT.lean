/-
  The document's Check of instructions (package sluiceref2), at any instructions and columns.
-/
import Derived.Test.YtfhlhdddhgkinaaGreatDoorQVfS
import Derived.Deep.CutRange
import Derived.Deep.CutBlock
namespace Go.Proofs.YtfhlhdddhgkinaaGreatDoor
open Go.RowKit
set_option linter.unusedVariables false

set_option maxHeartbeats 16000000 in
set_option maxRecDepth 20000 in
theorem refVer_any (is : List I5) (p : Option Addr) (N c : Nat) (vz : Value) (zs : List (ByteArray × Int)) (w : World) (hi : InsAt w p is) (hN : is.length = N) (hNm : N ≤ maxLen) (hz : ∀ i ∈ is, i.2.2.2.2.size ≤ maxLen) (hc : ColsV w vz zs) (A : Nat) (E T M : Int) (hA : (verP is zs).2 = (A, E)) (hT : typP is (verP is zs) = T) (hM : mostP (verP is zs) = M) :
    Calls Tryz.prog 17 #[.slice p N c, vz] w fun e w' => e = .returned (.tuple #[.int .i64 A, .int .i64 E, .int .i64 T, .int .i64 M]) ∧ Below w.heap.size w w' := by
  have hNm2 := hNm
  unfold maxLen at hNm2
  have cS := refSchemaD vz zs w hc
  obtain ⟨pz, cz, rfl, hcc⟩ := id hc
  by_cases hfull : 1200 < N
  · rw [ver_full (by omega)] at hA hT hM
    obtain ⟨rfl, rfl⟩ := Prod.mk.inj hA
    rw [typP, if_pos (by decide)] at hT
    rw [mostP, if_pos (by decide)] at hM
    subst hT hM
    have hz1 : (1200 : Int) < (N : Int) := by omega
    clear hi hc hcc hz hN cS hA
    go_enter Tryz.func17, Tryz.ntmps17
    go_wp2
    exact bodyPost_ret (v := .tuple #[.int .i64 0, .int .i64 4, .int .i64 0, .int .i64 0]) (by simp [results, Tryz.results17, go_sem]) rfl ⟨rfl, Below.refl _ _⟩
  have hz1 : ¬ (1200 : Int) < (N : Int) := by omega
  by_cases hsch : schE zs = 0
  · rw [hsch] at cS
    rw [ver_loop (by omega) hsch] at hA hT hM
    have hz6 : zs.length ≤ 6 ∧ zs.length ≠ 0 := ⟨(schE_zero hsch).2.1, (schE_zero hsch).1⟩
    have hzt : ∀ z ∈ zs, isTy z.2 = true := fun z hz => by
      obtain ⟨k, hk, rfl⟩ := List.getElem_of_mem hz
      have := ((schE_zero hsch).2.2 k hk).2.1
      rw [isTy_iff]; omega
    obtain ⟨cb, co, rfl, hc1, hc2, hc3⟩ := hcc.resolve_left hz6.2
    obtain ⟨R, hR⟩ : ∃ R, loopP zs (some [] :: List.replicate is.length none) 0 is = R := ⟨_, rfl⟩
    rw [hR] at hA hT hM
    have HA : Hid ((endP R).2 = (A, E)) := hA
    have HT : Hid (typP is (endP R) = T) := hT
    have HM : Hid (mostP (endP R) = M) := hM
    have HN : Hid (is.length = N) := hN
    have HI : Aside (InsAt w p is) := hi
    have HZ : Hid (∀ i ∈ is, i.2.2.2.2.size ≤ maxLen) := hz
    have HC : Aside (ColsIn w cb co zs) := hc3
    have HZT : Hid (∀ z ∈ zs, isTy z.2 = true) := hzt
    have rp := fun W => run_stt N (by omega) W
    have HR0 : Hid (loopP zs (some [] :: List.replicate N none) 0 (is.drop 0) = R) := by
      rw [← HN.out]; exact hR
    clear hR hN hi hz hc hcc hc3 hsch hc1 hc2 hA hT hM hzt
    go_enter Tryz.func17, Tryz.ntmps17
    go_wp2_with fail
    refine cS.mono ?_
    rintro e w1 ⟨rfl, hq⟩
    obtain rfl : w = w1 := hq.symm
    have KN0 : Aside (KnAt (w.alloc (.cells ((madeCells #[.bool false, .slice none 0 0] ((N + 1) * 2)).setIfInBounds 0 (.bool true)) 87)) w.heap.size (some [] :: List.replicate N none)) := kn_madeD w N _ rfl
    have BW0 : Aside (Below w.heap.size w (w.alloc (.cells ((madeCells #[.bool false, .slice none 0 0] ((N + 1) * 2)).setIfInBounds 0 (.bool true)) 87))) := alB w _
    have c00 : (w.alloc (.cells (madeCells #[.bool false, .slice none 0 0] ((N + 1) * 2)) 87)).cell? ⟨w.heap.size, 0, none⟩ = some (.bool false) := by
      rw [World.cell?_alloc_at _ _ _ _ rfl, made_pl _ _ (by omega)]; rfl
    have nz : (0 : Int) < (N : Int) + 1 := by omega
    generalize madeCells #[.bool false, .slice none 0 0] ((N + 1) * 2) = MC at rp KN0 BW0 c00
    clear cS hq
    go_wp2
    generalize w.alloc (.cells (MC.setIfInBounds 0 (.bool true)) 87) = W2 at KN0 BW0 ⊢
    obtain ⟨B, hBe⟩ : ∃ B, w.heap.size = B := ⟨_, rfl⟩
    have hs1 : w.heap.size ≤ B := by omega
    rw [hBe] at KN0 ⊢
    have HST : Hid ((some [] :: List.replicate N none : List Pl).length = N + 1) := by simp [Hid]
    have HMS : Hid (mostF 0 (some [] :: List.replicate N none) = 0) := mostF_start N
    have HTY : Aside (AllTy (some [] :: List.replicate N none)) := ty_start N
    clear rp c00 hBe
    go_loopg [8, 10, 11, 12, 13, 14, 15, 16, 17, 18, 19, 20, 21, 22, 23] N (fun gg _ s10 s11 _ _ _ _ _ _ _ _ _ _ _ _ wr => ∃ (kk : Nat) (ks1 : List Pl) (m : Int), kk ≤ N ∧ N - kk ≤ gg ∧ s11 = .int .i64 kk ∧ s10 = .int .i64 m ∧ (0 ≤ m ∧ m ≤ 64) ∧ Aside (KnAt wr B ks1) ∧ Aside (Below w.heap.size w wr) ∧ Hid (ks1.length = N + 1) ∧ Hid (mostF 0 ks1 = m) ∧ Aside (AllTy ks1) ∧ Hid (loopP zs ks1 kk (is.drop kk) = R))
    case atStart => exact ⟨0, _, 0, Nat.zero_le _, by omega, rfl, rfl, by decide, KN0, BW0, HST, HMS, HTY, HR0⟩
    case round =>
      obtain ⟨kk, ks1, m, hkk, hg, rfl, rfl, hm, KR, BR, HL, HMF, TY, HE⟩ := hrel
      clear KN0 BW0 HR0 HST HMS HTY
      have hbr := BR.out.size
      have hbB := KR.out.1
      by_cases hlt : kk < N
      · have hltz : (kk : Int) < (N : Int) := by omega
        have hltz1 : (kk : Int) < (N : Int) + 1 := by omega
        have h0z : (0 : Int) ≤ (kk : Int) := by omega
        have hki : kk < is.length := by rw [HN.out]; exact hlt
        obtain ⟨ib, io, rfl, hib, d0, d1, d2, d3, d4⟩ := (HI.out.on BR.out).at kk hki
        have hsz := HZ.out _ (List.getElem_mem hki)
        have hE := HE.out
        rw [loopP_at hki] at hE
        have HE2 : Hid ((if (stepP zs ks1 kk is[kk]).2 ≠ 0 then (ks1, kk, (stepP zs ks1 kk is[kk]).2) else loopP zs (stepP zs ks1 kk is[kk]).1 (kk + 1) (is.drop (kk + 1))) = R) := hE
        clear hE HE
        generalize is[kk] = y at d0 d1 d2 d3 d4 hsz HE2
        have hkl : kk < ks1.length := by rw [HL.out]; omega
        obtain ⟨q, cq, e0, e1, eS⟩ := KR.out.at kk hkl
        have hget : ks1[kk]? = some ks1[kk] := List.getElem?_eq_getElem hkl
        cases hq : ks1[kk] with
        | none =>
          rw [hq] at e0 hget
          obtain ⟨rfl, rfl, rfl, rfl⟩ := ver_err (stepP_none hget) (by decide) HE2.out HA.out HT.out HM.out
          have B1 : Aside (Below w.heap.size w wr) := BR
          simp only [Option.isSome_none] at e0
          clear eS e1 d0 d1 d2 d3 d4 hq hget HE2 HA HT HM
          go_wp2
          exact bodyPost_ret (v := .tuple #[.int .i64 kk, .int .i64 5, .int .i64 0, .int .i64 0]) (by simp [results, Tryz.results17, go_sem]) rfl ⟨rfl, B1.out⟩
        | some st =>
          rw [hq] at e0 e1 eS hget
          simp only [Option.isSome_some, Option.getD_some] at e0 e1 eS
          have hs64 : st.length ≤ 64 := by
            obtain ⟨_, _, _, ⟨_, x1⟩, _⟩ := eS
            exact x1
          obtain ⟨ya, yg, yt, yn, ys⟩ := y
          simp only at d0 d1 d2 d3 d4 hsz
          have SS : Aside (StkAt (wr.alloc (.cells #[.int .i64 ya, .int .i64 yg, .int .i64 yt, .int .i64 yn, .string ys] 52)) B (.slice q st.length cq) st) := eS.on (alB _ _)
          have HG : Hid (ks1[kk]? = some (some st)) := hget
          have hbW : wr.heap.size + 1 ≤ (wr.alloc (.cells #[.int .i64 ya, .int .i64 yg, .int .i64 yt, .int .i64 yn, .string ys] 52)).heap.size := by simp
          clear eS hq hget
          go_upto_block 2 with (at_builtin; refine wpList_append_stk rfl _ _ rfl (wr.heap.size + 1) B _ 0 [] rfl (World.ownsRow_nil _ _ _ _) _ st rfl SS.out (by omega) hbW ?_)
          intro v2 w2 o2 b2 g2
          obtain ⟨pt, ct, rfl⟩ := lown_slice o2
          have OW : Aside (w2.ownsRow (wr.heap.size + 1) 3 1 (.slice pt st.length ct) st.length (intC st)) := o2
          have mw : ∀ o, w2.cell? ⟨wr.heap.size, o, none⟩ = (wr.alloc (.cells #[.int .i64 ya, .int .i64 yg, .int .i64 yt, .int .i64 yn, .string ys] 52)).cell? ⟨wr.heap.size, o, none⟩ := fun o => b2.cell (p := ⟨wr.heap.size, o, none⟩) (by simp)
          have m1 : w2.cell? ⟨wr.heap.size, 0, none⟩ = some (.int .i64 ya) := by rw [mw, World.cell?_alloc_at _ _ _ _ rfl]; rfl
          have m2 : w2.cell? ⟨wr.heap.size, 1, none⟩ = some (.int .i64 yg) := by rw [mw, World.cell?_alloc_at _ _ _ _ rfl]; rfl
          have m3 : w2.cell? ⟨wr.heap.size, 2, none⟩ = some (.int .i64 yt) := by rw [mw, World.cell?_alloc_at _ _ _ _ rfl]; rfl
          have m4 : w2.cell? ⟨wr.heap.size, 3, none⟩ = some (.int .i64 yn) := by rw [mw, World.cell?_alloc_at _ _ _ _ rfl]; rfl
          have m5 : w2.cell? ⟨wr.heap.size, 4, none⟩ = some (.string ys) := by rw [mw, World.cell?_alloc_at _ _ _ _ rfl]; rfl
          have bw2 : Below (wr.heap.size + 1) (wr.alloc (.cells #[.int .i64 ya, .int .i64 yg, .int .i64 yt, .int .i64 yn, .string ys] 52)) w2 := b2
          have K2 : Aside (KnAt w2 B ks1) := (KR.out.on (alB _ _)).on (by simpa using bw2)
          have B2 : Aside (Below w.heap.size w w2) := (BR.out.alloc hbr _).trans (bw2.mono (by omega))
          have C2 : Aside (ColsIn w2 cb co zs) := HC.out.on B2.out
          have hl2 : wr.heap.size < w2.heap.size := by have := bw2.size; simp at this; omega
          have BR0 : Aside (Below wr.heap.size wr w2) := (alB wr _).trans (bw2.mono (by omega))
          obtain ⟨X, hX⟩ : ∃ X, wr.heap.size = X := ⟨_, rfl⟩
          have HX : Hid (wr.heap.size = X) := hX
          have hBX0 : B < X := by omega
          rw [hX] at m1 m2 m3 m4 m5 hl2 OW ⊢
          clear o2 b2 g2 mw SS hbW d0 d1 d2 d3 d4 e0 e1 BR bw2
          obtain ⟨C, hC⟩ : ∃ C, needN (ya, yg, yt, yn, ys) = C := ⟨_, rfl⟩
          have HCN : Hid (needN (ya, yg, yt, yn, ys) = C) := hC
          have hC3 : C ≤ 3 := by
            rw [← hC, needN]
            split
            · exact cntN_le _
            split
            · omega
            · omega
          clear hC hX
          obtain ⟨AE, hAE⟩ : ∃ AE, argE (ya, yg, yt, yn, ys) zs.length ((ks1.length : Int) - 1 - ((kk : Int) + 1)) = AE := ⟨_, rfl⟩
          have HAE : Hid (argE (ya, yg, yt, yn, ys) zs.length ((ks1.length : Int) - 1 - ((kk : Int) + 1)) = AE) := hAE
          have ERR : Hid (AE ≠ 0 → kk = A ∧ AE = E ∧ 0 = T ∧ 0 = M) := fun h => by
            refine ver_err (K2 := ks1) (e := AE) ?_ h HE2.out HA.out HT.out HM.out
            rw [stepP_arg HG.out (by rw [hAE]; exact h), hAE]
          clear hAE
          go_upto_block 2 with fail
          go_cut [8, 14, 15, 16, 17] from 39 to 237 (fun _ s14 s15 _ _ wx => ∃ OP : ByteArray, s14 = .int .i64 (C : Int) ∧ s15 = .string OP ∧ Hid (ya = 3 → OP.data.toList = opN yg ∧ opE yg = 0) ∧ Hid (AE = 0) ∧ Aside (Below w2.heap.size w2 wx))
          case first => as_aux_lemma =>
            have hE0 := HAE.out
            rw [HL.out, show (((N + 1 : Nat) : Int) - 1 - ((kk : Int) + 1)) = (N : Int) - (kk : Int) - 1 by omega] at hE0
            have hn0 := HCN.out
            unfold argE at hE0
            unfold needN at hn0
            simp only at hE0 hn0
            have B2r : Aside (Below w.heap.size w w2) := B2
            clear HE2 HA HT HM HAE HCN OW K2 C2 TY HMF HG HZT HC KR BR0 HX
            by_cases a1 : ya = 1
            · subst a1
              rw [if_pos rfl] at hE0
              rw [if_neg (by decide), if_neg (by decide)] at hn0
              subst hn0
              have cV := refVal_any yt yn ys w2 hsz
              rw [hE0] at cV
              clear hE0
              by_cases hz0 : AE = 0
              · subst hz0
                go_wp2_with fail
                refine cV.mono ?_
                rintro e w3 ⟨rfl, b3⟩
                dsimp only
                go_wp2
                go_meet
                case rel => exact ⟨_, rfl, rfl, (show Hid _ from fun h => absurd h (by decide)), (show Hid _ from rfl), b3⟩
              · have hb : (AE != 0) = true := by simpa using hz0
                obtain ⟨rfl, rfl, rfl, rfl⟩ := ERR.out hz0
                clear hz0 ERR
                go_wp2_with fail
                refine cV.mono ?_
                rintro e w3 ⟨rfl, b3⟩
                have B3 := B2r.out.trans (b3.mono B2r.out.size)
                dsimp only
                go_wp2
                exact bodyPost_ret (v := .tuple #[.int .i64 kk, .int .i64 AE, .int .i64 0, .int .i64 0]) (by simp [results, Tryz.results17, go_sem]) rfl ⟨rfl, B3⟩
            rw [if_neg a1] at hE0
            have b1 : (ya == 1) = false := by simpa using a1
            by_cases a2 : ya = 2
            · subst a2
              rw [if_pos rfl] at hE0
              rw [if_neg (by decide), if_neg (by decide)] at hn0
              subst hn0
              by_cases h0 : 0 ≤ yg
              · by_cases h1 : yg < (zs.length : Int)
                · rw [if_pos ⟨h0, h1⟩] at hE0
                  subst hE0
                  go_wp2
                  go_meet
                  case rel => exact ⟨_, rfl, rfl, (show Hid _ from fun h => absurd h (by decide)), (show Hid _ from rfl), (show Aside _ from Below.refl _ _)⟩
                · have h1' : (zs.length : Int) ≤ yg := by omega
                  rw [if_neg (fun h => h1 h.2)] at hE0
                  subst hE0
                  obtain ⟨rfl, rfl, rfl, rfl⟩ := ERR.out (by decide)
                  clear ERR
                  go_wp2
                  exact bodyPost_ret (v := .tuple #[.int .i64 kk, .int .i64 1, .int .i64 0, .int .i64 0]) (by simp [results, Tryz.results17, go_sem]) rfl ⟨rfl, B2r.out⟩
              · have h0' : yg < 0 := by omega
                rw [if_neg (fun h => h0 h.1)] at hE0
                subst hE0
                obtain ⟨rfl, rfl, rfl, rfl⟩ := ERR.out (by decide)
                clear ERR
                go_wp2
                exact bodyPost_ret (v := .tuple #[.int .i64 kk, .int .i64 1, .int .i64 0, .int .i64 0]) (by simp [results, Tryz.results17, go_sem]) rfl ⟨rfl, B2r.out⟩
            rw [if_neg a2] at hE0
            have b2 : (ya == 2) = false := by simpa using a2
            by_cases a3 : ya = 3
            · subst a3
              rw [if_pos rfl] at hE0
              rw [if_pos rfl] at hn0
              have cO := refOp_any yg w2
              by_cases hz0 : AE = 0
              · subst hz0
                have cA := fun W => refArity_any ⟨(opN yg).toArray⟩ W
                have eA : arityT (⟨(opN yg).toArray⟩ : ByteArray).data.toList = (C : Int) := by
                  rw [show (⟨(opN yg).toArray⟩ : ByteArray).data.toList = opN yg from rfl, arity_cnt hE0, hn0]
                simp only [eA] at cA
                rw [show (opE yg == 0) = true by simpa using hE0] at cO
                have HO : Hid (opE yg = 0) := hE0
                clear hE0 hn0 eA
                go_wp2_with fail
                refine cO.mono ?_
                rintro e w3 ⟨rfl, b3⟩
                dsimp only
                go_wp2_with fail
                refine (cA w3).mono ?_
                rintro e w4 ⟨rfl, b4⟩
                dsimp only
                go_wp2
                go_meet
                case rel => exact ⟨_, rfl, rfl, (show Hid _ from fun _ => ⟨rfl, HO.out⟩), (show Hid _ from rfl), (show Aside _ from b3.trans (b4.mono b3.size))⟩
              · have h1 : AE = 1 := by
                  rw [← hE0]
                  rw [← hE0] at hz0
                  unfold opE at hz0 ⊢
                  split
                  · rename_i h; rw [if_pos h] at hz0; exact absurd rfl hz0
                  · rfl
                subst h1
                rw [show (opE yg == 0) = false by rw [hE0]; rfl] at cO
                obtain ⟨rfl, rfl, rfl, rfl⟩ := ERR.out (by decide)
                clear ERR hE0 hz0 hn0
                go_wp2_with fail
                refine cO.mono ?_
                rintro e w3 ⟨rfl, b3⟩
                have B3 := B2r.out.trans (b3.mono B2r.out.size)
                dsimp only
                go_wp2
                exact bodyPost_ret (v := .tuple #[.int .i64 kk, .int .i64 1, .int .i64 0, .int .i64 0]) (by simp [results, Tryz.results17, go_sem]) rfl ⟨rfl, B3⟩
            rw [if_neg a3] at hE0
            rw [if_neg a3] at hn0
            have b3 : (ya == 3) = false := by simpa using a3
            by_cases a4 : ya = 4 ∨ ya = 5
            · rw [if_pos a4] at hE0
              by_cases h0 : 0 ≤ yg
              · by_cases h1 : yg ≤ (N : Int) - (kk : Int) - 1
                · rw [if_pos ⟨h0, h1⟩] at hE0
                  subst hE0
                  rcases a4 with rfl | rfl
                  · rw [if_neg (by decide)] at hn0
                    subst hn0
                    clear b1 b2 b3 a1 a2 a3
                    go_wp2
                    go_meet
                    case rel => exact ⟨_, rfl, rfl, (show Hid _ from fun h => absurd h (by decide)), (show Hid _ from rfl), (show Aside _ from Below.refl _ _)⟩
                  · rw [if_pos (by decide)] at hn0
                    subst hn0
                    clear b1 b2 b3 a1 a2 a3
                    go_wp2
                    go_meet
                    case rel => exact ⟨_, rfl, rfl, (show Hid _ from fun h => absurd h (by decide)), (show Hid _ from rfl), (show Aside _ from Below.refl _ _)⟩
                · have h1' : (N : Int) - (kk : Int) - 1 < yg := by omega
                  rw [if_neg (fun h => h1 h.2)] at hE0
                  subst hE0
                  obtain ⟨rfl, rfl, rfl, rfl⟩ := ERR.out (by decide)
                  clear ERR hn0
                  rcases a4 with rfl | rfl
                  all_goals
                    clear b1 b2 b3 a1 a2 a3
                    go_wp2
                    exact bodyPost_ret (v := .tuple #[.int .i64 kk, .int .i64 1, .int .i64 0, .int .i64 0]) (by simp [results, Tryz.results17, go_sem]) rfl ⟨rfl, B2r.out⟩
              · have h0' : yg < 0 := by omega
                rw [if_neg (fun h => h0 h.1)] at hE0
                subst hE0
                obtain ⟨rfl, rfl, rfl, rfl⟩ := ERR.out (by decide)
                clear ERR hn0
                rcases a4 with rfl | rfl
                all_goals
                  clear b1 b2 b3 a1 a2 a3
                  go_wp2
                  exact bodyPost_ret (v := .tuple #[.int .i64 kk, .int .i64 1, .int .i64 0, .int .i64 0]) (by simp [results, Tryz.results17, go_sem]) rfl ⟨rfl, B2r.out⟩
            rw [if_neg a4] at hE0
            by_cases a6 : ya = 6 ∨ ya = 7
            · rw [if_pos a6] at hE0
              subst hE0
              rw [if_pos (by omega)] at hn0
              subst hn0
              rcases a6 with rfl | rfl
              all_goals
                clear b1 b2 b3 a1 a2 a3 a4
                go_wp2
                go_meet
                case rel => exact ⟨_, rfl, rfl, (show Hid _ from fun h => absurd h (by decide)), (show Hid _ from rfl), (show Aside _ from Below.refl _ _)⟩
            · rw [if_neg a6] at hE0
              subst hE0
              obtain ⟨rfl, rfl, rfl, rfl⟩ := ERR.out (by decide)
              have b4 : (ya == 4) = false := by simp; omega
              have b5 : (ya == 5) = false := by simp; omega
              have b6 : (ya == 6) = false := by simp; omega
              have b7 : (ya == 7) = false := by simp; omega
              clear ERR a1 a2 a3 a4 a6 hn0
              go_wp2
              exact bodyPost_ret (v := .tuple #[.int .i64 kk, .int .i64 1, .int .i64 0, .int .i64 0]) (by simp [results, Tryz.results17, go_sem]) rfl ⟨rfl, B2r.out⟩
          case rest =>
            obtain ⟨OP, rfl, rfl, HOP, HA0, BX⟩ := hcut
            rename World => wX
            have hbX := BX.out.size
            have mw : ∀ o, wX.cell? ⟨X, o, none⟩ = w2.cell? ⟨X, o, none⟩ := fun o => BX.out.cell (p := ⟨X, o, none⟩) hl2
            have n1 := (mw 0).trans m1
            have n2 := (mw 1).trans m2
            have n3 := (mw 2).trans m3
            have n4 := (mw 3).trans m4
            have n5 := (mw 4).trans m5
            have hlX : X < wX.heap.size := by omega
            have OWX : Aside (wX.ownsRow (X + 1) 3 1 (.slice pt st.length ct) st.length (intC st)) := lown_below OW.out BX.out
            have KX : Aside (KnAt wX B ks1) := K2.out.on BX.out
            have BXw : Aside (Below w.heap.size w wX) := B2.out.trans (BX.out.mono B2.out.size)
            have CX : Aside (ColsIn wX cb co zs) := C2.out.on BX.out
            have hBX : B < X + 1 := by omega
            have STX : Aside (StkAt wX B (.slice pt st.length ct) st) := own_stk rfl OWX.out hBX hs64
            have HG2 : Hid (argE (ya, yg, yt, yn, ys) zs.length ((ks1.length : Int) - 1 - ((kk : Int) + 1)) = 0) := by rw [← HA0.out]; exact HAE.out
            have ERR2 : ∀ e : Int, Hid (e ≠ 0 → (aftP st (ya, yg, yt, yn, ys) zs).2 = e → kk = A ∧ e = E ∧ 0 = T ∧ 0 = M) := fun e h h2 => by
              refine ver_err (K2 := ks1) (e := e) ?_ h HE2.out HA.out HT.out HM.out
              rw [stepP_rest HG.out HG2.out, if_pos (by rw [h2]; exact h), h2]
            have BRX : Aside (Below wr.heap.size wr wX) := BR0.out.trans (BX.out.mono BR0.out.size)
            clear m1 m2 m3 m4 m5 mw OW K2 B2 C2 BX ERR HAE BR0
            by_cases hlc : st.length < C
            · obtain ⟨rfl, rfl, rfl, rfl⟩ := (ERR2 6).out (by decide) (by rw [aft_six (by rw [HCN.out]; exact hlc)])
              have hlcz : (st.length : Int) < (C : Int) := by omega
              clear ERR2 HE2 HA HT HM
              go_wp2
              exact bodyPost_ret (v := .tuple #[.int .i64 kk, .int .i64 6, .int .i64 0, .int .i64 0]) (by simp [results, Tryz.results17, go_sem]) rfl ⟨rfl, BXw.out⟩
            have hlcz : ¬ (st.length : Int) < (C : Int) := by omega
            obtain ⟨l, hl⟩ : ∃ l, st.length = l + C := ⟨st.length - C, by omega⟩
            have HLs : Hid (st.length = l + C) := hl
            obtain ⟨p1, c1, r1, s1⟩ := stk_slice_l STX.out rfl (l := l) (by omega)
            have r2 := stk_slice_hp STX.out rfl (l := l) (by omega)
            rw [show st.length - l = C by omega] at r1 s1
            rw [show (l : Int) = (st.length : Int) - (C : Int) by omega] at r1 r2
            have S1 : Aside (IntsAt wX p1 (st.drop l)) := s1.ints
            have OL : Aside (wX.ownsRow (X + 1) 3 1 (.slice pt l ct) l (intC (st.take l))) := by
              have := own_short OWX.out (k := l) (by omega)
              rw [intC_take] at this
              exact this
            have hl64 : l ≤ 64 := by omega
            have HTL : Hid ((st.take l).length = l) := by show _ = _; rw [List.length_take]; omega
            have HDL : Hid ((st.drop l).length = C) := by show _ = _; rw [List.length_drop]; omega
            obtain ⟨⟨LY, EY⟩, hLY⟩ : ∃ r, layP (ya, yg, yt, yn, ys) (st.drop l) zs = r := ⟨_, rfl⟩
            have HLY : Hid (layP (ya, yg, yt, yn, ys) (st.drop l) zs = (LY, EY)) := hLY
            obtain ⟨LF, hLF⟩ : ∃ LF, st.take l ++ LY = LF := ⟨_, rfl⟩
            have HLF : Hid (st.take l ++ LY = LF) := hLF
            have HST : Hid (st.all isTy = true) := by
              have := at_ty TY.out kk
              rw [HG.out] at this
              exact this
            have ERR3 : Hid (EY ≠ 0 → kk = A ∧ EY = E ∧ 0 = T ∧ 0 = M) := fun h => by
              refine (ERR2 EY).out h ?_
              rw [aft_lay (by rw [HCN.out]; exact hlc) (by rw [HCN.out, show st.length - C = l by omega, hLY]; exact h), HCN.out, show st.length - C = l by omega, hLY]
            clear hl s1 OWX STX hLY hLF hlc
            go_upto_block 3 with fail
            go_cut [13, 19, 20, 21] from 39 to 237 (fun s13 _ _ _ wx => ∃ (pq : Option Addr) (cq : Nat), s13 = .slice pq LF.length cq ∧ Hid (EY = 0) ∧ Aside (wx.ownsRow (X + 1) 3 1 (.slice pq LF.length cq) LF.length (intC LF)) ∧ Aside (Below (X + 1) wX wx))
            case first => as_aux_lemma =>
              have hLY := HLY.out
              unfold layP at hLY
              simp only at hLY
              have hE0 := HG2.out
              unfold argE at hE0
              simp only at hE0
              clear HE2 HA HT HM HG2 HLY KX HMF HG HC HZT KR BRX HX
              by_cases a1 : ya = 1
              · subst a1
                rw [if_pos rfl] at hLY
                obtain ⟨rfl, rfl⟩ := Prod.mk.inj hLY
                have hlen : LF.length = l + 1 := by rw [← HLF.out, List.length_append, HTL.out]; rfl
                have SN : Aside (StkAt (wX.alloc (.cells #[.int .i64 yt] 3)) B (.slice (some ⟨wX.heap.size, 0, none⟩) 1 1) [yt]) := stk_lit1 wX B _ rfl yt _ (by omega)
                have hbs : X + 1 ≤ (wX.alloc (.cells #[.int .i64 yt] 3)).heap.size := by simp; omega
                clear hE0 hLY ERR2 ERR3
                go_wp2_with (at_builtin; refine wpList_append_stk rfl _ _ rfl (X + 1) B _ l (st.take l) rfl (OL.out.alloc _) _ [yt] rfl SN.out (by simp; omega) hbs ?_)
                intro v3 w3 o3 b3 g3
                obtain ⟨p3, c3, rfl⟩ := lown_slice o3
                have O3 : Aside (w3.ownsRow (X + 1) 3 1 (.slice p3 LF.length c3) LF.length (intC LF)) := by rw [hlen, ← HLF.out]; exact o3
                have B3 : Aside (Below (X + 1) wX w3) := ((Below.refl _ wX).alloc (by omega) _).trans b3
                have HL3 : Hid (LF.length = l + 1) := hlen
                clear o3 b3 g3 SN hlen
                go_wp2
                go_meet
                case rel => exact ⟨p3, c3, by rw [HL3.out], (show Hid _ from rfl), O3, B3⟩
              rw [if_neg a1] at hLY hE0
              have b1 : (ya == 1) = false := by simpa using a1
              by_cases a2 : ya = 2
              · subst a2
                rw [if_pos rfl] at hLY hE0
                have hg : 0 ≤ yg ∧ yg < (zs.length : Int) := Classical.byContradiction fun h => by rw [if_neg h] at hE0; exact absurd hE0 (by decide)
                obtain ⟨mm, rfl⟩ : ∃ mm : Nat, yg = mm := ⟨yg.toNat, by omega⟩
                have hmm : mm < zs.length := by omega
                rw [Int.toNat_natCast, List.getElem?_eq_getElem hmm, Option.getD_some] at hLY
                have cc1 := (CX.out.2 mm hmm).2
                have hcbl := CX.out.1
                generalize zs[mm].2 = TT at cc1 hLY
                obtain ⟨rfl, rfl⟩ := Prod.mk.inj hLY
                have g0 : (0 : Int) ≤ (mm : Int) := hg.1
                have g1 : (mm : Int) < (zs.length : Int) := hg.2
                have hlen : LF.length = l + 1 := by rw [← HLF.out, List.length_append, HTL.out]; rfl
                have SN : Aside (StkAt (wX.alloc (.cells #[.int .i64 TT] 3)) B (.slice (some ⟨wX.heap.size, 0, none⟩) 1 1) [TT]) := stk_lit1 wX B _ rfl TT _ (by omega)
                have hbs : X + 1 ≤ (wX.alloc (.cells #[.int .i64 TT] 3)).heap.size := by simp; omega
                clear hE0 hLY ERR2 ERR3 hg
                go_wp2_with (at_builtin; refine wpList_append_stk rfl _ _ rfl (X + 1) B _ l (st.take l) rfl (OL.out.alloc _) _ [TT] rfl SN.out (by simp; omega) hbs ?_)
                intro v3 w3 o3 b3 g3
                obtain ⟨p3, c3, rfl⟩ := lown_slice o3
                have O3 : Aside (w3.ownsRow (X + 1) 3 1 (.slice p3 LF.length c3) LF.length (intC LF)) := by rw [hlen, ← HLF.out]; exact o3
                have B3 : Aside (Below (X + 1) wX w3) := ((Below.refl _ wX).alloc (by omega) _).trans b3
                have HL3 : Hid (LF.length = l + 1) := hlen
                clear o3 b3 g3 SN hlen
                go_wp2
                go_meet
                case rel => exact ⟨p3, c3, by rw [HL3.out], (show Hid _ from rfl), O3, B3⟩
              rw [if_neg a2] at hLY hE0
              have b2 : (ya == 2) = false := by simpa using a2
              by_cases a3 : ya = 3
              · subst a3
                rw [if_pos rfl] at hLY
                obtain ⟨hop1, hop2⟩ := HOP.out rfl
                obtain ⟨TT, hTT⟩ : ∃ TT, (ruleP (opN yg) (st.drop l)).1 = TT := ⟨_, rfl⟩
                rw [hTT] at hLY
                obtain ⟨rfl, hE2⟩ := Prod.mk.inj hLY
                have hR : ruleP OP.data.toList (st.drop l) = (TT, EY) := by rw [hop1]; exact Prod.ext hTT hE2
                have cR := refRule_any OP p1 c1 C (st.drop l) wX HDL.out (by omega) S1.out TT EY hR
                have h08 : EY = 0 ∨ EY = 8 := by
                  rw [← hE2]
                  rcases rule_eight hop2 (all_drop HST.out l) (by rw [HDL.out, ← HCN.out, needN, if_pos rfl]) with h | h
                  · exact .inl h.1
                  · exact .inr h
                have hlen : LF.length = l + 1 := by rw [← HLF.out, List.length_append, HTL.out]; rfl
                have HL3 : Hid (LF.length = l + 1) := hlen
                clear hE0 hLY hTT hE2 hR hop1 hop2 HOP hlen
                rcases h08 with rfl | rfl
                · clear ERR2 ERR3
                  go_wp2_with fail
                  refine cR.mono ?_
                  rintro e w4 ⟨rfl, b4⟩
                  have hb4 := b4.size
                  have OL4 := lown_below OL.out b4
                  have SN : Aside (StkAt (w4.alloc (.cells #[.int .i64 TT] 3)) B (.slice (some ⟨w4.heap.size, 0, none⟩) 1 1) [TT]) := stk_lit1 w4 B _ rfl TT _ (by omega)
                  have hbs : X + 1 ≤ (w4.alloc (.cells #[.int .i64 TT] 3)).heap.size := by simp; omega
                  have A4 : Aside (Below wX.heap.size wX w4) := b4
                  clear b4 cR
                  dsimp only
                  go_wp2_with (at_builtin; refine wpList_append_stk rfl _ _ rfl (X + 1) B _ l (st.take l) rfl (OL4.alloc _) _ [TT] rfl SN.out (by simp; omega) hbs ?_)
                  intro v3 w3 o3 b3 g3
                  obtain ⟨p3, c3, rfl⟩ := lown_slice o3
                  have O3 : Aside (w3.ownsRow (X + 1) 3 1 (.slice p3 LF.length c3) LF.length (intC LF)) := by rw [HL3.out, ← HLF.out]; exact o3
                  have B3 : Aside (Below (X + 1) wX w3) := ((A4.out.mono (by omega)).alloc (by omega) _).trans b3
                  clear o3 b3 g3 SN
                  go_wp2
                  go_meet
                  case rel => exact ⟨p3, c3, by rw [HL3.out], (show Hid _ from rfl), O3, B3⟩
                · obtain ⟨rfl, rfl, rfl, rfl⟩ := ERR3.out (by decide)
                  clear ERR2 ERR3
                  go_wp2_with fail
                  refine cR.mono ?_
                  rintro e w4 ⟨rfl, b4⟩
                  have B4 := BXw.out.trans (b4.mono BXw.out.size)
                  dsimp only
                  go_wp2
                  exact bodyPost_ret (v := .tuple #[.int .i64 kk, .int .i64 8, .int .i64 0, .int .i64 0]) (by simp [results, Tryz.results17, go_sem]) rfl ⟨rfl, B4⟩
              rw [if_neg a3] at hLY
              have b3 : (ya == 3) = false := by simpa using a3
              by_cases a5 : ya = 5
              · subst a5
                rw [if_pos rfl] at hLY
                have hCe : C = 1 := by rw [← HCN.out]; rfl
                subst hCe
                have hd := HDL.out
                obtain ⟨x, hx⟩ : ∃ x, st.drop l = [x] := by
                  match st.drop l, hd with
                  | [x], _ => exact ⟨x, rfl⟩
                rw [hx] at hLY
                have S1' := S1.out
                rw [hx] at S1'
                obtain ⟨gb, go, rfl, hgl, cx⟩ := one_at S1'
                simp only [List.headD_cons] at hLY
                clear S1 S1' hx hd HDL
                by_cases hx2 : x = 2
                · subst hx2
                  have hL2 : (([] : List Int), (0 : Int)) = (LY, EY) := by simpa using hLY
                  obtain ⟨rfl, rfl⟩ := Prod.mk.inj hL2
                  have hlen : LF.length = l := by rw [← HLF.out, List.append_nil]; exact HTL.out
                  have O3 : Aside (wX.ownsRow (X + 1) 3 1 (.slice pt LF.length ct) LF.length (intC LF)) := by rw [hlen, ← HLF.out, List.append_nil]; exact OL.out
                  have HL3 : Hid (LF.length = l) := hlen
                  clear hLY hL2 ERR2 ERR3 hlen
                  go_wp2
                  go_meet
                  case rel => exact ⟨pt, ct, by rw [HL3.out], (show Hid _ from rfl), O3, (show Aside _ from Below.refl _ _)⟩
                · have hL2 : (([] : List Int), (8 : Int)) = (LY, EY) := by simpa [hx2] using hLY
                  obtain ⟨rfl, rfl⟩ := Prod.mk.inj hL2
                  have hxb : (x != 2) = true := by simpa using hx2
                  obtain ⟨rfl, rfl, rfl, rfl⟩ := ERR3.out (by decide)
                  clear hLY hL2 ERR2 ERR3 hx2
                  go_wp2
                  exact bodyPost_ret (v := .tuple #[.int .i64 kk, .int .i64 8, .int .i64 0, .int .i64 0]) (by simp [results, Tryz.results17, go_sem]) rfl ⟨rfl, BXw.out⟩
              rw [if_neg a5] at hLY
              have b5 : (ya == 5) = false := by simpa using a5
              by_cases a6 : ya = 6
              · subst a6
                rw [if_pos rfl] at hLY
                have hCe : C = 1 := by rw [← HCN.out]; rfl
                subst hCe
                have hd := HDL.out
                obtain ⟨x, hx⟩ : ∃ x, st.drop l = [x] := by
                  match st.drop l, hd with
                  | [x], _ => exact ⟨x, rfl⟩
                rw [hx] at hLY
                have S1' := S1.out
                rw [hx] at S1'
                obtain ⟨gb, go, rfl, hgl, cx⟩ := one_at S1'
                simp only [List.headD_cons] at hLY
                obtain ⟨rfl, rfl⟩ := Prod.mk.inj hLY
                have hlen : LF.length = l + 1 + 1 := by rw [← HLF.out, List.length_append, HTL.out]; rfl
                have HL3 : Hid (LF.length = l + 1 + 1) := hlen
                have SN : Aside (StkAt (wX.alloc (.cells #[.int .i64 x] 3)) B (.slice (some ⟨wX.heap.size, 0, none⟩) 1 1) [x]) := stk_lit1 wX B _ rfl x _ (by omega)
                have hbs : X + 1 ≤ (wX.alloc (.cells #[.int .i64 x] 3)).heap.size := by simp; omega
                clear S1 S1' hx hd HDL hLY ERR2 ERR3 hlen
                go_wp2_with (at_builtin; refine wpList_append_stk rfl _ _ rfl (X + 1) B _ l (st.take l) rfl (OL.out.alloc _) _ [x] rfl SN.out (by simp; omega) hbs ?_)
                intro v3 w3 o3 b3 g3
                obtain ⟨p3, c3, rfl⟩ := lown_slice o3
                have O3 : Aside (w3.ownsRow (X + 1) 3 1 (.slice p3 (l + 1) c3) (l + 1) (intC (st.take l ++ [x]))) := o3
                have B3 : Aside (Below (X + 1) wX w3) := ((Below.refl _ wX).alloc (by omega) _).trans b3
                have hs3 := B3.out.size
                clear o3 b3 g3 SN hbs
                have SN : Aside (StkAt (w3.alloc (.cells #[.int .i64 x] 3)) B (.slice (some ⟨w3.heap.size, 0, none⟩) 1 1) [x]) := stk_lit1 w3 B _ rfl x _ (by omega)
                have hbs : X + 1 ≤ (w3.alloc (.cells #[.int .i64 x] 3)).heap.size := by simp; omega
                go_wp2_with (at_builtin; refine wpList_append_stk rfl _ _ rfl (X + 1) B _ (l + 1) (st.take l ++ [x]) rfl (O3.out.alloc _) _ [x] rfl SN.out (by simp; omega) hbs ?_)
                intro v4 w4 o4 b4 g4
                obtain ⟨p4, c4, rfl⟩ := lown_slice o4
                have O4 : Aside (w4.ownsRow (X + 1) 3 1 (.slice p4 LF.length c4) LF.length (intC LF)) := by
                  rw [HL3.out, ← HLF.out, show st.take l ++ [x, x] = st.take l ++ [x] ++ [x] by simp]; exact o4
                have B4 : Aside (Below (X + 1) wX w4) := (B3.out.alloc (by omega) _).trans b4
                clear o4 b4 g4 SN hbs O3 B3
                go_wp2
                go_meet
                case rel => exact ⟨p4, c4, by rw [HL3.out], (show Hid _ from rfl), O4, B4⟩
              rw [if_neg a6] at hLY
              have b6 : (ya == 6) = false := by simpa using a6
              obtain ⟨rfl, rfl⟩ := Prod.mk.inj hLY
              have hlen : LF.length = l := by rw [← HLF.out, List.append_nil]; exact HTL.out
              have O3 : Aside (wX.ownsRow (X + 1) 3 1 (.slice pt LF.length ct) LF.length (intC LF)) := by rw [hlen, ← HLF.out, List.append_nil]; exact OL.out
              have HL3 : Hid (LF.length = l) := hlen
              clear hLY hE0 ERR2 ERR3 hlen a1 a2 a3 a5 a6
              go_wp2
              go_meet
              case rel => exact ⟨pt, ct, by rw [HL3.out], (show Hid _ from rfl), O3, (show Aside _ from Below.refl _ _)⟩
            case rest =>
              obtain ⟨pq, cq2, rfl, HE0, OF, BF⟩ := hcut
              rename World => wY
              have hbF := BF.out.size
              have mw : ∀ o, wY.cell? ⟨X, o, none⟩ = wX.cell? ⟨X, o, none⟩ := fun o => BF.out.cell (p := ⟨X, o, none⟩) (by simp)
              have y1 := (mw 0).trans n1
              have y2 := (mw 1).trans n2
              have hlY : X < wY.heap.size := by omega
              have KY : Aside (KnAt wY B ks1) := KR.out.on (BRX.out.trans (BF.out.mono (by rw [HX.out]; omega)))
              have BY : Aside (Below w.heap.size w wY) := BXw.out.trans (BF.out.mono (by omega))
              have hlF : LF.length = l + LY.length := by rw [← HLF.out, List.length_append, HTL.out]
              have hnl : ¬ st.length < needN (ya, yg, yt, yn, ys) := by rw [HCN.out]; have := HLs.out; omega
              have hsub : st.length - needN (ya, yg, yt, yn, ys) = l := by rw [HCN.out]; have := HLs.out; omega
              have hly2 : (layP (ya, yg, yt, yn, ys) (st.drop (st.length - needN (ya, yg, yt, yn, ys))) zs).2 = 0 := by rw [hsub, HLY.out]; exact HE0.out
              have hly1 : (layP (ya, yg, yt, yn, ys) (st.drop (st.length - needN (ya, yg, yt, yn, ys))) zs).1 = LY := by rw [hsub, HLY.out]
              clear mw n1 n2 n3 n4 n5 ERR3 OL S1 r1 r2 KX BXw BF CX HOP KR BRX
              by_cases hF : 64 < LF.length
              · obtain ⟨rfl, rfl, rfl, rfl⟩ := (ERR2 4).out (by decide) (by rw [aft_full hnl hly2 (by rw [hly1, hsub]; omega)])
                have hFz : (64 : Int) < (LF.length : Int) := by omega
                clear ERR2 HE2 HA HT HM hly1 hly2 hsub hnl hlF hF
                go_wp2
                exact bodyPost_ret (v := .tuple #[.int .i64 kk, .int .i64 4, .int .i64 0, .int .i64 0]) (by simp [results, Tryz.results17, go_sem]) rfl ⟨rfl, BY.out⟩
              have hFz : ¬ (64 : Int) < (LF.length : Int) := by omega
              have haft : aftP st (ya, yg, yt, yn, ys) zs = (LF, 0) := by rw [aft_ok hnl hly2 (by rw [hly1, hsub]; omega), hly1, hsub, HLF.out]
              have SF : Aside (StkAt wY B (.slice pq LF.length cq2) LF) := own_stk rfl OF.out hBX (by omega)
              have hF64 : LF.length ≤ 64 := by omega
              obtain ⟨M2, hM2⟩ : ∃ M2, max m (LF.length : Int) = M2 := ⟨_, rfl⟩
              have HM2 : Hid (max m (LF.length : Int) = M2) := hM2
              have hM2b : 0 ≤ M2 ∧ M2 ≤ 64 := by omega
              have hstp : stepP zs ks1 kk (ya, yg, yt, yn, ys) = stepR ks1 (goP LF (leadP (ya, yg, yt, yn, ys) (kk + 1)) ks1) := by rw [stepP_rest HG.out HG2.out, haft, if_neg (by simp)]
              have hlt2 : ∀ t ∈ leadP (ya, yg, yt, yn, ys) (kk + 1), t < ks1.length := by
                have h := HG2.out
                exact lead_lt (by rw [HL.out]; omega) h
              have NX : Hid (∀ K3, goP LF (leadP (ya, yg, yt, yn, ys) (kk + 1)) ks1 = some K3 → loopP zs K3 (kk + 1) (is.drop (kk + 1)) = R ∧ AllTy K3 ∧ mostF 0 K3 = M2 ∧ K3.length = N + 1) := fun K3 h => by
                rw [h, stepR] at hstp
                have h1 := HE2.out
                rw [hstp, if_neg (by simp)] at h1
                have h2 := stepP_ty (zs := zs) (ks := ks1) (k := kk) (i := (ya, yg, yt, yn, ys)) HZT.out TY.out
                rw [hstp] at h2
                exact ⟨h1, h2, by rw [mostF_go (lead_ne _ _) hlt2 h, HMF.out]; exact hM2, by rw [goP_len h]; exact HL.out⟩
              have ER4 : Hid (goP LF (leadP (ya, yg, yt, yn, ys) (kk + 1)) ks1 = none → kk = A ∧ 3 = E ∧ 0 = T ∧ 0 = M) := fun h => by
                rw [h, stepR] at hstp
                exact ver_err hstp (by decide) HE2.out HA.out HT.out HM.out
              have HGB : Hid ((ya = 4 ∨ ya = 5) → 0 ≤ yg ∧ yg ≤ (N : Int) - (kk : Int) - 1) := fun h => by
                have h1 := HG2.out
                rw [HL.out, show (((N + 1 : Nat) : Int) - 1 - ((kk : Int) + 1)) = (N : Int) - (kk : Int) - 1 by omega] at h1
                unfold argE at h1
                simp only at h1
                rw [if_neg (by omega), if_neg (by omega), if_neg (by omega), if_pos h] at h1
                exact Classical.byContradiction fun hn => by rw [if_neg hn] at h1; exact absurd h1 (by decide)
              have hXB : X ≠ B := by omega
              clear ERR2 HE2 HA HT HM hly1 hly2 hsub hnl hlF hF haft hstp hlt2 hM2 HE0 OF HLY HLF HG2 HG HST HZT TY HMF HTL HDL HLs HCN HA0 HC HZ HI
              go_upto_if 205 with fail
              go_cut [10] from 39 to 237 (fun s10 wx => s10 = .int .i64 M2 ∧ wx = wY)
              case first => as_aux_lemma =>
                by_cases hmx : m < (LF.length : Int)
                · have e : (LF.length : Int) = M2 := by rw [← HM2.out]; omega
                  go_wp2
                  go_meet
                  case rel => exact ⟨rfl, rfl⟩
                · have e : m = M2 := by rw [← HM2.out]; omega
                  go_wp2
                  go_meet
                  case rel => exact ⟨rfl, rfl⟩
              case rest => as_aux_lemma =>
                obtain ⟨rfl, hwc⟩ := hcut
                obtain rfl : wY = _ := hwc.symm
                clear hwc HM2
                have RC : ∀ (W : World) (ks : List Pl) (t : Nat), KnAt W B ks → StkAt W B (.slice pq LF.length cq2) LF → ks.length = N + 1 → t < N + 1 → (∃ s, ks[t]? = some (some s) ∧ s ≠ LF ∧ Calls Tryz.prog 44 #[.slice (some ⟨B, 0, none⟩) (N + 1) (N + 1), .int .i64 (t : Int), .slice pq LF.length cq2] W fun e w' => e = .returned (.bool false) ∧ Aside (But B W w')) ∨ ((∀ ts, goP LF (t :: ts) ks = goP LF ts (ks.set t (some LF))) ∧ Calls Tryz.prog 44 #[.slice (some ⟨B, 0, none⟩) (N + 1) (N + 1), .int .i64 (t : Int), .slice pq LF.length cq2] W fun e w' => e = .returned (.bool true) ∧ Aside (KnAt w' B (ks.set t (some LF))) ∧ Aside (But B W w')) := fun W ks t hk hs hl ht => by
                  have htl : t < ks.length := by omega
                  have hg : ks[t]? = some ks[t] := List.getElem?_eq_getElem htl
                  by_cases hb : (ks[t].isSome = true ∧ ks[t].getD [] ≠ LF)
                  · refine .inl ?_
                    obtain ⟨s, hs1⟩ := Option.isSome_iff_exists.1 hb.1
                    refine ⟨s, by rw [hg, hs1], by have := hb.2; rw [hs1] at this; exact this, ?_⟩
                    refine (reach_any ks B (N + 1) (N + 1) t _ LF W hl hk ht (by omega) hs ks[t] hg false ⟨fun _ => rfl, fun _ => hb⟩).mono ?_
                    rintro e w' ⟨rfl, _, h2⟩
                    exact ⟨rfl, h2⟩
                  · refine .inr ⟨fun ts => by rw [goP, hg, Option.getD_some, if_neg hb], ?_⟩
                    refine (reach_any ks B (N + 1) (N + 1) t _ LF W hl hk ht (by omega) hs ks[t] hg true ⟨fun h => absurd h hb, fun h => absurd h (by decide)⟩).mono ?_
                    rintro e w' ⟨rfl, h1, h2⟩
                    exact ⟨rfl, (show Aside _ from h1.out rfl), h2⟩
                have GN : ∀ (ks : List Pl) (t : Nat) (ts : List Nat) (s : List Int), ks[t]? = some (some s) → s ≠ LF → goP LF (t :: ts) ks = none := fun ks t ts s h1 h2 => by
                  rw [goP, h1, Option.getD_some, if_pos ⟨rfl, h2⟩]
                by_cases a4 : ya = 4
                · subst a4
                  have hgb := HGB.out (.inl rfl)
                  obtain ⟨mm, rfl⟩ : ∃ mm : Nat, yg = mm := ⟨yg.toNat, by omega⟩
                  have hld : leadP (4, (mm : Int), yt, yn, ys) (kk + 1) = [kk + 1 + mm] := by rw [leadP, if_pos rfl]; rfl
                  rw [hld] at NX ER4
                  have ce : ((kk + 1 + mm : Nat) : Int) = (kk : Int) + 1 + (mm : Int) := by omega
                  rcases RC wY ks1 (kk + 1 + mm) KY.out SF.out HL.out (by omega) with ⟨s, g1, g2, cR⟩ | ⟨g1, cR⟩
                  · obtain ⟨rfl, rfl, rfl, rfl⟩ := ER4.out (GN _ _ _ _ g1 g2)
                    rw [ce] at cR
                    clear NX ER4 RC GN hld HGB
                    go_wp2_with fail
                    refine cR.mono ?_
                    rintro e w3 ⟨rfl, BP⟩
                    have B3 : Below w.heap.size w w3 := BY.out.trans (BP.out.below.mono hs1)
                    dsimp only
                    go_wp2
                    exact bodyPost_ret (v := .tuple #[.int .i64 kk, .int .i64 3, .int .i64 0, .int .i64 0]) (by simp [results, Tryz.results17, go_sem]) rfl ⟨rfl, B3⟩
                  · obtain ⟨f1, f2, f3, f4⟩ := NX.out _ ((g1 []).trans rfl)
                    have F1 : Hid (loopP zs (ks1.set (kk + 1 + mm) (some LF)) (kk + 1) (is.drop (kk + 1)) = R) := f1
                    have F2 : Aside (AllTy (ks1.set (kk + 1 + mm) (some LF))) := f2
                    have F3 : Hid (mostF 0 (ks1.set (kk + 1 + mm) (some LF)) = M2) := f3
                    have F4 : Hid ((ks1.set (kk + 1 + mm) (some LF)).length = N + 1) := f4
                    rw [ce] at cR
                    clear NX ER4 RC GN hld HGB f1 f2 f3 f4 g1
                    go_wp2_with fail
                    refine cR.mono ?_
                    rintro e w3 ⟨rfl, KP, BP⟩
                    have B3 : Aside (Below w.heap.size w w3) := BY.out.trans (BP.out.below.mono hs1)
                    have z1 : w3.cell? ⟨X, 0, none⟩ = some (.int .i64 4) := by rw [BP.out.cell 0 hlY hXB]; exact y1
                    have hz3 : X < w3.heap.size := by have := BP.out.size; omega
                    dsimp only
                    go_wp2
                    go_roundg (N - (kk + 1))
                    case measure => omega
                    case rel => exact ⟨kk + 1, _, M2, by omega, by omega, by go_num, rfl, hM2b, KP, B3, F4, F3, F2, F1⟩
                have b4 : (ya == 4) = false := by simpa using a4
                have b4n : (ya != 4) = true := by simpa using a4
                by_cases a5 : ya = 5
                · subst a5
                  have hgb := HGB.out (.inr rfl)
                  obtain ⟨mm, rfl⟩ : ∃ mm : Nat, yg = mm := ⟨yg.toNat, by omega⟩
                  have hld : leadP (5, (mm : Int), yt, yn, ys) (kk + 1) = [kk + 1, kk + 1 + mm] := by rw [leadP, if_neg (by show ¬ (5 : Int) = 4; decide), if_pos rfl]; rfl
                  rw [hld, goP_two] at NX ER4
                  have ce : ((kk + 1 + mm : Nat) : Int) = (kk : Int) + 1 + (mm : Int) := by omega
                  have ce2 : ((kk + 1 : Nat) : Int) = (kk : Int) + 1 := by omega
                  rcases RC wY ks1 (kk + 1 + mm) KY.out SF.out HL.out (by omega) with ⟨s, g1, g2, cR⟩ | ⟨g1, cR⟩
                  · obtain ⟨rfl, rfl, rfl, rfl⟩ := ER4.out (GN _ _ _ _ g1 g2)
                    rw [ce] at cR
                    clear NX ER4 RC GN hld HGB
                    go_wp2_with fail
                    refine cR.mono ?_
                    rintro e w3 ⟨rfl, BP⟩
                    have B3 : Below w.heap.size w w3 := BY.out.trans (BP.out.below.mono hs1)
                    dsimp only
                    go_wp2
                    exact bodyPost_ret (v := .tuple #[.int .i64 kk, .int .i64 3, .int .i64 0, .int .i64 0]) (by simp [results, Tryz.results17, go_sem]) rfl ⟨rfl, B3⟩
                  · rw [ce] at cR
                    clear hld HGB b4 b4n
                    go_wp2_with fail
                    refine cR.mono ?_
                    rintro e w3 ⟨rfl, KP, BP⟩
                    have B3 : Aside (Below w.heap.size w w3) := BY.out.trans (BP.out.below.mono hs1)
                    have z1 : w3.cell? ⟨X, 0, none⟩ = some (.int .i64 5) := by rw [BP.out.cell 0 hlY hXB]; exact y1
                    have hz3 : X < w3.heap.size := by have := BP.out.size; omega
                    dsimp only
                    rcases RC w3 (ks1.set (kk + 1 + mm) (some LF)) (kk + 1) KP.out (SF.out.but BP.out) (by rw [List.length_set]; exact HL.out) (by omega) with ⟨s, h1, h2, cR2⟩ | ⟨h1, cR2⟩
                    · obtain ⟨rfl, rfl, rfl, rfl⟩ := ER4.out ((g1 _).trans (GN _ _ _ _ h1 h2))
                      rw [ce2] at cR2
                      clear NX ER4 RC GN g1 h1 h2 cR KP BP
                      go_wp2_with fail
                      refine cR2.mono ?_
                      rintro e w4 ⟨rfl, BP2⟩
                      have B4 : Below w.heap.size w w4 := B3.out.trans (BP2.out.below.mono hs1)
                      dsimp only
                      go_wp2
                      exact bodyPost_ret (v := .tuple #[.int .i64 kk, .int .i64 3, .int .i64 0, .int .i64 0]) (by simp [results, Tryz.results17, go_sem]) rfl ⟨rfl, B4⟩
                    · obtain ⟨f1, f2, f3, f4⟩ := NX.out _ ((g1 _).trans ((h1 []).trans rfl))
                      have F1 : Hid (loopP zs ((ks1.set (kk + 1 + mm) (some LF)).set (kk + 1) (some LF)) (kk + 1) (is.drop (kk + 1)) = R) := f1
                      have F2 : Aside (AllTy ((ks1.set (kk + 1 + mm) (some LF)).set (kk + 1) (some LF))) := f2
                      have F3 : Hid (mostF 0 ((ks1.set (kk + 1 + mm) (some LF)).set (kk + 1) (some LF)) = M2) := f3
                      have F4 : Hid (((ks1.set (kk + 1 + mm) (some LF)).set (kk + 1) (some LF)).length = N + 1) := f4
                      rw [ce2] at cR2
                      clear NX ER4 RC GN g1 h1 cR KP BP f1 f2 f3 f4
                      go_wp2_with fail
                      refine cR2.mono ?_
                      rintro e w4 ⟨rfl, KP2, BP2⟩
                      have B4 : Aside (Below w.heap.size w w4) := B3.out.trans (BP2.out.below.mono hs1)
                      dsimp only
                      go_wp2
                      go_roundg (N - (kk + 1))
                      case measure => omega
                      case rel => exact ⟨kk + 1, _, M2, by omega, by omega, by go_num, rfl, hM2b, KP2, B4, F4, F3, F2, F1⟩
                have b5 : (ya == 5) = false := by simpa using a5
                have hld : leadP (ya, yg, yt, yn, ys) (kk + 1) = [kk + 1] := by rw [leadP, if_neg a4, if_neg a5]
                rw [hld] at NX ER4
                have ce2 : ((kk + 1 : Nat) : Int) = (kk : Int) + 1 := by omega
                clear HGB hld
                rcases RC wY ks1 (kk + 1) KY.out SF.out HL.out (by omega) with ⟨s, g1, g2, cR⟩ | ⟨g1, cR⟩
                · obtain ⟨rfl, rfl, rfl, rfl⟩ := ER4.out (GN _ _ _ _ g1 g2)
                  rw [ce2] at cR
                  clear NX ER4 RC GN a4 a5
                  go_wp2_with fail
                  refine cR.mono ?_
                  rintro e w3 ⟨rfl, BP⟩
                  have B3 : Below w.heap.size w w3 := BY.out.trans (BP.out.below.mono hs1)
                  dsimp only
                  go_wp2
                  exact bodyPost_ret (v := .tuple #[.int .i64 kk, .int .i64 3, .int .i64 0, .int .i64 0]) (by simp [results, Tryz.results17, go_sem]) rfl ⟨rfl, B3⟩
                · obtain ⟨f1, f2, f3, f4⟩ := NX.out _ ((g1 []).trans rfl)
                  have F1 : Hid (loopP zs (ks1.set (kk + 1) (some LF)) (kk + 1) (is.drop (kk + 1)) = R) := f1
                  have F2 : Aside (AllTy (ks1.set (kk + 1) (some LF))) := f2
                  have F3 : Hid (mostF 0 (ks1.set (kk + 1) (some LF)) = M2) := f3
                  have F4 : Hid ((ks1.set (kk + 1) (some LF)).length = N + 1) := f4
                  rw [ce2] at cR
                  clear NX ER4 RC GN a4 a5 f1 f2 f3 f4 g1
                  go_wp2_with fail
                  refine cR.mono ?_
                  rintro e w3 ⟨rfl, KP, BP⟩
                  have B3 : Aside (Below w.heap.size w w3) := BY.out.trans (BP.out.below.mono hs1)
                  dsimp only
                  go_wp2
                  go_roundg (N - (kk + 1))
                  case measure => omega
                  case rel => exact ⟨kk + 1, _, M2, by omega, by omega, by go_num, rfl, hM2b, KP, B3, F4, F3, F2, F1⟩
      · have hltz : ¬ (kk : Int) < (N : Int) := by omega
        obtain rfl : kk = N := by omega
        have hR2 := HE.out
        rw [List.drop_eq_nil_of_le (by rw [HN.out]; omega), loopP] at hR2
        subst hR2
        have hNl : kk < ks1.length := by rw [HL.out]; omega
        obtain ⟨pT, cT, e0, e1, eS⟩ := KR.out.at kk hNl
        have hget : ks1[kk]? = some ks1[kk] := List.getElem?_eq_getElem hNl
        generalize ks1[kk] = y at e0 e1 eS hget
        have h0z : (0 : Int) ≤ (kk : Int) := by omega
        have h1z : (kk : Int) < (kk : Int) + 1 := by omega
        have B1 : Aside (Below w.heap.size w wr) := BR
        by_cases hone : (y.getD []).length = 1
        · have he : endP (ks1, kk, 0) = (ks1, 0, 0) := by
            rw [endP, if_neg (by simp)]
            simp only
            rw [hget, Option.getD_some, if_neg (by simpa using hone)]
          have hA := HA.out
          have hT := HT.out
          have hM := HM.out
          rw [he] at hA hT hM
          obtain ⟨rfl, rfl⟩ := Prod.mk.inj hA
          rw [mostP, if_neg (by simp)] at hM
          have hM2 : m = M := by rw [← HMF.out]; exact hM
          rw [typP, if_neg (by simp)] at hT
          simp only at hT
          rw [HN.out, hget] at hT
          cases y with
          | none => simp at hone
          | some s =>
            match s, hone with
            | [t], _ =>
              simp only [Option.getD_some, List.headD_cons] at hT
              subst hT hM2
              simp only [Option.isSome_some, Option.getD_some, List.length_singleton] at e0 e1 eS
              obtain ⟨gb, go, rfl, hgl, dc⟩ := one_at eS.ints
              clear HE eS he hget HA HT HM HMF hA hM
              go_wp2_with fail
              go_quiet (fail)
              go_wp2
              exact bodyPost_ret (v := .tuple #[.int .i64 0, .int .i64 0, .int .i64 t, .int .i64 m]) (by simp [results, Tryz.results17, go_sem]) rfl ⟨rfl, below_drewN B1.out _⟩
        · have he : endP (ks1, kk, 0) = ([], kk, 3) := by
            rw [endP, if_neg (by simp)]
            simp only
            rw [hget, Option.getD_some, if_pos hone]
          have hA := HA.out
          have hT := HT.out
          have hM := HM.out
          rw [he] at hA hT hM
          obtain ⟨rfl, rfl⟩ := Prod.mk.inj hA
          rw [mostP, if_pos (by show ¬ (3 : Int) = 0; decide)] at hM
          rw [typP, if_pos (by show ¬ (3 : Int) = 0; decide)] at hT
          subst hT hM
          have hob : (((y.getD []).length : Int) != 1) = true := by simp; omega
          clear HE eS he hget HA HT HM HMF hA hone
          cases y with
          | none =>
            simp only [Option.isSome_none] at e0
            clear e1 hob
            go_wp2
            exact bodyPost_ret (v := .tuple #[.int .i64 kk, .int .i64 3, .int .i64 0, .int .i64 0]) (by simp [results, Tryz.results17, go_sem]) rfl ⟨rfl, B1.out⟩
          | some s =>
            simp only [Option.isSome_some] at e0
            generalize ((some s : Pl).getD []).length = yl at e1 hob
            go_wp2
            exact bodyPost_ret (v := .tuple #[.int .i64 kk, .int .i64 3, .int .i64 0, .int .i64 0]) (by simp [results, Tryz.results17, go_sem]) rfl ⟨rfl, B1.out⟩
  · rw [ver_sch (by omega) hsch] at hA hT hM
    obtain ⟨rfl, rfl⟩ := Prod.mk.inj hA
    rw [typP, if_pos hsch] at hT
    rw [mostP, if_pos hsch] at hM
    subst hT hM
    obtain ⟨SE, hSE⟩ : ∃ SE, schE zs = SE := ⟨_, rfl⟩
    rw [hSE] at cS hsch ⊢
    have hb : (SE != 0) = true := by simpa using hsch
    clear hi hc hcc hz hN hA hSE hsch
    go_enter Tryz.func17, Tryz.ntmps17
    go_wp2_with fail
    refine cS.mono ?_
    rintro e w1 ⟨rfl, hq⟩
    subst hq
    go_wp2
    exact bodyPost_ret (v := .tuple #[.int .i64 0, .int .i64 SE, .int .i64 0, .int .i64 0]) (by simp [results, Tryz.results17, go_sem]) rfl ⟨rfl, Below.refl _ _⟩
end Go.Proofs.YtfhlhdddhgkinaaGreatDoor
