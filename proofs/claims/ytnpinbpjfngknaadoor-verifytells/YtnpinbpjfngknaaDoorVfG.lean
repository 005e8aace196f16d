/-
  package verify's walk over any instructions and columns; Check and Type.
-/
import Derived.Test.YtnpinbpjfngknaaDoorVfF
import Derived.Test.YtnpinbpjfngknaaDoorColV
import Derived.OwnWalk
namespace Go.Proofs.YtnpinbpjfngknaaDoor
open Go.RowKit
set_option linter.unusedVariables false

theorem info_pl : (Tryd.prog.info? 56).map (fun i => (i.zero, i.size, i.bytes)) = some (some (.agg #[.bool false, .slice none 0 0]), 2, 32) := by kernel_rfl
theorem made_pl (n j : Nat) (h : j < n * 2) : (madeCells #[.bool false, .slice none 0 0] (n * 2))[j]? = some (if j % 2 = 0 then .bool false else .slice none 0 0) := by
  rw [madeCells, Array.getElem?_map, Array.getElem?_range, if_pos h]
  simp only [Option.map_some]
  have : j % 2 = 0 ∨ j % 2 = 1 := by omega
  rcases this with e | e
  · simp [e]
  · simp [e]
/-- Places of which nothing is known but that the first is reached. -/
theorem kn_made (w : World) (N g : Nat) (hg : g = w.heap.size) : KnAt (w.alloc (.cells ((madeCells #[.bool false, .slice none 0 0] ((N + 1) * 2)).setIfInBounds 0 (.bool true)) 56)) g (some [] :: List.replicate N none) := by
  subst hg
  have h0 : (w.alloc (.cells ((madeCells #[.bool false, .slice none 0 0] ((N + 1) * 2)).setIfInBounds 0 (.bool true)) 56)).cell? ⟨w.heap.size, 0, none⟩ = some (.bool true) := by
    rw [World.cell?_alloc_at _ _ _ _ rfl, Array.getElem?_setIfInBounds_self_of_lt (by rw [size_madeCells]; omega)]
  have hc : ∀ j, 0 < j → j < (N + 1) * 2 → (w.alloc (.cells ((madeCells #[.bool false, .slice none 0 0] ((N + 1) * 2)).setIfInBounds 0 (.bool true)) 56)).cell? ⟨w.heap.size, j, none⟩ = some (if j % 2 = 0 then .bool false else .slice none 0 0) := fun j h0 hj => by
    rw [World.cell?_alloc_at _ _ _ _ rfl, Array.getElem?_setIfInBounds_ne (by omega), made_pl _ _ hj]
  refine ⟨by simp, fun o => by rw [World.frozen?_alloc_at _ _ _ _ rfl], fun j hj => ?_⟩
  simp only [List.length_cons, List.length_replicate] at hj
  cases j with
  | zero =>
    refine ⟨?_, .slice none 0 0, ?_, ?_⟩
    · rw [Nat.zero_mul, h0]; rfl
    · rw [hc _ (by omega) (by omega), if_neg (by omega)]
    · exact StkAt.nil _ _
  | succ j =>
    refine ⟨?_, .slice none 0 0, ?_, ?_⟩
    · rw [hc _ (by omega) (by omega), if_pos (by omega)]; simp
    · rw [hc _ (by omega) (by omega), if_neg (by omega)]
    · simp only [List.getElem_cons_succ, List.getElem_replicate, Option.getD_none]
      exact StkAt.nil _ _
theorem run_pl (N : Nat) (hN : N ≤ 100000) (W : World) : Sem.run Tryd.prog (Instr.makeSlice 50 (.int .i64 ((N : Int) + 1)) (.int .i64 ((N : Int) + 1))) W = .ok (.slice (some ⟨W.heap.size, 0, none⟩) (N + 1) (N + 1)) (W.alloc (.cells (madeCells #[.bool false, .slice none 0 0] ((N + 1) * 2)) 56)) := by
  obtain ⟨i0, hi, hz0, hz1, hzz⟩ := info_parts info_pl
  have h := run_make (P := Tryd.prog) W 50 56 i0 _ Tryd.underlying50 hi hz0 .i64 .i64 ((N : Int) + 1) ((N : Int) + 1) (by omega) (by omega) (by rw [hzz]; omega) (by omega)
  rw [show ((N : Int) + 1).toNat = N + 1 by omega, hz1] at h
  exact h
/-- Instructions and columns as they come in. -/
theorem InsAt.at {w : World} {p : Option Addr} {is : List I5} (h : InsAt w p is) (j : Nat) (hj : j < is.length) : ∃ b off, p = some ⟨b, off, none⟩ ∧ b < w.heap.size ∧ w.cell? ⟨b, off + j * 5, none⟩ = some (.int .i64 is[j].1) ∧ w.cell? ⟨b, off + j * 5 + 1, none⟩ = some (.int .i64 is[j].2.1) ∧ w.cell? ⟨b, off + j * 5 + 2, none⟩ = some (.int .i64 is[j].2.2.1) ∧ w.cell? ⟨b, off + j * 5 + 3, none⟩ = some (.int .i64 is[j].2.2.2.1) ∧ w.cell? ⟨b, off + j * 5 + 4, none⟩ = some (.string is[j].2.2.2.2) := by
  rcases h with h | ⟨b, off, e, hl, h⟩
  · exact absurd h (by omega)
  · exact ⟨b, off, e, hl, h j hj⟩
/-- What walk gives. -/
def WalkR (w w' : World) (is : List I5) (r : List Pl × Nat × Int) (e : Ending) : Prop := ∃ v, e = .returned (.tuple #[v, .int .i64 (r.2.1 : Int), errV r.2.2]) ∧ (r.2.2 = 0 → ∃ b, v = .slice (some ⟨b, 0, none⟩) (is.length + 1) (is.length + 1) ∧ r.1.length = is.length + 1 ∧ KnAt w' b r.1) ∧ Below w.heap.size w w'
theorem ver_full {is : List I5} {zs : List (ByteArray × Int)} (h : 1200 < is.length) : verP is zs = ([], 0, 4) := by rw [verP, if_pos h]
theorem ver_sch {is : List I5} {zs : List (ByteArray × Int)} (h : ¬ 1200 < is.length) (h2 : schE zs ≠ 0) : verP is zs = ([], 0, schE zs) := by rw [verP, if_neg h, if_pos h2]
theorem ver_loop {is : List I5} {zs : List (ByteArray × Int)} (h : ¬ 1200 < is.length) (h2 : schE zs = 0) : verP is zs = endP (loopP zs (some [] :: List.replicate is.length none) 0 is) := by rw [verP, if_neg h, if_neg (by simpa using h2)]
theorem loopP_at {zs : List (ByteArray × Int)} {ks : List Pl} {is : List I5} {k : Nat} (h : k < is.length) : loopP zs ks k (is.drop k) = if (stepP zs ks k is[k]).2 ≠ 0 then (ks, k, (stepP zs ks k is[k]).2) else loopP zs (stepP zs ks k is[k]).1 (k + 1) (is.drop (k + 1)) := by
  rw [List.drop_eq_getElem_cons h, loopP]
set_option maxHeartbeats 8000000 in
set_option maxRecDepth 20000 in
theorem walk_any (is : List I5) (p : Option Addr) (N c : Nat) (vz : Value) (zs : List (ByteArray × Int)) (w : World) (hr : REnv w) (htw : TW w) (hi : InsAt w p is) (hN : is.length = N) (hNm : N ≤ maxLen) (hz : ∀ i ∈ is, i.2.2.2.2.size ≤ maxLen) (hc : ColsV w vz zs) :
    Calls Tryd.prog 16 #[.slice p N c, vz] w fun e w' => Aside (WalkR w w' is (verP is zs) e) := by
  have hNm2 := hNm
  unfold maxLen at hNm2
  have cS := schemaV vz zs w htw hc
  obtain ⟨pz, cz, rfl, hcc⟩ := id hc
  by_cases hfull : 1200 < N
  · have hv := ver_full (is := is) (zs := zs) (by omega)
    rw [hv]
    have hz1 : (1200 : Int) < (N : Int) := by omega
    clear hi hc hcc hz hN hv cS
    go_enter Tryd.func16, Tryd.ntmps16
    go_wp2
    refine bodyPost_ret (v := .tuple #[.slice none 0 0, .int .i64 0, errV 4]) (by simp [results, Tryd.results16, go_sem, errV]) rfl ?_
    exact (show Aside _ from ⟨_, rfl, fun h => absurd h (by decide), Below.refl _ _⟩)
  have hz1 : ¬ (1200 : Int) < (N : Int) := by omega
  by_cases hsch : schE zs = 0
  · rw [hsch] at cS
    simp only [show errV 0 = .nilIface from rfl] at cS
    rw [ver_loop (by omega) hsch]
    have hz6 : zs.length ≤ 6 ∧ zs.length ≠ 0 := ⟨(schE_zero hsch).2.1, (schE_zero hsch).1⟩
    obtain ⟨cb, co, rfl, hc1, hc2, hc3⟩ := hcc.resolve_left hz6.2
    obtain ⟨R, hR⟩ : ∃ R, loopP zs (some [] :: List.replicate is.length none) 0 is = R := ⟨_, rfl⟩
    have HR : Hid (loopP zs (some [] :: List.replicate is.length none) 0 (is.drop 0) = R) := hR
    rw [hR]
    have HN : Hid (is.length = N) := hN
    have HI : Aside (InsAt w p is) := hi
    have HZ : Hid (∀ i ∈ is, i.2.2.2.2.size ≤ maxLen) := hz
    have HC : Aside (ColsIn w cb co zs) := hc3
    have rp := fun W => run_pl N (by omega) W
    clear hR hN hi hz hc hcc hc3 hsch hc1 hc2
    go_enter Tryd.func16, Tryd.ntmps16
    go_wp2_with fail
    refine cS.mono ?_
    rintro e w1 ⟨rfl, b1⟩
    have hs1 := b1.size
    have KN0 : Aside (KnAt (w1.alloc (.cells ((madeCells #[.bool false, .slice none 0 0] ((N + 1) * 2)).setIfInBounds 0 (.bool true)) 56)) w1.heap.size (some [] :: List.replicate N none)) := kn_made w1 N _ rfl
    have BW0 : Aside (Below w.heap.size w (w1.alloc (.cells ((madeCells #[.bool false, .slice none 0 0] ((N + 1) * 2)).setIfInBounds 0 (.bool true)) 56))) := b1.alloc hs1 _
    have c00 : (w1.alloc (.cells (madeCells #[.bool false, .slice none 0 0] ((N + 1) * 2)) 56)).cell? ⟨w1.heap.size, 0, none⟩ = some (.bool false) := by
      rw [World.cell?_alloc_at _ _ _ _ rfl, made_pl _ _ (by omega)]; rfl
    have nz : (0 : Int) < (N : Int) + 1 := by omega
    generalize madeCells #[.bool false, .slice none 0 0] ((N + 1) * 2) = MC at rp KN0 BW0 c00
    clear cS
    go_wp2
    generalize w1.alloc (.cells (MC.setIfInBounds 0 (.bool true)) 56) = W2 at KN0 BW0 ⊢
    obtain ⟨B, hBe⟩ : ∃ B, w1.heap.size = B := ⟨_, rfl⟩
    rw [hBe] at KN0 hs1 ⊢
    have HST : Hid ((some [] :: List.replicate N none : List Pl).length = N + 1) := by simp [Hid]
    have HR0 : Hid (loopP zs (some [] :: List.replicate N none) 0 (is.drop 0) = R) := by
      have := HR.out
      rw [HN.out] at this
      exact this
    clear b1 rp hBe c00 HR
    go_loopg [9, 10, 11, 30] N (fun gg _ _ _ s30 wr => ∃ (kk : Nat) (ks1 : List Pl), kk ≤ N ∧ N - kk ≤ gg ∧ s30 = .int .i64 kk ∧ Aside (KnAt wr B ks1) ∧ Aside (Below w.heap.size w wr) ∧ Hid (ks1.length = N + 1) ∧ Hid (loopP zs ks1 kk (is.drop kk) = R))
    case atStart => exact ⟨0, _, Nat.zero_le _, by omega, rfl, KN0, BW0, HST, HR0⟩
    case round =>
      obtain ⟨kk, ks1, hkk, hg, rfl, KR, BR, HL, HE⟩ := hrel
      clear KN0 BW0 HR0 HST
      have hbr := BR.out.size
      by_cases hlt : kk < N
      · have hltz : (kk : Int) < (N : Int) := by omega
        have h0z : (0 : Int) ≤ (kk : Int) := by omega
        have hki : kk < is.length := by rw [HN.out]; exact hlt
        obtain ⟨ib, io, rfl, hib, d0, d1, d2, d3, d4⟩ := (HI.out.on BR.out).at kk hki
        have hsz := HZ.out _ (List.getElem_mem hki)
        have hE := HE.out
        rw [loopP_at hki] at hE
        have HE2 : Hid ((if (stepP zs ks1 kk is[kk]).2 ≠ 0 then (ks1, kk, (stepP zs ks1 kk is[kk]).2) else loopP zs (stepP zs ks1 kk is[kk]).1 (kk + 1) (is.drop (kk + 1))) = R) := hE
        clear hE
        generalize is[kk] = y at d0 d1 d2 d3 d4 hsz HE2
        obtain ⟨⟨K2, E2⟩, hst⟩ : ∃ r, stepP zs ks1 kk y = r := ⟨_, rfl⟩
        rw [hst] at HE2
        have hl2 : K2.length = N + 1 := by
          have := stepP_len (zs := zs) (ks := ks1) (k := kk) (i := y)
          rw [hst, HL.out] at this
          exact this
        obtain ⟨ya, yg, yt, yn, ys⟩ := y
        simp only at d0 d1 d2 d3 d4 hsz HE2
        have b2 : Below w.heap.size w (wr.alloc (.cells #[.int .i64 ya, .int .i64 yg, .int .i64 yt, .int .i64 yn, .string ys] 37)) := BR.out.alloc hbr _
        have cP := step_any ks1 B (N + 1) (N + 1) kk (ya, yg, yt, yn, ys) zs cb co cz (wr.alloc (.cells #[.int .i64 ya, .int .i64 yg, .int .i64 yt, .int .i64 yn, .string ys] 37)) (hr.on b2) HL.out (KR.out.on (alB _ _)) (by omega) (by omega) hsz hz6.1 (HC.out.on b2) K2 E2 hst
        simp only [insW] at cP
        have HL2 : Hid (K2.length = N + 1) := hl2
        have B2 : Aside (Below w.heap.size w (wr.alloc (.cells #[.int .i64 ya, .int .i64 yg, .int .i64 yt, .int .i64 yn, .string ys] 37))) := b2
        clear hst hl2 KR BR HL HE b2
        by_cases hE2 : E2 = 0
        · subst hE2
          simp only [show errV 0 = .nilIface from rfl] at cP
          have HE3 : Hid (loopP zs K2 (kk + 1) (is.drop (kk + 1)) = R) := by
            have := HE2.out
            rwa [if_neg (by simp)] at this
          clear HE2
          go_wp2_with fail
          refine cP.mono ?_
          rintro e w3 ⟨rfl, KP, BP⟩
          have KP2 : Aside (KnAt w3 B K2) := KP.out trivial
          have BP2 : Aside (Below w.heap.size w w3) := B2.out.trans (BP.out.below.mono hs1)
          clear KP BP B2 cP
          go_wp2
          go_roundg (N - (kk + 1))
          case measure => omega
          case rel => exact ⟨kk + 1, K2, by omega, by omega, by go_num, KP2, BP2, HL2, HE3⟩
        · have hR2 := HE2.out
          rw [if_pos hE2] at hR2
          subst hR2
          have hV : errV E2 = .iface 53 (.int .i64 E2) := by rw [errV, if_neg hE2]
          simp only [hV] at cP
          have HV : Hid (errV E2 = .iface 53 (.int .i64 E2)) := hV
          have HX : Hid (E2 ≠ 0) := hE2
          clear HE2 hV hE2
          go_wp2_with fail
          refine cP.mono ?_
          rintro e w3 ⟨rfl, KP, BP⟩
          have BP2 : Below w.heap.size w w3 := B2.out.trans (BP.out.below.mono hs1)
          clear KP BP B2 cP
          go_wp2
          refine bodyPost_ret (v := .tuple #[.slice none 0 0, .int .i64 kk, .iface 53 (.int .i64 E2)]) (by simp [results, Tryd.results16, go_sem]) rfl ?_
          have he : endP (ks1, kk, E2) = ([], kk, E2) := by rw [endP, if_pos HX.out]
          rw [he]
          exact (show Aside _ from ⟨_, by rw [HV.out], fun h => absurd h HX.out, BP2⟩)
      · have hltz : ¬ (kk : Int) < (N : Int) := by omega
        obtain rfl : kk = N := by omega
        have hR2 := HE.out
        rw [List.drop_eq_nil_of_le (by rw [HN.out]; omega), loopP] at hR2
        subst hR2
        have hNl : kk < ks1.length := by rw [HL.out]; omega
        obtain ⟨pT, cT, e0, e1, eS⟩ := KR.out.at kk hNl
        have hget : ks1[kk]? = some ks1[kk] := List.getElem?_eq_getElem hNl
        generalize ks1[kk] = y at e0 e1 eS hget
        have h0z : (0 : Int) ≤ (kk : Int) := by omega
        have h1z : (kk : Int) < (kk : Int) + 1 := by omega
        have hbB := KR.out.1
        by_cases hone : (y.getD []).length = 1
        · have he : endP (ks1, kk, 0) = (ks1, 0, 0) := by
            rw [endP, if_neg (by simp)]
            simp only
            rw [hget, Option.getD_some, if_neg (by simpa using hone)]
          rw [hone] at e1
          have HH : Hid (endP (ks1, kk, 0) = (ks1, 0, 0)) := he
          clear HE eS hone he
          go_wp2
          refine bodyPost_ret (v := .tuple #[.slice (some ⟨B, 0, none⟩) (kk + 1) (kk + 1), .int .i64 0, .nilIface]) (by simp [results, Tryd.results16, go_sem]) rfl ?_
          rw [HH.out]
          exact (show Aside _ from ⟨_, rfl, fun _ => ⟨B, by rw [HN.out], by rw [HL.out, HN.out], KR.out⟩, BR.out⟩)
        · have he : endP (ks1, kk, 0) = ([], kk, 3) := by
            rw [endP, if_neg (by simp)]
            simp only
            rw [hget, Option.getD_some, if_pos hone]
          have HH : Hid (endP (ks1, kk, 0) = ([], kk, 3)) := he
          have hob : (((y.getD []).length : Int) != 1) = true := by simp; omega
          generalize (y.getD []).length = yl at e1 hob
          clear HE eS hone he
          go_wp2
          refine bodyPost_ret (v := .tuple #[.slice none 0 0, .int .i64 kk, errV 3]) (by simp [results, Tryd.results16, go_sem, errV]) rfl ?_
          rw [HH.out]
          exact (show Aside _ from ⟨_, rfl, fun h => absurd h (by show ¬ (3 : Int) = 0; decide), BR.out⟩)
  · have hv := ver_sch (is := is) (zs := zs) (by omega) hsch
    rw [hv]
    obtain ⟨SE, hSE⟩ : ∃ SE, schE zs = SE := ⟨_, rfl⟩
    rw [hSE] at cS hsch ⊢
    have hV : errV SE = .iface 53 (.int .i64 SE) := by rw [errV, if_neg hsch]
    simp only [hV] at cS
    have HS : Hid (SE ≠ 0) := hsch
    have HV : Hid (errV SE = .iface 53 (.int .i64 SE)) := hV
    clear hi hc hcc hz hN hv hSE hV hsch
    go_enter Tryd.func16, Tryd.ntmps16
    go_wp2_with fail
    refine cS.mono ?_
    rintro e w1 ⟨rfl, b1⟩
    go_wp2
    refine bodyPost_ret (v := .tuple #[.slice none 0 0, .int .i64 0, .iface 53 (.int .i64 SE)]) (by simp [results, Tryd.results16, go_sem]) rfl ?_
    exact (show Aside _ from ⟨_, by rw [HV.out]; rfl, fun h => absurd h HS.out, b1⟩)
end Go.Proofs.YtnpinbpjfngknaaDoor
