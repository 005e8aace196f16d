/-
  VfG, VfH, VmR, VmT, VmL, in one text.
-/
import Derived.Test.YtkoejkpjkcejcabDoorYVfF
import Derived.Test.YtkoejkpjkcejcabDoorGyAl
import Derived.OwnWalk
import Derived.Test.YtkoejkpjkcejcabDoorGyAj
import Derived.Test.YtkoejkpjkcejcabDoorYVmF
import Derived.Test.YtkoejkpjkcejcabDoorGyAo
import Derived.Test.YtkoejkpjkcejcabDoorYAs
import Derived.Test.YtkoejkpjkcejcabDoorYTreeCk
import Derived.Laws.StructEq
namespace Go.Proofs.YtkoejkpjkcejcabDoor
open Go.RowKit
set_option linter.unusedVariables false

theorem info_pl : (Tryd.prog.info? 89).map (fun i => (i.zero, i.size, i.bytes)) = some (some (.agg #[.bool false, .slice none 0 0]), 2, 32) := by kernel_rfl
theorem made_pl (n j : Nat) (h : j < n * 2) : (madeCells #[.bool false, .slice none 0 0] (n * 2))[j]? = some (if j % 2 = 0 then .bool false else .slice none 0 0) := by
  rw [madeCells, Array.getElem?_map, Array.getElem?_range, if_pos h]
  simp only [Option.map_some]
  have : j % 2 = 0 ∨ j % 2 = 1 := by omega
  rcases this with e | e
  · simp [e]
  · simp [e]
/-- Places of which nothing is known but that the first is reached. -/
theorem kn_made (w : World) (N g : Nat) (hg : g = w.heap.size) : KnAt (w.alloc (.cells ((madeCells #[.bool false, .slice none 0 0] ((N + 1) * 2)).setIfInBounds 0 (.bool true)) 89)) g (some [] :: List.replicate N none) := by
  subst hg
  have h0 : (w.alloc (.cells ((madeCells #[.bool false, .slice none 0 0] ((N + 1) * 2)).setIfInBounds 0 (.bool true)) 89)).cell? ⟨w.heap.size, 0, none⟩ = some (.bool true) := by
    rw [World.cell?_alloc_at _ _ _ _ rfl, Array.getElem?_setIfInBounds_self_of_lt (by rw [size_madeCells]; omega)]
  have hc : ∀ j, 0 < j → j < (N + 1) * 2 → (w.alloc (.cells ((madeCells #[.bool false, .slice none 0 0] ((N + 1) * 2)).setIfInBounds 0 (.bool true)) 89)).cell? ⟨w.heap.size, j, none⟩ = some (if j % 2 = 0 then .bool false else .slice none 0 0) := fun j h0 hj => by
    rw [World.cell?_alloc_at _ _ _ _ rfl, Array.getElem?_setIfInBounds_ne (by omega), made_pl _ _ hj]
  refine ⟨by simp, fun o => by rw [World.frozen?_alloc_at _ _ _ _ rfl], fun j hj => ?_⟩
  simp only [List.length_cons, List.length_replicate] at hj
  cases j with
  | zero =>
    refine ⟨?_, .slice none 0 0, ?_, ?_⟩
    · rw [Nat.zero_mul, h0]; rfl
    · rw [hc _ (by omega) (by omega), if_neg (by omega)]
    · exact StkAt.nil _ _
  | succ j =>
    refine ⟨?_, .slice none 0 0, ?_, ?_⟩
    · rw [hc _ (by omega) (by omega), if_pos (by omega)]; simp
    · rw [hc _ (by omega) (by omega), if_neg (by omega)]
    · simp only [List.getElem_cons_succ, List.getElem_replicate, Option.getD_none]
      exact StkAt.nil _ _
theorem run_pl (N : Nat) (hN : N ≤ 100000) (W : World) : Sem.run Tryd.prog (Instr.makeSlice 85 (.int .i64 ((N : Int) + 1)) (.int .i64 ((N : Int) + 1))) W = .ok (.slice (some ⟨W.heap.size, 0, none⟩) (N + 1) (N + 1)) (W.alloc (.cells (madeCells #[.bool false, .slice none 0 0] ((N + 1) * 2)) 89)) := by
  obtain ⟨i0, hi, hz0, hz1, hzz⟩ := info_parts info_pl
  have h := run_make (P := Tryd.prog) W 85 89 i0 _ Tryd.underlying85 hi hz0 .i64 .i64 ((N : Int) + 1) ((N : Int) + 1) (by omega) (by omega) (by rw [hzz]; omega) (by omega)
  rw [show ((N : Int) + 1).toNat = N + 1 by omega, hz1] at h
  exact h
/-- Instructions and columns as they come in. -/
theorem InsAt.at {w : World} {p : Option Addr} {is : List I5} (h : InsAt w p is) (j : Nat) (hj : j < is.length) : ∃ b off, p = some ⟨b, off, none⟩ ∧ b < w.heap.size ∧ w.cell? ⟨b, off + j * 5, none⟩ = some (.int .i64 is[j].1) ∧ w.cell? ⟨b, off + j * 5 + 1, none⟩ = some (.int .i64 is[j].2.1) ∧ w.cell? ⟨b, off + j * 5 + 2, none⟩ = some (.int .i64 is[j].2.2.1) ∧ w.cell? ⟨b, off + j * 5 + 3, none⟩ = some (.int .i64 is[j].2.2.2.1) ∧ w.cell? ⟨b, off + j * 5 + 4, none⟩ = some (.string is[j].2.2.2.2) := by
  rcases h with h | ⟨b, off, e, hl, h⟩
  · exact absurd h (by omega)
  · exact ⟨b, off, e, hl, h j hj⟩
/-- What walk gives. -/
def WalkR (w w' : World) (is : List I5) (r : List Pl × Nat × Int) (e : Ending) : Prop := ∃ v, e = .returned (.tuple #[v, .int .i64 (r.2.1 : Int), errV r.2.2]) ∧ (r.2.2 = 0 → ∃ b, v = .slice (some ⟨b, 0, none⟩) (is.length + 1) (is.length + 1) ∧ r.1.length = is.length + 1 ∧ KnAt w' b r.1) ∧ Below w.heap.size w w'
theorem ver_full {is : List I5} {zs : List (ByteArray × Int)} (h : 1200 < is.length) : verP is zs = ([], 0, 4) := by rw [verP, if_pos h]
theorem ver_sch {is : List I5} {zs : List (ByteArray × Int)} (h : ¬ 1200 < is.length) (h2 : schE zs ≠ 0) : verP is zs = ([], 0, schE zs) := by rw [verP, if_neg h, if_pos h2]
theorem ver_loop {is : List I5} {zs : List (ByteArray × Int)} (h : ¬ 1200 < is.length) (h2 : schE zs = 0) : verP is zs = endP (loopP zs (some [] :: List.replicate is.length none) 0 is) := by rw [verP, if_neg h, if_neg (by simpa using h2)]
theorem loopP_at {zs : List (ByteArray × Int)} {ks : List Pl} {is : List I5} {k : Nat} (h : k < is.length) : loopP zs ks k (is.drop k) = if (stepP zs ks k is[k]).2 ≠ 0 then (ks, k, (stepP zs ks k is[k]).2) else loopP zs (stepP zs ks k is[k]).1 (k + 1) (is.drop (k + 1)) := by
  rw [List.drop_eq_getElem_cons h, loopP]
set_option maxHeartbeats 8000000 in
set_option maxRecDepth 20000 in
theorem vWalk_any (is : List I5) (p : Option Addr) (N c : Nat) (vz : Value) (zs : List (ByteArray × Int)) (w : World) (hr : REnv w) (htw : TW w) (hi : InsAt w p is) (hN : is.length = N) (hNm : N ≤ maxLen) (hz : ∀ i ∈ is, i.2.2.2.2.size ≤ maxLen) (hc : ColsV w vz zs) :
    Calls Tryd.prog 44 #[.slice p N c, vz] w fun e w' => Aside (WalkR w w' is (verP is zs) e) := by
  have hNm2 := hNm
  unfold maxLen at hNm2
  have cS := schemaV vz zs w htw hc
  obtain ⟨pz, cz, rfl, hcc⟩ := id hc
  by_cases hfull : 1200 < N
  · have hv := ver_full (is := is) (zs := zs) (by omega)
    rw [hv]
    have hz1 : (1200 : Int) < (N : Int) := by omega
    clear hi hc hcc hz hN hv cS
    go_enter Tryd.func44, Tryd.ntmps44
    go_wp2
    refine bodyPost_ret (v := .tuple #[.slice none 0 0, .int .i64 0, errV 4]) (by simp [results, Tryd.results44, go_sem, errV]) rfl ?_
    exact (show Aside _ from ⟨_, rfl, fun h => absurd h (by decide), Below.refl _ _⟩)
  have hz1 : ¬ (1200 : Int) < (N : Int) := by omega
  by_cases hsch : schE zs = 0
  · rw [hsch] at cS
    simp only [show errV 0 = .nilIface from rfl] at cS
    rw [ver_loop (by omega) hsch]
    have hz6 : zs.length ≤ 6 ∧ zs.length ≠ 0 := ⟨(schE_zero hsch).2.1, (schE_zero hsch).1⟩
    obtain ⟨cb, co, rfl, hc1, hc2, hc3⟩ := hcc.resolve_left hz6.2
    obtain ⟨R, hR⟩ : ∃ R, loopP zs (some [] :: List.replicate is.length none) 0 is = R := ⟨_, rfl⟩
    have HR : Hid (loopP zs (some [] :: List.replicate is.length none) 0 (is.drop 0) = R) := hR
    rw [hR]
    have HN : Hid (is.length = N) := hN
    have HI : Aside (InsAt w p is) := hi
    have HZ : Hid (∀ i ∈ is, i.2.2.2.2.size ≤ maxLen) := hz
    have HC : Aside (ColsIn w cb co zs) := hc3
    have rp := fun W => run_pl N (by omega) W
    clear hR hN hi hz hc hcc hc3 hsch hc1 hc2
    go_enter Tryd.func44, Tryd.ntmps44
    go_wp2_with fail
    refine cS.mono ?_
    rintro e w1 ⟨rfl, b1⟩
    have hs1 := b1.size
    have KN0 : Aside (KnAt (w1.alloc (.cells ((madeCells #[.bool false, .slice none 0 0] ((N + 1) * 2)).setIfInBounds 0 (.bool true)) 89)) w1.heap.size (some [] :: List.replicate N none)) := kn_made w1 N _ rfl
    have BW0 : Aside (Below w.heap.size w (w1.alloc (.cells ((madeCells #[.bool false, .slice none 0 0] ((N + 1) * 2)).setIfInBounds 0 (.bool true)) 89))) := b1.alloc hs1 _
    have c00 : (w1.alloc (.cells (madeCells #[.bool false, .slice none 0 0] ((N + 1) * 2)) 89)).cell? ⟨w1.heap.size, 0, none⟩ = some (.bool false) := by
      rw [World.cell?_alloc_at _ _ _ _ rfl, made_pl _ _ (by omega)]; rfl
    have nz : (0 : Int) < (N : Int) + 1 := by omega
    generalize madeCells #[.bool false, .slice none 0 0] ((N + 1) * 2) = MC at rp KN0 BW0 c00
    clear cS
    go_wp2
    generalize w1.alloc (.cells (MC.setIfInBounds 0 (.bool true)) 89) = W2 at KN0 BW0 ⊢
    obtain ⟨B, hBe⟩ : ∃ B, w1.heap.size = B := ⟨_, rfl⟩
    rw [hBe] at KN0 hs1 ⊢
    have HST : Hid ((some [] :: List.replicate N none : List Pl).length = N + 1) := by simp [Hid]
    have HR0 : Hid (loopP zs (some [] :: List.replicate N none) 0 (is.drop 0) = R) := by
      have := HR.out
      rw [HN.out] at this
      exact this
    clear b1 rp hBe c00 HR
    go_loopg [9, 10, 11, 30] N (fun gg _ _ _ s30 wr => ∃ (kk : Nat) (ks1 : List Pl), kk ≤ N ∧ N - kk ≤ gg ∧ s30 = .int .i64 kk ∧ Aside (KnAt wr B ks1) ∧ Aside (Below w.heap.size w wr) ∧ Hid (ks1.length = N + 1) ∧ Hid (loopP zs ks1 kk (is.drop kk) = R))
    case atStart => exact ⟨0, _, Nat.zero_le _, by omega, rfl, KN0, BW0, HST, HR0⟩
    case round =>
      obtain ⟨kk, ks1, hkk, hg, rfl, KR, BR, HL, HE⟩ := hrel
      clear KN0 BW0 HR0 HST
      have hbr := BR.out.size
      by_cases hlt : kk < N
      · have hltz : (kk : Int) < (N : Int) := by omega
        have h0z : (0 : Int) ≤ (kk : Int) := by omega
        have hki : kk < is.length := by rw [HN.out]; exact hlt
        obtain ⟨ib, io, rfl, hib, d0, d1, d2, d3, d4⟩ := (HI.out.on BR.out).at kk hki
        have hsz := HZ.out _ (List.getElem_mem hki)
        have hE := HE.out
        rw [loopP_at hki] at hE
        have HE2 : Hid ((if (stepP zs ks1 kk is[kk]).2 ≠ 0 then (ks1, kk, (stepP zs ks1 kk is[kk]).2) else loopP zs (stepP zs ks1 kk is[kk]).1 (kk + 1) (is.drop (kk + 1))) = R) := hE
        clear hE
        generalize is[kk] = y at d0 d1 d2 d3 d4 hsz HE2
        obtain ⟨⟨K2, E2⟩, hst⟩ : ∃ r, stepP zs ks1 kk y = r := ⟨_, rfl⟩
        rw [hst] at HE2
        have hl2 : K2.length = N + 1 := by
          have := stepP_len (zs := zs) (ks := ks1) (k := kk) (i := y)
          rw [hst, HL.out] at this
          exact this
        obtain ⟨ya, yg, yt, yn, ys⟩ := y
        simp only at d0 d1 d2 d3 d4 hsz HE2
        have b2 : Below w.heap.size w (wr.alloc (.cells #[.int .i64 ya, .int .i64 yg, .int .i64 yt, .int .i64 yn, .string ys] 50)) := BR.out.alloc hbr _
        have cP := step_any ks1 B (N + 1) (N + 1) kk (ya, yg, yt, yn, ys) zs cb co cz (wr.alloc (.cells #[.int .i64 ya, .int .i64 yg, .int .i64 yt, .int .i64 yn, .string ys] 50)) (hr.on b2) HL.out (KR.out.on (alB _ _)) (by omega) (by omega) hsz hz6.1 (HC.out.on b2) K2 E2 hst
        simp only [insW] at cP
        have HL2 : Hid (K2.length = N + 1) := hl2
        have B2 : Aside (Below w.heap.size w (wr.alloc (.cells #[.int .i64 ya, .int .i64 yg, .int .i64 yt, .int .i64 yn, .string ys] 50))) := b2
        clear hst hl2 KR BR HL HE b2
        by_cases hE2 : E2 = 0
        · subst hE2
          simp only [show errV 0 = .nilIface from rfl] at cP
          have HE3 : Hid (loopP zs K2 (kk + 1) (is.drop (kk + 1)) = R) := by
            have := HE2.out
            rwa [if_neg (by simp)] at this
          clear HE2
          go_wp2_with fail
          refine cP.mono ?_
          rintro e w3 ⟨rfl, KP, BP⟩
          have KP2 : Aside (KnAt w3 B K2) := KP.out trivial
          have BP2 : Aside (Below w.heap.size w w3) := B2.out.trans (BP.out.below.mono hs1)
          clear KP BP B2 cP
          go_wp2
          go_roundg (N - (kk + 1))
          case measure => omega
          case rel => exact ⟨kk + 1, K2, by omega, by omega, by go_num, KP2, BP2, HL2, HE3⟩
        · have hR2 := HE2.out
          rw [if_pos hE2] at hR2
          subst hR2
          have hV : errV E2 = .iface 37 (.int .i64 E2) := by rw [errV, if_neg hE2]
          simp only [hV] at cP
          have HV : Hid (errV E2 = .iface 37 (.int .i64 E2)) := hV
          have HX : Hid (E2 ≠ 0) := hE2
          clear HE2 hV hE2
          go_wp2_with fail
          refine cP.mono ?_
          rintro e w3 ⟨rfl, KP, BP⟩
          have BP2 : Below w.heap.size w w3 := B2.out.trans (BP.out.below.mono hs1)
          clear KP BP B2 cP
          go_wp2
          refine bodyPost_ret (v := .tuple #[.slice none 0 0, .int .i64 kk, .iface 37 (.int .i64 E2)]) (by simp [results, Tryd.results44, go_sem]) rfl ?_
          have he : endP (ks1, kk, E2) = ([], kk, E2) := by rw [endP, if_pos HX.out]
          rw [he]
          exact (show Aside _ from ⟨_, by rw [HV.out], fun h => absurd h HX.out, BP2⟩)
      · have hltz : ¬ (kk : Int) < (N : Int) := by omega
        obtain rfl : kk = N := by omega
        have hR2 := HE.out
        rw [List.drop_eq_nil_of_le (by rw [HN.out]; omega), loopP] at hR2
        subst hR2
        have hNl : kk < ks1.length := by rw [HL.out]; omega
        obtain ⟨pT, cT, e0, e1, eS⟩ := KR.out.at kk hNl
        have hget : ks1[kk]? = some ks1[kk] := List.getElem?_eq_getElem hNl
        generalize ks1[kk] = y at e0 e1 eS hget
        have h0z : (0 : Int) ≤ (kk : Int) := by omega
        have h1z : (kk : Int) < (kk : Int) + 1 := by omega
        have hbB := KR.out.1
        by_cases hone : (y.getD []).length = 1
        · have he : endP (ks1, kk, 0) = (ks1, 0, 0) := by
            rw [endP, if_neg (by simp)]
            simp only
            rw [hget, Option.getD_some, if_neg (by simpa using hone)]
          rw [hone] at e1
          have HH : Hid (endP (ks1, kk, 0) = (ks1, 0, 0)) := he
          clear HE eS hone he
          go_wp2
          refine bodyPost_ret (v := .tuple #[.slice (some ⟨B, 0, none⟩) (kk + 1) (kk + 1), .int .i64 0, .nilIface]) (by simp [results, Tryd.results44, go_sem]) rfl ?_
          rw [HH.out]
          exact (show Aside _ from ⟨_, rfl, fun _ => ⟨B, by rw [HN.out], by rw [HL.out, HN.out], KR.out⟩, BR.out⟩)
        · have he : endP (ks1, kk, 0) = ([], kk, 3) := by
            rw [endP, if_neg (by simp)]
            simp only
            rw [hget, Option.getD_some, if_pos hone]
          have HH : Hid (endP (ks1, kk, 0) = ([], kk, 3)) := he
          have hob : (((y.getD []).length : Int) != 1) = true := by simp; omega
          generalize (y.getD []).length = yl at e1 hob
          clear HE eS hone he
          go_wp2
          refine bodyPost_ret (v := .tuple #[.slice none 0 0, .int .i64 kk, errV 3]) (by simp [results, Tryd.results44, go_sem, errV]) rfl ?_
          rw [HH.out]
          exact (show Aside _ from ⟨_, rfl, fun h => absurd h (by show ¬ (3 : Int) = 0; decide), BR.out⟩)
  · have hv := ver_sch (is := is) (zs := zs) (by omega) hsch
    rw [hv]
    obtain ⟨SE, hSE⟩ : ∃ SE, schE zs = SE := ⟨_, rfl⟩
    rw [hSE] at cS hsch ⊢
    have hV : errV SE = .iface 37 (.int .i64 SE) := by rw [errV, if_neg hsch]
    simp only [hV] at cS
    have HS : Hid (SE ≠ 0) := hsch
    have HV : Hid (errV SE = .iface 37 (.int .i64 SE)) := hV
    clear hi hc hcc hz hN hv hSE hV hsch
    go_enter Tryd.func44, Tryd.ntmps44
    go_wp2_with fail
    refine cS.mono ?_
    rintro e w1 ⟨rfl, b1⟩
    go_wp2
    refine bodyPost_ret (v := .tuple #[.slice none 0 0, .int .i64 0, .iface 37 (.int .i64 SE)]) (by simp [results, Tryd.results44, go_sem]) rfl ?_
    exact (show Aside _ from ⟨_, by rw [HV.out]; rfl, fun h => absurd h HS.out, b1⟩)
end Go.Proofs.YtkoejkpjkcejcabDoor
namespace Go.Proofs.YtkoejkpjkcejcabDoor
open Go.RowKit
set_option linter.unusedVariables false

theorem vCheck_any (is : List I5) (p : Option Addr) (N c : Nat) (vz : Value) (zs : List (ByteArray × Int)) (w : World) (hr : REnv w) (htw : TW w) (hi : InsAt w p is) (hN : is.length = N) (hNm : N ≤ maxLen) (hz : ∀ i ∈ is, i.2.2.2.2.size ≤ maxLen) (hc : ColsV w vz zs) (A : Nat) (E : Int) (hR : (verP is zs).2 = (A, E)) :
    Calls Tryd.prog 76 #[.slice p N c, vz] w fun e w' => e = .returned (.tuple #[.int .i64 A, errV E]) ∧ Below w.heap.size w w' := by
  have cW := vWalk_any is p N c vz zs w hr htw hi hN hNm hz hc
  obtain ⟨⟨l, A', E'⟩, hv⟩ : ∃ r, verP is zs = r := ⟨_, rfl⟩
  rw [hv] at cW hR
  obtain ⟨rfl, rfl⟩ := Prod.mk.inj hR
  obtain ⟨pz, cz, rfl, -⟩ := hc
  clear hv hi hz hN hR
  go_enter Tryd.func76, Tryd.ntmps76
  go_wp2_with fail
  refine cW.mono ?_
  rintro e w1 hw1
  obtain ⟨v, rfl, -, b1⟩ := hw1.out
  go_wp2
  go_ret2
  exact ⟨rfl, b1⟩
set_option maxHeartbeats 2000000 in
theorem vType_any (is : List I5) (p : Option Addr) (N c : Nat) (vz : Value) (zs : List (ByteArray × Int)) (w : World) (hr : REnv w) (htw : TW w) (hi : InsAt w p is) (hN : is.length = N) (hNm : N ≤ maxLen) (hz : ∀ i ∈ is, i.2.2.2.2.size ≤ maxLen) (hc : ColsV w vz zs) (T E : Int) (hE : (verP is zs).2.2 = E) (hT : typP is (verP is zs) = T) :
    Calls Tryd.prog 18 #[.slice p N c, vz] w fun e w' => e = .returned (.tuple #[.int .i64 T, errV E]) ∧ Below w.heap.size w w' := by
  have cW := vWalk_any is p N c vz zs w hr htw hi hN hNm hz hc
  obtain ⟨pz, cz, rfl, -⟩ := hc
  by_cases h0 : E = 0
  · subst h0
    obtain ⟨hl, _, l, t, _, h4, h5, h6⟩ := sound_loop hE
    have ht := typ_sound h5 h6
    rw [hT] at ht
    subst ht
    rw [h6] at cW
    have hlt : is.length < l.length := by omega
    have H5 : Hid (l[is.length]? = some (some [T])) := h5
    have HN : Hid (is.length = N) := hN
    have HL : Hid (l.length = is.length + 1) := h4
    have hN12 : N ≤ 1200 := by omega
    clear hi hz hE hT h5 h6 h4 hN hl hlt
    go_enter Tryd.func18, Tryd.ntmps18
    go_wp2_with fail
    refine cW.mono ?_
    rintro e w1 hw1
    obtain ⟨v, he, hk, b1⟩ := hw1.out
    obtain ⟨b, rfl, _, hk⟩ := hk rfl
    rw [HN.out] at he
    simp only [show errV 0 = .nilIface from rfl] at he
    subst he
    have hNl : N < l.length := by rw [HL.out, HN.out]; omega
    obtain ⟨q, cq, d0, d1, dS⟩ := hk.at N hNl
    have hg : l[N] = some [T] := by
      have := H5.out
      rw [HN.out, List.getElem?_eq_getElem hNl] at this
      exact Option.some.inj this
    rw [hg] at d1 dS
    simp only [Option.getD_some, List.length_singleton] at d1 dS
    obtain ⟨g, o, rfl, hgl, dc⟩ := one_at dS.ints
    have hbl := hk.1
    have nz : (0 : Int) ≤ (N : Int) := by omega
    have nz1 : (N : Int) < (N : Int) + 1 := by omega
    clear hw1 hk cW d0 dS
    go_wp2
    go_ret2
    exact ⟨rfl, b1⟩
  · have ht : T = 0 := by rw [← hT, typP, if_pos (by rw [hE]; exact h0)]
    subst ht
    obtain ⟨⟨l, A', E'⟩, hv⟩ : ∃ r, verP is zs = r := ⟨_, rfl⟩
    rw [hv] at cW hE
    simp only at hE
    subst hE
    have hV : errV E' = .iface 37 (.int .i64 E') := by rw [errV, if_neg h0]
    have HV : Hid (errV E' = .iface 37 (.int .i64 E')) := hV
    rw [hV]
    clear hv hi hz hN hT hV h0
    go_enter Tryd.func18, Tryd.ntmps18
    go_wp2_with fail
    refine cW.mono ?_
    rintro e w1 hw1
    obtain ⟨v, he, -, b1⟩ := hw1.out
    simp only [HV.out] at he
    subst he
    clear hw1 cW
    go_wp2
    go_ret2
    exact ⟨rfl, b1⟩
end Go.Proofs.YtkoejkpjkcejcabDoor
namespace Go.Proofs.YtkoejkpjkcejcabDoor
open Go.RowKit
set_option linter.unusedVariables false

/-- What check lets through. -/
def vmE (is : List I5) (zs : List (ByteArray × Int)) (rs : List V3) : Int := if (verP is zs).2.2 ≠ 0 then (verP is zs).2.2 else rowChk zs rs
/-- What Run gives. -/
def vmR (is : List I5) (zs : List (ByteArray × Int)) (rs : List V3) (fuel : Int) : V3 × Nat × Int :=
  if vmE is zs rs ≠ 0 then (noV, 0, vmE is zs rs) else if fuel < 0 ∨ 1000000 < fuel then (noV, 0, 1)
  else (if (runP rs fuel is 0 0 [] []).2.2.2 = 0 then (runP rs fuel is 0 0 [] []).2.1.headD noV else noV, (runP rs fuel is 0 0 [] []).2.2.1.length, (runP rs fuel is 0 0 [] []).2.2.2)
/-- What Trace gives. -/
def vmT (is : List I5) (zs : List (ByteArray × Int)) (rs : List V3) : List Nat × Int :=
  if vmE is zs rs ≠ 0 then ([], vmE is zs rs) else if (runP rs (-1) is 0 0 [] []).2.2.2 ≠ 0 then ([], (runP rs (-1) is 0 0 [] []).2.2.2) else ((runP rs (-1) is 0 0 [] []).2.2.1, 0)
theorem vmCheck_any (is : List I5) (p : Option Addr) (N c : Nat) (vz rv : Value) (zs : List (ByteArray × Int)) (rs : List V3) (w : World) (hr : REnv w) (htw : TW w) (hi : InsAt w p is) (hN : is.length = N) (hNm : N ≤ maxLen) (hz : ∀ i ∈ is, i.2.2.2.2.size ≤ maxLen) (hc : ColsV w vz zs) (hrv : ValsV w rv rs) (hsz : SizedV rs) (E : Int) (hE : vmE is zs rs = E) :
    Calls Tryd.prog 45 #[.slice p N c, vz, rv] w fun e w' => e = .returned (errV E) ∧ Below w.heap.size w w' := by
  obtain ⟨⟨A0, E0⟩, hv⟩ : ∃ r, (verP is zs).2 = r := ⟨_, rfl⟩
  have cV := vCheck_any is p N c vz zs w hr htw hi hN hNm hz hc A0 E0 hv
  have cR := fun W (hb : Below w.heap.size w W) => rowCheck_v vz rv zs rs W (htw.on hb) (hc.on hb) (hrv.on hb) hsz
  unfold vmE at hE
  rw [hv] at hE
  simp only at hE
  by_cases h0 : E0 = 0
  · subst h0
    rw [if_neg (by simp)] at hE
    simp only [show errV 0 = .nilIface from rfl] at cV
    rw [hE] at cR
    generalize errV E = RV at cR ⊢
    clear hi hN hz hv hE
    obtain ⟨pz, cz, rfl, -⟩ := hc
    obtain ⟨q, cq, rfl, -⟩ := hrv
    go_enter Tryd.func45, Tryd.ntmps45
    go_wp2_with fail
    refine cV.mono ?_
    rintro e w1 ⟨rfl, b1⟩
    go_wp2_with fail
    refine (cR w1 b1).mono ?_
    rintro e w2 ⟨rfl, b2⟩
    go_wp2
    go_ret
    exact ⟨rfl, b1.trans (b2.mono b1.size)⟩
  · rw [if_pos h0] at hE
    subst hE
    have hV : errV E0 = .iface 37 (.int .i64 E0) := by rw [errV, if_neg h0]
    rw [hV] at cV ⊢
    clear hi hN hz hv h0 hV cR
    obtain ⟨pz, cz, rfl, -⟩ := hc
    obtain ⟨q, cq, rfl, -⟩ := hrv
    go_enter Tryd.func45, Tryd.ntmps45
    go_wp2_with fail
    refine cV.mono ?_
    rintro e w1 ⟨rfl, b1⟩
    go_wp2
    go_ret
    exact ⟨rfl, b1⟩
/-- What follow is handed, in whatever world behind the one in which it came in. -/
theorem row_cells {w : World} {q : Option Addr} {rs : List V3} (h : ValsAt w q rs) (h0 : rs.length ≠ 0) : ∃ rb ro, q = some ⟨rb, ro, none⟩ ∧ rb < w.heap.size ∧ ∀ W, Below w.heap.size w W → ∀ j (h : j < rs.length), W.cell? ⟨rb, ro + j * 3, none⟩ = some (.int .i64 rs[j].1) ∧ W.cell? ⟨rb, ro + j * 3 + 1, none⟩ = some (.int .i64 rs[j].2.1) ∧ W.cell? ⟨rb, ro + j * 3 + 2, none⟩ = some (.string rs[j].2.2) := by
  rcases h with h | ⟨b, off, e, hl, h⟩
  · exact absurd h h0
  · refine ⟨b, off, e, hl, fun W hb j hj => ?_⟩
    obtain ⟨h1, h2, h3⟩ := h j hj
    exact ⟨by rw [hb.cell (p := ⟨b, _, none⟩) hl]; exact h1, by rw [hb.cell (p := ⟨b, _, none⟩) hl]; exact h2, by rw [hb.cell (p := ⟨b, _, none⟩) hl]; exact h3⟩
theorem ent_run (args : Array Value) (W : World) : Sem.run Tryd.prog (callFunc 47 args) W = .ok (.enter 47 args) W := by kernel_rfl
set_option maxHeartbeats 8000000 in
set_option maxRecDepth 20000 in
theorem vmRun_any (is : List I5) (p : Option Addr) (N c : Nat) (vz rv : Value) (zs : List (ByteArray × Int)) (rs : List V3) (fuel : Int) (w : World) (hr : REnv w) (htw : TW w) (hi : InsAt w p is) (hN : is.length = N) (hNm : N ≤ maxLen) (hz : ∀ i ∈ is, i.2.2.2.2.size ≤ maxLen ∧ inB i.2.2.2.1) (hc : ColsV w vz zs) (hrv : ValsV w rv rs) (hsz : SizedV rs) (V : V3) (M : Nat) (E : Int) (hE : vmR is zs rs fuel = (V, M, E)) :
    Calls Tryd.prog 19 #[.slice p N c, vz, rv, .int .i64 fuel] w fun e w' => e = .returned (.tuple #[.agg #[.int .i64 V.1, .int .i64 V.2.1, .string V.2.2], .int .i64 M, errV E]) ∧ Below w.heap.size w w' := by
  obtain ⟨E1, hE1⟩ : ∃ E1, vmE is zs rs = E1 := ⟨_, rfl⟩
  have b0 : Below w.heap.size w (w.alloc (.cells #[.int .i64 0, .int .i64 0, .string ⟨#[]⟩] 23)) := alB w _
  have cC := vmCheck_any is p N c vz rv zs rs _ (hr.on b0) (htw.on b0) (hi.on b0) hN hNm (fun i hi => (hz i hi).1) (hc.on b0) (hrv.on b0) hsz E1 hE1
  have r0 : Aside (ResAt (w.alloc (.cells #[.int .i64 0, .int .i64 0, .string ⟨#[]⟩] 23)) w.heap.size) := heap_alloc_new w (.cells #[.int .i64 0, .int .i64 0, .string ⟨#[]⟩] 23)
  obtain ⟨pz, cz, rfl, -⟩ := id hc
  obtain ⟨q, cq, rfl, hqm, hq⟩ := hrv
  unfold vmR at hE
  rw [hE1] at hE
  by_cases h1 : E1 = 0
  · subst h1
    rw [if_neg (by simp)] at hE
    simp only [show errV 0 = .nilIface from rfl] at cC
    by_cases hf : fuel < 0 ∨ 1000000 < fuel
    · rw [if_pos hf] at hE
      simp only [Prod.mk.injEq] at hE
      obtain ⟨rfl, rfl, rfl⟩ := hE
      clear hi hN hz hE1 hr htw hc hsz hq
      show Calls _ _ _ _ fun e w' => e = .returned (.tuple #[.agg #[.int .i64 0, .int .i64 0, .string ⟨#[]⟩], .int .i64 0, .iface 37 (.int .i64 1)]) ∧ _
      by_cases hf0 : fuel < 0
      · clear hf
        go_enter Tryd.func19, Tryd.ntmps19
        go_wp2_with fail
        refine cC.mono ?_
        rintro e w1 ⟨rfl, b1⟩
        obtain ⟨r0, r1, r2, rf, rl⟩ := (r0.out.below b1 (by simp)).cells
        have B1 : Below w.heap.size w w1 := b0.trans (b1.mono b0.size)
        clear cC b1 b0
        go_wp2
        refine bodyPost_ret (v := .tuple #[.agg #[.int .i64 0, .int .i64 0, .string ⟨#[]⟩], .int .i64 0, .iface 37 (.int .i64 1)]) (by simp [results, Tryd.results19, go_sem, World.cell?_setCell_other, World.cell?_setCell_same, r0, r1, r2]) rfl ⟨rfl, ?_⟩
        exact below3 B1 (Nat.le_refl _) _ _ _
      · have hf1 : 1000000 < fuel := hf.resolve_left hf0
        clear hf
        go_enter Tryd.func19, Tryd.ntmps19
        go_wp2_with fail
        refine cC.mono ?_
        rintro e w1 ⟨rfl, b1⟩
        obtain ⟨r0, r1, r2, rf, rl⟩ := (r0.out.below b1 (by simp)).cells
        have B1 : Below w.heap.size w w1 := b0.trans (b1.mono b0.size)
        clear cC b1 b0
        go_wp2
        refine bodyPost_ret (v := .tuple #[.agg #[.int .i64 0, .int .i64 0, .string ⟨#[]⟩], .int .i64 0, .iface 37 (.int .i64 1)]) (by simp [results, Tryd.results19, go_sem, World.cell?_setCell_other, World.cell?_setCell_same, r0, r1, r2]) rfl ⟨rfl, ?_⟩
        exact below3 B1 (Nat.le_refl _) _ _ _
    · rw [if_neg hf] at hE
      have hf0 : ¬ fuel < 0 := fun h => hf (.inl h)
      have hf1 : ¬ 1000000 < fuel := fun h => hf (.inr h)
      have hver : (verP is zs).2.2 = 0 := by
        unfold vmE at hE1
        split at hE1
        · rename_i h; exact absurd hE1 h
        · rename_i h; exact Classical.not_not.1 h
      have hrc : rowChk zs rs = 0 := by
        unfold vmE at hE1
        rwa [if_neg (by simp [hver])] at hE1
      obtain ⟨hrow, hsch⟩ := rowR_of hrc hsz
      obtain ⟨l, t, hsnd, -, -⟩ := snd_of hver
      have hz0 : rs.length ≠ 0 := by rw [hrow.1]; exact (schE_zero hsch).1
      obtain ⟨rb, ro, rfl, hrb, hcell⟩ := row_cells hq hz0
      obtain ⟨R, hRn⟩ : ∃ R, runP rs fuel is 0 0 [] [] = R := ⟨_, rfl⟩
      rw [hRn] at hE
      simp only [Prod.mk.injEq] at hE
      obtain ⟨hV, hM, hEE⟩ := hE
      have CF : Aside (∀ w1, Below w.heap.size w w1 → w.heap.size < w1.heap.size → Calls Tryd.prog 46 #[.slice p N c, .slice (some ⟨rb, ro, none⟩) rs.length cq, .func (.func 47) #[] #[.pointer (some ⟨w1.heap.size, 0, none⟩)]] (w1.alloc (.cells #[.int .i64 fuel] 3)) fun e w' => e = .returned (.tuple #[.agg #[.int .i64 V.1, .int .i64 V.2.1, .string V.2.2], .int .i64 M, errV E]) ∧ Aside (Below w1.heap.size w1 w')) := by
        intro w1 b1 hlt
        have al1 := alB w1 (.cells #[.int .i64 fuel] 3)
        have hB : ∀ W, Below w1.heap.size (w1.alloc (.cells #[.int .i64 fuel] 3)) W → Below w.heap.size w W := fun W hW => b1.trans ((al1.trans hW).mono b1.size)
        have := follow_any 47 ent_run w1.heap.size fuel _ is p N c (some ⟨rb, ro, none⟩) rs.length cq rs zs l t (w1.alloc (.cells #[.int .i64 fuel] 3)) (by simp) (fun W hW => hr.on (hB W hW)) (fun W hW => hi.on (hB W hW)) hN (fun W hW => ⟨rb, ro, rfl, by have := b1.size; omega, hcell W (hB W hW)⟩) rfl hrow (fun i hi => (hz i hi).2) hsnd (asked_run w1.heap.size fuel (by omega)) ⟨⟨⟨_, heap_alloc_new w1 _⟩, by rw [World.cell?_alloc_at _ _ _ _ rfl]; simp⟩, by simp; omega⟩ R hRn V hV
        refine this.mono ?_
        rintro e w' ⟨rfl, _, h2⟩
        rw [hM, hEE]
        exact ⟨rfl, (show Aside _ from al1.trans h2.out)⟩
      generalize errV E = RV at CF ⊢
      clear hi hN hz hE1 hr htw hc hsz hq hver hrc hrow hsnd hcell hV hM hEE hRn hf hsch
      go_enter Tryd.func19, Tryd.ntmps19
      go_wp2_with fail
      refine cC.mono ?_
      rintro e w1 ⟨rfl, b1⟩
      have R1 : Aside (ResAt w1 w.heap.size) := r0.out.below b1 (by simp)
      have B1 : Below w.heap.size w w1 := b0.trans (b1.mono b0.size)
      have hlt1 := R1.out.cells.2.2.2.2
      have cF := CF.out w1 B1 hlt1
      clear cC b1 b0 CF r0
      go_wp2_with fail
      refine cF.mono ?_
      rintro e w2 ⟨rfl, B2⟩
      have B3 : Below w.heap.size w w2 := B1.trans (B2.out.mono B1.size)
      obtain ⟨r0, r1, r2, rf, rl⟩ := (R1.out.below B2.out hlt1).cells
      clear cF B2 B1 R1
      go_wp2
      refine bodyPost_ret (v := .tuple #[.agg #[.int .i64 V.1, .int .i64 V.2.1, .string V.2.2], .int .i64 M, RV]) (by simp [results, Tryd.results19, go_sem, World.cell?_setCell_other, World.cell?_setCell_same, r0, r1, r2]) rfl ⟨rfl, ?_⟩
      exact below3 B3 (Nat.le_refl _) _ _ _
  · rw [if_pos h1] at hE
    simp only [Prod.mk.injEq] at hE
    obtain ⟨rfl, rfl, rfl⟩ := hE
    have hV : errV E1 = .iface 37 (.int .i64 E1) := by rw [errV, if_neg h1]
    rw [hV] at cC ⊢
    clear hi hN hz hE1 hr htw hc hsz hq hV h1
    show Calls _ _ _ _ fun e w' => e = .returned (.tuple #[.agg #[.int .i64 0, .int .i64 0, .string ⟨#[]⟩], .int .i64 0, .iface 37 (.int .i64 E1)]) ∧ _
    go_enter Tryd.func19, Tryd.ntmps19
    go_wp2_with fail
    refine cC.mono ?_
    rintro e w1 ⟨rfl, b1⟩
    obtain ⟨r0, r1, r2, rf, rl⟩ := (r0.out.below b1 (by simp)).cells
    have B1 : Below w.heap.size w w1 := b0.trans (b1.mono b0.size)
    clear cC b1 b0
    go_wp2
    refine bodyPost_ret (v := .tuple #[.agg #[.int .i64 0, .int .i64 0, .string ⟨#[]⟩], .int .i64 0, .iface 37 (.int .i64 E1)]) (by simp [results, Tryd.results19, go_sem, World.cell?_setCell_other, World.cell?_setCell_same, r0, r1, r2]) rfl ⟨rfl, ?_⟩
    exact below3 B1 (Nat.le_refl _) _ _ _
end Go.Proofs.YtkoejkpjkcejcabDoor
namespace Go.Proofs.YtkoejkpjkcejcabDoor
open Go.RowKit
set_option linter.unusedVariables false

def natZ (d : List Nat) : List Int := d.map fun (n : Nat) => (n : Int)
theorem natC_eq (d : List Nat) : natC d = (natZ d).map fun t => Value.int .i64 t := by
  unfold natC natZ
  rw [List.map_map]
  rfl
theorem noted_ints {W : World} {L : Nat} {d : List Nat} {q : Option Addr} {c : Nat} (h : W.ownsRow (L + 1) 3 1 (.slice q d.length c) d.length (natC d)) : IntsAt W q (natZ d) := by
  rw [natC_eq] at h
  exact ownInts (by unfold natZ; rw [List.length_map]) h
end Go.Proofs.YtkoejkpjkcejcabDoor
namespace Go.Proofs.YtkoejkpjkcejcabDoor
open Go.RowKit
set_option linter.unusedVariables false

theorem snd_neg {zs : List (ByteArray × Int)} {rs : List V3} {is : List I5} {l : List Pl} {t : Int} (h : Snd zs is l t) (hrow : RowR zs rs) (hb : ∀ i ∈ is, inB i.2.2.2.1) {fuel : Int} (hf : fuel < 0) : ∀ (n k : Nat) (st : List V3) (d : List Nat), is.length - k ≤ n → k ≤ is.length → AtPl l k st → (runP rs fuel (is.drop k) k 0 st d).2.2.2 = 9 ∨ (runP rs fuel (is.drop k) k 0 st d).2.2.2 = 0 ∧ ∃ v, (runP rs fuel (is.drop k) k 0 st d).2.1 = [v] ∧ okV t v
  | n, k, st, d, hn, hk, ha => by
    by_cases hlt : k < is.length
    · obtain ⟨_, hnx⟩ := h.next hrow hb hlt ha
      rw [run_at hlt (fun h0 => by
        rcases hnx with ⟨_, h2, _⟩ | h9
        · exact h2
        · rw [h9] at h0; exact absurd h0 (by decide)), if_neg (by omega)]
      rcases hnx with ⟨h0, h1, h2, _⟩ | h9
      · rw [if_neg (by simp [h0])]
        match n, hn with
        | 0, hn => omega
        | n + 1, hn => exact snd_neg h hrow hb hf n _ _ _ (by omega) h1 h2
      · rw [if_pos (by rw [h9]; decide)]
        exact .inl h9
    · obtain rfl : k = is.length := by omega
      obtain ⟨v, rfl, hv⟩ := h.end ha
      rw [List.drop_eq_nil_of_le (Nat.le_refl _), runP]
      exact .inr ⟨rfl, v, rfl, hv⟩
/-- Sound code, with more fuel than it has instructions. -/
theorem snd_full {zs : List (ByteArray × Int)} {rs : List V3} {is : List I5} {l : List Pl} {t : Int} (h : Snd zs is l t) (hrow : RowR zs rs) (hb : ∀ i ∈ is, inB i.2.2.2.1) {fuel : Int} (hf : (is.length : Int) < fuel) :
    ((runP rs fuel is 0 0 [] []).2.2.2 = 9 ∨ (runP rs fuel is 0 0 [] []).2.2.2 = 0 ∧ ∃ v, (runP rs fuel is 0 0 [] []).2.1 = [v] ∧ okV t v) ∧ (runP rs fuel is 0 0 [] []).2.2.1.length ≤ is.length ∧ runP rs (-1) is 0 0 [] [] = runP rs fuel is 0 0 [] [] := by
  have h1 := snd_neg h hrow hb (fuel := -1) (by decide) is.length 0 [] [] (by omega) (Nat.zero_le _) ⟨[], h.start, StkR.nil⟩
  rw [List.drop_zero] at h1
  obtain ⟨m, m1, m2, -, -⟩ := run_done rs (-1) is 0 0 [] []
  rw [List.nil_append] at m1
  have e := run_more rs (-1) fuel is 0 0 [] [] (by
    rcases h1 with h1 | h1
    · rw [h1]; decide
    · rw [h1.1]; decide) (.inr (.inl (by rw [m1]; omega)))
  rw [e, m1]
  exact ⟨h1, m2, rfl⟩
theorem snd_some {rs : List V3} {is : List I5} {fuel : Int} (h0 : is.length ≠ 0) (hf : 0 < fuel ∨ fuel < 0) (hE : (runP rs fuel is 0 0 [] []).2.2.2 = 0) : 1 ≤ (runP rs fuel is 0 0 [] []).2.2.1.length := by
  match is, h0 with
  | i :: is, _ =>
    rw [runP] at hE ⊢
    rw [if_neg (by simp; omega)] at hE ⊢
    split at hE
    · rename_i h; exact absurd hE h
    rename_i h
    rw [if_neg h]
    obtain ⟨m, m1, -⟩ := run_done rs fuel is (0 + 1) (vmI rs [] i).2.1 (vmI rs [] i).1 ([] ++ [0])
    rw [m1]
    simp
theorem snd_ne {zs : List (ByteArray × Int)} {is : List I5} (h : (verP is zs).2.2 = 0) : is.length ≠ 0 := fun h0 => by
  have : is = [] := List.length_eq_zero_iff.1 h0
  subst this
  obtain ⟨_, _, _, _, hs⟩ := snd_of h
  have := congrArg Prod.snd (ver_nil (zs := zs) hs)
  rw [h] at this
  exact absurd this (by decide)
/-- The column x that the laws make. -/
theorem colOne (w : World) (g : Nat) (hg : g = w.heap.size) : ColsV (w.alloc (.cells #[.string ⟨#[120]⟩, .int .i64 1] 30)) (.slice (some ⟨g, 0, none⟩) 1 1) [(⟨#[120]⟩, 1)] := by
  subst hg
  refine ⟨_, 1, rfl, .inr ⟨w.heap.size, 0, rfl, Nat.le_refl _, fun z hz => ?_, by simp, fun j hj => ?_⟩⟩
  · simp only [List.mem_singleton] at hz; subst hz; decide
  · obtain rfl : j = 0 := by simp at hj; omega
    constructor
    · rw [World.cell?_alloc_at _ _ _ _ rfl]; rfl
    · rw [World.cell?_alloc_at _ _ _ _ rfl]; rfl
/-- Instructions that a law makes. -/
theorem insLit (w : World) (g : Nat) (hg : g = w.heap.size) (is : List I5) (cs : Array Value) (hcs : ∀ j (h : j < is.length), cs[j * 5]? = some (.int .i64 is[j].1) ∧ cs[j * 5 + 1]? = some (.int .i64 is[j].2.1) ∧ cs[j * 5 + 2]? = some (.int .i64 is[j].2.2.1) ∧ cs[j * 5 + 3]? = some (.int .i64 is[j].2.2.2.1) ∧ cs[j * 5 + 4]? = some (.string is[j].2.2.2.2)) : InsAt (w.alloc (.cells cs 50)) (some ⟨g, 0, none⟩) is := by
  subst hg
  refine .inr ⟨w.heap.size, 0, rfl, by simp, fun j hj => ?_⟩
  obtain ⟨h1, h2, h3, h4, h5⟩ := hcs j hj
  rw [World.cell?_alloc_at _ _ _ _ rfl, World.cell?_alloc_at _ _ _ _ rfl, World.cell?_alloc_at _ _ _ _ rfl, World.cell?_alloc_at _ _ _ _ rfl, World.cell?_alloc_at _ _ _ _ rfl]
  simp only [Nat.zero_add]
  exact ⟨h1, h2, h3, h4, h5⟩
/-- Whether an error is the one that is meant. -/
theorem same_any (E k : Int) (W : World) (hg : W.cell? ⟨1, 0, none⟩ = some (.iface 168 (.agg #[.pointer (some ⟨11, 32, none⟩)]))) (hk : E = k) : Calls Tryd.prog 17 #[errV E, .int .i64 k] W fun e w' => e = .returned (.bool true) ∧ Below W.heap.size W w' := by
  subst hk
  by_cases h0 : E = 0
  · subst h0
    refine (same_nil 0 W).mono ?_
    rintro e w' ⟨rfl, rfl⟩
    exact ⟨rfl, Below.refl _ _⟩
  · rw [show errV E = .iface 37 (.int .i64 E) by rw [errV, if_neg h0]]
    refine (same_err E E W hg).mono ?_
    rintro e w' ⟨rfl, h⟩
    exact ⟨by rw [beq_self_eq_true], h⟩
theorem valV_eql (t n : Int) (s : ByteArray) (W : World) : Sem.run Tryd.prog (binOp .eql 23 (.agg #[.int .i64 t, .int .i64 n, .string s]) (.agg #[.int .i64 t, .int .i64 n, .string s])) W = .ok (.bool true) W := by
  have h := valK_eqIn t n t n s s W
  have h1 : ((t == t) && ((n == n) && (s.toList == s.toList))) = true := by simp
  rw [h1] at h
  rw [run_eql_struct, h]
  rfl
/-- What the laws' own facts are. -/
theorem fact_sound : (verP [((2 : Int), (0 : Int), (0 : Int), (0 : Int), (⟨#[]⟩ : ByteArray)), (6, 0, 0, 0, ⟨#[]⟩), (7, 0, 0, 0, ⟨#[]⟩)] [(⟨#[120]⟩, 1)]).2.2 = 0 := by decide
theorem fact_type : typP [((2 : Int), (0 : Int), (0 : Int), (0 : Int), (⟨#[]⟩ : ByteArray)), (6, 0, 0, 0, ⟨#[]⟩), (7, 0, 0, 0, ⟨#[]⟩)] (verP [((2 : Int), (0 : Int), (0 : Int), (0 : Int), (⟨#[]⟩ : ByteArray)), (6, 0, 0, 0, ⟨#[]⟩), (7, 0, 0, 0, ⟨#[]⟩)] [(⟨#[120]⟩, 1)]) = 1 := by decide
theorem fact_run : vmR [((2 : Int), (0 : Int), (0 : Int), (0 : Int), (⟨#[]⟩ : ByteArray))] [(⟨#[120]⟩, 1)] [((1 : Int), (3 : Int), (⟨#[]⟩ : ByteArray))] 5 = ((1, 3, ⟨#[]⟩), 1, 0) := by decide
end Go.Proofs.YtkoejkpjkcejcabDoor
