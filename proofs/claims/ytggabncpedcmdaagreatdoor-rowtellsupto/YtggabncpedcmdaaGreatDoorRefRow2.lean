/-
  What Check of package row, and the document's Row, say of any columns and values.
-/
import Derived.Test.YtggabncpedcmdaaGreatDoorRefRow1
import Derived.Test.YtggabncpedcmdaaGreatDoorRowBackWalk
import Derived.Test.YtggabncpedcmdaaGreatDoorRef1
namespace Go.Proofs.YtggabncpedcmdaaGreatDoor
open Go.RowKit
set_option linter.unusedVariables false

theorem schema_v (lv : Value) (zs : List (ByteArray × Int)) (w : World) (hw : TW w) (h : IsCols w lv zs) :
    Calls Tryz.prog 17 #[lv] w fun e w' => e = .returned (errV (schE zs)) ∧ Below w.heap.size w w' := by
  obtain ⟨p, c, rfl, hcap, hm, hz, h⟩ := h
  rcases h with h0 | ⟨b, off, rfl, h⟩
  · have := List.length_eq_zero_iff.1 h0
    subst this
    exact (schema_none p c w).mono fun e w' hh => ⟨hh.1, by rw [hh.2]; exact Below.refl _ _⟩
  · exact schema_any b off c zs w hw hcap hz h
theorem refSchema_v (lv : Value) (zs : List (ByteArray × Int)) (w : World) (h : IsCols w lv zs) :
    Calls Tryz.prog 18 #[lv] w fun e w' => e = .returned (.int .i64 (schE zs)) ∧ w' = w := by
  obtain ⟨p, c, rfl, hcap, hm, hz, h⟩ := h
  rcases h with h0 | ⟨b, off, rfl, h⟩
  · have := List.length_eq_zero_iff.1 h0
    subst this
    exact refSchema_none p c w
  · exact refSchema_any b off c zs w hz h
def rcGo : List (ByteArray × Int) → List (Int × Int × ByteArray) → Int
  | z :: zs, r :: rs => if chk r.1 r.2.1 r.2.2.data.toList ≠ 0 then chk r.1 r.2.1 r.2.2.data.toList else if r.1 ≠ z.2 then 8 else rcGo zs rs
  | _, _ => 0
/-- The fault of a row of a schema. -/
def rowChk (zs : List (ByteArray × Int)) (rs : List (Int × Int × ByteArray)) : Int := if schE zs ≠ 0 then schE zs else if rs.length ≠ zs.length then 3 else rcGo zs rs
theorem rcGo_at {zs : List (ByteArray × Int)} {rs : List (Int × Int × ByteArray)} {k : Nat} (hz : k < zs.length) (hr : k < rs.length) :
    rcGo (zs.drop k) (rs.drop k) = if chk rs[k].1 rs[k].2.1 rs[k].2.2.data.toList ≠ 0 then chk rs[k].1 rs[k].2.1 rs[k].2.2.data.toList else if rs[k].1 ≠ zs[k].2 then 8 else rcGo (zs.drop (k + 1)) (rs.drop (k + 1)) := by
  rw [List.drop_eq_getElem_cons hz, List.drop_eq_getElem_cons hr, rcGo]
set_option maxHeartbeats 4000000 in
theorem check_v (lv rv : Value) (zs : List (ByteArray × Int)) (rs : List (Int × Int × ByteArray)) (w : World) (hw : TW w) (hl : IsCols w lv zs) (hr : IsVals w rv rs) (hsz : Sized rs) :
    Calls Tryz.prog 19 #[lv, rv] w fun e w' => e = .returned (errV (rowChk zs rs)) ∧ Below w.heap.size w w' := by
  have cS := schema_v lv zs w hw hl
  obtain ⟨K, hK⟩ : ∃ K, rowChk zs rs = K := ⟨_, rfl⟩
  rw [hK]
  rw [rowChk] at hK
  by_cases h0 : schE zs = 0
  · rw [if_neg (by simpa using h0)] at hK
    rw [h0, show errV 0 = .nilIface from rfl] at cS
    obtain ⟨zp, zc, rfl, _, hzm, _, hzz⟩ := hl
    obtain ⟨rp, rc, rfl, hrm, hrr⟩ := hr
    have hz0 := (schE_zero h0).1
    clear h0
    by_cases hle : rs.length = zs.length
    · rw [if_neg (by simpa using hle)] at hK
      rcases hzz with h | ⟨zb, zo, rfl, hzi⟩
      · exact absurd h hz0
      · rcases hrr with h | ⟨rb, ro, rfl, hri⟩
        · exact absurd (hle.symm.trans h) hz0
        · have hlez : (rs.length : Int) = (zs.length : Int) := by omega
          have hqz : ((rs.length : Int) != (zs.length : Int)) = false := by rw [hlez]; simp
          have HK : Hid (rcGo zs rs = K) := hK
          unfold maxLen at hrm hzm
          clear hK
          go_enter Tryz.func19, Tryz.ntmps19
          go_wp2_with fail
          refine cS.mono ?_
          rintro e w0 ⟨rfl, b0⟩
          go_wp2
          go_loopg [6, 7, 8, 22] rs.length (fun gg _ _ _ s22 wr => ∃ kk : Nat, kk ≤ rs.length ∧ rs.length - kk ≤ gg ∧ s22 = .int .i64 kk ∧ Aside (Below w.heap.size w wr) ∧ Hid (K = rcGo (zs.drop kk) (rs.drop kk)))
          case atStart => exact ⟨0, Nat.zero_le _, by omega, rfl, b0, (show Hid _ by simp [Hid, HK.out])⟩
          case round =>
            obtain ⟨kk, hkk, hg, rfl, BW, HS⟩ := hrel
            by_cases hlt : kk < rs.length
            · have hltz : (kk : Int) < (rs.length : Int) := by omega
              have hltz2 : (kk : Int) < (zs.length : Int) := by omega
              have k0 : (0 : Int) ≤ (kk : Int) := by omega
              obtain ⟨c0, c1, c2⟩ := (hri.on BW.out).2 kk hlt
              have hltn : kk < zs.length := by omega
              have HS2 : Hid (K = _) := HS.out.trans (rcGo_at hltn hlt)
              obtain ⟨hs1, hn1⟩ := hsz _ (List.getElem_mem hlt)
              have hzi2 := (hzi.on BW.out)
              obtain ⟨d0, d1⟩ := hzi2.2 kk hltn
              have hzl := hzi2.1
              generalize hy : rs[kk] = y at c0 c1 c2 HS2 hs1 hn1
              generalize hyz : zs[kk] = z at d0 d1 HS2
              obtain ⟨yt, yn, ys⟩ := y
              obtain ⟨zn, zt⟩ := z
              simp only at c0 c1 c2 d0 d1 HS2 hs1 hn1
              have B1 := BW.out.alloc BW.out.size (.cells #[.int .i64 yt, .int .i64 yn, .string ys] 23)
              have cC := check_any yt yn ys (wr.alloc (.cells #[.int .i64 yt, .int .i64 yn, .string ys] 23)) hs1
              obtain ⟨ce, hce⟩ : ∃ ce, chk yt yn ys.data.toList = ce := ⟨_, rfl⟩
              rw [hce] at cC
              have HS3 : Hid (K = if ce ≠ 0 then ce else if yt ≠ zt then 8 else rcGo (zs.drop (kk + 1)) (rs.drop (kk + 1))) := by
                rw [← hce]; exact HS2
              have e1 := errV_neq ce
              have e2 := errV_gneq ce
              clear HS HS2 hy hyz hce hsz
              go_wp2_with fail
              refine cC.mono ?_
              rintro e w1 ⟨rfl, b1⟩
              obtain ⟨hc1, hf1⟩ := bcells b1
              have l1 : wr.heap.size < w1.heap.size := by have := b1.size; simp at this; omega
              have q0 : w1.cell? ⟨wr.heap.size, 0, none⟩ = some (.int .i64 yt) := by
                rw [hc1 _ _ (by simp), World.cell?_alloc_at _ _ _ _ rfl]; rfl
              have g1 : w1.cell? ⟨zb, zo + kk * 2 + 1, none⟩ = some (.int .i64 zt) := by
                rw [hc1 _ _ (by simp; omega), World.cell?_alloc_lt _ _ _ hzl]; exact d1
              have B2 := B1.trans (b1.mono B1.size)
              clear hc1 hf1 b1 cC c0 c1 c2 d0 d1 B1 hzi2
              by_cases hz : ce = 0
              · have hb : (ce != 0) = false := by simpa using hz
                rw [hb] at e1
                by_cases htt : yt = zt
                · have hq : (yt != zt) = false := by simpa using htt
                  have HS4 : Hid (K = rcGo (zs.drop (kk + 1)) (rs.drop (kk + 1))) := by
                    have := HS3.out
                    rwa [if_neg (by simpa using hz), if_neg (by simpa using htt)] at this
                  clear HS3 hz hb htt
                  go_wp2
                  go_quiet (fail)
                  go_wp2
                  go_roundg (rs.length - (kk + 1))
                  case measure => omega
                  case rel => exact ⟨kk + 1, by omega, by omega, by go_num, by repeat (first | exact B2 | apply below_drewN | refine Below.drew ?_), HS4⟩
                · have hq : (yt != zt) = true := by simpa using htt
                  have HS4 : K = 8 := by
                    have := HS3.out
                    rwa [if_neg (by simpa using hz), if_pos htt] at this
                  subst HS4
                  clear HS3 hz hb htt
                  go_wp2
                  go_quiet (fail)
                  go_wp2
                  go_ret
                  exact ⟨rfl, by repeat (first | exact B2 | apply below_drewN | refine Below.drew ?_)⟩
              · have hb : (ce != 0) = true := by simpa using hz
                rw [hb] at e1
                have HS4 : K = ce := by
                  have := HS3.out
                  rwa [if_pos hz] at this
                subst HS4
                clear HS3 hz hb
                go_wp2
                go_ret
                exact ⟨rfl, B2⟩
            · have hltz : ¬ (kk : Int) < (rs.length : Int) := by omega
              have hkz : K = 0 := by
                rw [HS.out, List.drop_eq_nil_of_le (show zs.length ≤ kk by omega)]; rfl
              subst hkz
              clear HS HK
              go_wp2
              go_ret
              exact ⟨rfl, BW.out⟩
    · rw [if_pos hle] at hK
      subst hK
      have hqz : ((rs.length : Int) != (zs.length : Int)) = true := by simp; omega
      clear hle hzz hrr
      go_enter Tryz.func19, Tryz.ntmps19
      go_wp2_with fail
      refine cS.mono ?_
      rintro e w0 ⟨rfl, b0⟩
      go_wp2
      go_ret
      exact ⟨rfl, b0⟩
  · rw [if_pos h0] at hK
    rw [hK] at cS h0
    have HE : Hid (errV K = .iface 69 (.int .i64 K)) := errR_n h0
    clear hK h0 hl hr
    go_enter Tryz.func19, Tryz.ntmps19
    go_wp2_with fail
    refine cS.mono ?_
    rintro e w0 ⟨rfl, b0⟩
    rw [HE.out]
    go_wp2
    go_ret
    exact ⟨by rw [HE.out]; rfl, b0⟩
set_option maxHeartbeats 4000000 in
theorem refRow_v (lv rv : Value) (zs : List (ByteArray × Int)) (rs : List (Int × Int × ByteArray)) (w : World) (hl : IsCols w lv zs) (hr : IsVals w rv rs) (hsz : Sized rs) :
    Calls Tryz.prog 20 #[lv, rv] w fun e w' => e = .returned (.int .i64 (rowChk zs rs)) ∧ Below w.heap.size w w' := by
  have cS := refSchema_v lv zs w hl
  obtain ⟨K, hK⟩ : ∃ K, rowChk zs rs = K := ⟨_, rfl⟩
  rw [hK]
  rw [rowChk] at hK
  by_cases h0 : schE zs = 0
  · rw [if_neg (by simpa using h0)] at hK
    rw [h0] at cS
    obtain ⟨zp, zc, rfl, _, hzm, _, hzz⟩ := hl
    obtain ⟨rp, rc, rfl, hrm, hrr⟩ := hr
    have hz0 := (schE_zero h0).1
    clear h0
    by_cases hle : rs.length = zs.length
    · rw [if_neg (by simpa using hle)] at hK
      rcases hzz with h | ⟨zb, zo, rfl, hzi⟩
      · exact absurd h hz0
      · rcases hrr with h | ⟨rb, ro, rfl, hri⟩
        · exact absurd (hle.symm.trans h) hz0
        · have hlez : (rs.length : Int) = (zs.length : Int) := by omega
          have hqz : ((rs.length : Int) != (zs.length : Int)) = false := by rw [hlez]; simp
          have HK : Hid (rcGo zs rs = K) := hK
          unfold maxLen at hrm hzm
          clear hK
          go_enter Tryz.func20, Tryz.ntmps20
          go_wp2_with fail
          refine cS.mono ?_
          rintro e w0 ⟨rfl, hq0⟩
          obtain rfl : w = w0 := hq0.symm
          go_wp2
          go_loopg [5, 6] rs.length (fun gg _ s6 wr => ∃ kk : Nat, kk ≤ rs.length ∧ rs.length - kk ≤ gg ∧ s6 = .int .i64 kk ∧ Aside (Below w.heap.size w wr) ∧ Hid (K = rcGo (zs.drop kk) (rs.drop kk)))
          case atStart => exact ⟨0, Nat.zero_le _, by omega, rfl, Below.refl _ _, (show Hid _ by simp [Hid, HK.out])⟩
          case round =>
            obtain ⟨kk, hkk, hg, rfl, BW, HS⟩ := hrel
            by_cases hlt : kk < rs.length
            · have hltz : (kk : Int) < (rs.length : Int) := by omega
              have hltz2 : (kk : Int) < (zs.length : Int) := by omega
              have k0 : (0 : Int) ≤ (kk : Int) := by omega
              have hri2 := (hri.on BW.out)
              obtain ⟨c0, c1, c2⟩ := hri2.2 kk hlt
              have hrl := hri2.1
              have hltn : kk < zs.length := by omega
              have HS2 : Hid (K = _) := HS.out.trans (rcGo_at hltn hlt)
              obtain ⟨hs1, hn1⟩ := hsz _ (List.getElem_mem hlt)
              have hzi2 := (hzi.on BW.out)
              obtain ⟨d0, d1⟩ := hzi2.2 kk hltn
              have hzl := hzi2.1
              generalize hy : rs[kk] = y at c0 c1 c2 HS2 hs1 hn1
              generalize hyz : zs[kk] = z at d0 d1 HS2
              obtain ⟨yt, yn, ys⟩ := y
              obtain ⟨zn, zt⟩ := z
              simp only at c0 c1 c2 d0 d1 HS2 hs1 hn1
              have cC := refVal_any yt yn ys wr hs1
              obtain ⟨ce, hce⟩ : ∃ ce, chk yt yn ys.data.toList = ce := ⟨_, rfl⟩
              rw [hce] at cC
              have HS3 : Hid (K = if ce ≠ 0 then ce else if yt ≠ zt then 8 else rcGo (zs.drop (kk + 1)) (rs.drop (kk + 1))) := by
                rw [← hce]; exact HS2
              clear HS HS2 hy hyz hce hsz
              go_wp2_with fail
              refine cC.mono ?_
              rintro e w1 ⟨rfl, b1⟩
              obtain ⟨hc1, hf1⟩ := bcells b1
              have g0 : w1.cell? ⟨rb, ro + kk * 3, none⟩ = some (.int .i64 yt) := by
                rw [hc1 _ _ hrl]; exact c0
              have g1 : w1.cell? ⟨zb, zo + kk * 2 + 1, none⟩ = some (.int .i64 zt) := by
                rw [hc1 _ _ hzl]; exact d1
              have B2 := BW.out.trans (b1.mono BW.out.size)
              clear hc1 hf1 b1 cC c0 c1 c2 d0 d1 hzi2 hri2
              by_cases hz : ce = 0
              · have hb : (ce != 0) = false := by simpa using hz
                by_cases htt : yt = zt
                · have hq : (yt != zt) = false := by simpa using htt
                  have HS4 : Hid (K = rcGo (zs.drop (kk + 1)) (rs.drop (kk + 1))) := by
                    have := HS3.out
                    rwa [if_neg (by simpa using hz), if_neg (by simpa using htt)] at this
                  clear HS3 hz htt
                  go_wp2
                  go_quiet (fail)
                  go_wp2
                  go_roundg (rs.length - (kk + 1))
                  case measure => omega
                  case rel => exact ⟨kk + 1, by omega, by omega, by go_num, by repeat (first | exact B2 | apply below_drewN | refine Below.drew ?_), HS4⟩
                · have hq : (yt != zt) = true := by simpa using htt
                  have HS4 : K = 8 := by
                    have := HS3.out
                    rwa [if_neg (by simpa using hz), if_pos htt] at this
                  subst HS4
                  clear HS3 hz htt
                  go_wp2
                  go_quiet (fail)
                  go_wp2
                  go_ret
                  exact ⟨rfl, by repeat (first | exact B2 | apply below_drewN | refine Below.drew ?_)⟩
              · have hb : (ce != 0) = true := by simpa using hz
                have HS4 : K = ce := by
                  have := HS3.out
                  rwa [if_pos hz] at this
                subst HS4
                clear HS3 hz
                go_wp2
                go_ret
                exact ⟨rfl, B2⟩
            · have hltz : ¬ (kk : Int) < (rs.length : Int) := by omega
              have hkz : K = 0 := by
                rw [HS.out, List.drop_eq_nil_of_le (show zs.length ≤ kk by omega)]; rfl
              subst hkz
              clear HS HK
              go_wp2
              go_ret
              exact ⟨rfl, BW.out⟩
    · rw [if_pos hle] at hK
      subst hK
      have hqz : ((rs.length : Int) != (zs.length : Int)) = true := by simp; omega
      clear hle hzz hrr
      go_enter Tryz.func20, Tryz.ntmps20
      go_wp2_with fail
      refine cS.mono ?_
      rintro e w' ⟨rfl, rfl⟩
      go_wp2
      go_ret
      exact ⟨rfl, Below.refl _ _⟩
  · rw [if_pos h0] at hK
    rw [hK] at cS h0
    have hb : (K != 0) = true := by simpa using h0
    clear hK h0 hl hr
    go_enter Tryz.func20, Tryz.ntmps20
    go_wp2_with fail
    refine cS.mono ?_
    rintro e w' ⟨rfl, rfl⟩
    go_wp2
    go_ret
    exact ⟨rfl, Below.refl _ _⟩
end Go.Proofs.YtggabncpedcmdaaGreatDoor
