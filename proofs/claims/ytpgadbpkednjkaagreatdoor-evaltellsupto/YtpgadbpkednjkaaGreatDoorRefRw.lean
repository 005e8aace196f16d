/-
  What the document's Row says of a row and columns.
-/
import Derived.Test.YtpgadbpkednjkaaGreatDoorRefOf
import Derived.Test.YtpgadbpkednjkaaGreatDoorRowChk
import Derived.Deep.QuietTactic
namespace Go.Proofs.YtpgadbpkednjkaaGreatDoor
open Go.RowKit
set_option linter.unusedVariables false

def ValsI (w : World) (b off : Nat) (rs : List V3) : Prop :=
  b < w.heap.size ∧ ∀ j (h : j < rs.length), w.cell? ⟨b, off + j * 3, none⟩ = some (.int .i64 rs[j].1) ∧ w.cell? ⟨b, off + j * 3 + 1, none⟩ = some (.int .i64 rs[j].2.1) ∧ w.cell? ⟨b, off + j * 3 + 2, none⟩ = some (.string rs[j].2.2)
theorem ValsI.on {w w' : World} {b off : Nat} {rs : List V3} (h : ValsI w b off rs) (hb : Below w.heap.size w w') : ValsI w' b off rs :=
  ⟨by have := hb.size; have := h.1; omega, fun j hj => by
    rw [hb.cell (p := ⟨b, off + j * 3, none⟩) h.1, hb.cell (p := ⟨b, off + j * 3 + 1, none⟩) h.1, hb.cell (p := ⟨b, off + j * 3 + 2, none⟩) h.1]; exact h.2 j hj⟩
set_option maxHeartbeats 4000000 in
theorem refRowV (lv rv : Value) (zs : List (ByteArray × Int)) (rs : List V3) (w : World) (hl : ColsV w lv zs) (hr : ValsV w rv rs) (hsz : SizedV rs) :
    Calls Tryz.prog 22 #[lv, rv] w fun e w' => e = .returned (.int .i64 (rowChk zs rs)) ∧ Below w.heap.size w w' := by
  have cS := refSchemaV lv zs w hl
  obtain ⟨K, hK⟩ : ∃ K, rowChk zs rs = K := ⟨_, rfl⟩
  rw [hK]
  rw [rowChk] at hK
  by_cases h0 : schE zs = 0
  · rw [if_neg (by simpa using h0)] at hK
    rw [h0] at cS
    have hzm := (schE_zero h0).2.1
    obtain ⟨zp, zc, rfl, hzz⟩ := hl
    obtain ⟨rp, rc, rfl, hrm, hrr⟩ := hr
    have hz0 := (schE_zero h0).1
    clear h0
    by_cases hle : rs.length = zs.length
    · rw [if_neg (by simpa using hle)] at hK
      rcases hzz with h | ⟨zb, zo, rfl, _, _, hzi⟩
      · exact absurd h hz0
      · rcases hrr with h | ⟨rb, ro, rfl, hri0⟩
        · exact absurd (hle.symm.trans h) hz0
        · have hri : ValsI w rb ro rs := hri0
          clear hri0
          have hlez : (rs.length : Int) = (zs.length : Int) := by omega
          have hqz : ((rs.length : Int) != (zs.length : Int)) = false := by rw [hlez]; simp
          have HK : Hid (rcGo zs rs = K) := hK
          unfold maxLen at hrm
          clear hK
          go_enter Tryz.func22, Tryz.ntmps22
          go_wp2_with fail
          refine cS.mono ?_
          rintro e w0 ⟨rfl, hq0⟩
          obtain rfl : w = w0 := hq0.symm
          go_wp2
          go_loopg [5, 6] rs.length (fun gg _ s6 wr => ∃ kk : Nat, kk ≤ rs.length ∧ rs.length - kk ≤ gg ∧ s6 = .int .i64 kk ∧ Aside (Below w.heap.size w wr) ∧ Hid (K = rcGo (zs.drop kk) (rs.drop kk)))
          case atStart => exact ⟨0, Nat.zero_le _, by omega, rfl, Below.refl _ _, (show Hid _ by simp [Hid, HK.out])⟩
          case round =>
            obtain ⟨kk, hkk, hg, rfl, BW, HS⟩ := hrel
            by_cases hlt : kk < rs.length
            · have hltz : (kk : Int) < (rs.length : Int) := by omega
              have hltz2 : (kk : Int) < (zs.length : Int) := by omega
              have k0 : (0 : Int) ≤ (kk : Int) := by omega
              have hri2 := (hri.on BW.out)
              obtain ⟨c0, c1, c2⟩ := hri2.2 kk hlt
              have hrl := hri2.1
              have hltn : kk < zs.length := by omega
              have HS2 : Hid (K = _) := HS.out.trans (rcGo_at hltn hlt)
              obtain ⟨hs1, hn1⟩ := hsz _ (List.getElem_mem hlt)
              have hzi2 := (hzi.on BW.out)
              obtain ⟨d0, d1⟩ := hzi2.2 kk hltn
              have hzl := hzi2.1
              generalize hy : rs[kk] = y at c0 c1 c2 HS2 hs1 hn1
              generalize hyz : zs[kk] = z at d0 d1 HS2
              obtain ⟨yt, yn, ys⟩ := y
              obtain ⟨zn, zt⟩ := z
              simp only at c0 c1 c2 d0 d1 HS2 hs1 hn1
              have cC := refVal_any yt yn ys wr hs1
              obtain ⟨ce, hce⟩ : ∃ ce, chk yt yn ys.data.toList = ce := ⟨_, rfl⟩
              rw [hce] at cC
              have HS3 : Hid (K = if ce ≠ 0 then ce else if yt ≠ zt then 8 else rcGo (zs.drop (kk + 1)) (rs.drop (kk + 1))) := by
                rw [← hce]; exact HS2
              clear HS HS2 hy hyz hce hsz
              go_wp2_with fail
              refine cC.mono ?_
              rintro e w1 ⟨rfl, b1⟩
              obtain ⟨hc1, hf1⟩ := bcells b1
              have g0 : w1.cell? ⟨rb, ro + kk * 3, none⟩ = some (.int .i64 yt) := by
                rw [hc1 _ _ hrl]; exact c0
              have g1 : w1.cell? ⟨zb, zo + kk * 2 + 1, none⟩ = some (.int .i64 zt) := by
                rw [hc1 _ _ hzl]; exact d1
              have B2 := BW.out.trans (b1.mono BW.out.size)
              clear hc1 hf1 b1 cC c0 c1 c2 d0 d1 hzi2 hri2
              by_cases hz : ce = 0
              · have hb : (ce != 0) = false := by simpa using hz
                by_cases htt : yt = zt
                · have hq : (yt != zt) = false := by simpa using htt
                  have HS4 : Hid (K = rcGo (zs.drop (kk + 1)) (rs.drop (kk + 1))) := by
                    have := HS3.out
                    rwa [if_neg (by simpa using hz), if_neg (by simpa using htt)] at this
                  clear HS3 hz htt
                  go_wp2
                  go_quiet (fail)
                  go_wp2
                  go_roundg (rs.length - (kk + 1))
                  case measure => omega
                  case rel => exact ⟨kk + 1, by omega, by omega, by go_num, by repeat (first | exact B2 | apply below_drewN | refine Below.drew ?_), HS4⟩
                · have hq : (yt != zt) = true := by simpa using htt
                  have HS4 : K = 8 := by
                    have := HS3.out
                    rwa [if_neg (by simpa using hz), if_pos htt] at this
                  subst HS4
                  clear HS3 hz htt
                  go_wp2
                  go_quiet (fail)
                  go_wp2
                  go_ret
                  exact ⟨rfl, by repeat (first | exact B2 | apply below_drewN | refine Below.drew ?_)⟩
              · have hb : (ce != 0) = true := by simpa using hz
                have HS4 : K = ce := by
                  have := HS3.out
                  rwa [if_pos hz] at this
                subst HS4
                clear HS3 hz
                go_wp2
                go_ret
                exact ⟨rfl, B2⟩
            · have hltz : ¬ (kk : Int) < (rs.length : Int) := by omega
              have hkz : K = 0 := by
                rw [HS.out, List.drop_eq_nil_of_le (show zs.length ≤ kk by omega)]; rfl
              subst hkz
              clear HS HK
              go_wp2
              go_ret
              exact ⟨rfl, BW.out⟩
    · rw [if_pos hle] at hK
      subst hK
      have hqz : ((rs.length : Int) != (zs.length : Int)) = true := by simp; omega
      clear hle hzz hrr
      go_enter Tryz.func22, Tryz.ntmps22
      go_wp2_with fail
      refine cS.mono ?_
      rintro e w' ⟨rfl, rfl⟩
      go_wp2
      go_ret
      exact ⟨rfl, Below.refl _ _⟩
  · rw [if_pos h0] at hK
    rw [hK] at cS h0
    have hb : (K != 0) = true := by simpa using h0
    clear hK h0 hl hr
    go_enter Tryz.func22, Tryz.ntmps22
    go_wp2_with fail
    refine cS.mono ?_
    rintro e w' ⟨rfl, rfl⟩
    go_wp2
    go_ret
    exact ⟨rfl, Below.refl _ _⟩
end Go.Proofs.YtpgadbpkednjkaaGreatDoor
