/-
  RowChk, EvCm, BlkB, VfM, VmM, in one text.
-/
import Derived.Test.YtkoejkpjkcejcabDoorGrAg
import Derived.Test.YtkoejkpjkcejcabDoorQEvAp
import Derived.Test.YtkoejkpjkcejcabDoorGrAo
import Derived.Deep.QuietTactic
import Derived.BigQuiet
import Derived.Test.YtkoejkpjkcejcabDoorGrAq
import Derived.Test.YtkoejkpjkcejcabDoorGrAh
import Derived.OneCell
import Derived.Lib.OthersKept
import Derived.Deep.MidRow
import Derived.Test.YtkoejkpjkcejcabDoorGrAr
import Derived.Test.YtkoejkpjkcejcabDoorQKdRuleC
import Derived.Lib.BufferMore
namespace Go.Proofs.YtkoejkpjkcejcabDoor
open Go.RowKit Go.BigFrame
set_option linter.unusedVariables false

def rcGo : List (ByteArray × Int) → List V3 → Int
  | z :: zs, r :: rs => if chk r.1 r.2.1 r.2.2.data.toList ≠ 0 then chk r.1 r.2.1 r.2.2.data.toList else if r.1 ≠ z.2 then 8 else rcGo zs rs
  | _, _ => 0
/-- The fault of a row of a schema. -/
def rowChk (zs : List (ByteArray × Int)) (rs : List V3) : Int := if schE zs ≠ 0 then schE zs else if rs.length ≠ zs.length then 3 else rcGo zs rs
theorem rcGo_at {zs : List (ByteArray × Int)} {rs : List V3} {k : Nat} (hz : k < zs.length) (hr : k < rs.length) :
    rcGo (zs.drop k) (rs.drop k) = if chk rs[k].1 rs[k].2.1 rs[k].2.2.data.toList ≠ 0 then chk rs[k].1 rs[k].2.1 rs[k].2.2.data.toList else if rs[k].1 ≠ zs[k].2 then 8 else rcGo (zs.drop (k + 1)) (rs.drop (k + 1)) := by
  rw [List.drop_eq_getElem_cons hz, List.drop_eq_getElem_cons hr, rcGo]
set_option maxHeartbeats 4000000 in
theorem rowCheck_v (lv rv : Value) (zs : List (ByteArray × Int)) (rs : List V3) (w : World) (hw : TW w) (hl : ColsV w lv zs) (hr : ValsV w rv rs) (hsz : SizedV rs) :
    Calls Tryd.prog 8 #[lv, rv] w fun e w' => e = .returned (errV (rowChk zs rs)) ∧ Below w.heap.size w w' := by
  have cS := schemaV lv zs w hw hl
  obtain ⟨K, hK⟩ : ∃ K, rowChk zs rs = K := ⟨_, rfl⟩
  rw [hK]
  rw [rowChk] at hK
  by_cases h0 : schE zs = 0
  · rw [if_neg (by simpa using h0)] at hK
    rw [h0, show errV 0 = .nilIface from rfl] at cS
    have hz0 := (schE_zero h0).1
    have hzm := (schE_zero h0).2.1
    obtain ⟨zp, zc, rfl, hzz⟩ := hl
    obtain ⟨rp, rc, rfl, hrm, hrr⟩ := hr
    clear h0
    by_cases hle : rs.length = zs.length
    · rw [if_neg (by simpa using hle)] at hK
      rcases hzz with h | ⟨zb, zo, rfl, _, _, hzi⟩
      · exact absurd h hz0
      · rcases hrr with h | ⟨rb, ro, rfl, hrl, hri⟩
        · exact absurd (hle.symm.trans h) hz0
        · have hlez : (rs.length : Int) = (zs.length : Int) := by omega
          have hqz : ((rs.length : Int) != (zs.length : Int)) = false := by rw [hlez]; simp
          have HK : Hid (rcGo zs rs = K) := hK
          unfold maxLen at hrm
          clear hK
          go_enter Tryd.func8, Tryd.ntmps8
          go_wp2_with fail
          refine cS.mono ?_
          rintro e w0 ⟨rfl, b0⟩
          go_wp2
          go_loopg [6, 7, 8, 22] rs.length (fun gg _ _ _ s22 wr => ∃ kk : Nat, kk ≤ rs.length ∧ rs.length - kk ≤ gg ∧ s22 = .int .i64 kk ∧ Aside (Below w.heap.size w wr) ∧ Hid (K = rcGo (zs.drop kk) (rs.drop kk)))
          case atStart => exact ⟨0, Nat.zero_le _, by omega, rfl, b0, (show Hid _ by simp [Hid, HK.out])⟩
          case round =>
            obtain ⟨kk, hkk, hg, rfl, BW, HS⟩ := hrel
            by_cases hlt : kk < rs.length
            · have hltz : (kk : Int) < (rs.length : Int) := by omega
              have hltz2 : (kk : Int) < (zs.length : Int) := by omega
              have k0 : (0 : Int) ≤ (kk : Int) := by omega
              obtain ⟨c0, c1, c2⟩ := hri kk hlt
              have kR : ∀ o, wr.cell? ⟨rb, o, none⟩ = w.cell? ⟨rb, o, none⟩ := fun o => BW.out.cell (p := ⟨rb, o, none⟩) hrl
              rw [← kR] at c0 c1 c2
              have hrlr : rb < wr.heap.size := by have := BW.out.size; omega
              clear kR
              have hltn : kk < zs.length := by omega
              have HS2 : Hid (K = _) := HS.out.trans (rcGo_at hltn hlt)
              obtain ⟨hs1, hn1⟩ := hsz _ (List.getElem_mem hlt)
              have hzi2 := (hzi.on BW.out)
              obtain ⟨d0, d1⟩ := hzi2.2 kk hltn
              have hzl := hzi2.1
              generalize hy : rs[kk] = y at c0 c1 c2 HS2 hs1 hn1
              generalize hyz : zs[kk] = z at d0 d1 HS2
              obtain ⟨yt, yn, ys⟩ := y
              obtain ⟨zn, zt⟩ := z
              simp only at c0 c1 c2 d0 d1 HS2 hs1 hn1
              have B1 := BW.out.alloc BW.out.size (.cells #[.int .i64 yt, .int .i64 yn, .string ys] 23)
              have cC := check_any yt yn ys (wr.alloc (.cells #[.int .i64 yt, .int .i64 yn, .string ys] 23)) hs1
              obtain ⟨ce, hce⟩ : ∃ ce, chk yt yn ys.data.toList = ce := ⟨_, rfl⟩
              rw [hce] at cC
              have HS3 : Hid (K = if ce ≠ 0 then ce else if yt ≠ zt then 8 else rcGo (zs.drop (kk + 1)) (rs.drop (kk + 1))) := by
                rw [← hce]; exact HS2
              have e1 := errK_neq ce
              have e2 := errK_gneq ce
              clear HS HS2 hy hyz hce hsz
              go_wp2_with fail
              refine cC.mono ?_
              rintro e w1 ⟨rfl, b1⟩
              obtain ⟨hc1, hf1⟩ := bcell b1
              have l1 : wr.heap.size < w1.heap.size := by have := b1.size; simp at this; omega
              have q0 : w1.cell? ⟨wr.heap.size, 0, none⟩ = some (.int .i64 yt) := by
                rw [hc1 _ _ (by simp), World.cell?_alloc_at _ _ _ _ rfl]; rfl
              have g1 : w1.cell? ⟨zb, zo + kk * 2 + 1, none⟩ = some (.int .i64 zt) := by
                rw [hc1 _ _ (by simp; omega), World.cell?_alloc_lt _ _ _ hzl]; exact d1
              have B2 := B1.trans (b1.mono B1.size)
              clear hc1 hf1 b1 cC c0 c1 c2 d0 d1 B1 hzi2
              by_cases hz : ce = 0
              · have hb : (ce != 0) = false := by simpa using hz
                rw [hb] at e1
                by_cases htt : yt = zt
                · have hq : (yt != zt) = false := by simpa using htt
                  have HS4 : Hid (K = rcGo (zs.drop (kk + 1)) (rs.drop (kk + 1))) := by
                    have := HS3.out
                    rwa [if_neg (by simpa using hz), if_neg (by simpa using htt)] at this
                  clear HS3 hz hb htt
                  go_wp2
                  go_quiet (fail)
                  go_wp2
                  go_roundg (rs.length - (kk + 1))
                  case measure => omega
                  case rel => exact ⟨kk + 1, by omega, by omega, by go_num, by repeat (first | exact B2 | apply below_drewN | refine Below.drew ?_), HS4⟩
                · have hq : (yt != zt) = true := by simpa using htt
                  have HS4 : K = 8 := by
                    have := HS3.out
                    rwa [if_neg (by simpa using hz), if_pos htt] at this
                  subst HS4
                  clear HS3 hz hb htt
                  go_wp2
                  go_quiet (fail)
                  go_wp2
                  go_ret
                  exact ⟨rfl, by repeat (first | exact B2 | apply below_drewN | refine Below.drew ?_)⟩
              · have hb : (ce != 0) = true := by simpa using hz
                rw [hb] at e1
                have HS4 : K = ce := by
                  have := HS3.out
                  rwa [if_pos hz] at this
                subst HS4
                clear HS3 hz hb
                go_wp2
                go_ret
                exact ⟨rfl, B2⟩
            · have hltz : ¬ (kk : Int) < (rs.length : Int) := by omega
              have hkz : K = 0 := by
                rw [HS.out, List.drop_eq_nil_of_le (show zs.length ≤ kk by omega)]; rfl
              subst hkz
              clear HS HK
              go_wp2
              go_ret
              exact ⟨rfl, BW.out⟩
    · rw [if_pos hle] at hK
      subst hK
      have hqz : ((rs.length : Int) != (zs.length : Int)) = true := by simp; omega
      clear hle hzz hrr
      go_enter Tryd.func8, Tryd.ntmps8
      go_wp2_with fail
      refine cS.mono ?_
      rintro e w0 ⟨rfl, b0⟩
      go_wp2
      go_ret
      exact ⟨rfl, b0⟩
  · rw [if_pos h0] at hK
    rw [hK] at cS h0
    have HE : Hid (errV K = .iface 37 (.int .i64 K)) := by show errV K = _; rw [errV, if_neg h0]
    clear hK h0 hl hr
    go_enter Tryd.func8, Tryd.ntmps8
    go_wp2_with fail
    refine cS.mono ?_
    rintro e w0 ⟨rfl, b0⟩
    rw [HE.out]
    go_wp2
    go_ret
    exact ⟨by rw [HE.out]; rfl, b0⟩
end Go.Proofs.YtkoejkpjkcejcabDoor
namespace Go.Proofs.YtkoejkpjkcejcabDoor
open Go.RowKit Go.BigFrame
set_option linter.unusedVariables false

set_option maxHeartbeats 1000000 in
theorem columnOf_any (nm : ByteArray) (b off c : Nat) (zs : List (ByteArray × Int)) (rb ro rc : Nat) (rs : List V3) (w : World) (hn : zs.length ≤ 6) (hc : ColsIn w b off zs) (hrl : rb < w.heap.size) (hrc : ∀ j (h : j < rs.length), w.cell? ⟨rb, ro + j * 3, none⟩ = some (.int .i64 rs[j].1) ∧ w.cell? ⟨rb, ro + j * 3 + 1, none⟩ = some (.int .i64 rs[j].2.1) ∧ w.cell? ⟨rb, ro + j * 3 + 2, none⟩ = some (.string rs[j].2.2)) (k : Nat) (hk : findN nm.data.toList zs = k) (hkl : k < rs.length) (t n : Int) (s : ByteArray) (hv : rs[k] = (t, n, s)) :
    Calls Tryd.prog 50 #[.string nm, .slice (some ⟨b, off, none⟩) zs.length c, .slice (some ⟨rb, ro, none⟩) rs.length rc] w fun e w' => e = .returned (.tuple #[.agg #[.int .i64 t, .int .i64 n, .string s], .nilIface]) ∧ Below w.heap.size w w' := by
  obtain ⟨b1, box⟩ := box_res w
  have cF := find_any nm b off c zs (w.alloc (.cells #[.int .i64 0, .int .i64 0, .string ⟨#[]⟩] 23)) (by omega) (hc.on b1) k hk
  obtain ⟨e0, e1, e2⟩ := hrc k hkl
  rw [hv] at e0 e1 e2
  simp only at e0 e1 e2
  have hk0 : (0 : Int) ≤ (k : Int) := by omega
  have hk1 : (k : Int) < (rs.length : Int) := by omega
  clear hrc hc hk hv
  go_enter Tryd.func50, Tryd.ntmps50
  go_wp2_with fail
  refine cF.mono ?_
  rintro e w1 ⟨rfl, b2⟩
  obtain ⟨⟨f0, f1, f2, ff, hl⟩, b5⟩ := box w1 (b2.mono (by simp))
  have kR : ∀ o, w1.cell? ⟨rb, o, none⟩ = w.cell? ⟨rb, o, none⟩ := fun o => b5.cell (p := ⟨rb, o, none⟩) hrl
  rw [← kR] at e0 e1 e2
  have hrl1 : rb < w1.heap.size := by have := b5.size; omega
  clear cF box b1 b2 kR
  go_wp2
  refine bodyPost_ret (v := .tuple #[.agg #[.int .i64 t, .int .i64 n, .string s], .nilIface]) (by simp [results, Tryd.results50, go_sem, World.cell?_setCell_other, World.cell?_setCell_same, f0, f1, f2]) rfl ⟨rfl, ?_⟩
  exact below3 b5 (Nat.le_refl _) _ _ _
/-- The blocks that come makes at its beginning, wherever they are looked at later. -/
theorem come_box (w : World) (E : Array Value) : Below w.heap.size w ((w.alloc (.cells E 26)).alloc (.cells #[.int .i64 0, .int .i64 0, .string ⟨#[]⟩] 23)) ∧ ∀ wr, Below (w.heap.size + 2) ((w.alloc (.cells E 26)).alloc (.cells #[.int .i64 0, .int .i64 0, .string ⟨#[]⟩] 23)) wr → (∀ i, wr.cell? ⟨w.heap.size, i, none⟩ = E[i]?) ∧ (wr.cell? ⟨w.heap.size + 1, 0, none⟩ = some (.int .i64 0) ∧ wr.cell? ⟨w.heap.size + 1, 1, none⟩ = some (.int .i64 0) ∧ wr.cell? ⟨w.heap.size + 1, 2, none⟩ = some (.string ⟨#[]⟩) ∧ (∀ o, wr.frozen? ⟨w.heap.size + 1, o, none⟩ = false)) ∧ w.heap.size + 2 ≤ wr.heap.size ∧ Below w.heap.size w wr := by
  have b1 : Below w.heap.size w ((w.alloc (.cells E 26)).alloc (.cells #[.int .i64 0, .int .i64 0, .string ⟨#[]⟩] 23)) := ((Below.refl _ w).alloc (Nat.le_refl _) _).alloc (by simp) _
  refine ⟨b1, fun wr hb => ?_⟩
  have hz := hb.size
  simp at hz
  refine ⟨fun i => ?_, ⟨?_, ?_, ?_, fun o => ?_⟩, by omega, b1.trans (hb.mono (by omega))⟩
  · rw [hb.cell (p := ⟨w.heap.size, i, none⟩) (by simp), World.cell?_alloc_lt _ _ _ (by simp), World.cell?_alloc_at _ _ _ _ rfl]
  · rw [hb.cell (p := ⟨w.heap.size + 1, 0, none⟩) (by simp), World.cell?_alloc_at _ _ _ _ (by simp)]; rfl
  · rw [hb.cell (p := ⟨w.heap.size + 1, 1, none⟩) (by simp), World.cell?_alloc_at _ _ _ _ (by simp)]; rfl
  · rw [hb.cell (p := ⟨w.heap.size + 1, 2, none⟩) (by simp), World.cell?_alloc_at _ _ _ _ (by simp)]; rfl
  · rw [hb.frozen (p := ⟨w.heap.size + 1, o, none⟩) (by simp), World.frozen?_alloc_at _ _ _ _ (by simp)]
/-- The values of a row. -/
def RowAt (w : World) (rb ro : Nat) (rs : List V3) : Prop := rb < w.heap.size ∧ ∀ j (h : j < rs.length), w.cell? ⟨rb, ro + j * 3, none⟩ = some (.int .i64 rs[j].1) ∧ w.cell? ⟨rb, ro + j * 3 + 1, none⟩ = some (.int .i64 rs[j].2.1) ∧ w.cell? ⟨rb, ro + j * 3 + 2, none⟩ = some (.string rs[j].2.2)
theorem RowAt.on {w w' : World} {rb ro : Nat} {rs : List V3} (h : RowAt w rb ro rs) (hb : Below w.heap.size w w') : RowAt w' rb ro rs := by
  refine ⟨by have := hb.size; have := h.1; omega, fun j hj => ?_⟩
  obtain ⟨h1, h2, h3⟩ := h.2 j hj
  exact ⟨by rw [hb.cell (p := ⟨rb, _, none⟩) h.1]; exact h1, by rw [hb.cell (p := ⟨rb, _, none⟩) h.1]; exact h2, by rw [hb.cell (p := ⟨rb, _, none⟩) h.1]; exact h3⟩
/-- What come says of an expression. -/
def ComeAt (zs : List (ByteArray × Int)) (b off c rb ro rc : Nat) (rs : List V3) (x : Ex) : Prop := ∀ (lo : Nat → Prop) (v : Value) (w : World) (t k : Int) (s : ByteArray) (e : Int), REnv w → ExIn w lo v x → ColsIn w b off zs → RowAt w rb ro rs → cmP zs rs x = ((t, k, s), e) →
    Calls Tryd.prog 21 #[v, .slice (some ⟨b, off, none⟩) zs.length c, .slice (some ⟨rb, ro, none⟩) rs.length rc] w fun e' w' => e' = .returned (.tuple #[.agg #[.int .i64 t, .int .i64 k, .string s], errV e]) ∧ Below w.heap.size w w'
set_option maxHeartbeats 4000000 in
set_option maxRecDepth 20000 in
theorem come_leaf (zs : List (ByteArray × Int)) (b off c rb ro rc : Nat) (rs : List V3) (hn : zs.length ≤ 6) (hrow : RowR zs rs) (op nm vs : ByteArray) (vt vn pos : Int) (l : List Ex) (ht : (tyP zs (.node op nm vt vn vs pos l)).2.1 = 0) (hleaf : op.data.toList = [118, 97, 108] ∨ op.data.toList = [99, 111, 108]) : ComeAt zs b off c rb ro rc rs (.node op nm vt vn vs pos l) := by
  intro lo v w t k s e henv hx hc hr hR
  rw [ExIn] at hx
  obtain ⟨p, ca, rfl, ⟨hm, hmc⟩, ho, hnm, hvs, hparts⟩ := hx
  obtain ⟨b1, box⟩ := come_box w #[.string op, .string nm, .int .i64 vt, .int .i64 vn, .string vs, .slice p l.length ca, .int .i64 pos]
  by_cases h1 : op.data.toList = [118, 97, 108]
  · rw [cmP, if_pos h1] at hR
    simp only [Prod.mk.injEq] at hR
    obtain ⟨⟨rfl, rfl, rfl⟩, rfl⟩ := hR
    have q1 : (op.toList == [118, 97, 108]) = true := by rw [Lib.toList_data]; simpa using h1
    clear h1 ht hleaf henv hc hr hparts box
    go_enter Tryd.func21, Tryd.ntmps21
    go_wp2
    exact bodyPost_ret (v := .tuple #[.agg #[.int .i64 vt, .int .i64 vn, .string vs], .nilIface]) (by simp [results, Tryd.results21, go_sem]) rfl ⟨rfl, ((Below.refl _ w).alloc (Nat.le_refl _) _).alloc (by simp) _⟩
  · have h2 := hleaf.resolve_left h1
    rw [cmP, if_neg h1, if_pos h2] at hR
    rw [tyP, if_neg h1, if_pos h2] at ht
    have q1 : (op.toList == [118, 97, 108]) = false := by rw [Lib.toList_data]; simpa using h1
    have q2 : (op.toList == [99, 111, 108]) = true := by rw [Lib.toList_data]; simpa using h2
    rcases findN_cases nm.data.toList zs with ⟨h, _⟩ | ⟨j, hj, hlt, _⟩
    · rw [if_pos h] at ht
      exact absurd ht (by simp)
    have hjr : j < rs.length := by rw [hrow.1]; exact hlt
    rw [hj, Int.toNat_natCast, List.getElem?_eq_getElem hjr] at hR
    simp only [Option.getD_some, Prod.mk.injEq] at hR
    obtain ⟨hv, rfl⟩ := hR
    have cC := columnOf_any nm b off c zs rb ro rc rs ((w.alloc (.cells #[.string op, .string nm, .int .i64 vt, .int .i64 vn, .string vs, .slice p l.length ca, .int .i64 pos] 26)).alloc (.cells #[.int .i64 0, .int .i64 0, .string ⟨#[]⟩] 23)) hn (hc.on b1) (hr.on b1).1 (hr.on b1).2 j hj hjr t k s hv
    clear h1 h2 ht hleaf henv hc hr hparts hj hv
    go_enter Tryd.func21, Tryd.ntmps21
    go_wp2_with fail
    refine cC.mono ?_
    rintro e w1 ⟨rfl, b2⟩
    obtain ⟨_, ⟨f0, f1, f2, ff⟩, hl, b9⟩ := box w1 (b2.mono (by simp))
    have hl1 : w.heap.size + 1 < w1.heap.size := by omega
    clear cC box b1 b2
    go_wp2
    refine bodyPost_ret (v := .tuple #[.agg #[.int .i64 t, .int .i64 k, .string s], .nilIface]) (by simp [results, Tryd.results21, go_sem, World.cell?_setCell_other, World.cell?_setCell_same, f0, f1, f2]) rfl ⟨rfl, ?_⟩
    exact below3 b9 (by omega) _ _ _
theorem res3 {W : World} {b : Nat} {x0 x1 x2 : Value} (c0 : W.cell? ⟨b, 0, none⟩ = some x0) (c1 : W.cell? ⟨b, 1, none⟩ = some x1) (c2 : W.cell? ⟨b, 2, none⟩ = some x2) (hl : b < W.heap.size) (v0 v1 v2 : Value) (o : Obj) : ((((W.setCell ⟨b, 0, none⟩ v0).setCell ⟨b, 1, none⟩ v1).setCell ⟨b, 2, none⟩ v2).alloc o).cell? ⟨b, 0, none⟩ = some v0 ∧ ((((W.setCell ⟨b, 0, none⟩ v0).setCell ⟨b, 1, none⟩ v1).setCell ⟨b, 2, none⟩ v2).alloc o).cell? ⟨b, 1, none⟩ = some v1 ∧ ((((W.setCell ⟨b, 0, none⟩ v0).setCell ⟨b, 1, none⟩ v1).setCell ⟨b, 2, none⟩ v2).alloc o).cell? ⟨b, 2, none⟩ = some v2 := by
  rw [World.cell?_alloc_lt _ _ ⟨b, 0, none⟩ (by simpa [World.setCell] using hl), World.cell?_alloc_lt _ _ ⟨b, 1, none⟩ (by simpa [World.setCell] using hl), World.cell?_alloc_lt _ _ ⟨b, 2, none⟩ (by simpa [World.setCell] using hl)]
  refine ⟨?_, ?_, ?_⟩ <;> simp [World.cell?_setCell_other, World.cell?_setCell_same, c0, c1, c2]
/-- The cells of one of the parts, in a later world. -/
theorem part_at {w wr : World} {lo : Nat → Prop} {ba oa : Nat} {l : List Ex} (h : ∀ j (h : j < l.length), ∃ v0 v1 v2 v3 v4 v5 v6, w.cell? ⟨ba, oa + j * 7, none⟩ = some v0 ∧ w.cell? ⟨ba, oa + j * 7 + 1, none⟩ = some v1 ∧ w.cell? ⟨ba, oa + j * 7 + 2, none⟩ = some v2 ∧ w.cell? ⟨ba, oa + j * 7 + 3, none⟩ = some v3 ∧ w.cell? ⟨ba, oa + j * 7 + 4, none⟩ = some v4 ∧ w.cell? ⟨ba, oa + j * 7 + 5, none⟩ = some v5 ∧ w.cell? ⟨ba, oa + j * 7 + 6, none⟩ = some v6 ∧ ExIn w lo (.agg #[v0, v1, v2, v3, v4, v5, v6]) l[j]) (hb : Below w.heap.size w wr) (hbl : ba < w.heap.size) (j : Nat) (hj : j < l.length) :
    ∃ u0 u1 u2 u3 u4 u5 u6 u7 u8, wr.cell? ⟨ba, oa + j * 7, none⟩ = some (.string u0) ∧ wr.cell? ⟨ba, oa + j * 7 + 1, none⟩ = some (.string u1) ∧ wr.cell? ⟨ba, oa + j * 7 + 2, none⟩ = some (.int .i64 u2) ∧ wr.cell? ⟨ba, oa + j * 7 + 3, none⟩ = some (.int .i64 u3) ∧ wr.cell? ⟨ba, oa + j * 7 + 4, none⟩ = some (.string u4) ∧ wr.cell? ⟨ba, oa + j * 7 + 5, none⟩ = some (.slice u5 u6 u7) ∧ wr.cell? ⟨ba, oa + j * 7 + 6, none⟩ = some (.int .i64 u8) ∧ ExIn w lo (.agg #[.string u0, .string u1, .int .i64 u2, .int .i64 u3, .string u4, .slice u5 u6 u7, .int .i64 u8]) l[j] := by
  obtain ⟨v0, v1, v2, v3, v4, v5, v6, e0, e1, e2, e3, e4, e5, e6, hy⟩ := h j hj
  obtain ⟨u0, u1, u2, u3, u4, u5, u6, u7, u8, huu⟩ := hy.agg
  injection huu with huu
  simp only [Array.mk.injEq, List.cons.injEq, and_true] at huu
  obtain ⟨rfl, rfl, rfl, rfl, rfl, rfl, rfl⟩ := huu
  have kA : ∀ o, wr.cell? ⟨ba, o, none⟩ = w.cell? ⟨ba, o, none⟩ := fun o => hb.cell (p := ⟨ba, o, none⟩) hbl
  rw [← kA] at e0 e1 e2 e3 e4 e5 e6
  exact ⟨_, _, _, _, _, _, _, _, _, e0, e1, e2, e3, e4, e5, e6, hy⟩
end Go.Proofs.YtkoejkpjkcejcabDoor
namespace Go.Proofs.YtkoejkpjkcejcabDoor
open Go.RowKit
set_option linter.unusedVariables false

/-- A block as a whole. -/
def Blk (w : World) (b : Nat) (cs : Array Value) (t : TypeId) : Prop := w.heap[b]? = some (.cells cs t (0, 0))
theorem Blk.lt {w : World} {b : Nat} {cs : Array Value} {t : TypeId} (h : Blk w b cs t) : b < w.heap.size := lt_of_block h
theorem Blk.cell {w : World} {b : Nat} {cs : Array Value} {t : TypeId} (h : Blk w b cs t) (i : Nat) : w.cell? ⟨b, i, none⟩ = cs[i]? := by unfold Blk at h; simp [World.cell?, h]
theorem Blk.frozen {w : World} {b : Nat} {cs : Array Value} {t : TypeId} (h : Blk w b cs t) (i : Nat) : w.frozen? ⟨b, i, none⟩ = false := frozen_of_row w b i cs t h
theorem Blk.keep {w w' : World} {b : Nat} {cs : Array Value} {t : TypeId} (h : Blk w b cs t) (hk : w'.heap[b]? = w.heap[b]?) : Blk w' b cs t := by unfold Blk at *; rw [hk]; exact h
theorem Blk.set {w : World} {b : Nat} {cs : Array Value} {t : TypeId} (h : Blk w b cs t) (i : Nat) (v : Value) : Blk (w.setCell ⟨b, i, none⟩ v) b (cs.setIfInBounds i v) t := heap_setCell_same w b i cs t v h
theorem Blk.far {w : World} {b z : Nat} {cs : Array Value} {t : TypeId} (h : Blk w b cs t) (hz : b ≠ z) (i : Nat) (v : Value) : Blk (w.setCell ⟨z, i, none⟩ v) b cs t := h.keep (heap_setCell_other w _ b v hz)
theorem Blk.but {w w' : World} {r b : Nat} {cs : Array Value} {t : TypeId} (h : Blk w b cs t) (hb : But r w w') (hr : b ≠ r) : Blk w' b cs t := h.keep (hb.kept b h.lt hr)
theorem Blk.on {w w' : World} {b : Nat} {cs : Array Value} {t : TypeId} (h : Blk w b cs t) (hb : Below w.heap.size w w') : Blk w' b cs t := h.keep (hb.block b h.lt)
theorem Blk.grown {w w' : World} {b : Nat} {cs : Array Value} {t : TypeId} {row : Option Nat} (h : Blk w b cs t) (hg : w.grownBy w' row) (hr : some b ≠ row) : Blk w' b cs t := h.keep (hg.block b h.lt hr)
theorem blk_alloc (w : World) (cs : Array Value) (t : TypeId) : Blk (w.alloc (.cells cs t)) w.heap.size cs t := by
  show (w.heap.push _)[_]? = _
  rw [Array.getElem?_push_size]
/-- All blocks from B on stay as they were. -/
def KeepB (B : Nat) (w w' : World) : Prop := w.heap.size ≤ w'.heap.size ∧ ∀ b, B ≤ b → b < w.heap.size → w'.heap[b]? = w.heap[b]?
theorem KeepB.refl (B : Nat) (w : World) : KeepB B w w := ⟨Nat.le_refl _, fun _ _ _ => rfl⟩
theorem KeepB.trans {B : Nat} {w w1 w2 : World} (h : KeepB B w w1) (k : KeepB B w1 w2) : KeepB B w w2 := ⟨Nat.le_trans h.1 k.1, fun b h1 h2 => by rw [k.2 b h1 (by have := h.1; omega), h.2 b h1 h2]⟩
theorem KeepB.but {B r : Nat} {w w' : World} (h : But r w w') (hr : r < B) : KeepB B w w' := ⟨h.size, fun b h1 h2 => h.kept b h2 (by omega)⟩
theorem KeepB.on {B : Nat} {w w' : World} (h : Below w.heap.size w w') : KeepB B w w' := ⟨h.size, fun b _ h2 => h.block b h2⟩
theorem KeepB.set {B z : Nat} (w : World) (i : Nat) (v : Value) (hz : z < B) : KeepB B w (w.setCell ⟨z, i, none⟩ v) := ⟨by simp [World.setCell], fun b h1 _ => heap_setCell_other w _ b v (by show b ≠ z; omega)⟩
theorem own_keep {w w' : World} {B B' : Nat} {e : TypeId} {size n : Nat} {v : Value} {xs : List Value} (h : w.ownsRow B e size v n xs) (hk : KeepB B' w w') (hB : B' ≤ B) : w'.ownsRow B e size v n xs := by
  refine ⟨h.1, ?_⟩
  rcases h.2 with hn | ⟨g, cap, cur, rfl, h1, hgg, rest⟩
  · exact .inl hn
  · exact .inr ⟨g, cap, cur, rfl, h1, by rw [hk.2 g (by omega) (Array.getElem?_eq_some_iff.1 hgg).1]; exact hgg, rest⟩
/-- All that was there is kept but the blocks of S. -/
structure Kp (S : Nat → Prop) (w w' : World) : Prop where
  low : Below 0 w w'
  kept : ∀ k, k < w.heap.size → ¬ S k → w'.heap[k]? = w.heap[k]?
theorem Kp.size {S : Nat → Prop} {w w' : World} (h : Kp S w w') : w.heap.size ≤ w'.heap.size := h.low.size
theorem Kp.refl (S : Nat → Prop) (w : World) : Kp S w w := ⟨Below.refl _ _, fun _ _ _ => rfl⟩
theorem Kp.trans {S : Nat → Prop} {w w1 w2 : World} (h : Kp S w w1) (k : Kp S w1 w2) : Kp S w w2 :=
  ⟨h.low.trans k.low, fun b hb hs => by rw [k.kept b (by have := h.size; omega) hs, h.kept b hb hs]⟩
theorem Kp.mono {S S' : Nat → Prop} {w w1 : World} (h : Kp S w w1) (hs : ∀ k, k < w.heap.size → S k → S' k) : Kp S' w w1 := ⟨h.low, fun b hb hn => h.kept b hb (fun e => hn (hs b hb e))⟩
theorem Kp.of_below {S : Nat → Prop} {w w1 : World} (h : Below w.heap.size w w1) : Kp S w w1 := ⟨h.mono (Nat.zero_le _), fun b hb _ => h.block b hb⟩
theorem Kp.below {S : Nat → Prop} {w w1 : World} {B : Nat} (h : Kp S w w1) (hB : B ≤ w.heap.size) (hs : ∀ k, k < B → ¬ S k) : Below B w w1 :=
  ⟨h.low.os, h.low.tape, h.low.output, h.low.size, fun k hk => h.kept k (by omega) (hs k hk)⟩
theorem Kp.on {S : Nat → Prop} {w w1 w2 : World} (h : Kp S w w1) (k : Below w1.heap.size w1 w2) : Kp S w w2 := h.trans (Kp.of_below k)
theorem Kp.set {S : Nat → Prop} {w w1 : World} (h : Kp S w w1) {b : Nat} (o : Nat) (v : Value) (hs : b < w.heap.size → S b) : Kp S w (w1.setCell ⟨b, o, none⟩ v) :=
  ⟨h.low.setCell (p := ⟨b, o, none⟩) (Nat.zero_le _) v, fun k hk hn => by rw [Below.heap_setCell _ _ _ _ (fun e => by simp at e; subst e; exact hn (hs hk))]; exact h.kept k hk hn⟩
theorem Kp.drew {S : Nat → Prop} {w w1 : World} (h : Kp S w w1) : Kp S w w1.drew := ⟨h.low.drew, h.kept⟩
theorem Kp.alloc {S : Nat → Prop} {w w1 : World} (h : Kp S w w1) (o : Obj) : Kp S w (w1.alloc o) := h.on ((Below.refl _ _).alloc (Nat.le_refl _) o)
theorem Kp.grown {S : Nat → Prop} {w w1 w2 : World} {row : Option Nat} (h : Kp S w w1) (hg : w1.grownBy w2 row) (hr : ∀ k, row = some k → k < w.heap.size → S k) : Kp S w w2 :=
  ⟨h.low.grown hg (Nat.zero_le _) (fun _ _ => Nat.zero_le _), fun k hk hn => by rw [hg.block k (by have := h.size; omega) (fun e => hn (hr k e.symm hk))]; exact h.kept k hk hn⟩
theorem Kp.cell {S : Nat → Prop} {w w1 : World} (h : Kp S w w1) {b : Nat} (o : Nat) (hb : b < w.heap.size) (hs : ¬ S b) : w1.cell? ⟨b, o, none⟩ = w.cell? ⟨b, o, none⟩ := by
  simp only [World.cell?, h.kept b hb hs]
theorem Blk.kp {S : Nat → Prop} {w w1 : World} {b : Nat} {cs : Array Value} {t : TypeId} (h : Blk w b cs t) (hf : Kp S w w1) (hs : ¬ S b) : Blk w1 b cs t := h.keep (hf.kept b h.lt hs)
theorem Blk.there {w : World} {b : Nat} {cs : Array Value} {t : TypeId} (h : Blk w b cs t) (o n : Nat) (hn : o + n ≤ cs.size) : w.there b o n := fun j hj => by
  refine ⟨?_, h.frozen _⟩
  rw [h.cell, Array.getElem?_eq_getElem (by omega)]
  rfl
def putA : Array Value → Nat → List Value → Array Value
  | cs, _, [] => cs
  | cs, o, v :: r => putA (cs.setIfInBounds o v) (o + 1) r
theorem Blk.cells {b : Nat} {t : TypeId} : ∀ (vs : List Value) (o : Nat) (w : World) (cs : Array Value), Blk w b cs t → Blk (w.setCells b o vs) b (putA cs o vs) t
  | [], _, _, _, h => h
  | v :: r, o, _, _, h => Blk.cells r (o + 1) _ _ (h.set o v)
theorem below_cells {B b : Nat} {a : World} (hb : B ≤ b) : ∀ (vs : List Value) (o : Nat) (w : World), Below B a w → Below B a (w.setCells b o vs)
  | [], _, _, h => h
  | v :: r, o, w, h => below_cells hb r (o + 1) _ (h.setCell (p := ⟨b, o, none⟩) hb v)
theorem keep_cells {B b : Nat} (hb : b < B) : ∀ (vs : List Value) (o : Nat) (w : World), KeepB B w (w.setCells b o vs)
  | [], _, w => KeepB.refl _ _
  | v :: r, o, w => (KeepB.set w o v hb).trans (keep_cells hb r (o + 1) _)
theorem cell_ne {w : World} {b o o' : Nat} {v : Value} (h : o ≠ o') : (w.setCell ⟨b, o, none⟩ v).cell? ⟨b, o', none⟩ = w.cell? ⟨b, o', none⟩ := by
  rw [World.cell?_setCell_other]
  intro e
  injection e with _ e
  exact h e
theorem cell_eq {w : World} {b o : Nat} {v u : Value} (h : w.cell? ⟨b, o, none⟩ = some u) : (w.setCell ⟨b, o, none⟩ v).cell? ⟨b, o, none⟩ = some v := by
  simp [World.cell?_setCell_same, h]
theorem Blk.drew {w : World} {b : Nat} {cs : Array Value} {t : TypeId} (h : Blk w b cs t) : Blk w.drew b cs t := h
theorem But.cells {r : Nat} {w : World} : ∀ (vs : List Value) (o : Nat) (w1 : World), But r w w1 → But r w (w1.setCells r o vs)
  | [], _, _, h => h
  | v :: vs, o, _, h => But.cells vs (o + 1) _ (h.set o v)
theorem Kp.of_but {r : Nat} {S : Nat → Prop} {w w1 : World} (h : But r w w1) (hS : S r) : Kp S w w1 := ⟨h.below.mono (Nat.zero_le _), fun k hk hn => h.kept k hk (fun e => by subst e; exact hn hS)⟩
/-- A whole struct is stored into a place of a block that is known as a whole. -/
theorem wpList_store_blk {P : Program} {ops : Array Oper} {rest : List Oper} {op : Oper} {a : Act} {W : World} {Q : Exit → Act → World → Prop} (hgd : op.guard = none) (ty : TypeId) (x y : Operand) (ho : op.op = .store ty x y)
    (b o : Nat) (cells : Array Value) (hx : a.eval x = .pointer (some ⟨b, o, none⟩)) (hy : a.eval y = .agg cells) (cs : Array Value) (T : TypeId) (hb : Blk W b cs T) (hn : o + cells.size ≤ cs.size)
    (hi : (P.info? ty).map (·.size) = some cells.size) (h1 : cells.all (·.oneCell') = true)
    (h : ∀ W', Blk W' b (putA cs o cells.toList) T → But b W W' → wpList P ops Q rest (a.put op.dst undef) W') : wpList P ops Q (op :: rest) a W :=
  wpList_store_mid hgd ty x y ho b o cells hx hy (hb.there o cells.size hn) hi h1 (h _ (Blk.cells _ _ _ _ hb) (But.cells _ _ _ (But.refl _ _)))
/-- A whole struct is read out of a place of a block that is known as a whole. -/
theorem wpList_load_blk {P : Program} {ops : Array Oper} {rest : List Oper} {op : Oper} {a : Act} {W : World} {Q : Exit → Act → World → Prop} (hgd : op.guard = none) (ty : TypeId) (x : Operand) (ho : op.op = .load ty x)
    (b o : Nat) (hx : a.eval x = .pointer (some ⟨b, o, none⟩)) (cs : Array Value) (T : TypeId) (hb : Blk W b cs T) (l : List Value) (hr : ∀ j v, l[j]? = some v → cs[o + j]? = some v) (d : TypeDesc)
    (hu : P.underlying ty = some d) (hd : d.isRow = true) (hi : (P.info? ty).map (·.size) = some l.length)
    (h : wpList P ops Q rest (a.put op.dst (.agg l.toArray)) W) : wpList P ops Q (op :: rest) a W :=
  wpList_load_mid hgd ty x ho b o hx l d (fun j v hv => by rw [hb.cell]; exact hr j v hv) hu hd hi h
end Go.Proofs.YtkoejkpjkcejcabDoor
namespace Go.Proofs.YtkoejkpjkcejcabDoor
open Go.RowKit
set_option linter.unusedVariables false

/-- Types one behind the other, in a block behind block B; none of them, and it may lie nowhere. -/
def StkAt (w : World) (B : Nat) (v : Value) (ts : List Int) : Prop := ∃ p c, v = .slice p ts.length c ∧ (ts.length ≤ c ∧ ts.length ≤ 64) ∧ (p = none → c = 0) ∧ ∀ a, p = some a → ∃ g off, a = ⟨g, off, none⟩ ∧ B < g ∧ g < w.heap.size ∧ ∀ j (h : j < ts.length), w.cell? ⟨g, off + j, none⟩ = some (.int .i64 ts[j])
theorem StkAt.but {w w' : World} {B : Nat} {v : Value} {ts : List Int} (h : StkAt w B v ts) (hb : But B w w') : StkAt w' B v ts := by
  obtain ⟨p, c, e, h1, h2, h3⟩ := h
  refine ⟨p, c, e, h1, h2, fun a ha => ?_⟩
  obtain ⟨g, off, e2, h4, h5, h6⟩ := h3 a ha
  exact ⟨g, off, e2, h4, by have := hb.size; omega, fun j hj => by rw [hb.cell _ h5 (by omega)]; exact h6 j hj⟩
theorem StkAt.on {w w' : World} {B : Nat} {v : Value} {ts : List Int} (h : StkAt w B v ts) (hb : Below w.heap.size w w') : StkAt w' B v ts := by
  obtain ⟨p, c, e, h1, h2, h3⟩ := h
  refine ⟨p, c, e, h1, h2, fun a ha => ?_⟩
  obtain ⟨g, off, e2, h4, h5, h6⟩ := h3 a ha
  exact ⟨g, off, e2, h4, by have := hb.size; omega, fun j hj => by rw [hb.cell (p := ⟨g, off + j, none⟩) h5]; exact h6 j hj⟩
theorem StkAt.nil (w : World) (B : Nat) : StkAt w B (.slice none 0 0) [] := ⟨none, 0, rfl, ⟨Nat.le_refl _, Nat.zero_le _⟩, fun _ => rfl, fun a h => nomatch h⟩
theorem StkAt.ints {w : World} {B : Nat} {p : Option Addr} {n c : Nat} {ts : List Int} (h : StkAt w B (.slice p n c) ts) : IntsAt w p ts := by
  obtain ⟨p', c', e, h1, h2, h3⟩ := h
  injection e with e1 e2 e3
  subst e1 e3
  cases p with
  | none => exact .inl (by have := h2 rfl; omega)
  | some a =>
    obtain ⟨g, off, e2, h4, h5, h6⟩ := h3 a rfl
    subst e2
    exact .inr ⟨g, off, rfl, h5, h6⟩
/-- What is known of each place lies in block b, two cells each; the stacks behind it. -/
def KnAt (w : World) (b : Nat) (ks : List Pl) : Prop := b < w.heap.size ∧ (∀ o, w.frozen? ⟨b, o, none⟩ = false) ∧ ∀ j (h : j < ks.length), w.cell? ⟨b, j * 2, none⟩ = some (.bool ks[j].isSome) ∧ ∃ v, w.cell? ⟨b, j * 2 + 1, none⟩ = some v ∧ StkAt w b v (ks[j].getD [])
theorem KnAt.on {w w' : World} {b : Nat} {ks : List Pl} (h : KnAt w b ks) (hb : Below w.heap.size w w') : KnAt w' b ks := by
  obtain ⟨h1, h2, h3⟩ := h
  refine ⟨by have := hb.size; omega, fun o => by rw [hb.frozen (p := ⟨b, o, none⟩) h1]; exact h2 o, fun j hj => ?_⟩
  obtain ⟨c0, v, c1, hs⟩ := h3 j hj
  exact ⟨by rw [hb.cell (p := ⟨b, j * 2, none⟩) h1]; exact c0, v, by rw [hb.cell (p := ⟨b, j * 2 + 1, none⟩) h1]; exact c1, hs.on hb⟩
theorem but_setCell (w : World) (b o : Nat) (x : Value) : But b w (w.setCell ⟨b, o, none⟩ x) := (But.refl b w).set o x
theorem KnAt.put {w : World} {b : Nat} {ks : List Pl} (h : KnAt w b ks) {t : Nat} (ht : t < ks.length) {v : Value} {st : List Int} (hv : StkAt w b v st) : KnAt ((w.setCell ⟨b, t * 2, none⟩ (.bool true)).setCell ⟨b, t * 2 + 1, none⟩ v) b (ks.set t (some st)) := by
  obtain ⟨h1, h2, h3⟩ := h
  have hB : But b w ((w.setCell ⟨b, t * 2, none⟩ (.bool true)).setCell ⟨b, t * 2 + 1, none⟩ v) := ((But.refl b w).set _ _).set _ _
  refine ⟨by have := hB.size; omega, fun o => by simpa using h2 o, fun j hj => ?_⟩
  rw [List.length_set] at hj
  obtain ⟨c0, u, c1, hs⟩ := h3 j hj
  by_cases hjt : t = j
  · subst hjt
    refine ⟨?_, v, ?_, ?_⟩
    · rw [cell_ne (by omega), cell_eq c0]; simp
    · exact cell_eq (u := u) (by rw [cell_ne (by omega)]; exact c1)
    · simpa using hv.but hB
  · refine ⟨?_, u, ?_, ?_⟩
    · rw [cell_ne (by omega), cell_ne (by omega), c0]; simp [List.getElem_set_ne hjt]
    · rw [cell_ne (by omega), cell_ne (by omega), c1]
    · rw [List.getElem_set_ne hjt]; exact hs.but hB
end Go.Proofs.YtkoejkpjkcejcabDoor
namespace Go.Proofs.YtkoejkpjkcejcabDoor
open Go.RowKit
set_option linter.unusedVariables false

/-- All is kept but the machine's block, and rows of values behind it. -/
def MKeeps (b : Nat) (w w' : World) : Prop := Below b w w' ∧ Lib.OthersKept 23 (some b) w w'
theorem MKeeps.refl (b : Nat) (w : World) : MKeeps b w w := ⟨Below.refl _ _, Lib.OthersKept.refl _ _ _⟩
theorem MKeeps.trans {b : Nat} {w w1 w2 : World} (h : MKeeps b w w1) (k : MKeeps b w1 w2) : MKeeps b w w2 := ⟨h.1.trans k.1, h.2.trans k.2⟩
theorem MKeeps.of_below {b : Nat} {w w' : World} (h : Below w.heap.size w w') (hb : b ≤ w.heap.size) : MKeeps b w w' :=
  ⟨h.mono hb, fun k o hk _ _ => by rw [h.block k (Array.getElem?_eq_some_iff.1 hk).1]; exact hk⟩
theorem MKeeps.on {b : Nat} {w w1 w2 : World} (h : MKeeps b w w1) (k : Below w1.heap.size w1 w2) (hb : b ≤ w1.heap.size) : MKeeps b w w2 := h.trans (MKeeps.of_below k hb)
theorem MKeeps.set {b : Nat} {w w1 : World} (h : MKeeps b w w1) (o : Nat) (v : Value) : MKeeps b w (w1.setCell ⟨b, o, none⟩ v) :=
  ⟨h.1.setCell (p := ⟨b, o, none⟩) (Nat.le_refl _) v, h.2.setCell ⟨b, o, none⟩ rfl v⟩
theorem MKeeps.drew {b : Nat} {w w1 : World} (h : MKeeps b w w1) : MKeeps b w w1.drew := ⟨h.1.drew, h.2.drew⟩
theorem MKeeps.alloc {b : Nat} {w w1 : World} (h : MKeeps b w w1) (hb : b ≤ w1.heap.size) (o : Obj) : MKeeps b w (w1.alloc o) := ⟨h.1.alloc hb o, h.2.alloc o⟩
/-- The machine lies in block b: it is at instruction k, has the row rv, and these values on its stack. -/
def MchAt (w : World) (b : Nat) (k : Int) (rv : Value) (q : Option Addr) (c : Nat) (st : List V3) : Prop :=
  (∃ cs, w.heap[b]? = some (.cells cs 122 (0, 0))) ∧ w.cell? ⟨b, 0, none⟩ = some (.int .i64 k) ∧ w.cell? ⟨b, 1, none⟩ = some rv ∧ w.cell? ⟨b, 2, none⟩ = some (.slice q st.length c) ∧ w.ownsRow (b + 1) 23 3 (.slice q st.length c) st.length (vcells st)
theorem MchAt.lt {w : World} {b : Nat} {k : Int} {rv : Value} {q : Option Addr} {c : Nat} {st : List V3} (h : MchAt w b k rv q c st) : b < w.heap.size := by
  obtain ⟨⟨cs, h⟩, -⟩ := h
  exact (Array.getElem?_eq_some_iff.1 h).1
theorem MchAt.fz {w : World} {b : Nat} {k : Int} {rv : Value} {q : Option Addr} {c : Nat} {st : List V3} (h : MchAt w b k rv q c st) (o : Nat) : w.frozen? ⟨b, o, none⟩ = false := by
  obtain ⟨⟨cs, h⟩, -⟩ := h
  simp [World.frozen?, h]
/-- What keeps the machine's own blocks keeps it. -/
theorem MchAt.keep {w w' : World} {b : Nat} {k : Int} {rv : Value} {q : Option Addr} {c : Nat} {st : List V3} (h : MchAt w b k rv q c st) (hk : ∀ g o, w.heap[g]? = some o → (g = b ∨ b < g ∧ ∃ cs, o = .cells cs 23 (0, 0)) → w'.heap[g]? = some o) : MchAt w' b k rv q c st := by
  obtain ⟨⟨cs, h0⟩, h1, h2, h3, h4⟩ := h
  have hb := hk b _ h0 (.inl rfl)
  have he : ∀ o, w'.cell? ⟨b, o, none⟩ = w.cell? ⟨b, o, none⟩ := fun o => World.cell?_of_block (w := w) (a := ⟨b, o, none⟩) (by rw [hb, h0])
  refine ⟨⟨cs, hb⟩, by rw [he]; exact h1, by rw [he]; exact h2, by rw [he]; exact h3, h4.1, ?_⟩
  rcases h4.2 with hn | ⟨g, cap, cur, e, h5, hg, rest⟩
  · exact .inl hn
  · exact .inr ⟨g, cap, cur, e, h5, hk g _ hg (.inr ⟨by omega, cur, rfl⟩), rest⟩
theorem MchAt.on {w w' : World} {b : Nat} {k : Int} {rv : Value} {q : Option Addr} {c : Nat} {st : List V3} (h : MchAt w b k rv q c st) (hb : Below w.heap.size w w') : MchAt w' b k rv q c st :=
  h.keep fun g o hg _ => by rw [hb.block g (Array.getElem?_eq_some_iff.1 hg).1]; exact hg
theorem MchAt.others {w w' : World} {b L : Nat} {k : Int} {rv : Value} {q : Option Addr} {c : Nat} {st : List V3} (h : MchAt w b k rv q c st) (hL : L < b) (hb : Lib.OthersKept 3 (some L) w w') : MchAt w' b k rv q c st := by
  obtain ⟨⟨cs, h0⟩, -⟩ := id h
  refine h.keep fun g o hg hgo => ?_
  refine hb g o hg (fun e => by have := Option.some.inj e; omega) fun c2 fz e => ?_
  rcases hgo with rfl | ⟨_, cs2, rfl⟩
  · rw [h0] at hg
    rw [← Option.some.inj hg] at e
    injection e with _ e _
    exact absurd e (by decide)
  · injection e with _ e _
    exact absurd e (by decide)
theorem MchAt.set0 {w : World} {b : Nat} {k : Int} {rv : Value} {q : Option Addr} {c : Nat} {st : List V3} (h : MchAt w b k rv q c st) (k' : Int) : MchAt (w.setCell ⟨b, 0, none⟩ (.int .i64 k')) b k' rv q c st := by
  obtain ⟨⟨cs, h0⟩, h1, h2, h3, h4⟩ := h
  refine ⟨⟨_, Lib.heap_setCell_same h0 _⟩, cell_eq h1, by rw [cell_ne (by decide)]; exact h2, by rw [cell_ne (by decide)]; exact h3, h4.1, ?_⟩
  rcases h4.2 with hn | ⟨g, cap, cur, e, h5, hg, rest⟩
  · exact .inl hn
  · exact .inr ⟨g, cap, cur, e, h5, by rw [Below.heap_setCell _ _ _ _ (by show g ≠ b; omega)]; exact hg, rest⟩
theorem MchAt.set2 {w : World} {b : Nat} {k : Int} {rv : Value} {q q' : Option Addr} {c c' : Nat} {st st' : List V3} (h : MchAt w b k rv q c st) (ho : w.ownsRow (b + 1) 23 3 (.slice q' st'.length c') st'.length (vcells st')) : MchAt (w.setCell ⟨b, 2, none⟩ (.slice q' st'.length c')) b k rv q' c' st' := by
  obtain ⟨⟨cs, h0⟩, h1, h2, h3, h4⟩ := h
  refine ⟨⟨_, Lib.heap_setCell_same h0 _⟩, by rw [cell_ne (by decide)]; exact h1, by rw [cell_ne (by decide)]; exact h2, cell_eq h3, ho.1, ?_⟩
  rcases ho.2 with hn | ⟨g, cap, cur, e, h5, hg, rest⟩
  · exact .inl hn
  · exact .inr ⟨g, cap, cur, e, h5, by rw [Below.heap_setCell _ _ _ _ (by show g ≠ b; omega)]; exact hg, rest⟩
theorem vcells_take : ∀ (vs : List V3) (l : Nat), (vcells vs).take (l * 3) = vcells (vs.take l)
  | [], l => by simp [vcells]
  | v :: vs, 0 => by simp [vcells]
  | v :: vs, l + 1 => by
    rw [vcells, show (l + 1) * 3 = l * 3 + 3 by omega, List.take_succ_cons, List.take_succ_cons, List.take_succ_cons, vcells_take vs l, List.take_succ_cons, vcells]
theorem own_take {w : World} {B : Nat} {q : Option Addr} {c l : Nat} {st : List V3} (hl : l ≤ st.length) (h0 : st.length ≠ 0) (h : w.ownsRow B 23 3 (.slice q st.length c) st.length (vcells st)) : w.ownsRow B 23 3 (.slice q (st.take l).length c) (st.take l).length (vcells (st.take l)) := by
  have hlen : (st.take l).length = l := by rw [List.length_take]; omega
  refine ⟨by rw [vcells_len], .inr ?_⟩
  rcases h.2 with ⟨_, h⟩ | ⟨g, cap, cur, e, h1, h2, h3, h4, h5, h6⟩
  · exact absurd h h0
  · injection e with e1 e2 e3
    subst e1 e3
    refine ⟨g, c, cur, rfl, h1, h2, by omega, h4, h5, ?_⟩
    rw [hlen, ← vcells_take, ← h6, List.take_take, Nat.min_eq_left (by omega)]
end Go.Proofs.YtkoejkpjkcejcabDoor
