/-
  RowChk, EvOpen, KdOps, CdO, VfI, in one text.
-/
import Derived.Test.YtplnjbdngedafaaGreatDoorQEvAp
import Derived.Test.YtplnjbdngedafaaGreatDoorGrAj
import Derived.Deep.QuietTactic
import Derived.BigQuiet
import Derived.Deep.SlicePairs
import Derived.Test.YtplnjbdngedafaaGreatDoorGrAg
import Derived.Test.YtplnjbdngedafaaGreatDoorGrAd
namespace Go.Proofs.YtplnjbdngedafaaGreatDoor
open Go.RowKit Go.BigFrame
set_option linter.unusedVariables false

/-- A slice of values. -/
def ValsV (w : World) (v : Value) (rs : List V3) : Prop := ∃ q c, v = .slice q rs.length c ∧ rs.length ≤ maxLen ∧ ValsAt w q rs
theorem ValsV.on {w w' : World} {v : Value} {rs : List V3} (h : ValsV w v rs) (hb : Below w.heap.size w w') : ValsV w' v rs := by
  obtain ⟨q, c, e, h1, h2⟩ := h
  exact ⟨q, c, e, h1, h2.on hb⟩
/-- Texts and numbers as a machine has them. -/
def SizedV (rs : List V3) : Prop := ∀ r ∈ rs, r.2.2.size ≤ maxLen ∧ inB r.2.1
def rcGo : List (ByteArray × Int) → List V3 → Int
  | z :: zs, r :: rs => if chk r.1 r.2.1 r.2.2.data.toList ≠ 0 then chk r.1 r.2.1 r.2.2.data.toList else if r.1 ≠ z.2 then 8 else rcGo zs rs
  | _, _ => 0
/-- The fault of a row of a schema. -/
def rowChk (zs : List (ByteArray × Int)) (rs : List V3) : Int := if schE zs ≠ 0 then schE zs else if rs.length ≠ zs.length then 3 else rcGo zs rs
theorem rcGo_at {zs : List (ByteArray × Int)} {rs : List V3} {k : Nat} (hz : k < zs.length) (hr : k < rs.length) :
    rcGo (zs.drop k) (rs.drop k) = if chk rs[k].1 rs[k].2.1 rs[k].2.2.data.toList ≠ 0 then chk rs[k].1 rs[k].2.1 rs[k].2.2.data.toList else if rs[k].1 ≠ zs[k].2 then 8 else rcGo (zs.drop (k + 1)) (rs.drop (k + 1)) := by
  rw [List.drop_eq_getElem_cons hz, List.drop_eq_getElem_cons hr, rcGo]
set_option maxHeartbeats 4000000 in
theorem rowCheck_v (lv rv : Value) (zs : List (ByteArray × Int)) (rs : List V3) (w : World) (hw : TW w) (hl : ColsV w lv zs) (hr : ValsV w rv rs) (hsz : SizedV rs) :
    Calls Tryz.prog 11 #[lv, rv] w fun e w' => e = .returned (errV (rowChk zs rs)) ∧ Below w.heap.size w w' := by
  have cS := schemaV lv zs w hw hl
  obtain ⟨K, hK⟩ : ∃ K, rowChk zs rs = K := ⟨_, rfl⟩
  rw [hK]
  rw [rowChk] at hK
  by_cases h0 : schE zs = 0
  · rw [if_neg (by simpa using h0)] at hK
    rw [h0, show errV 0 = .nilIface from rfl] at cS
    have hz0 := (schE_zero h0).1
    have hzm := (schE_zero h0).2.1
    obtain ⟨zp, zc, rfl, hzz⟩ := hl
    obtain ⟨rp, rc, rfl, hrm, hrr⟩ := hr
    clear h0
    by_cases hle : rs.length = zs.length
    · rw [if_neg (by simpa using hle)] at hK
      rcases hzz with h | ⟨zb, zo, rfl, _, _, hzi⟩
      · exact absurd h hz0
      · rcases hrr with h | ⟨rb, ro, rfl, hrl, hri⟩
        · exact absurd (hle.symm.trans h) hz0
        · have hlez : (rs.length : Int) = (zs.length : Int) := by omega
          have hqz : ((rs.length : Int) != (zs.length : Int)) = false := by rw [hlez]; simp
          have HK : Hid (rcGo zs rs = K) := hK
          unfold maxLen at hrm
          clear hK
          go_enter Tryz.func11, Tryz.ntmps11
          go_wp2_with fail
          refine cS.mono ?_
          rintro e w0 ⟨rfl, b0⟩
          go_wp2
          go_loopg [6, 7, 8, 22] rs.length (fun gg _ _ _ s22 wr => ∃ kk : Nat, kk ≤ rs.length ∧ rs.length - kk ≤ gg ∧ s22 = .int .i64 kk ∧ Aside (Below w.heap.size w wr) ∧ Hid (K = rcGo (zs.drop kk) (rs.drop kk)))
          case atStart => exact ⟨0, Nat.zero_le _, by omega, rfl, b0, (show Hid _ by simp [Hid, HK.out])⟩
          case round =>
            obtain ⟨kk, hkk, hg, rfl, BW, HS⟩ := hrel
            by_cases hlt : kk < rs.length
            · have hltz : (kk : Int) < (rs.length : Int) := by omega
              have hltz2 : (kk : Int) < (zs.length : Int) := by omega
              have k0 : (0 : Int) ≤ (kk : Int) := by omega
              obtain ⟨c0, c1, c2⟩ := hri kk hlt
              have kR : ∀ o, wr.cell? ⟨rb, o, none⟩ = w.cell? ⟨rb, o, none⟩ := fun o => BW.out.cell (p := ⟨rb, o, none⟩) hrl
              rw [← kR] at c0 c1 c2
              have hrlr : rb < wr.heap.size := by have := BW.out.size; omega
              clear kR
              have hltn : kk < zs.length := by omega
              have HS2 : Hid (K = _) := HS.out.trans (rcGo_at hltn hlt)
              obtain ⟨hs1, hn1⟩ := hsz _ (List.getElem_mem hlt)
              have hzi2 := (hzi.on BW.out)
              obtain ⟨d0, d1⟩ := hzi2.2 kk hltn
              have hzl := hzi2.1
              generalize hy : rs[kk] = y at c0 c1 c2 HS2 hs1 hn1
              generalize hyz : zs[kk] = z at d0 d1 HS2
              obtain ⟨yt, yn, ys⟩ := y
              obtain ⟨zn, zt⟩ := z
              simp only at c0 c1 c2 d0 d1 HS2 hs1 hn1
              have B1 := BW.out.alloc BW.out.size (.cells #[.int .i64 yt, .int .i64 yn, .string ys] 23)
              have cC := check_any yt yn ys (wr.alloc (.cells #[.int .i64 yt, .int .i64 yn, .string ys] 23)) hs1
              obtain ⟨ce, hce⟩ : ∃ ce, chk yt yn ys.data.toList = ce := ⟨_, rfl⟩
              rw [hce] at cC
              have HS3 : Hid (K = if ce ≠ 0 then ce else if yt ≠ zt then 8 else rcGo (zs.drop (kk + 1)) (rs.drop (kk + 1))) := by
                rw [← hce]; exact HS2
              have e1 := errK_neq ce
              have e2 := errK_gneq ce
              clear HS HS2 hy hyz hce hsz
              go_wp2_with fail
              refine cC.mono ?_
              rintro e w1 ⟨rfl, b1⟩
              obtain ⟨hc1, hf1⟩ := bcell b1
              have l1 : wr.heap.size < w1.heap.size := by have := b1.size; simp at this; omega
              have q0 : w1.cell? ⟨wr.heap.size, 0, none⟩ = some (.int .i64 yt) := by
                rw [hc1 _ _ (by simp), World.cell?_alloc_at _ _ _ _ rfl]; rfl
              have g1 : w1.cell? ⟨zb, zo + kk * 2 + 1, none⟩ = some (.int .i64 zt) := by
                rw [hc1 _ _ (by simp; omega), World.cell?_alloc_lt _ _ _ hzl]; exact d1
              have B2 := B1.trans (b1.mono B1.size)
              clear hc1 hf1 b1 cC c0 c1 c2 d0 d1 B1 hzi2
              by_cases hz : ce = 0
              · have hb : (ce != 0) = false := by simpa using hz
                rw [hb] at e1
                by_cases htt : yt = zt
                · have hq : (yt != zt) = false := by simpa using htt
                  have HS4 : Hid (K = rcGo (zs.drop (kk + 1)) (rs.drop (kk + 1))) := by
                    have := HS3.out
                    rwa [if_neg (by simpa using hz), if_neg (by simpa using htt)] at this
                  clear HS3 hz hb htt
                  go_wp2
                  go_quiet (fail)
                  go_wp2
                  go_roundg (rs.length - (kk + 1))
                  case measure => omega
                  case rel => exact ⟨kk + 1, by omega, by omega, by go_num, by repeat (first | exact B2 | apply below_drewN | refine Below.drew ?_), HS4⟩
                · have hq : (yt != zt) = true := by simpa using htt
                  have HS4 : K = 8 := by
                    have := HS3.out
                    rwa [if_neg (by simpa using hz), if_pos htt] at this
                  subst HS4
                  clear HS3 hz hb htt
                  go_wp2
                  go_quiet (fail)
                  go_wp2
                  go_ret
                  exact ⟨rfl, by repeat (first | exact B2 | apply below_drewN | refine Below.drew ?_)⟩
              · have hb : (ce != 0) = true := by simpa using hz
                rw [hb] at e1
                have HS4 : K = ce := by
                  have := HS3.out
                  rwa [if_pos hz] at this
                subst HS4
                clear HS3 hz hb
                go_wp2
                go_ret
                exact ⟨rfl, B2⟩
            · have hltz : ¬ (kk : Int) < (rs.length : Int) := by omega
              have hkz : K = 0 := by
                rw [HS.out, List.drop_eq_nil_of_le (show zs.length ≤ kk by omega)]; rfl
              subst hkz
              clear HS HK
              go_wp2
              go_ret
              exact ⟨rfl, BW.out⟩
    · rw [if_pos hle] at hK
      subst hK
      have hqz : ((rs.length : Int) != (zs.length : Int)) = true := by simp; omega
      clear hle hzz hrr
      go_enter Tryz.func11, Tryz.ntmps11
      go_wp2_with fail
      refine cS.mono ?_
      rintro e w0 ⟨rfl, b0⟩
      go_wp2
      go_ret
      exact ⟨rfl, b0⟩
  · rw [if_pos h0] at hK
    rw [hK] at cS h0
    have HE : Hid (errV K = .iface 32 (.int .i64 K)) := by show errV K = _; rw [errV, if_neg h0]
    clear hK h0 hl hr
    go_enter Tryz.func11, Tryz.ntmps11
    go_wp2_with fail
    refine cS.mono ?_
    rintro e w0 ⟨rfl, b0⟩
    rw [HE.out]
    go_wp2
    go_ret
    exact ⟨by rw [HE.out]; rfl, b0⟩
end Go.Proofs.YtplnjbdngedafaaGreatDoor
namespace Go.Proofs.YtplnjbdngedafaaGreatDoor
open Go.ChangeShapes Go.WideShapes Go.ChangeAt Go.RowKit Go.Deep
set_option linter.unusedVariables false

set_option maxRecDepth 100000 in
theorem open_valsV {H : Type} {enc : TypeId × Value → H} {W : World} {base : Nat} {v : Value} {d : DataW H} {p : List MemPlace} (hv : Value.okWide Tryz.prog W .any base 28 v) (h : DataW.Trod enc Tryz.prog W 0 (fun _ => true) true 28 v d p) :
    ∃ rs, ValsV W v rs ∧ SizedV rs := by
  obtain ⟨a0, len0, cap0, rfl⟩ := okWide_slice Tryz.underlying28 hv
  obtain ⟨fuel, hf⟩ := h
  rcases open_slice Tryz.underlying28 hf with ⟨hcs, hx⟩ | ⟨a, len, cap, m, n, D, Pl, hcs, _, hl, hm, hmeq, hx, hall⟩
  · simp [Value.cells] at hcs
    obtain ⟨rfl, rfl, rfl⟩ := hcs
    exact ⟨[], ⟨_, _, rfl, Nat.zero_le _, .inl rfl⟩, fun r hr => by simp at hr⟩
  · simp [Value.cells] at hcs
    obtain ⟨rfl, rfl, rfl⟩ := hcs
    by_cases h0 : len0 = 0
    · subst h0
      exact ⟨[], ⟨_, _, rfl, Nat.zero_le _, .inl rfl⟩, fun r hr => by simp at hr⟩
    · simp only [if_true] at hmeq
      subst hmeq
      have each : ∀ i, i < len0 → ∃ r : V3, W.cell? (a.add (i * 3)) = some (.int .i64 r.1) ∧ W.cell? (a.add (i * 3 + 1)) = some (.int .i64 r.2.1) ∧ W.cell? (a.add (i * 3 + 2)) = some (.string r.2.2) ∧ r.2.2.size ≤ maxLen ∧ (-9223372036854775808 ≤ r.2.1 ∧ r.2.1 ≤ 9223372036854775807) := by
        intro i hi
        obtain ⟨cs', h1, h2⟩ := hall i (by omega)
        rw [cellsVl] at h1
        obtain ⟨_, hlen, hcell⟩ := World.cells?_some h1
        obtain ⟨y0, y1, y2, k, _, _, t0, t1, t2⟩ := trod_struct3 Tryz.underlying23 h2
        match cs', hlen with
        | [v0, v1, v2], _ =>
          simp [cellsInt, cellsStr] at t0 t1 t2
          obtain ⟨x0, e0, _, _⟩ := DataW.trod_int Tryz.underlying3 t0
          obtain ⟨x1, e1, _, w1⟩ := DataW.trod_int Tryz.underlying3 t1
          obtain ⟨x2, e2, _, hs⟩ := DataW.trod_string Tryz.underlying9 t2
          simp at e0 e1 e2
          subst e0 e1 e2
          have g0 := hcell 0 (by omega)
          have g1 := hcell 1 (by omega)
          have g2 := hcell 2 (by omega)
          rw [add_add] at g0 g1 g2
          exact ⟨(x0, x1, x2), by simpa using g0, by simpa using g1, by simpa using g2, hs, int_bd w1⟩
      obtain ⟨f, hF⟩ := choose_lt (α := V3) each
      obtain ⟨sb, so, spot⟩ := a
      have hspot : spot = none := by simpa [Addr.add] using World.cell?_spot (hF 0 (by omega)).1
      subst hspot
      have hlen : ((List.range len0).map f).length = len0 := by simp
      refine ⟨(List.range len0).map f, ⟨_, _, by rw [hlen], by omega, .inr ⟨sb, so, rfl, ?_, ?_⟩⟩, ?_⟩
      · have := (hF 0 (by omega)).1
        exact cell_lt' (o := so + 0 * 3) (by simpa [add_plain] using this)
      · intro j hj
        obtain ⟨c0, c1, c2, _, _⟩ := hF j (by omega)
        simp only [List.getElem_map, List.getElem_range]
        rw [add_plain] at c0 c1 c2
        exact ⟨c0, by rw [Nat.add_assoc]; exact c1, by rw [Nat.add_assoc]; exact c2⟩
      · intro r hr
        obtain ⟨i, hi, rfl⟩ := List.mem_map.1 hr
        obtain ⟨_, _, _, h1, h2⟩ := hF i (List.mem_range.1 hi)
        exact ⟨h1, h2⟩
end Go.Proofs.YtplnjbdngedafaaGreatDoor
namespace Go.Proofs.YtplnjbdngedafaaGreatDoor
open Go.RowKit Go.BigFrame
set_option linter.unusedVariables false

def opsS : List ByteArray := kdRules.map fun r => ⟨r.1.toArray⟩
/-- Texts one behind the other. -/
def StrsAt (w : World) (p : Option Addr) (ss : List ByteArray) : Prop := ∃ b off, p = some ⟨b, off, none⟩ ∧ b < w.heap.size ∧ ∀ j (h : j < ss.length), w.cell? ⟨b, off + j, none⟩ = some (.string ss[j])
theorem StrsAt.on {w w' : World} {p : Option Addr} {ss : List ByteArray} (h : StrsAt w p ss) (hb : Below w.heap.size w w') : StrsAt w' p ss := by
  obtain ⟨b, off, e, hl, h⟩ := h
  exact ⟨b, off, e, by have := hb.size; omega, fun j hj => by rw [hb.cell (p := ⟨b, _, none⟩) hl]; exact h j hj⟩
theorem info_strO : (Tryz.prog.info? 9).map (fun i => (i.zero, i.size, i.bytes)) = some (some (.string ⟨#[]⟩), 1, 16) := by kernel_rfl
theorem ownStrs {W : World} {B : Nat} {q : Option Addr} {c n : Nat} {ss : List ByteArray} (hn : ss.length = n) (h0 : 0 < n) (h : W.ownsRow B 9 1 (.slice q n c) n (ss.map .string)) : StrsAt W q ss := by
  rcases h.2 with ⟨e1, _⟩ | ⟨g, cap, cur, e1, hb, hg, hm, hx, hs, ht⟩
  · injection e1 with e1 e2; omega
  · injection e1 with e1 e2 e3
    subst e1
    refine ⟨g, 0, rfl, (Array.getElem?_eq_some_iff.1 hg).1, fun j hj => ?_⟩
    have h1 := h.cells (g := g) rfl j (.string ss[j]) (by rw [List.getElem?_map, List.getElem?_eq_getElem hj]; rfl)
    rw [Go.WideShapes.add_plain] at h1
    simpa using h1
theorem opsS_take {k : Nat} (hk : k < 17) {S : ByteArray} (h : (kdRules[k]'hk).1 = S.data.toList) : opsS.take k ++ [S] = opsS.take (k + 1) := by
  have hl : k < opsS.length := hk
  rw [List.take_add_one, List.getElem?_eq_getElem hl]
  have : opsS[k] = S := by
    have h1 : opsS[k] = (⟨(kdRules[k]'hk).1.toArray⟩ : ByteArray) := List.getElem_map (l := kdRules) (fun r : KRule => (⟨r.1.toArray⟩ : ByteArray))
    rw [h1, h]
  rw [this]
  rfl
set_option maxHeartbeats 2000000 in
set_option maxRecDepth 20000 in
theorem kindOps_any (w : World) (henv : REnv w) :
    Calls Tryz.prog 38 #[] w fun e w' => (∃ q c, e = .returned (.slice q 17 c) ∧ Aside (StrsAt w' q opsS)) ∧ Below w.heap.size w w' := by
  obtain ⟨i0, hi, hz0, hz1, hzz⟩ := info_parts info_strO
  obtain ⟨tt, fr, hgl⟩ := henv
  go_enter Tryz.func38, Tryz.ntmps38
  go_wp2_with (refine wpList_load_row rfl 108 _ rfl 0 rfl tt _ fr _ hgl Tryz.underlying108 rfl (by kernel_rfl) ?_)
  have hat := rule_at
  generalize Value.agg rulesC = AR at hat ⊢
  clear hgl
  go_loopg [1, 3, 5] 17 (fun gg s1 _ s5 wr => ∃ (kk : Nat) (acc : List ByteArray) (q : Option Addr) (cp : Nat), kk ≤ 17 ∧ 17 - kk ≤ gg ∧ s5 = .int .i64 kk ∧ s1 = .slice q kk cp ∧ Aside (wr.ownsRow w.heap.size 9 1 (.slice q kk cp) kk (acc.map .string)) ∧ Aside (Below w.heap.size w wr) ∧ Hid (acc = opsS.take kk))
  case atStart => exact ⟨0, [], none, 0, Nat.zero_le _, by omega, rfl, rfl, (show Aside _ from ⟨rfl, .inl ⟨rfl, rfl⟩⟩), (show Aside _ from Below.refl _ _), (show Hid _ from rfl)⟩
  case round =>
    obtain ⟨kk, acc, q, cp, hkk, hg, rfl, rfl, OW, BW, HE⟩ := hrel
    have hzr : w.heap.size ≤ wr.heap.size := BW.out.size
    by_cases hlt : kk < 17
    · have hltz : (kk : Int) < 17 := by omega
      obtain ⟨S, a0, a1, a2, ty, hix, hkr, _⟩ := hat kk hlt
      have HT : Hid (acc ++ [S] = opsS.take (kk + 1)) := by
        show _ = _
        rw [HE.out]; exact opsS_take hlt (by rw [hkr])
      have hix2 := fun W => hix W
      have OW4 := OW.out.alloc (.cells #[.string S, .int .i64 a0, .int .i64 a1, .int .i64 a2, .int .i64 ty] 107)
      have BW4 : Aside (Below w.heap.size w (wr.alloc (.cells #[.string S, .int .i64 a0, .int .i64 a1, .int .i64 a2, .int .i64 ty] 107))) := BW.out.alloc hzr _
      clear HE hkr OW
      go_wp2_with (at_builtin; refine wpList_append_own _ rfl _ _ 82 rfl w.heap.size 9 i0 (.string ⟨#[]⟩) 1 16 Tryz.underlying82 hi hz0 hz1 hzz rfl (by decide) _ _ _ rfl (OW4.alloc _) ⟨wr.heap.size + 1, 0, none⟩ 1 1 [.string S] rfl rfl ?c1 ?c2 ?c3 ?c4 ?c5 ?_)
      case c1 =>
        intro i u hu
        rw [Go.WideShapes.add_plain, World.cell?_alloc_at _ _ _ _ (by simp)]
        simpa using hu
      case c2 =>
        intro u hu
        simp at hu
        subst hu; rfl
      case c3 => simp [maxLen]; omega
      case c4 => omega
      case c5 => simp; omega
      · intro v' w5 hown' hgrow _
        have hlo3 : ∀ j, (Value.slice q kk cp).ownBlock = some j → w.heap.size ≤ j := fun j hj => (OW4.lt j hj).1
        have bg : Below w.heap.size (wr.alloc (.cells #[.string S, .int .i64 a0, .int .i64 a1, .int .i64 a2, .int .i64 ty] 107)) w5 := ((Below.refl _ _).alloc (by simp; omega) _).grown hgrow (by simp; omega) hlo3
        have BW6 : Aside (Below w.heap.size w w5) := BW4.out.trans bg
        obtain ⟨q5, c5, rfl⟩ := lown_slice hown'
        have ow6 : w5.ownsRow w.heap.size 9 1 (.slice q5 (kk + 1) c5) (kk + 1) ((acc ++ [S]).map .string) := by rw [List.map_append]; exact hown'
        clear hown' hgrow OW4 bg BW4
        go_wp2
        go_roundg (17 - (kk + 1))
        case measure => omega
        case rel => exact ⟨kk + 1, acc ++ [S], q5, c5, by omega, by omega, by go_num, rfl, (show Aside _ from ow6), BW6, HT⟩
    · have hltz : ¬ (kk : Int) < 17 := by omega
      obtain rfl : kk = 17 := by omega
      have hacc : acc = opsS := by rw [HE.out]; rfl
      subst hacc
      have hst : Aside (StrsAt wr q opsS) := ownStrs rfl (by decide) OW.out
      clear HE OW hat
      go_wp2
      go_ret
      exact ⟨⟨q, ⟨cp, rfl⟩, hst⟩, BW.out⟩
end Go.Proofs.YtplnjbdngedafaaGreatDoor
namespace Go.Proofs.YtplnjbdngedafaaGreatDoor
open Go.RowKit
set_option linter.unusedVariables false

/-- The operation of a number that is one here. -/
def opN (n : Int) : List UInt8 := if 2 ≤ n ∧ n < 16 then ((kdRules[n.toNat]?).map (·.1)).getD [] else []
def opE (n : Int) : Int := if 2 ≤ n ∧ n < 16 then 0 else 1
theorem opN_len (n : Int) : (opN n).length ≤ 8 := by
  unfold opN
  split
  · rename_i h
    obtain ⟨k, rfl⟩ : ∃ k : Nat, n = k := ⟨n.toNat, by omega⟩
    have : k = 2 ∨ k = 3 ∨ k = 4 ∨ k = 5 ∨ k = 6 ∨ k = 7 ∨ k = 8 ∨ k = 9 ∨ k = 10 ∨ k = 11 ∨ k = 12 ∨ k = 13 ∨ k = 14 ∨ k = 15 := by omega
    rcases this with rfl | rfl | rfl | rfl | rfl | rfl | rfl | rfl | rfl | rfl | rfl | rfl | rfl | rfl <;> decide
  · decide
theorem opN_none {n : Int} (h : ¬ (2 ≤ n ∧ n < 16)) : opN n = [] ∧ opE n = 1 := ⟨if_neg h, if_neg h⟩
theorem opN_some {k : Nat} (h : 2 ≤ k ∧ k < 16) (hk : k < opsS.length) : (⟨(opN k).toArray⟩ : ByteArray) = opsS[k] ∧ opE k = 0 := by
  have hz : 2 ≤ (k : Int) ∧ (k : Int) < 16 := by omega
  refine ⟨?_, if_pos hz⟩
  have h17 : k < kdRules.length := by have : kdRules.length = 17 := rfl; omega
  rw [opN, if_pos hz, Int.toNat_natCast, List.getElem?_eq_getElem h17]
  exact (List.getElem_map (l := kdRules) (fun r : KRule => (⟨r.1.toArray⟩ : ByteArray))).symm
def jmpB (l : List UInt8) : Bool := l == [111, 114] || l == [97, 110, 100] || l == [105, 102]
theorem jmp_ops {k : Nat} (hk : k < opsS.length) : jmpB opsS[k].data.toList = (k == 0 || k == 1 || k == 16) := by
  have h17 : k < 17 := hk
  have : k = 0 ∨ k = 1 ∨ k = 2 ∨ k = 3 ∨ k = 4 ∨ k = 5 ∨ k = 6 ∨ k = 7 ∨ k = 8 ∨ k = 9 ∨ k = 10 ∨ k = 11 ∨ k = 12 ∨ k = 13 ∨ k = 14 ∨ k = 15 ∨ k = 16 := by omega
  rcases this with rfl | rfl | rfl | rfl | rfl | rfl | rfl | rfl | rfl | rfl | rfl | rfl | rfl | rfl | rfl | rfl | rfl <;> rfl
theorem byJumps_any (S : ByteArray) (w : World) :
    Calls Tryz.prog 116 #[.string S] w fun e w' => e = .returned (.bool (jmpB S.data.toList)) ∧ w' = w := by
  rw [← Lib.toList_data]
  generalize hL : S.toList = L
  have e1 : jmpB L = (L == [111, 114] || L == [97, 110, 100] || L == [105, 102]) := rfl
  rw [e1]
  clear e1
  go_enter Tryz.func116, Tryz.ntmps116
  go_wp2
  all_goals
    go_ret
    simp_all
set_option maxHeartbeats 2000000 in
theorem codeOp_any (n : Int) (w : World) (henv : REnv w) :
    Calls Tryz.prog 99 #[.int .i64 n] w fun e w' => e = .returned (.tuple #[.string ⟨(opN n).toArray⟩, errV (opE n)]) ∧ Below w.heap.size w w' := by
  by_cases h0 : 0 ≤ n ∧ n < 17
  · obtain ⟨k, rfl⟩ : ∃ k : Nat, n = k := ⟨n.toNat, by omega⟩
    have hk : k < opsS.length := by have : opsS.length = 17 := rfl; omega
    have H1 : Hid (jmpB opsS[k].data.toList = (k == 0 || k == 1 || k == 16)) := jmp_ops hk
    obtain ⟨R, hR⟩ : ∃ R, Value.tuple #[.string ⟨(opN k).toArray⟩, errV (opE k)] = R := ⟨_, rfl⟩
    have HR : Hid (Value.tuple #[.string ⟨(opN k).toArray⟩, errV (opE k)] = R) := hR
    rw [hR]
    clear hR
    have z0 : ¬ (k : Int) < 0 := by omega
    have z1 : ¬ (17 : Int) ≤ (k : Int) := by omega
    have z2 : (0 : Int) ≤ (k : Int) := by omega
    go_enter Tryz.func99, Tryz.ntmps99
    go_wp2_with fail
    refine (kindOps_any w henv).mono ?_
    rintro e w1 ⟨⟨q, c, rfl, hst⟩, b1⟩
    obtain ⟨b, off, rfl, hbl, hcell⟩ := hst.out
    have c1 := hcell k hk
    go_wp2_with fail
    refine (byJumps_any opsS[k] _).mono ?_
    rintro e w2 ⟨rfl, rfl⟩
    by_cases hj : 2 ≤ k ∧ k < 16
    · have ej : jmpB opsS[k].data.toList = false := by rw [H1.out]; simp; omega
      rw [ej]
      obtain ⟨f1, f2⟩ := opN_some hj hk
      have HR2 : Hid (Value.tuple #[.string opsS[k], errV 0] = R) := by
        show _ = _
        rw [← HR.out, f1, f2]
      go_wp2
      go_ret2
      exact ⟨by rw [← HR2.out]; rfl, b1⟩
    · have ej : jmpB opsS[k].data.toList = true := by rw [H1.out]; simp; omega
      rw [ej]
      obtain ⟨f1, f2⟩ := opN_none (n := k) (by omega)
      have HR2 : Hid (Value.tuple #[.string ⟨#[]⟩, errV 1] = R) := by
        show _ = _
        rw [← HR.out, f1, f2]
      go_wp2
      go_ret2
      exact ⟨by rw [← HR2.out]; rfl, b1⟩
  · obtain ⟨f1, f2⟩ := opN_none (n := n) (by omega)
    rw [f1, f2]
    have HR2 : Hid (Value.tuple #[.string ⟨(#[] : Array UInt8)⟩, errV 1] = Value.tuple #[.string ⟨([] : List UInt8).toArray⟩, errV 1]) := rfl
    by_cases hn : n < 0
    · go_enter Tryz.func99, Tryz.ntmps99
      go_wp2_with fail
      refine (kindOps_any w henv).mono ?_
      rintro e w1 ⟨⟨q, c, rfl, hst⟩, b1⟩
      go_wp2
      go_ret2
      exact ⟨rfl, b1⟩
    · have hn2 : (17 : Int) ≤ n := by omega
      go_enter Tryz.func99, Tryz.ntmps99
      go_wp2_with fail
      refine (kindOps_any w henv).mono ?_
      rintro e w1 ⟨⟨q, c, rfl, hst⟩, b1⟩
      go_wp2
      go_ret2
      exact ⟨rfl, b1⟩
/-- An instruction: what, its number, the value. -/
abbrev I5 := Int × Int × Int × Int × ByteArray
def okI (i : I5) : Prop := (-9223372036854775808 ≤ i.2.1 ∧ i.2.1 ≤ 9223372036854775807) ∧ (-9223372036854775808 ≤ i.2.2.2.1 ∧ i.2.2.2.1 ≤ 9223372036854775807) ∧ i.2.2.2.2.size ≤ maxLen
/-- Instructions one behind the other. -/
def InsAt (w : World) (p : Option Addr) (is : List I5) : Prop := is.length = 0 ∨ ∃ b off, p = some ⟨b, off, none⟩ ∧ b < w.heap.size ∧ ∀ j (h : j < is.length), w.cell? ⟨b, off + j * 5, none⟩ = some (.int .i64 is[j].1) ∧ w.cell? ⟨b, off + j * 5 + 1, none⟩ = some (.int .i64 is[j].2.1) ∧ w.cell? ⟨b, off + j * 5 + 2, none⟩ = some (.int .i64 is[j].2.2.1) ∧ w.cell? ⟨b, off + j * 5 + 3, none⟩ = some (.int .i64 is[j].2.2.2.1) ∧ w.cell? ⟨b, off + j * 5 + 4, none⟩ = some (.string is[j].2.2.2.2)
theorem InsAt.on {w w' : World} {p : Option Addr} {is : List I5} (h : InsAt w p is) (hb : Below w.heap.size w w') : InsAt w' p is := by
  rcases h with h | ⟨b, off, e, hl, h⟩
  · exact .inl h
  · refine .inr ⟨b, off, e, by have := hb.size; omega, fun j hj => ?_⟩
    obtain ⟨h1, h2, h3, h4, h5⟩ := h j hj
    exact ⟨by rw [hb.cell (p := ⟨b, _, none⟩) hl]; exact h1, by rw [hb.cell (p := ⟨b, _, none⟩) hl]; exact h2, by rw [hb.cell (p := ⟨b, _, none⟩) hl]; exact h3, by rw [hb.cell (p := ⟨b, _, none⟩) hl]; exact h4, by rw [hb.cell (p := ⟨b, _, none⟩) hl]; exact h5⟩
end Go.Proofs.YtplnjbdngedafaaGreatDoor
namespace Go.Proofs.YtplnjbdngedafaaGreatDoor
open Go.RowKit
set_option linter.unusedVariables false

def c5 (i : I5) : List Value := [.int .i64 i.1, .int .i64 i.2.1, .int .i64 i.2.2.1, .int .i64 i.2.2.2.1, .string i.2.2.2.2]
def insC : List I5 → List Value
  | [] => []
  | i :: is => c5 i ++ insC is
theorem insC_len : ∀ is : List I5, (insC is).length = is.length * 5
  | [] => rfl
  | i :: is => by rw [insC, List.length_append, insC_len is, List.length_cons]; simp [c5]; omega
theorem insC_append : ∀ a b : List I5, insC (a ++ b) = insC a ++ insC b
  | [], b => rfl
  | i :: a, b => by rw [List.cons_append, insC, insC, insC_append a b, List.append_assoc]
theorem insC_at : ∀ (is : List I5) (j r : Nat) (hj : j < is.length), r < 5 → (insC is)[j * 5 + r]? = (c5 is[j])[r]?
  | [], j, r, hj, _ => absurd hj (by simp)
  | i :: is, 0, r, hj, hr => by
    rw [insC, List.getElem?_append_left (by simp [c5]; omega)]
    simp
  | i :: is, j + 1, r, hj, hr => by
    rw [insC, List.getElem?_append_right (by simp [c5]; omega), show (j + 1) * 5 + r - (c5 i).length = j * 5 + r by simp [c5]; omega]
    simp only [List.getElem_cons_succ]
    exact insC_at is j r (by simpa using hj) hr
theorem ins_news {w : World} {b off : Nat} {is : List I5} (h : ∀ j (h : j < is.length), w.cell? ⟨b, off + j * 5, none⟩ = some (.int .i64 is[j].1) ∧ w.cell? ⟨b, off + j * 5 + 1, none⟩ = some (.int .i64 is[j].2.1) ∧ w.cell? ⟨b, off + j * 5 + 2, none⟩ = some (.int .i64 is[j].2.2.1) ∧ w.cell? ⟨b, off + j * 5 + 3, none⟩ = some (.int .i64 is[j].2.2.2.1) ∧ w.cell? ⟨b, off + j * 5 + 4, none⟩ = some (.string is[j].2.2.2.2)) (j : Nat) (u : Value) (hu : (insC is)[j]? = some u) : w.cell? ((⟨b, off, none⟩ : Addr).add j) = some u := by
  rw [Go.WideShapes.add_plain]
  have hj : j < is.length * 5 := by
    rw [← insC_len]
    exact (List.getElem?_eq_some_iff.1 hu).1
  have hq : j / 5 < is.length := by omega
  have hr : j % 5 < 5 := Nat.mod_lt _ (by decide)
  have he : j = j / 5 * 5 + j % 5 := by omega
  rw [he, insC_at is (j / 5) (j % 5) hq hr] at hu
  obtain ⟨c0, c1, c2, c3, c4⟩ := h (j / 5) hq
  have : j % 5 = 0 ∨ j % 5 = 1 ∨ j % 5 = 2 ∨ j % 5 = 3 ∨ j % 5 = 4 := by omega
  rcases this with e | e | e | e | e
  · rw [e] at hu he; rw [he, Nat.add_zero]; rw [c0]; exact hu
  · rw [e] at hu he; rw [he, ← Nat.add_assoc]; rw [c1]; exact hu
  · rw [e] at hu he; rw [he, ← Nat.add_assoc]; rw [c2]; exact hu
  · rw [e] at hu he; rw [he, ← Nat.add_assoc]; rw [c3]; exact hu
  · rw [e] at hu he; rw [he, ← Nat.add_assoc]; rw [c4]; exact hu
theorem ins_one (is : List I5) : ∀ u ∈ insC is, u.oneCell' = true := by
  induction is with
  | nil => intro u hu; simp [insC] at hu
  | cons i is ih =>
    intro u hu
    rw [insC, List.mem_append] at hu
    rcases hu with hu | hu
    · simp only [c5, List.mem_cons, List.not_mem_nil, or_false] at hu
      rcases hu with rfl | rfl | rfl | rfl | rfl <;> rfl
    · exact ih u hu
theorem ownIns {W : World} {B : Nat} {q : Option Addr} {c n : Nat} {is : List I5} (hn : is.length = n) (h : W.ownsRow B 53 5 (.slice q n c) n (insC is)) : InsAt W q is := by
  by_cases h0 : is.length = 0
  · exact .inl h0
  · refine .inr ?_
    rcases h.2 with ⟨e1, _⟩ | ⟨g, cap, cur, e1, hb, hg, hm, hx, hs, ht⟩
    · injection e1 with e1 e2; omega
    · injection e1 with e1 e2 e3
      subst e1
      refine ⟨g, 0, rfl, (Array.getElem?_eq_some_iff.1 hg).1, fun j hj => ?_⟩
      have h1 : ∀ r u, r < 5 → (c5 is[j])[r]? = some u → W.cell? ⟨g, j * 5 + r, none⟩ = some u := fun r u hr hu => by
        have := h.cells (g := g) rfl (j * 5 + r) u (by rw [insC_at is j r hj hr]; exact hu)
        rw [Go.WideShapes.add_plain] at this
        simpa using this
      refine ⟨?_, ?_, ?_, ?_, ?_⟩
      · rw [Nat.zero_add]; exact h1 0 _ (by decide) rfl
      · rw [Nat.zero_add]; exact h1 1 _ (by decide) rfl
      · rw [Nat.zero_add]; exact h1 2 _ (by decide) rfl
      · rw [Nat.zero_add]; exact h1 3 _ (by decide) rfl
      · rw [Nat.zero_add]; exact h1 4 _ (by decide) rfl
theorem info_ins : (Tryz.prog.info? 53).map (fun i => (i.zero, i.size, i.bytes)) = some (some (.agg #[.int .i64 0, .int .i64 0, .int .i64 0, .int .i64 0, .string ⟨#[]⟩]), 5, 48) := by kernel_rfl
end Go.Proofs.YtplnjbdngedafaaGreatDoor
