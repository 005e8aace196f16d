/-
  Package fold's short: an expression made short, in memory of its own. (Written by wip/gen_fds.py.)
-/
import Derived.Test.YtknibfhoecgjlaaGreatDoorGrAo
import Derived.Deep.RegionLaw
import Derived.Deep.LoopGhost
namespace Go.Proofs.YtknibfhoecgjlaaGreatDoor
open Go.RowKit
set_option linter.unusedVariables false

set_option maxHeartbeats 8000000 in
set_option maxRecDepth 20000 in
theorem short_any {zs : List (ByteArray × Int)} :
    ∀ (x : Ex) (T : Int) (lo : Nat → Prop) (v : Value) (w : World), Rg zs T x → REnv w → ExIn w lo v x → Calls Tryz.prog 23 #[v] w fun e w' => (∃ u, e = .returned u ∧ ExIn w' (fun b => w.heap.size ≤ b) u (fdP x)) ∧ Below w.heap.size w w' := by
  refine Ex.ind fun op nm vt vn vs pos l ih T lo v w hr henv hx => ?_
  have ho4 : op.size ≤ 400 := op_small hr.nd.self
  have hn4 : nm.size ≤ 400 := node_nm hr.nd.self
  have hs4 : vs.size ≤ 400 := vs_small hr.nd.self
  have hl3 : l.length ≤ 3 := by
    have h1 := (node_ok hr.nd.self).2.1
    have h2 := apL_le _ (node_ok hr.nd.self).1
    simp only [Ex.args] at h1
    omega
  rw [ExIn] at hx
  obtain ⟨p, ca, rfl, ⟨hm, hmc⟩, ho, hnm, hvs, hparts⟩ := hx
  obtain ⟨N, hNl⟩ : ∃ N, l.length = N := ⟨_, rfl⟩
  have HNL : Hid (l.length = N) := hNl
  rw [hNl] at hm hmc hl3
  simp only [hNl]
  have HEN : Aside (REnv w) := henv
  have HT : Aside (∀ y ∈ l, ∃ T, Rg zs T y) := fun y hy => rg_part hr y hy
  have HR : Aside (Rg zs T (.node op nm vt vn vs pos (l.map fdP))) := rg_map hr
  have HI : Aside (∀ y ∈ l, ∀ (T : Int) (lo : Nat → Prop) (v : Value) (w : World), Rg zs T y → REnv w → ExIn w lo v y → Calls Tryz.prog 23 #[v] w fun e w' => (∃ u, e = .returned u ∧ ExIn w' (fun b => w.heap.size ≤ b) u (fdP y)) ∧ Below w.heap.size w w') := ih
  have HPA : Aside (l.length = 0 ∨ ∃ b off, p = some ⟨b, off, none⟩ ∧ b < w.heap.size ∧ lo b ∧ ExsIn w lo b off l) := hparts
  obtain ⟨i0, hi, hz0, hz1, hzz⟩ := info_parts info_exF
  have bW : Below w.heap.size w ((w.alloc (.cells #[.string op, .string nm, .int .i64 vt, .int .i64 vn, .string vs, .slice p N ca, .int .i64 pos] 26)).alloc (.cells #[.string ⟨#[]⟩, .string ⟨#[]⟩, .int .i64 0, .int .i64 0, .string ⟨#[]⟩, .slice none 0 0, .int .i64 0] 26)) := ((Below.refl _ w).alloc (Nat.le_refl _) _).alloc (by simp) _
  have X0 := box7_at (w.alloc (.cells #[.string op, .string nm, .int .i64 vt, .int .i64 vn, .string vs, .slice p N ca, .int .i64 pos] 26)) (w.heap.size + 1) (by simp) (.string ⟨#[]⟩) (.string ⟨#[]⟩) (.int .i64 0) (.int .i64 0) (.string ⟨#[]⟩) (.slice none 0 0) (.int .i64 0) 26
  have cA := alone_any op nm vt vn vs p N ca pos ((w.alloc (.cells #[.string op, .string nm, .int .i64 vt, .int .i64 vn, .string vs, .slice p N ca, .int .i64 pos] 26)).alloc (.cells #[.string ⟨#[]⟩, .string ⟨#[]⟩, .int .i64 0, .int .i64 0, .string ⟨#[]⟩, .slice none 0 0, .int .i64 0] 26)) (by omega) (by omega) (by omega)
  have hNz : (N : Int) ≤ 3 := by omega
  clear henv hparts ih hr hNl
  go_enter Tryz.func23, Tryz.ntmps23
  go_wp2_with fail
  refine cA.mono ?_
  rintro e w1 ⟨rfl, b1⟩
  have hs1 : w.heap.size + 2 ≤ w1.heap.size := by have := b1.size; simpa using this
  have BW1 : Aside (Below w.heap.size w w1) := bW.trans (b1.mono bW.size)
  have X1 := X0.on b1
  have XE := (box7_at w w.heap.size rfl (.string op) (.string nm) (.int .i64 vt) (.int .i64 vn) (.string vs) (.slice p N ca) (.int .i64 pos) 26).on (((Below.refl _ (w.alloc (.cells #[.string op, .string nm, .int .i64 vt, .int .i64 vn, .string vs, .slice p N ca, .int .i64 pos] 26))).alloc (Nat.le_refl _) (.cells #[.string ⟨#[]⟩, .string ⟨#[]⟩, .int .i64 0, .int .i64 0, .string ⟨#[]⟩, .slice none 0 0, .int .i64 0] 26)).trans (b1.mono (by simp)))
  obtain ⟨x0, x1, x2, x3, x4, x5, x6, xf, xl⟩ := XE
  have HX1 : Aside (Box7 w1 (w.heap.size + 1) (.string ⟨#[]⟩) (.string ⟨#[]⟩) (.int .i64 0) (.int .i64 0) (.string ⟨#[]⟩) (.slice none 0 0) (.int .i64 0)) := X1
  clear cA b1 X0 X1 bW
  go_wp2
  go_loopg [5, 11] N (fun gg s5 s11 wr => ∃ (kk : Nat) (q : Option Addr) (cp : Nat), s11 = .int .i64 kk ∧ kk ≤ N ∧ N - kk ≤ gg ∧ Aside (Box7 wr w1.heap.size (.string op) (.string nm) (.int .i64 vt) (.int .i64 vn) (.string vs) (.slice q kk cp) (.int .i64 pos)) ∧ Aside (ArgsOwn wr (w1.heap.size + 1) (.slice q kk cp) ((l.map fdP).take kk)) ∧ Aside (Below w1.heap.size w1 wr))
  case atStart => exact ⟨0, none, 0, rfl, Nat.zero_le _, by omega, (show Aside _ from box7_alloc _ _ _ _ _ _ _ _ _), (show Aside _ from argsOwn_nil _ _), (show Aside _ from (Below.refl _ _).alloc (Nat.le_refl _) _)⟩
  case round =>
    obtain ⟨kk, q, cp, rfl, hkk, hg, BX, AO, BW⟩ := hrel
    have hlr := BX.out.lt
    by_cases hlt : kk < N
    · have hltz : (kk : Int) < (N : Int) := by omega
      have h0z : (0 : Int) ≤ (kk : Int) := by omega
      have hk2 : kk < l.length := by rw [HNL.out]; exact hlt
      obtain ⟨ba, oa, yp, yc, rfl, hbl, -, e0, e1, e2, e3, e4, e5, e6, hy⟩ := partF_at HPA.out hk2
      have bwr : Below w.heap.size w wr := BW1.out.trans (BW.out.mono (by omega))
      have kA : ∀ o, wr.cell? ⟨ba, o, none⟩ = w.cell? ⟨ba, o, none⟩ := fun o => bwr.cell (p := ⟨ba, o, none⟩) hbl
      rw [← kA] at e0 e1 e2 e3 e4 e5 e6
      have hblr : ba < wr.heap.size := by have := bwr.size; omega
      have HFT : Hid ((l.map fdP).take (kk + 1) = (l.map fdP).take kk ++ [fdP l[kk]]) := fd_take hk2
      obtain ⟨Ty, hYT⟩ := HT.out _ (List.getElem_mem hk2)
      have hYI := HI.out _ (List.getElem_mem hk2)
      have HKL : Hid (kk < N) := hlt
      clear kA
      generalize l[kk] = y at e0 e1 e2 e3 e4 e5 e6 HFT hYT hYI hy
      obtain ⟨cs, oR, pR⟩ := AO.out
      have hlen : ((l.map fdP).take kk).length = kk := by rw [List.length_take, List.length_map, HNL.out]; omega
      rw [hlen] at oR
      have cY : ∀ W, Below (wr.heap.size + 1) (wr.alloc (.cells #[.string y.op, .string y.nm, .int .i64 y.vt, .int .i64 y.vn, .string y.vs, .slice yp y.args.length yc, .int .i64 y.pos] 26)) W → Calls Tryz.prog 23 #[.agg #[.string y.op, .string y.nm, .int .i64 y.vt, .int .i64 y.vn, .string y.vs, .slice yp y.args.length yc, .int .i64 y.pos]] W fun e w' => (∃ r0 r1 r2 r3 r4 r5 r6 r7 r8, e = .returned (.agg #[.string r0, .string r1, .int .i64 r2, .int .i64 r3, .string r4, .slice r5 r6 r7, .int .i64 r8]) ∧ Aside (ExIn w' (fun b => wr.heap.size + 1 ≤ b) (.agg #[.string r0, .string r1, .int .i64 r2, .int .i64 r3, .string r4, .slice r5 r6 r7, .int .i64 r8]) (fdP y))) ∧ Aside (Below (wr.heap.size + 1) (wr.alloc (.cells #[.string y.op, .string y.nm, .int .i64 y.vt, .int .i64 y.vn, .string y.vs, .slice yp y.args.length yc, .int .i64 y.pos] 26)) w') ∧ w'.cell? ⟨w1.heap.size, 5, none⟩ = some (.slice q kk cp) ∧ w'.frozen? ⟨w1.heap.size, 5, none⟩ = false ∧ w1.heap.size < w'.heap.size ∧ wr.heap.size < w'.heap.size := fun W b => by
        have bb : Below w.heap.size w W := (bwr.alloc bwr.size _).trans (b.mono (by have := bwr.size; omega))
        have hsW : wr.heap.size + 1 ≤ W.heap.size := by have := b.size; simpa using this
        refine (hYI Ty lo _ W hYT (HEN.out.on bb) (hy.on bb)).mono ?_
        rintro e w' ⟨⟨u, rfl, hu⟩, hb⟩
        obtain ⟨r0, r1, r2, r3, r4, r5, r6, r7, r8, rfl⟩ := hu.agg
        have b' : Below (wr.heap.size + 1) (wr.alloc (.cells #[.string y.op, .string y.nm, .int .i64 y.vt, .int .i64 y.vn, .string y.vs, .slice yp y.args.length yc, .int .i64 y.pos] 26)) w' := b.trans (hb.mono (by have := b.size; simpa using this))
        have X' := (BX.out.on ((Below.refl _ wr).alloc (Nat.le_refl _) (.cells #[.string y.op, .string y.nm, .int .i64 y.vt, .int .i64 y.vn, .string y.vs, .slice yp y.args.length yc, .int .i64 y.pos] 26))).on (b'.mono (by simp))
        have hs' := b'.size
        simp at hs'
        exact ⟨⟨r0, r1, r2, r3, r4, r5, r6, r7, r8, rfl, ExIn.low (fun b _ h => by omega) _ _ hu⟩, b', X'.c5, X'.fz 5, by omega, by omega⟩
      obtain ⟨n0, n1, n2, n3, n4, n5, n6, nf, nl⟩ := BX.out
      have nf5 := nf 5
      have BY : Aside (Below (wr.heap.size + 1) (wr.alloc (.cells #[.string y.op, .string y.nm, .int .i64 y.vt, .int .i64 y.vn, .string y.vs, .slice yp y.args.length yc, .int .i64 y.pos] 26)) (wr.alloc (.cells #[.string y.op, .string y.nm, .int .i64 y.vt, .int .i64 y.vn, .string y.vs, .slice yp y.args.length yc, .int .i64 y.pos] 26))) := Below.refl _ _
      have OR : Aside (wr.ownsRow (w1.heap.size + 1) 26 7 (.slice q kk cp) kk cs) := oR
      clear hy hYI oR n0 n1 n2 n3 n4 n6 nf
      go_wp2
      go_region_law (first | (refine step_append_new rfl (.tmp 16) (.tmp 19) 24 rfl (w1.heap.size + 1) 26 i0 _ 7 96 Tryz.underlying24 hi hz0 hz1 hzz rfl (by decide) (.slice q kk cp) kk cs (by simp [Act.eval]) ((lown_below (OR.out.alloc _) (Bz.out.mono (by simp))).alloc _) ⟨w4.heap.size, 0, none⟩ 1 1 [.string r0, .string r1, .int .i64 r2, .int .i64 r3, .string r4, .slice r5 r6 r7, .int .i64 r8] (by simp [Act.eval]) rfl (news_val (by simp) _) (one7 _ _ _ _ _ _ _ _ _) (by decide) (by simp [maxLen]; omega) (by omega) (by simp; omega) ?_; intro q9 c9 w9 hown' hgrow hfr; obtain ⟨g5, gf, gl⟩ := grown_box hgrow ml (fun h => by have := (OR.out.lt _ h.symm).1; omega) m5 mf) | (go_simp; go_wp2_with (first | (go_at_call 23; refine (cY _ (by repeat (first | exact BY.out | apply below_drewN | refine Below.drew ?_))).mono ?_; rintro e' w4 ⟨⟨r0, r1, r2, r3, r4, r5, r6, r7, r8, rfl, HXR⟩, Bz, m5, mf, ml, ml2⟩))))
      all_goals
        obtain ⟨f1, f2, f3⟩ := short_step BW.out BX.out OR.out hlen pR Bz.out HXR.out hown' hgrow hfr
        have F2 : Aside (ArgsOwn (w9.setCell ⟨w1.heap.size, 5, none⟩ (.slice q9 (kk + 1) c9)) (w1.heap.size + 1) (.slice q9 (kk + 1) c9) ((l.map fdP).take (kk + 1))) := by rw [HFT.out]; exact f2
        have F1 : Aside (Box7 (w9.setCell ⟨w1.heap.size, 5, none⟩ (.slice q9 (kk + 1) c9)) w1.heap.size (.string op) (.string nm) (.int .i64 vt) (.int .i64 vn) (.string vs) (.slice q9 (kk + 1) c9) (.int .i64 pos)) := f1
        have F3 : Aside (Below w1.heap.size w1 (w9.setCell ⟨w1.heap.size, 5, none⟩ (.slice q9 (kk + 1) c9))) := f3
        clear f1 f2 f3 hown' hgrow hfr pR cY BW BX OR AO HXR Bz e0 e1 e2 e3 e4 e5 e6
        go_wp2
        go_roundg (N - (kk + 1))
        case measure => have := HKL.out; omega
        case rel => exact ⟨kk + 1, q9, c9, by go_num, by have := HKL.out; omega, by omega, F1, F2, F3⟩
    · have hkz : ¬ (kk : Int) < (N : Int) := by omega
      obtain rfl : kk = N := by omega
      have hat : (l.map fdP).take kk = l.map fdP := by rw [← HNL.out, ← List.length_map (f := fdP)]; exact List.take_length
      have AO1 := AO.out
      rw [hat] at AO1
      have bwr : Below w.heap.size w wr := BW1.out.trans (BW.out.mono (by omega))
      obtain ⟨pp, cc, hsl, hlen2, hpt⟩ := AO1.is
      injection hsl with e1 e2 e3
      subst e1 e3
      have hxn : ExIn wr (fun b => w1.heap.size + 1 ≤ b) (.agg #[.string op, .string nm, .int .i64 vt, .int .i64 vn, .string vs, .slice q kk cp, .int .i64 pos]) (.node op nm vt vn vs pos (l.map fdP)) := by
        rw [ExIn]
        exact ⟨_, _, by rw [← e2], hlen2, ho, hnm, hvs, hpt⟩
      have cI := instead_any op nm vt vn vs pos (l.map fdP) (fun b => w1.heap.size + 1 ≤ b) _ wr HR.out hxn (HEN.out.on bwr)
      obtain ⟨Y, hY⟩ : ∃ Y, insZ pos (.node op nm vt vn vs pos (l.map fdP)) = Y := ⟨_, rfl⟩
      rw [hY] at cI
      have HFD : Hid (fdP (.node op nm vt vn vs pos l) = Y) := by
        show _ = _
        rw [fdP_eq, ← insZ_pos]
        exact hY
      clear hY
      obtain ⟨n0, n1, n2, n3, n4, n5, n6, nf, nl⟩ := BX.out
      have HZ : Aside (Box7 wr (w.heap.size + 1) (.string ⟨#[]⟩) (.string ⟨#[]⟩) (.int .i64 0) (.int .i64 0) (.string ⟨#[]⟩) (.slice none 0 0) (.int .i64 0)) := HX1.out.below BW.out hs1
      clear hxn AO AO1 hat hpt hlen2 e2
      go_wp2_with fail
      refine cI.mono ?_
      rintro e w5 ⟨⟨u, rfl, hu⟩, b5⟩
      obtain ⟨r0, r1, r2, r3, r4, r5, r6, r7, r8, rfl⟩ := hu.agg
      have Z5 := HZ.out.on b5
      have B5 := bwr.trans (b5.mono (by have := bwr.size; omega))
      have RZ := Z5.set (.string r0) (.string r1) (.int .i64 r2) (.int .i64 r3) (.string r4) (.slice r5 r6 r7) (.int .i64 r8)
      have BZ := below_set7F B5 (Nat.le_succ _) (.string r0) (.string r1) (.int .i64 r2) (.int .i64 r3) (.string r4) (.slice r5 r6 r7) (.int .i64 r8)
      have UZ : Aside (ExIn _ (fun b => w.heap.size ≤ b) (.agg #[.string r0, .string r1, .int .i64 r2, .int .i64 r3, .string r4, .slice r5 r6 r7, .int .i64 r8]) (fdP (.node op nm vt vn vs pos l))) := ExIn.low (fun b _ h => by omega) _ _ (ExIn.set7 (z := w.heap.size + 1) (by rw [HFD.out]; exact hu) (fun b (hb : w1.heap.size + 1 ≤ b) => by omega) (.string r0) (.string r1) (.int .i64 r2) (.int .i64 r3) (.string r4) (.slice r5 r6 r7) (.int .i64 r8))
      obtain ⟨z0, z1, z2, z3, z4, z5, z6, zf, zl⟩ := Z5
      have HRZ : Aside (Box7 _ _ _ _ _ _ _ _ _) := RZ
      have HBZ : Aside (Below _ _ _) := BZ
      clear cI b5 hu RZ BZ B5
      go_wp2
      exact bodyPost_ret (v := .agg #[.string r0, .string r1, .int .i64 r2, .int .i64 r3, .string r4, .slice r5 r6 r7, .int .i64 r8]) (by simp [results, Tryz.results23, go_sem, HRZ.out.c0, HRZ.out.c1, HRZ.out.c2, HRZ.out.c3, HRZ.out.c4, HRZ.out.c5, HRZ.out.c6]) rfl ⟨⟨_, rfl, UZ.out⟩, HBZ.out⟩
end Go.Proofs.YtknibfhoecgjlaaGreatDoor
