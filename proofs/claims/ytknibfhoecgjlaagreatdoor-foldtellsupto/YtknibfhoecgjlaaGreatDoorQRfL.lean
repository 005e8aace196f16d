/-
  The document's Fold. (Written by wip/gen_rfl.py.)
-/
import Derived.Test.YtknibfhoecgjlaaGreatDoorQRfB
import Derived.Test.YtknibfhoecgjlaaGreatDoorGrAo
import Derived.Test.YtknibfhoecgjlaaGreatDoorQRefDa
import Derived.Deep.LoopGhost
namespace Go.Proofs.YtknibfhoecgjlaaGreatDoor
open Go.RowKit
set_option linter.unusedVariables false

theorem node_plain {op nm vs : ByteArray} {vt vn pos : Int} {l : List Ex} (hn : nodeE (.node op nm vt vn vs pos l) = 0) (h1 : op.data.toList ≠ [118, 97, 108]) (h2 : op.data.toList ≠ [99, 111, 108]) : nm = ⟨#[]⟩ ∧ vt = 0 ∧ vn = 0 ∧ vs = ⟨#[]⟩ := by
  have q1 : (op.toList == [118, 97, 108]) = false := by rw [eq_list]; simpa using h1
  have q2 : (op.toList == [99, 111, 108]) = false := by rw [eq_list]; simpa using h2
  have nil_of : ∀ b : ByteArray, b.data.toList = [] → b = ⟨#[]⟩ := fun b h => by
    cases b with
    | mk a => rw [show a = #[] from Array.toList_eq_nil_iff.1 h]
  rw [nodeE, nodeB] at hn
  simp only [Ex.op, Ex.nm, Ex.vt, Ex.vn, Ex.vs, Ex.args, q1, q2] at hn
  split at hn
  · exact absurd hn (by decide)
  · split at hn
    · exact absurd hn (by decide)
    · rename_i h3
      simp [Lib.toList_data] at h3
      refine ⟨nil_of _ ?_, h3.2.2.1, h3.2.2.2.1, nil_of _ ?_⟩
      · simpa using h3.2.1
      · simpa using h3.2.2.2.2
theorem kept3 {w w' : World} {row : Option Nat} {b o : Nat} {v : Value} (hg : w.grownBy w' row) (hb : b < w.heap.size) (hne : some b ≠ row) (hc : w.cell? ⟨b, o, none⟩ = some v) : w'.cell? ⟨b, o, none⟩ = some v := by
  rw [World.cell?_of_block (w := w) (a := ⟨b, o, none⟩) (hg.block b hb hne)]; exact hc
set_option maxHeartbeats 8000000 in
set_option maxRecDepth 20000 in
theorem refFold_any {zs : List (ByteArray × Int)} : ∀ (x : Ex) (T : Int) (lo : Nat → Prop) (v : Value) (w : World), Rg zs T x → ExIn w lo v x → Calls Tryz.prog 6 #[v] w fun e w' => (∃ u, e = .returned u ∧ ExIn w' (fun b => w.heap.size ≤ b) u (fdP x)) ∧ Below w.heap.size w w' := by
  refine Ex.ind fun op nm vt vn vs pos l ih T lo v w hr hx => ?_
  have hl3 : l.length ≤ 3 := by
    have h1 := (node_ok hr.nd.self).2.1
    have h2 := apL_le _ (node_ok hr.nd.self).1
    simp only [Ex.args] at h1
    omega
  rw [ExIn] at hx
  obtain ⟨p, ca, rfl, ⟨hm, hmc⟩, ho, hnm, hvs, hparts⟩ := hx
  obtain ⟨N, hNl⟩ : ∃ N, l.length = N := ⟨_, rfl⟩
  have HNL : Hid (l.length = N) := hNl
  rw [hNl] at hm hmc hl3
  simp only [hNl]
  have bW : Below w.heap.size w ((w.alloc (.cells #[.string op, .string nm, .int .i64 vt, .int .i64 vn, .string vs, .slice p N ca, .int .i64 pos] 26)).alloc (.cells #[.string ⟨#[]⟩, .string ⟨#[]⟩, .int .i64 0, .int .i64 0, .string ⟨#[]⟩, .slice none 0 0, .int .i64 0] 26)) := ((Below.refl _ w).alloc (Nat.le_refl _) _).alloc (by simp) _
  have X0 := box7_at (w.alloc (.cells #[.string op, .string nm, .int .i64 vt, .int .i64 vn, .string vs, .slice p N ca, .int .i64 pos] 26)) (w.heap.size + 1) (by simp) (.string ⟨#[]⟩) (.string ⟨#[]⟩) (.int .i64 0) (.int .i64 0) (.string ⟨#[]⟩) (.slice none 0 0) (.int .i64 0) 26
  have XE := (box7_at w w.heap.size rfl (.string op) (.string nm) (.int .i64 vt) (.int .i64 vn) (.string vs) (.slice p N ca) (.int .i64 pos) 26).on ((Below.refl _ (w.alloc (.cells #[.string op, .string nm, .int .i64 vt, .int .i64 vn, .string vs, .slice p N ca, .int .i64 pos] 26))).alloc (Nat.le_refl _) (.cells #[.string ⟨#[]⟩, .string ⟨#[]⟩, .int .i64 0, .int .i64 0, .string ⟨#[]⟩, .slice none 0 0, .int .i64 0] 26))
  have KB : Hid (∀ W, Below (w.heap.size + 2) ((w.alloc (.cells #[.string op, .string nm, .int .i64 vt, .int .i64 vn, .string vs, .slice p N ca, .int .i64 pos] 26)).alloc (.cells #[.string ⟨#[]⟩, .string ⟨#[]⟩, .int .i64 0, .int .i64 0, .string ⟨#[]⟩, .slice none 0 0, .int .i64 0] 26)) W → Box7 W w.heap.size (.string op) (.string nm) (.int .i64 vt) (.int .i64 vn) (.string vs) (.slice p N ca) (.int .i64 pos) ∧ Box7 W (w.heap.size + 1) (.string ⟨#[]⟩) (.string ⟨#[]⟩) (.int .i64 0) (.int .i64 0) (.string ⟨#[]⟩) (.slice none 0 0) (.int .i64 0) ∧ w.heap.size + 2 ≤ W.heap.size ∧ Below w.heap.size w W) := fun W hb => by
    have hz := hb.size
    simp at hz
    exact ⟨XE.on (hb.mono (by simp)), X0.on (hb.mono (by simp)), by omega, bW.trans (hb.mono (by omega))⟩
  by_cases hN0 : N = 0
  · subst hN0
    have hle : l = [] := List.length_eq_zero_iff.1 HNL.out
    subst hle
    have hfd : fdP (.node op nm vt vn vs pos []) = .node op nm vt vn vs pos [] := by
      rw [fdP_eq]
      have hop : op.data.toList = [118, 97, 108] ∨ op.data.toList = [99, 111, 108] := by
        by_cases h : op.data.toList = [118, 97, 108] ∨ op.data.toList = [99, 111, 108]
        · exact h
        · obtain ⟨h1, h2⟩ := not_or.1 h
          obtain ⟨a, r, e⟩ := fd_some (rg_parts hr h1 h2).2
          exact absurd e (by simp)
      show insP (.node op nm vt vn vs pos []) = _
      rw [insP, rek_none hop]
      rfl
    have HFD : Hid (fdP (.node op nm vt vn vs pos []) = .node op nm vt vn vs pos []) := hfd
    obtain ⟨⟨e0, e1, e2, e3, e4, e5, e6, -, el⟩, Z6, hs6, B6⟩ := KB.out _ (Below.refl _ _)
    have RZ := box7_at (w.alloc (.cells #[.string op, .string nm, .int .i64 vt, .int .i64 vn, .string vs, .slice p 0 ca, .int .i64 pos] 26)) (w.heap.size + 1) (by simp) (.string op) (.string nm) (.int .i64 vt) (.int .i64 vn) (.string vs) (.slice p 0 ca) (.int .i64 pos) 26
    have BZ : Below w.heap.size w ((w.alloc (.cells #[.string op, .string nm, .int .i64 vt, .int .i64 vn, .string vs, .slice p 0 ca, .int .i64 pos] 26)).alloc (.cells #[.string op, .string nm, .int .i64 vt, .int .i64 vn, .string vs, .slice p 0 ca, .int .i64 pos] 26)) := ((Below.refl _ w).alloc (Nat.le_refl _) _).alloc (by simp) _
    have HRZ : Aside (Box7 _ _ _ _ _ _ _ _ _) := RZ
    have HBZ : Aside (Below _ _ _) := BZ
    clear hparts ih hr hNl X0 XE bW hfd Z6 RZ BZ B6 KB e0 e1 e2 e3 e4 e5 e6
    go_enter Tryz.func6, Tryz.ntmps6
    go_wp2
    refine bodyPost_ret (v := .agg #[.string op, .string nm, .int .i64 vt, .int .i64 vn, .string vs, .slice p 0 ca, .int .i64 pos]) (by simp [results, Tryz.results6, go_sem, HRZ.out.c0, HRZ.out.c1, HRZ.out.c2, HRZ.out.c3, HRZ.out.c4, HRZ.out.c5, HRZ.out.c6]) rfl ⟨⟨_, rfl, ?_⟩, HBZ.out⟩
    rw [HFD.out, ExIn]
    exact ⟨p, ca, rfl, ⟨by simp, by simp⟩, ho, hnm, hvs, .inl rfl⟩
  · have hNz : ¬ (N : Int) = 0 := by omega
    have hNb : ((N : Int) == 0) = false := by simpa using hN0
    have HI : Aside (∀ y ∈ l, ∀ (T : Int) (lo : Nat → Prop) (v : Value) (w : World), Rg zs T y → ExIn w lo v y → Calls Tryz.prog 6 #[v] w fun e w' => (∃ u, e = .returned u ∧ ExIn w' (fun b => w.heap.size ≤ b) u (fdP y)) ∧ Below w.heap.size w w') := ih
    have HT : Aside (∀ y ∈ l, ∃ T, Rg zs T y) := fun y hy => rg_part hr y hy
    have HPA : Aside (l.length = 0 ∨ ∃ b off, p = some ⟨b, off, none⟩ ∧ b < w.heap.size ∧ lo b ∧ ExsIn w lo b off l) := hparts
    have HR : Aside (Rg zs T (.node op nm vt vn vs pos l)) := hr
    obtain ⟨i0, hi, hz0, hz1, hzz⟩ := info_parts info_exF
    obtain ⟨j0, hj, hy0, hy1, hyy⟩ := info_parts info_valF
    obtain ⟨⟨e0, e1, e2, e3, e4, e5, e6, -, el⟩, -⟩ := KB.out _ (Below.refl _ _)
    have hN3z : (N : Int) ≤ 3 := by omega
    clear hparts ih hr hNl X0 XE bW
    go_enter Tryz.func6, Tryz.ntmps6
    go_wp2
    go_loopg [3, 4, 5, 6, 7] N (fun gg s3 s4 s5 s6 _ wr => ∃ (kk : Nat) (q : Option Addr) (cp : Nat) (q5 : Option Addr) (c5 : Nat) (bb : Bool), s6 = .int .i64 kk ∧ s3 = .slice q kk cp ∧ s4 = .bool bb ∧ s5 = .slice q5 kk c5 ∧ kk ≤ N ∧ N - kk ≤ gg ∧ Aside (ArgsO wr (w.heap.size + 2) (.slice q kk cp) (Value.slice q5 kk c5).ownBlock ((l.map fdP).take kk)) ∧ Aside (wr.ownsRow (w.heap.size + 2) 23 3 (.slice q5 kk c5) kk (vcells (((l.map fdP).take kk).map val3))) ∧ Aside (Below (w.heap.size + 2) ((w.alloc (.cells #[.string op, .string nm, .int .i64 vt, .int .i64 vn, .string vs, .slice p N ca, .int .i64 pos] 26)).alloc (.cells #[.string ⟨#[]⟩, .string ⟨#[]⟩, .int .i64 0, .int .i64 0, .string ⟨#[]⟩, .slice none 0 0, .int .i64 0] 26)) wr) ∧ Hid (bb = ((l.map fdP).take kk).all isV))
    case atStart => exact ⟨0, none, 0, none, 0, true, rfl, rfl, rfl, rfl, Nat.zero_le _, by omega, (show Aside _ from argsO_nil _ _ _), (show Aside _ from World.ownsRow_nil _ _ _ _), (show Aside _ from Below.refl _ _), (show Hid _ from rfl)⟩
    case round =>
      obtain ⟨kk, q, cp, q5, c5, bb, rfl, rfl, rfl, rfl, hkk, hg, AO, OV, BW, HB⟩ := hrel
      clear e0 e1 e2 e3 e4 e5 e6 el
      obtain ⟨⟨e0, e1, e2, e3, e4, e5, e6, -, el⟩, -, hsz, bwr⟩ := KB.out wr BW.out
      by_cases hlt : kk < N
      · have hltz : (kk : Int) < (N : Int) := by omega
        have h0z : (0 : Int) ≤ (kk : Int) := by omega
        have hk2 : kk < l.length := by rw [HNL.out]; exact hlt
        obtain ⟨ba, oa, yp, yc, rfl, hbl, -, f0, f1, f2, f3, f4, f5, f6, hy⟩ := partF_at HPA.out hk2
        have kA : ∀ o, wr.cell? ⟨ba, o, none⟩ = w.cell? ⟨ba, o, none⟩ := fun o => bwr.cell (p := ⟨ba, o, none⟩) hbl
        rw [← kA] at f0 f1 f2 f3 f4 f5 f6
        have hblr : ba < wr.heap.size := by omega
        have HFT : Hid ((l.map fdP).take (kk + 1) = (l.map fdP).take kk ++ [fdP l[kk]]) := fd_take hk2
        obtain ⟨Ty, hYT⟩ := HT.out _ (List.getElem_mem hk2)
        have hYI := HI.out _ (List.getElem_mem hk2)
        have HKL : Hid (kk < N) := hlt
        clear kA
        generalize l[kk] = y at f0 f1 f2 f3 f4 f5 f6 HFT hYT hYI hy
        have cY := hYI Ty lo _ wr hYT (hy.on bwr)
        obtain ⟨cs, oR, pR⟩ := AO.out
        have hlen : ((l.map fdP).take kk).length = kk := by rw [List.length_take, List.length_map, HNL.out]; omega
        rw [hlen] at oR
        have OR : Aside (wr.ownsRow (w.heap.size + 2) 26 7 (.slice q kk cp) kk cs) := oR
        have HPR : Aside _ := pR
        clear hy hYI hYT oR AO pR
        go_wp2_with fail
        refine cY.mono ?_
        rintro e w4 ⟨⟨u, rfl, hu⟩, b4⟩
        generalize fdP y = z at hu HFT
        obtain ⟨zp, zc, rfl, -⟩ := hu.whole
        have HU : Aside (ExIn w4 (fun b => wr.heap.size ≤ b) (.agg #[.string z.op, .string z.nm, .int .i64 z.vt, .int .i64 z.vn, .string z.vs, .slice zp z.args.length zc, .int .i64 z.pos]) z) := hu
        have hs4 := b4.size
        have bX : Below wr.heap.size wr ((w4.alloc (.cells #[.string z.op, .string z.nm, .int .i64 z.vt, .int .i64 z.vn, .string z.vs, .slice zp z.args.length zc, .int .i64 z.pos] 26)).alloc (.cells #[.string z.op, .string z.nm, .int .i64 z.vt, .int .i64 z.vn, .string z.vs, .slice zp z.args.length zc, .int .i64 z.pos] 26)) := (b4.alloc hs4 _).alloc (by simp; omega) _
        have ORX := lown_below OR.out bX
        have OVX := lown_below OV.out bX
        clear cY hu f0 f1 f2 f3 f4 f5 f6 e0 e1 e2 e3 e4 e5 e6 el
        go_wp2_with (at_builtin; refine wpList_append_fresh rfl _ _ 24 rfl (w.heap.size + 2) 26 i0 _ 7 96 Tryz.underlying24 hi hz0 hz1 hzz rfl (by decide) _ _ _ rfl ORX ⟨w4.heap.size + 1, 0, none⟩ 1 1 [.string z.op, .string z.nm, .int .i64 z.vt, .int .i64 z.vn, .string z.vs, .slice zp z.args.length zc, .int .i64 z.pos] rfl rfl (news_val (by simp) _) (one7 _ _ _ _ _ _ _ _ _) (by decide) (by simp [maxLen]; omega) (by omega) (by simp; omega) ?_)
        intro v5 w5 o5 g5 f5
        obtain ⟨q9, c9, rfl⟩ := lown_slice o5
        have hobl : ∀ j, (Value.slice q kk cp).ownBlock = some j → w.heap.size + 2 ≤ j ∧ j < wr.heap.size := fun j hj => OR.out.lt j hj
        have hovl : ∀ j, (Value.slice q5 kk c5).ownBlock = some j → w.heap.size + 2 ≤ j ∧ j < wr.heap.size := fun j hj => OV.out.lt j hj
        have A5 : ArgsO w5 (w.heap.size + 2) (.slice q9 (kk + 1) c9) (Value.slice q5 kk c5).ownBlock ((l.map fdP).take (kk + 1)) := by
          rw [HFT.out]
          exact ArgsO.push OR.out hlen HPR.out bX (by omega) ((HU.out.on (al _ _)).on (al _ _)) (fun j hj => (hovl j hj).2) o5 g5 (by simpa using f5)
        have OV5 := own_grown OVX ORX (by decide) g5
        have XA := (box7_alloc w4 (.string z.op) (.string z.nm) (.int .i64 z.vt) (.int .i64 z.vn) (.string z.vs) (.slice zp z.args.length zc) (.int .i64 z.pos) 26).on (al _ (.cells #[.string z.op, .string z.nm, .int .i64 z.vt, .int .i64 z.vn, .string z.vs, .slice zp z.args.length zc, .int .i64 z.pos] 26))
        have hna : some w4.heap.size ≠ (Value.slice q kk cp).ownBlock := fun h => by have := (hobl _ h.symm).2; omega
        have a0 := kept3 g5 XA.lt hna XA.c0
        have a1 := kept3 g5 XA.lt hna XA.c1
        have a2 := kept3 g5 XA.lt hna XA.c2
        have a3 := kept3 g5 XA.lt hna XA.c3
        have a4 := kept3 g5 XA.lt hna XA.c4
        have a5 := kept3 g5 XA.lt hna XA.c5
        have a6 := kept3 g5 XA.lt hna XA.c6
        have hs5 := g5.size
        simp at hs5
        have hl5 : w4.heap.size < w5.heap.size := by omega
        have B5 : Below (w.heap.size + 2) ((w.alloc (.cells #[.string op, .string nm, .int .i64 vt, .int .i64 vn, .string vs, .slice (some ⟨ba, oa, none⟩) N ca, .int .i64 pos] 26)).alloc (.cells #[.string ⟨#[]⟩, .string ⟨#[]⟩, .int .i64 0, .int .i64 0, .string ⟨#[]⟩, .slice none 0 0, .int .i64 0] 26)) w5 := (BW.out.trans (bX.mono hsz)).grown g5 (by simp; omega) (fun j hj => (hobl j hj).1)
        have AA5 : Aside (ArgsO w5 (w.heap.size + 2) (.slice q9 (kk + 1) c9) (Value.slice q5 kk c5).ownBlock ((l.map fdP).take (kk + 1))) := A5
        have AB5 : Aside (Below (w.heap.size + 2) ((w.alloc (.cells #[.string op, .string nm, .int .i64 vt, .int .i64 vn, .string vs, .slice (some ⟨ba, oa, none⟩) N ca, .int .i64 pos] 26)).alloc (.cells #[.string ⟨#[]⟩, .string ⟨#[]⟩, .int .i64 0, .int .i64 0, .string ⟨#[]⟩, .slice none 0 0, .int .i64 0] 26)) w5) := B5
        obtain ⟨VC, hVC⟩ : ∃ VC, vcells (((l.map fdP).take kk).map val3) = VC := ⟨_, rfl⟩
        rw [hVC] at OV5
        have AO5 : Aside (w5.ownsRow (w.heap.size + 2) 23 3 (.slice q5 kk c5) kk VC) := OV5
        have OV5a := OV5.alloc (.cells #[.int .i64 z.vt, .int .i64 z.vn, .string z.vs] 23)
        have HVC : Hid (vcells (((l.map fdP).take (kk + 1)).map val3) = VC ++ [.int .i64 z.vt, .int .i64 z.vn, .string z.vs]) := by
          show _ = _
          rw [HFT.out, List.map_append, vcells_append, hVC]; rfl
        have HAL : Hid (((l.map fdP).take (kk + 1)).all isV = (bb && isV z)) := by
          show _ = _
          rw [HFT.out, List.all_append, ← HB.out]; simp
        clear o5 g5 f5 A5 B5 OV5 XA hna ORX OVX HU HPR bX OR OV BW hlen b4 HB hobl hVC
        have fin : ∀ (nb : Bool), (bb && isV z) = nb → Hid (nb = ((l.map fdP).take (kk + 1)).all isV) := fun nb h => by show _ = _; rw [HAL.out, h]
        have hzq : (z.op.toList == [118, 97, 108]) = isV z := by rw [eq_list]; rfl
        generalize isV z = iz at hzq fin
        clear HAL
        cases bb
        case false =>
          have FN := fin false rfl
          clear fin hzq
          go_wp2_with (at_builtin; refine wpList_append_fresh rfl _ _ 46 rfl (w.heap.size + 2) 23 j0 _ 3 32 Tryz.underlying46 hj hy0 hy1 hyy rfl (by decide) _ _ _ rfl OV5a ⟨w5.heap.size, 0, none⟩ 1 1 [.int .i64 z.vt, .int .i64 z.vn, .string z.vs] rfl rfl (news_val rfl _) (one3F _ _ _) (by decide) (by simp [maxLen]; omega) (by omega) (by simp; omega) ?_)
          intro v6 w6 o6 g6 f6
          obtain ⟨q8, c8, rfl⟩ := lown_slice o6
          have A6 : Aside (ArgsO w6 (w.heap.size + 2) (.slice q9 (kk + 1) c9) (Value.slice q8 (kk + 1) c8).ownBlock ((l.map fdP).take (kk + 1))) := ArgsO.other (AA5.out.on (al _ _)) (AO5.out.alloc _) (by decide) g6 (by simpa using f6)
          have O6 : Aside (w6.ownsRow (w.heap.size + 2) 23 3 (.slice q8 (kk + 1) c8) (kk + 1) (vcells (((l.map fdP).take (kk + 1)).map val3))) := by rw [HVC.out]; exact o6
          have B6 : Aside (Below (w.heap.size + 2) ((w.alloc (.cells #[.string op, .string nm, .int .i64 vt, .int .i64 vn, .string vs, .slice (some ⟨ba, oa, none⟩) N ca, .int .i64 pos] 26)).alloc (.cells #[.string ⟨#[]⟩, .string ⟨#[]⟩, .int .i64 0, .int .i64 0, .string ⟨#[]⟩, .slice none 0 0, .int .i64 0] 26)) w6) := (AB5.out.alloc (by omega) _).grown g6 (by simp; omega) (fun j hj => (hovl j hj).1)
          clear o6 g6 f6 AA5 AO5 AB5 OV5a a0 a1 a2 a3 a4 a5 a6 hovl HVC
          go_wp2
          go_roundg (N - (kk + 1))
          case measure => have := HKL.out; omega
          case rel => exact ⟨kk + 1, q9, c9, q8, c8, false, by go_num, rfl, rfl, rfl, by have := HKL.out; omega, by omega, A6, O6, B6, FN⟩
        case true =>
          have FN := fin iz (Bool.true_and _)
          clear fin
          go_wp2_with (at_builtin; refine wpList_append_fresh rfl _ _ 46 rfl (w.heap.size + 2) 23 j0 _ 3 32 Tryz.underlying46 hj hy0 hy1 hyy rfl (by decide) _ _ _ rfl OV5a ⟨w5.heap.size, 0, none⟩ 1 1 [.int .i64 z.vt, .int .i64 z.vn, .string z.vs] rfl rfl (news_val rfl _) (one3F _ _ _) (by decide) (by simp [maxLen]; omega) (by omega) (by simp; omega) ?_)
          intro v6 w6 o6 g6 f6
          obtain ⟨q8, c8, rfl⟩ := lown_slice o6
          have A6 : Aside (ArgsO w6 (w.heap.size + 2) (.slice q9 (kk + 1) c9) (Value.slice q8 (kk + 1) c8).ownBlock ((l.map fdP).take (kk + 1))) := ArgsO.other (AA5.out.on (al _ _)) (AO5.out.alloc _) (by decide) g6 (by simpa using f6)
          have O6 : Aside (w6.ownsRow (w.heap.size + 2) 23 3 (.slice q8 (kk + 1) c8) (kk + 1) (vcells (((l.map fdP).take (kk + 1)).map val3))) := by rw [HVC.out]; exact o6
          have B6 : Aside (Below (w.heap.size + 2) ((w.alloc (.cells #[.string op, .string nm, .int .i64 vt, .int .i64 vn, .string vs, .slice (some ⟨ba, oa, none⟩) N ca, .int .i64 pos] 26)).alloc (.cells #[.string ⟨#[]⟩, .string ⟨#[]⟩, .int .i64 0, .int .i64 0, .string ⟨#[]⟩, .slice none 0 0, .int .i64 0] 26)) w6) := (AB5.out.alloc (by omega) _).grown g6 (by simp; omega) (fun j hj => (hovl j hj).1)
          clear o6 g6 f6 AA5 AO5 AB5 OV5a a0 a1 a2 a3 a4 a5 a6 hovl HVC
          go_wp2
          go_roundg (N - (kk + 1))
          case measure => have := HKL.out; omega
          case rel => exact ⟨kk + 1, q9, c9, q8, c8, iz, by go_num, rfl, rfl, rfl, by have := HKL.out; omega, by omega, A6, O6, B6, FN⟩
      · have hkz : ¬ (kk : Int) < (N : Int) := by omega
        obtain rfl : kk = N := by omega
        have hat : (l.map fdP).take kk = l.map fdP := by rw [← HNL.out, ← List.length_map (f := fdP)]; exact List.take_length
        have A1 := AO.out
        have O1 := OV.out
        have hb1 := HB.out
        rw [hat] at A1 O1 hb1
        have hRm := rg_map HR.out
        have hll : (l.map fdP).length = kk := by rw [List.length_map, HNL.out]
        have hfd : fdP (.node op nm vt vn vs pos l) = insP (.node op nm vt vn vs pos (l.map fdP)) := fdP_eq _ _ _ _ _ _ _
        obtain ⟨pp, cc, hsl, hlen2, hpt⟩ := A1.own.is
        injection hsl with e1' e2' e3'
        subst e1' e3'
        clear e2'
        generalize l.map fdP = L at A1 O1 hb1 hRm hll hfd hlen2 hpt
        have hopl : ¬ (op.data.toList = [118, 97, 108] ∨ op.data.toList = [99, 111, 108]) := fun h => by
          have := leaf_args hRm.nd.self h
          rw [this] at hll
          simp at hll
          omega
        obtain ⟨hop1, hop2⟩ := not_or.1 hopl
        obtain ⟨hpart, hrule⟩ := rg_parts hRm hop1 hop2
        obtain ⟨rfl, rfl, rfl, rfl⟩ := node_plain hRm.nd.self hop1 hop2
        have HFD : Hid (fdP (.node op ⟨#[]⟩ 0 0 ⟨#[]⟩ pos l) = insP (.node op ⟨#[]⟩ 0 0 ⟨#[]⟩ pos L)) := hfd
        have hxo : ExIn wr (fun b => w.heap.size + 2 ≤ b) (.agg #[.string op, .string ⟨#[]⟩, .int .i64 0, .int .i64 0, .string ⟨#[]⟩, .slice q kk cp, .int .i64 pos]) (.node op ⟨#[]⟩ 0 0 ⟨#[]⟩ pos L) := by
          rw [ExIn]
          exact ⟨_, _, by rw [hll], by rw [hll] at hlen2 ⊢; exact hlen2, ho, hnm, hvs, by rw [hll] at hpt ⊢; exact hpt⟩
        have HXO : Aside (ExIn wr (fun b => w.heap.size + 2 ≤ b) (.agg #[.string op, .string ⟨#[]⟩, .int .i64 0, .int .i64 0, .string ⟨#[]⟩, .slice q kk cp, .int .i64 pos]) (.node op ⟨#[]⟩ 0 0 ⟨#[]⟩ pos L)) := hxo
        have HPT : Aside (L.length = 0 ∨ ∃ b off, q = some ⟨b, off, none⟩ ∧ b < wr.heap.size ∧ w.heap.size + 2 ≤ b ∧ ExsIn wr (fun b => w.heap.size + 2 ≤ b) b off L) := hpt
        have HLL : Hid (L.length = kk) := hll
        have HRM : Aside (Rg zs T (.node op ⟨#[]⟩ 0 0 ⟨#[]⟩ pos L)) := hRm
        have hvals : ∀ v ∈ L.map val3, L.all isV = true → chk v.1 v.2.1 v.2.2.data.toList = 0 ∧ inB v.2.1 ∧ v.2.2.size ≤ 400 := fun v hv ha => by
          obtain ⟨y, hy, rfl⟩ := List.mem_map.1 hv
          have h1 := (rg_val (hpart y hy) (List.all_eq_true.1 ha y hy)).1
          exact ⟨h1.2.1, h1.2.2, vs_small (hpart y hy).nd.self⟩
        have hr2 : L.all isV = true → ruleP op.data.toList ((L.map val3).map (·.1)) = (T, 0) := fun ha => by
          rw [List.map_map, ← hrule]
          congr 1
          exact List.map_congr_left fun y hy => (rg_val (hpart y hy) (List.all_eq_true.1 ha y hy)).1.1
        have cD : L.all isV = true → ∀ t k s e, appP op.data.toList (L.map val3) = ((t, k, s), e) → Calls Tryz.prog 21 #[.string op, .slice q5 kk c5] wr fun e' w' => e' = .returned (.tuple #[.agg #[.int .i64 t, .int .i64 k, .string s], .int .i64 e]) ∧ Below wr.heap.size wr w' := fun ha t k s e h =>
          refDo_any op q5 c5 kk (L.map val3) wr (by rw [List.length_map, hll]) (ownVals (by rw [List.length_map, hll]) O1) (fun v hv => (hvals v hv ha).1) (fun v hv => ⟨by have := (hvals v hv ha).2.2; unfold maxLen; omega, (hvals v hv ha).2.1⟩) T (hr2 ha) t k s e h
        have hdo : L.all isV = true → doP op.data.toList (L.map val3) = appP op.data.toList (L.map val3) := fun ha => fd_do_app (fun v hv => (hvals v hv ha).1) (hr2 ha)
        have hcom : L.all isV = true → comes T (appP op.data.toList (L.map val3)) := fun ha => app_comes (fun v hv => (hvals v hv ha).1) (fun v hv => (hvals v hv ha).2.1) (hr2 ha)
        clear A1 O1 AO OV hpt hlen2 hxo hRm hfd hopl hvals hr2 hat HB HI HT HPA HR
        cases hrek : rekP op.data.toList L with
        | some R =>
          have hrk := hrek
          rw [rekP] at hrk
          by_cases hcond : L.all isV = true ∧ (doP op.data.toList (L.map val3)).2 = 0 ∧ 0 ≤ (doP op.data.toList (L.map val3)).1.2.1
          · rw [if_pos hcond] at hrk
            obtain ⟨ha, h0, hpos⟩ := hcond
            have hRv := Option.some.inj hrk
            rw [hRv] at hpos
            rw [ha] at hb1
            subst hb1
            obtain ⟨rt, rk, rs⟩ := R
            have cd := cD ha rt rk rs 0 (by rw [← hdo ha]; exact Prod.ext hRv h0)
            have HI2 : Hid (fdP (.node op ⟨#[]⟩ 0 0 ⟨#[]⟩ pos l) = .node ⟨#[118, 97, 108]⟩ ⟨#[]⟩ rt rk rs pos []) := by
              show _ = _
              rw [HFD.out, insP, hrek]
            have hs40 : rs.size ≤ 400 := by
              have hins := (ins_right HRM.out).1
              rw [insP, hrek] at hins
              exact vs_small hins.nd.self
            have hposb : ¬ rk < 0 := by have h : 0 ≤ rk := hpos; omega
            have hposg : 0 ≤ rk := hpos
            clear hpos
            have hK1 : (rt != 1) = true ∨ (rt != 1) = false := by cases (rt != 1) <;> simp
            clear hrek hrk h0 hRv ha cD hdo hcom hpart hrule hop1 hop2
            go_wp2_with fail
            refine cd.mono ?_
            rintro e w6 ⟨rfl, b6⟩
            have b6' := BW.out.trans (b6.mono hsz)
            clear e0 e1 e2 e3 e4 e5 e6 el
            obtain ⟨⟨e0, e1, e2, e3, e4, e5, e6, -, el⟩, Z6, hs6, B6⟩ := KB.out w6 b6'
            have RZ := (Z6.set (.string ⟨#[118, 97, 108]⟩) (.string ⟨#[]⟩) (.int .i64 rt) (.int .i64 rk) (.string rs) (.slice none 0 0) (.int .i64 pos)).on ((Below.refl _ _).alloc (Nat.le_refl _) (.cells #[.int .i64 rt, .int .i64 rk, .string rs] 23))
            have BZ := (below_set7F B6 (Nat.le_succ _) (.string ⟨#[118, 97, 108]⟩) (.string ⟨#[]⟩) (.int .i64 rt) (.int .i64 rk) (.string rs) (.slice none 0 0) (.int .i64 pos)).alloc (by simp; omega) (.cells #[.int .i64 rt, .int .i64 rk, .string rs] 23)
            have HRZ : Aside (Box7 _ _ _ _ _ _ _ _ _) := RZ
            have HBZ : Aside (Below _ _ _) := BZ
            obtain ⟨z0, z1, z2, z3, z4, z5, z6, zf, zl⟩ := Z6
            clear cd b6 b6' B6 RZ BZ
            rcases hK1 with hK1 | hK1
            all_goals
              go_wp2
              refine bodyPost_ret (v := .agg #[.string ⟨#[118, 97, 108]⟩, .string ⟨#[]⟩, .int .i64 rt, .int .i64 rk, .string rs, .slice none 0 0, .int .i64 pos]) (by simp [results, Tryz.results6, go_sem, HRZ.out.c0, HRZ.out.c1, HRZ.out.c2, HRZ.out.c3, HRZ.out.c4, HRZ.out.c5, HRZ.out.c6]) rfl ⟨⟨_, rfl, ?_⟩, HBZ.out⟩
              rw [HI2.out, ExIn]
              exact ⟨none, 0, rfl, ⟨by simp, by simp⟩, by decide, by decide, by unfold maxLen; omega, .inl rfl⟩
          · rw [if_neg hcond] at hrk
            exact absurd hrk (by simp)
        | none =>
          have hno : L.all isV = true → ∀ t k s e, appP op.data.toList (L.map val3) = ((t, k, s), e) → ¬ (e = 0 ∧ 0 ≤ k) := fun ha t k s e h hh => by
            rw [rekP, if_pos ⟨ha, by rw [hdo ha, h]; exact hh.1, by rw [hdo ha, h]; exact hh.2⟩] at hrek
            exact absurd hrek (by simp)
          have HNO : Aside (L.all isV = true → ∀ t k s e, appP op.data.toList (L.map val3) = ((t, k, s), e) → ¬ (e = 0 ∧ 0 ≤ k)) := hno
          have HCD : Aside (L.all isV = true → ∀ t k s e, appP op.data.toList (L.map val3) = ((t, k, s), e) → Calls Tryz.prog 21 #[.string op, .slice q5 kk c5] wr fun e' w' => e' = .returned (.tuple #[.agg #[.int .i64 t, .int .i64 k, .string s], .int .i64 e]) ∧ Below wr.heap.size wr w') := cD
          have HCM : Aside (L.all isV = true → comes T (appP op.data.toList (L.map val3))) := hcom
          have HB1 : Hid (bb = L.all isV) := hb1
          have HRK : Hid (rekP op.data.toList L = none) := hrek
          have HPR : Aside (∀ y ∈ L, Rg zs (tyP zs y).1 y) := hpart
          have HRU : Aside (ruleP op.data.toList (L.map fun y => (tyP zs y).1) = (T, 0)) := hrule
          clear hno cD hcom hb1 hrek hpart hrule hdo hop1 hop2
          go_upto_if 45 with fail
          go_cut [8, 9] (fun _ _ wx => Aside (Below wr.heap.size wr wx))
          case first =>
            as_aux_lemma =>
            cases bb
            · go_wp2
              go_meet
              case rel => exact Below.refl _ _
            · have ha : L.all isV = true := HB1.out.symm
              obtain ⟨⟨⟨t, k, s⟩, e⟩, hap⟩ : ∃ r, appP op.data.toList (L.map val3) = r := ⟨_, rfl⟩
              have cd := HCD.out ha t k s e hap
              have hn := HNO.out ha t k s e hap
              have hcm := HCM.out ha
              rw [hap] at hcm
              by_cases he : e = 0
              · subst he
                have hk : k < 0 := by
                  apply Classical.byContradiction
                  intro hh
                  exact hn ⟨rfl, by omega⟩
                have ht : t = 1 := by
                  rcases hcm with ⟨_, h1, h2, _⟩ | h
                  · simp only at h1 h2
                    have hty := chk_type h2
                    rcases hty with ⟨h, -⟩ | ⟨h, -⟩ | ⟨h, -⟩
                    · exact h
                    · subst h
                      have := (chk_two h2).1
                      omega
                    · subst h
                      have := (chk_three h2).2
                      omega
                  · exact absurd (congrArg Prod.snd h) (by simp)
                have ht1 : (t != 1) = false := by simp [ht]
                have hk0 : ¬ 0 ≤ k := by omega
                clear hn hcm ha hap ht
                go_wp2_with fail
                refine cd.mono ?_
                rintro e w6 ⟨rfl, b6⟩
                have B7 : Aside (Below wr.heap.size wr (w6.alloc (.cells #[.int .i64 t, .int .i64 k, .string s] 23))) := b6.alloc b6.size _
                clear cd b6
                go_wp2
                go_meet
                case rel => exact B7
              · have heb : (e == 0) = false := by simpa using he
                clear hn hcm ha hap he
                go_wp2_with fail
                refine cd.mono ?_
                rintro e w6 ⟨rfl, b6⟩
                have B7 : Aside (Below wr.heap.size wr (w6.alloc (.cells #[.int .i64 t, .int .i64 k, .string s] 23))) := b6.alloc b6.size _
                clear cd b6
                go_wp2
                go_meet
                case rel => exact B7
          case rest =>
            as_aux_lemma =>
            rename World => wx
            have BX := hcut
            have b7' := BW.out.trans (BX.out.mono hsz)
            have hsx : wr.heap.size ≤ wx.heap.size := BX.out.size
            obtain ⟨f, r, hL⟩ := fd_some HRU.out
            have h0 : 0 < L.length := by rw [hL]; simp
            have hf0 : L[0] = f := by simp [hL]
            obtain ⟨bq, oq, fp, fc, rfl, hbq, hbq2, fw0, fw1, fw2, fw3, fw4, fw5, fw6, hfx⟩ := partF_at (parts_on HPT.out BX.out) h0
            clear fw0 fw1 fw2 fw3 fw4 fw5 fw6 hfx
            clear e0 e1 e2 e3 e4 e5 e6 el
            obtain ⟨⟨e0, e1, e2, e3, e4, e5, e6, -, el⟩, Z7, hs7, B7⟩ := KB.out wx b7'
            have hinP : insP (.node op ⟨#[]⟩ 0 0 ⟨#[]⟩ pos L) = insQ (.node op ⟨#[]⟩ 0 0 ⟨#[]⟩ pos L) op.data.toList L := by rw [insP, HRK.out]
            have HIN : Hid (insP (.node op ⟨#[]⟩ 0 0 ⟨#[]⟩ pos L) = insQ (.node op ⟨#[]⟩ 0 0 ⟨#[]⟩ pos L) op.data.toList L) := hinP
            have HLC : Hid (L = f :: r) := hL
            have hkk0 : (0 : Int) < (kk : Int) := by omega
            have B7X : Aside (Below (w.heap.size + 2) _ wx) := b7'
            have HF0 : Hid (L[0] = f) := hf0
            clear Z7 B7 hinP hL hf0 b7' hNz hNb hN3z
            go_upto_region 18 with fail
            generalize hWO : wx.alloc _ = WO
            have BO : Below wx.heap.size wx WO := by rw [← hWO]; exact al _ _
            have XO : Box7 WO wx.heap.size (.string op) (.string ⟨#[]⟩) (.int .i64 0) (.int .i64 0) (.string ⟨#[]⟩) (.slice (some ⟨bq, oq, none⟩) kk cp) (.int .i64 pos) := by rw [← hWO]; exact box7_alloc _ _ _ _ _ _ _ _ _
            have XO' : Aside (WO.rangeAt wx.heap.size 0 [.string op, .string ⟨#[]⟩, .int .i64 0, .int .i64 0, .string ⟨#[]⟩, .slice (some ⟨bq, oq, none⟩) kk cp, .int .i64 pos]) := XO.range
            have BXO : Aside (Below wr.heap.size wr WO) := BX.out.trans (BO.mono hsx)
            clear e0 e1 e2 e3 e4 e5 e6 el hWO
            obtain ⟨⟨e0, e1, e2, e3, e4, e5, e6, -, el⟩, Z8, hs8, B8⟩ := KB.out WO (B7X.out.trans (BO.mono hs7))
            have hbq8 : bq < WO.heap.size := by have := BO.size; omega
            obtain ⟨bq', oq', fp', fc', hpe, -, -, fw0, fw1, fw2, fw3, fw4, fw5, fw6, hfx⟩ := partF_at (parts_on HPT.out BXO.out) h0
            injection hpe with hpe
            injection hpe with e1' e2'
            subst e1' e2'
            have hf0 := HF0.out
            simp only [hf0, Nat.zero_mul, Nat.add_zero] at fw0 fw1 fw2 fw3 fw4 fw5 fw6 hfx
            have Z8T : Aside (WO.there (w.heap.size + 1) 0 7) := Z8.there
            have HZ8 : Aside (Box7 WO (w.heap.size + 1) _ _ _ _ _ _ _) := Z8
            have HB8 : Aside (Below w.heap.size w WO) := B8
            have HFX : Aside (ExIn WO _ _ f) := hfx
            have HBO : Aside (Below wx.heap.size wx WO) := BO
            clear Z8 B8 XO BO hfx hf0 HF0 h0 hbq hbq2 BX HCD HNO HCM HRM
            have q1 : (op.toList == [110, 111, 116]) = decide (op.data.toList = [110, 111, 116]) := eq_list _ _
            have q2 : (op.toList == [97, 110, 100]) = decide (op.data.toList = [97, 110, 100]) := eq_list _ _
            have q3 : (op.toList == [111, 114]) = decide (op.data.toList = [111, 114]) := eq_list _ _
            have q4 : (op.toList == [105, 102]) = decide (op.data.toList = [105, 102]) := eq_list _ _
            have qf : (f.op.toList == [110, 111, 116]) = decide (f.op.data.toList = [110, 111, 116]) := eq_list _ _
            have qv : (f.op.toList == [118, 97, 108]) = isV f := eq_list _ _
            by_cases hc : isCh op.data.toList = true
            · have hnn : op.data.toList ≠ [110, 111, 116] := by rcases ch_ops hc with h | h | h <;> rw [h] <;> decide
              rw [decide_eq_false hnn] at q1
              cases hv : isV f
              · rw [hv] at qv
                have hins : insP (.node op ⟨#[]⟩ 0 0 ⟨#[]⟩ pos L) = .node op ⟨#[]⟩ 0 0 ⟨#[]⟩ pos L := by
                  rw [HIN.out]
                  conv => lhs; arg 3; rw [HLC.out]
                  rw [insQ, if_neg (by rw [hv]; simp), if_neg (fun h => hnn h.1)]
                clear q2 q3 q4 qf hc hv hnn
                obtain ⟨W9, hW9⟩ : ∃ W9, WO.setCells (w.heap.size + 1) 0 [.string op, .string ⟨#[]⟩, .int .i64 0, .int .i64 0, .string ⟨#[]⟩, .slice (some ⟨bq, oq, none⟩) kk cp, .int .i64 pos] = W9 := ⟨_, rfl⟩
                have PP := put7 (v0 := .string op) (v1 := .string ⟨#[]⟩) (v2 := .int .i64 0) (v3 := .int .i64 0) (v4 := .string ⟨#[]⟩) (v5 := .slice (some ⟨bq, oq, none⟩) kk cp) (v6 := .int .i64 pos) HZ8.out HB8.out (Nat.le_succ _)
                rw [hW9] at PP
                obtain ⟨PB, PW, PX⟩ := PP
                have UZ : Aside (ExIn W9 (fun b => w.heap.size ≤ b) (.agg #[.string op, .string ⟨#[]⟩, .int .i64 0, .int .i64 0, .string ⟨#[]⟩, .slice (some ⟨bq, oq, none⟩) kk cp, .int .i64 pos]) (fdP (.node op ⟨#[]⟩ 0 0 ⟨#[]⟩ pos l))) := ExIn.low (fun b _ h => by omega) _ _ (PX (fun b => w.heap.size + 2 ≤ b) _ _ (by rw [HFD.out, hins]; exact (HXO.out.on BXO.out)) (fun b (hb : w.heap.size + 2 ≤ b) => by omega))
                have HPB : Aside (Box7 W9 (w.heap.size + 1) _ _ _ _ _ _ _) := PB
                have HPW : Aside (Below _ _ W9) := PW
                have HW9 : Hid (WO.setCells (w.heap.size + 1) 0 [.string op, .string ⟨#[]⟩, .int .i64 0, .int .i64 0, .string ⟨#[]⟩, .slice (some ⟨bq, oq, none⟩) kk cp, .int .i64 pos] = W9) := hW9
                clear PB PW PX hW9
                go_upto_region 21 with fail
                refine wp_region_lit ?_
                refine wpList_load_mid rfl 26 _ rfl wx.heap.size 0 rfl [.string op, .string ⟨#[]⟩, .int .i64 0, .int .i64 0, .string ⟨#[]⟩, .slice (some ⟨bq, oq, none⟩) kk cp, .int .i64 pos] _ XO'.out Tryz.underlying26 rfl size_ex7 ?_
                refine wpList_store_mid rfl 26 _ _ rfl (w.heap.size + 1) 0 #[.string op, .string ⟨#[]⟩, .int .i64 0, .int .i64 0, .string ⟨#[]⟩, .slice (some ⟨bq, oq, none⟩) kk cp, .int .i64 pos] rfl rfl Z8T.out size_ex7 (one7a _ _ _ _ _ _ _ _ _) ?_
                show wpList _ _ _ [] _ (WO.setCells (w.heap.size + 1) 0 [.string op, .string ⟨#[]⟩, .int .i64 0, .int .i64 0, .string ⟨#[]⟩, .slice (some ⟨bq, oq, none⟩) kk cp, .int .i64 pos])
                rw [HW9.out]
                clear fw0 fw1 fw2 fw3 fw4 fw5 fw6 e0 e1 e2 e3 e4 e5 e6
                go_wp2
                exact bodyPost_ret (v := .agg #[.string op, .string ⟨#[]⟩, .int .i64 0, .int .i64 0, .string ⟨#[]⟩, .slice (some ⟨bq, oq, none⟩) kk cp, .int .i64 pos]) (by simp [results, Tryz.results6, go_sem, HPB.out.c0, HPB.out.c1, HPB.out.c2, HPB.out.c3, HPB.out.c4, HPB.out.c5, HPB.out.c6]) rfl ⟨⟨_, rfl, UZ.out⟩, HPW.out⟩
              · rw [hv] at qv
                have hkz1 : (1 : Int) < (kk : Int) := by
                  have := HLL.out
                  have h2 : 1 < L.length := by
                    rcases ch_ops hc with h | h | h
                    · have hh := HRU.out; rw [h] at hh; obtain ⟨a, b, e, -⟩ := fd_rule2 hh (.inl rfl); rw [e]; simp
                    · have hh := HRU.out; rw [h] at hh; obtain ⟨a, b, e, -⟩ := fd_rule2 hh (.inr rfl); rw [e]; simp
                    · have hh := HRU.out; rw [h] at hh; obtain ⟨a, b, c, e, -⟩ := fd_rule3 hh; rw [e]; simp
                  omega
                rcases ch_ops hc with hop | hop | hop
                · simp only [hop] at q2 q3 q4
                  simp at q2 q3 q4
                  clear hnn
                  cases hyes : (f.vn == 1)
                  · have hm : 1 < L.length := by (have hh := HRU.out; rw [hop] at hh; obtain ⟨a, b, e, -⟩ := fd_rule2 hh (.inl rfl); rw [e]; simp)
                    obtain ⟨bq', oq', yp, yc, hpe, -, -, yw0, yw1, yw2, yw3, yw4, yw5, yw6, hyx⟩ := partF_at (parts_on HPT.out BXO.out) hm
                    injection hpe with hpe
                    injection hpe with e1' e2'
                    subst e1' e2'
                    have hins : insP (.node op ⟨#[]⟩ 0 0 ⟨#[]⟩ pos L) = L[1] := by
                      rw [HIN.out]
                      conv => lhs; arg 3; rw [HLC.out]
                      rw [insQ, if_pos ⟨hc, hv⟩, hop, hyes, ← HLC.out, show chN [111, 114] false = 1 from rfl, List.getElem?_eq_getElem hm]
                      rfl
                    generalize L[1] = y at yw0 yw1 yw2 yw3 yw4 yw5 yw6 hyx hins
                    have YR : Aside (WO.rangeAt bq (oq + 7) [.string y.op, .string y.nm, .int .i64 y.vt, .int .i64 y.vn, .string y.vs, .slice yp y.args.length yc, .int .i64 y.pos]) := range7 yw0 yw1 yw2 yw3 yw4 yw5 yw6
                    have HYX : Aside (ExIn WO (fun b => w.heap.size + 2 ≤ b) _ y) := hyx
                    clear hm yw0 yw1 yw2 yw3 yw4 yw5 yw6 hyx hc hop hv HRU HPR qf
                    obtain ⟨W9, hW9⟩ : ∃ W9, WO.setCells (w.heap.size + 1) 0 [.string y.op, .string y.nm, .int .i64 y.vt, .int .i64 y.vn, .string y.vs, .slice yp y.args.length yc, .int .i64 y.pos] = W9 := ⟨_, rfl⟩
                    have PP := put7 (v0 := .string y.op) (v1 := .string y.nm) (v2 := .int .i64 y.vt) (v3 := .int .i64 y.vn) (v4 := .string y.vs) (v5 := .slice yp y.args.length yc) (v6 := .int .i64 y.pos) HZ8.out HB8.out (Nat.le_succ _)
                    rw [hW9] at PP
                    obtain ⟨PB, PW, PX⟩ := PP
                    have UZ : Aside (ExIn W9 (fun b => w.heap.size ≤ b) (.agg #[.string y.op, .string y.nm, .int .i64 y.vt, .int .i64 y.vn, .string y.vs, .slice yp y.args.length yc, .int .i64 y.pos]) (fdP (.node op ⟨#[]⟩ 0 0 ⟨#[]⟩ pos l))) := ExIn.low (fun b _ h => by omega) _ _ (PX (fun b => w.heap.size + 2 ≤ b) _ _ (by rw [HFD.out, hins]; exact HYX.out) (fun b (hb : w.heap.size + 2 ≤ b) => by omega))
                    have HPB : Aside (Box7 W9 (w.heap.size + 1) _ _ _ _ _ _ _) := PB
                    have HPW : Aside (Below _ _ W9) := PW
                    have HW9 : Hid (WO.setCells (w.heap.size + 1) 0 [.string y.op, .string y.nm, .int .i64 y.vt, .int .i64 y.vn, .string y.vs, .slice yp y.args.length yc, .int .i64 y.pos] = W9) := hW9
                    clear PB PW PX hW9
                    go_upto_region 31 with fail
                    refine wp_region_lit ?_
                    iterate 6 go_step
                    refine wpList_load_mid rfl 26 _ rfl bq (oq + 7) rfl [.string y.op, .string y.nm, .int .i64 y.vt, .int .i64 y.vn, .string y.vs, .slice yp y.args.length yc, .int .i64 y.pos] _ YR.out Tryz.underlying26 rfl size_ex7 ?_
                    refine wpList_store_mid rfl 26 _ _ rfl (w.heap.size + 1) 0 #[.string y.op, .string y.nm, .int .i64 y.vt, .int .i64 y.vn, .string y.vs, .slice yp y.args.length yc, .int .i64 y.pos] rfl rfl Z8T.out size_ex7 (one7a _ _ _ _ _ _ _ _ _) ?_
                    show wpList _ _ _ [] _ (WO.setCells (w.heap.size + 1) 0 [.string y.op, .string y.nm, .int .i64 y.vt, .int .i64 y.vn, .string y.vs, .slice yp y.args.length yc, .int .i64 y.pos])
                    rw [HW9.out]
                    clear fw0 fw1 fw2 fw3 fw4 fw5 fw6 e0 e1 e2 e3 e4 e5 e6
                    go_wp2
                    exact bodyPost_ret (v := .agg #[.string y.op, .string y.nm, .int .i64 y.vt, .int .i64 y.vn, .string y.vs, .slice yp y.args.length yc, .int .i64 y.pos]) (by simp [results, Tryz.results6, go_sem, HPB.out.c0, HPB.out.c1, HPB.out.c2, HPB.out.c3, HPB.out.c4, HPB.out.c5, HPB.out.c6]) rfl ⟨⟨_, rfl, UZ.out⟩, HPW.out⟩
                  · have hins : insP (.node op ⟨#[]⟩ 0 0 ⟨#[]⟩ pos L) = f := by
                      rw [HIN.out]
                      conv => lhs; arg 3; rw [HLC.out]
                      rw [insQ, if_pos ⟨hc, hv⟩, hop, hyes, show chN [111, 114] true = 0 from rfl]
                      rfl
                    clear hc hop hv HRU HPR qf
                    obtain ⟨W9, hW9⟩ : ∃ W9, WO.setCells (w.heap.size + 1) 0 [.string f.op, .string f.nm, .int .i64 f.vt, .int .i64 f.vn, .string f.vs, .slice fp' f.args.length fc', .int .i64 f.pos] = W9 := ⟨_, rfl⟩
                    have PP := put7 (v0 := .string f.op) (v1 := .string f.nm) (v2 := .int .i64 f.vt) (v3 := .int .i64 f.vn) (v4 := .string f.vs) (v5 := .slice fp' f.args.length fc') (v6 := .int .i64 f.pos) HZ8.out HB8.out (Nat.le_succ _)
                    rw [hW9] at PP
                    obtain ⟨PB, PW, PX⟩ := PP
                    have UZ : Aside (ExIn W9 (fun b => w.heap.size ≤ b) (.agg #[.string f.op, .string f.nm, .int .i64 f.vt, .int .i64 f.vn, .string f.vs, .slice fp' f.args.length fc', .int .i64 f.pos]) (fdP (.node op ⟨#[]⟩ 0 0 ⟨#[]⟩ pos l))) := ExIn.low (fun b _ h => by omega) _ _ (PX (fun b => w.heap.size + 2 ≤ b) _ _ (by rw [HFD.out, hins]; exact HFX.out) (fun b (hb : w.heap.size + 2 ≤ b) => by omega))
                    have HPB : Aside (Box7 W9 (w.heap.size + 1) _ _ _ _ _ _ _) := PB
                    have HPW : Aside (Below _ _ W9) := PW
                    have HW9 : Hid (WO.setCells (w.heap.size + 1) 0 [.string f.op, .string f.nm, .int .i64 f.vt, .int .i64 f.vn, .string f.vs, .slice fp' f.args.length fc', .int .i64 f.pos] = W9) := hW9
                    clear PB PW PX hW9
                    go_upto_region 30 with fail
                    refine wp_region_lit ?_
                    iterate 6 go_step
                    refine wpList_load_mid rfl 26 _ rfl bq oq rfl [.string f.op, .string f.nm, .int .i64 f.vt, .int .i64 f.vn, .string f.vs, .slice fp' f.args.length fc', .int .i64 f.pos] _ (range7 fw0 fw1 fw2 fw3 fw4 fw5 fw6) Tryz.underlying26 rfl size_ex7 ?_
                    refine wpList_store_mid rfl 26 _ _ rfl (w.heap.size + 1) 0 #[.string f.op, .string f.nm, .int .i64 f.vt, .int .i64 f.vn, .string f.vs, .slice fp' f.args.length fc', .int .i64 f.pos] rfl rfl Z8T.out size_ex7 (one7a _ _ _ _ _ _ _ _ _) ?_
                    show wpList _ _ _ [] _ (WO.setCells (w.heap.size + 1) 0 [.string f.op, .string f.nm, .int .i64 f.vt, .int .i64 f.vn, .string f.vs, .slice fp' f.args.length fc', .int .i64 f.pos])
                    rw [HW9.out]
                    clear fw0 fw1 fw2 fw3 fw4 fw5 fw6 e0 e1 e2 e3 e4 e5 e6
                    go_wp2
                    exact bodyPost_ret (v := .agg #[.string f.op, .string f.nm, .int .i64 f.vt, .int .i64 f.vn, .string f.vs, .slice fp' f.args.length fc', .int .i64 f.pos]) (by simp [results, Tryz.results6, go_sem, HPB.out.c0, HPB.out.c1, HPB.out.c2, HPB.out.c3, HPB.out.c4, HPB.out.c5, HPB.out.c6]) rfl ⟨⟨_, rfl, UZ.out⟩, HPW.out⟩
                · simp only [hop] at q2 q3 q4
                  simp at q2 q3 q4
                  clear hnn
                  cases hyes : (f.vn == 1)
                  · have hins : insP (.node op ⟨#[]⟩ 0 0 ⟨#[]⟩ pos L) = f := by
                      rw [HIN.out]
                      conv => lhs; arg 3; rw [HLC.out]
                      rw [insQ, if_pos ⟨hc, hv⟩, hop, hyes, show chN [97, 110, 100] false = 0 from rfl]
                      rfl
                    clear hc hop hv HRU HPR qf
                    obtain ⟨W9, hW9⟩ : ∃ W9, WO.setCells (w.heap.size + 1) 0 [.string f.op, .string f.nm, .int .i64 f.vt, .int .i64 f.vn, .string f.vs, .slice fp' f.args.length fc', .int .i64 f.pos] = W9 := ⟨_, rfl⟩
                    have PP := put7 (v0 := .string f.op) (v1 := .string f.nm) (v2 := .int .i64 f.vt) (v3 := .int .i64 f.vn) (v4 := .string f.vs) (v5 := .slice fp' f.args.length fc') (v6 := .int .i64 f.pos) HZ8.out HB8.out (Nat.le_succ _)
                    rw [hW9] at PP
                    obtain ⟨PB, PW, PX⟩ := PP
                    have UZ : Aside (ExIn W9 (fun b => w.heap.size ≤ b) (.agg #[.string f.op, .string f.nm, .int .i64 f.vt, .int .i64 f.vn, .string f.vs, .slice fp' f.args.length fc', .int .i64 f.pos]) (fdP (.node op ⟨#[]⟩ 0 0 ⟨#[]⟩ pos l))) := ExIn.low (fun b _ h => by omega) _ _ (PX (fun b => w.heap.size + 2 ≤ b) _ _ (by rw [HFD.out, hins]; exact HFX.out) (fun b (hb : w.heap.size + 2 ≤ b) => by omega))
                    have HPB : Aside (Box7 W9 (w.heap.size + 1) _ _ _ _ _ _ _) := PB
                    have HPW : Aside (Below _ _ W9) := PW
                    have HW9 : Hid (WO.setCells (w.heap.size + 1) 0 [.string f.op, .string f.nm, .int .i64 f.vt, .int .i64 f.vn, .string f.vs, .slice fp' f.args.length fc', .int .i64 f.pos] = W9) := hW9
                    clear PB PW PX hW9
                    go_upto_region 27 with fail
                    refine wp_region_lit ?_
                    iterate 6 go_step
                    refine wpList_load_mid rfl 26 _ rfl bq oq rfl [.string f.op, .string f.nm, .int .i64 f.vt, .int .i64 f.vn, .string f.vs, .slice fp' f.args.length fc', .int .i64 f.pos] _ (range7 fw0 fw1 fw2 fw3 fw4 fw5 fw6) Tryz.underlying26 rfl size_ex7 ?_
                    refine wpList_store_mid rfl 26 _ _ rfl (w.heap.size + 1) 0 #[.string f.op, .string f.nm, .int .i64 f.vt, .int .i64 f.vn, .string f.vs, .slice fp' f.args.length fc', .int .i64 f.pos] rfl rfl Z8T.out size_ex7 (one7a _ _ _ _ _ _ _ _ _) ?_
                    show wpList _ _ _ [] _ (WO.setCells (w.heap.size + 1) 0 [.string f.op, .string f.nm, .int .i64 f.vt, .int .i64 f.vn, .string f.vs, .slice fp' f.args.length fc', .int .i64 f.pos])
                    rw [HW9.out]
                    clear fw0 fw1 fw2 fw3 fw4 fw5 fw6 e0 e1 e2 e3 e4 e5 e6
                    go_wp2
                    exact bodyPost_ret (v := .agg #[.string f.op, .string f.nm, .int .i64 f.vt, .int .i64 f.vn, .string f.vs, .slice fp' f.args.length fc', .int .i64 f.pos]) (by simp [results, Tryz.results6, go_sem, HPB.out.c0, HPB.out.c1, HPB.out.c2, HPB.out.c3, HPB.out.c4, HPB.out.c5, HPB.out.c6]) rfl ⟨⟨_, rfl, UZ.out⟩, HPW.out⟩
                  · have hm : 1 < L.length := by (have hh := HRU.out; rw [hop] at hh; obtain ⟨a, b, e, -⟩ := fd_rule2 hh (.inr rfl); rw [e]; simp)
                    obtain ⟨bq', oq', yp, yc, hpe, -, -, yw0, yw1, yw2, yw3, yw4, yw5, yw6, hyx⟩ := partF_at (parts_on HPT.out BXO.out) hm
                    injection hpe with hpe
                    injection hpe with e1' e2'
                    subst e1' e2'
                    have hins : insP (.node op ⟨#[]⟩ 0 0 ⟨#[]⟩ pos L) = L[1] := by
                      rw [HIN.out]
                      conv => lhs; arg 3; rw [HLC.out]
                      rw [insQ, if_pos ⟨hc, hv⟩, hop, hyes, ← HLC.out, show chN [97, 110, 100] true = 1 from rfl, List.getElem?_eq_getElem hm]
                      rfl
                    generalize L[1] = y at yw0 yw1 yw2 yw3 yw4 yw5 yw6 hyx hins
                    have YR : Aside (WO.rangeAt bq (oq + 7) [.string y.op, .string y.nm, .int .i64 y.vt, .int .i64 y.vn, .string y.vs, .slice yp y.args.length yc, .int .i64 y.pos]) := range7 yw0 yw1 yw2 yw3 yw4 yw5 yw6
                    have HYX : Aside (ExIn WO (fun b => w.heap.size + 2 ≤ b) _ y) := hyx
                    clear hm yw0 yw1 yw2 yw3 yw4 yw5 yw6 hyx hc hop hv HRU HPR qf
                    obtain ⟨W9, hW9⟩ : ∃ W9, WO.setCells (w.heap.size + 1) 0 [.string y.op, .string y.nm, .int .i64 y.vt, .int .i64 y.vn, .string y.vs, .slice yp y.args.length yc, .int .i64 y.pos] = W9 := ⟨_, rfl⟩
                    have PP := put7 (v0 := .string y.op) (v1 := .string y.nm) (v2 := .int .i64 y.vt) (v3 := .int .i64 y.vn) (v4 := .string y.vs) (v5 := .slice yp y.args.length yc) (v6 := .int .i64 y.pos) HZ8.out HB8.out (Nat.le_succ _)
                    rw [hW9] at PP
                    obtain ⟨PB, PW, PX⟩ := PP
                    have UZ : Aside (ExIn W9 (fun b => w.heap.size ≤ b) (.agg #[.string y.op, .string y.nm, .int .i64 y.vt, .int .i64 y.vn, .string y.vs, .slice yp y.args.length yc, .int .i64 y.pos]) (fdP (.node op ⟨#[]⟩ 0 0 ⟨#[]⟩ pos l))) := ExIn.low (fun b _ h => by omega) _ _ (PX (fun b => w.heap.size + 2 ≤ b) _ _ (by rw [HFD.out, hins]; exact HYX.out) (fun b (hb : w.heap.size + 2 ≤ b) => by omega))
                    have HPB : Aside (Box7 W9 (w.heap.size + 1) _ _ _ _ _ _ _) := PB
                    have HPW : Aside (Below _ _ W9) := PW
                    have HW9 : Hid (WO.setCells (w.heap.size + 1) 0 [.string y.op, .string y.nm, .int .i64 y.vt, .int .i64 y.vn, .string y.vs, .slice yp y.args.length yc, .int .i64 y.pos] = W9) := hW9
                    clear PB PW PX hW9
                    go_upto_region 26 with fail
                    refine wp_region_lit ?_
                    iterate 6 go_step
                    refine wpList_load_mid rfl 26 _ rfl bq (oq + 7) rfl [.string y.op, .string y.nm, .int .i64 y.vt, .int .i64 y.vn, .string y.vs, .slice yp y.args.length yc, .int .i64 y.pos] _ YR.out Tryz.underlying26 rfl size_ex7 ?_
                    refine wpList_store_mid rfl 26 _ _ rfl (w.heap.size + 1) 0 #[.string y.op, .string y.nm, .int .i64 y.vt, .int .i64 y.vn, .string y.vs, .slice yp y.args.length yc, .int .i64 y.pos] rfl rfl Z8T.out size_ex7 (one7a _ _ _ _ _ _ _ _ _) ?_
                    show wpList _ _ _ [] _ (WO.setCells (w.heap.size + 1) 0 [.string y.op, .string y.nm, .int .i64 y.vt, .int .i64 y.vn, .string y.vs, .slice yp y.args.length yc, .int .i64 y.pos])
                    rw [HW9.out]
                    clear fw0 fw1 fw2 fw3 fw4 fw5 fw6 e0 e1 e2 e3 e4 e5 e6
                    go_wp2
                    exact bodyPost_ret (v := .agg #[.string y.op, .string y.nm, .int .i64 y.vt, .int .i64 y.vn, .string y.vs, .slice yp y.args.length yc, .int .i64 y.pos]) (by simp [results, Tryz.results6, go_sem, HPB.out.c0, HPB.out.c1, HPB.out.c2, HPB.out.c3, HPB.out.c4, HPB.out.c5, HPB.out.c6]) rfl ⟨⟨_, rfl, UZ.out⟩, HPW.out⟩
                · simp only [hop] at q2 q3 q4
                  simp at q2 q3 q4
                  have hkz2 : (2 : Int) < (kk : Int) := by
                    have := HLL.out
                    have h2 : 2 < L.length := by have hh := HRU.out; rw [hop] at hh; obtain ⟨a, b, c, e, -⟩ := fd_rule3 hh; rw [e]; simp
                    omega
                  clear hnn
                  cases hyes : (f.vn == 1)
                  · have hm : 2 < L.length := by (have hh := HRU.out; rw [hop] at hh; obtain ⟨a, b, c, e, -⟩ := fd_rule3 hh; rw [e]; simp)
                    obtain ⟨bq', oq', yp, yc, hpe, -, -, yw0, yw1, yw2, yw3, yw4, yw5, yw6, hyx⟩ := partF_at (parts_on HPT.out BXO.out) hm
                    injection hpe with hpe
                    injection hpe with e1' e2'
                    subst e1' e2'
                    have hins : insP (.node op ⟨#[]⟩ 0 0 ⟨#[]⟩ pos L) = L[2] := by
                      rw [HIN.out]
                      conv => lhs; arg 3; rw [HLC.out]
                      rw [insQ, if_pos ⟨hc, hv⟩, hop, hyes, ← HLC.out, show chN [105, 102] false = 2 from rfl, List.getElem?_eq_getElem hm]
                      rfl
                    generalize L[2] = y at yw0 yw1 yw2 yw3 yw4 yw5 yw6 hyx hins
                    have YR : Aside (WO.rangeAt bq (oq + 14) [.string y.op, .string y.nm, .int .i64 y.vt, .int .i64 y.vn, .string y.vs, .slice yp y.args.length yc, .int .i64 y.pos]) := range7 yw0 yw1 yw2 yw3 yw4 yw5 yw6
                    have HYX : Aside (ExIn WO (fun b => w.heap.size + 2 ≤ b) _ y) := hyx
                    clear hm yw0 yw1 yw2 yw3 yw4 yw5 yw6 hyx hc hop hv HRU HPR qf
                    obtain ⟨W9, hW9⟩ : ∃ W9, WO.setCells (w.heap.size + 1) 0 [.string y.op, .string y.nm, .int .i64 y.vt, .int .i64 y.vn, .string y.vs, .slice yp y.args.length yc, .int .i64 y.pos] = W9 := ⟨_, rfl⟩
                    have PP := put7 (v0 := .string y.op) (v1 := .string y.nm) (v2 := .int .i64 y.vt) (v3 := .int .i64 y.vn) (v4 := .string y.vs) (v5 := .slice yp y.args.length yc) (v6 := .int .i64 y.pos) HZ8.out HB8.out (Nat.le_succ _)
                    rw [hW9] at PP
                    obtain ⟨PB, PW, PX⟩ := PP
                    have UZ : Aside (ExIn W9 (fun b => w.heap.size ≤ b) (.agg #[.string y.op, .string y.nm, .int .i64 y.vt, .int .i64 y.vn, .string y.vs, .slice yp y.args.length yc, .int .i64 y.pos]) (fdP (.node op ⟨#[]⟩ 0 0 ⟨#[]⟩ pos l))) := ExIn.low (fun b _ h => by omega) _ _ (PX (fun b => w.heap.size + 2 ≤ b) _ _ (by rw [HFD.out, hins]; exact HYX.out) (fun b (hb : w.heap.size + 2 ≤ b) => by omega))
                    have HPB : Aside (Box7 W9 (w.heap.size + 1) _ _ _ _ _ _ _) := PB
                    have HPW : Aside (Below _ _ W9) := PW
                    have HW9 : Hid (WO.setCells (w.heap.size + 1) 0 [.string y.op, .string y.nm, .int .i64 y.vt, .int .i64 y.vn, .string y.vs, .slice yp y.args.length yc, .int .i64 y.pos] = W9) := hW9
                    clear PB PW PX hW9
                    go_upto_region 35 with fail
                    refine wp_region_lit ?_
                    iterate 6 go_step
                    refine wpList_load_mid rfl 26 _ rfl bq (oq + 14) rfl [.string y.op, .string y.nm, .int .i64 y.vt, .int .i64 y.vn, .string y.vs, .slice yp y.args.length yc, .int .i64 y.pos] _ YR.out Tryz.underlying26 rfl size_ex7 ?_
                    refine wpList_store_mid rfl 26 _ _ rfl (w.heap.size + 1) 0 #[.string y.op, .string y.nm, .int .i64 y.vt, .int .i64 y.vn, .string y.vs, .slice yp y.args.length yc, .int .i64 y.pos] rfl rfl Z8T.out size_ex7 (one7a _ _ _ _ _ _ _ _ _) ?_
                    show wpList _ _ _ [] _ (WO.setCells (w.heap.size + 1) 0 [.string y.op, .string y.nm, .int .i64 y.vt, .int .i64 y.vn, .string y.vs, .slice yp y.args.length yc, .int .i64 y.pos])
                    rw [HW9.out]
                    clear fw0 fw1 fw2 fw3 fw4 fw5 fw6 e0 e1 e2 e3 e4 e5 e6
                    go_wp2
                    exact bodyPost_ret (v := .agg #[.string y.op, .string y.nm, .int .i64 y.vt, .int .i64 y.vn, .string y.vs, .slice yp y.args.length yc, .int .i64 y.pos]) (by simp [results, Tryz.results6, go_sem, HPB.out.c0, HPB.out.c1, HPB.out.c2, HPB.out.c3, HPB.out.c4, HPB.out.c5, HPB.out.c6]) rfl ⟨⟨_, rfl, UZ.out⟩, HPW.out⟩
                  · have hm : 1 < L.length := by (have hh := HRU.out; rw [hop] at hh; obtain ⟨a, b, c, e, -⟩ := fd_rule3 hh; rw [e]; simp)
                    obtain ⟨bq', oq', yp, yc, hpe, -, -, yw0, yw1, yw2, yw3, yw4, yw5, yw6, hyx⟩ := partF_at (parts_on HPT.out BXO.out) hm
                    injection hpe with hpe
                    injection hpe with e1' e2'
                    subst e1' e2'
                    have hins : insP (.node op ⟨#[]⟩ 0 0 ⟨#[]⟩ pos L) = L[1] := by
                      rw [HIN.out]
                      conv => lhs; arg 3; rw [HLC.out]
                      rw [insQ, if_pos ⟨hc, hv⟩, hop, hyes, ← HLC.out, show chN [105, 102] true = 1 from rfl, List.getElem?_eq_getElem hm]
                      rfl
                    generalize L[1] = y at yw0 yw1 yw2 yw3 yw4 yw5 yw6 hyx hins
                    have YR : Aside (WO.rangeAt bq (oq + 7) [.string y.op, .string y.nm, .int .i64 y.vt, .int .i64 y.vn, .string y.vs, .slice yp y.args.length yc, .int .i64 y.pos]) := range7 yw0 yw1 yw2 yw3 yw4 yw5 yw6
                    have HYX : Aside (ExIn WO (fun b => w.heap.size + 2 ≤ b) _ y) := hyx
                    clear hm yw0 yw1 yw2 yw3 yw4 yw5 yw6 hyx hc hop hv HRU HPR qf
                    obtain ⟨W9, hW9⟩ : ∃ W9, WO.setCells (w.heap.size + 1) 0 [.string y.op, .string y.nm, .int .i64 y.vt, .int .i64 y.vn, .string y.vs, .slice yp y.args.length yc, .int .i64 y.pos] = W9 := ⟨_, rfl⟩
                    have PP := put7 (v0 := .string y.op) (v1 := .string y.nm) (v2 := .int .i64 y.vt) (v3 := .int .i64 y.vn) (v4 := .string y.vs) (v5 := .slice yp y.args.length yc) (v6 := .int .i64 y.pos) HZ8.out HB8.out (Nat.le_succ _)
                    rw [hW9] at PP
                    obtain ⟨PB, PW, PX⟩ := PP
                    have UZ : Aside (ExIn W9 (fun b => w.heap.size ≤ b) (.agg #[.string y.op, .string y.nm, .int .i64 y.vt, .int .i64 y.vn, .string y.vs, .slice yp y.args.length yc, .int .i64 y.pos]) (fdP (.node op ⟨#[]⟩ 0 0 ⟨#[]⟩ pos l))) := ExIn.low (fun b _ h => by omega) _ _ (PX (fun b => w.heap.size + 2 ≤ b) _ _ (by rw [HFD.out, hins]; exact HYX.out) (fun b (hb : w.heap.size + 2 ≤ b) => by omega))
                    have HPB : Aside (Box7 W9 (w.heap.size + 1) _ _ _ _ _ _ _) := PB
                    have HPW : Aside (Below _ _ W9) := PW
                    have HW9 : Hid (WO.setCells (w.heap.size + 1) 0 [.string y.op, .string y.nm, .int .i64 y.vt, .int .i64 y.vn, .string y.vs, .slice yp y.args.length yc, .int .i64 y.pos] = W9) := hW9
                    clear PB PW PX hW9
                    go_upto_region 34 with fail
                    refine wp_region_lit ?_
                    iterate 6 go_step
                    refine wpList_load_mid rfl 26 _ rfl bq (oq + 7) rfl [.string y.op, .string y.nm, .int .i64 y.vt, .int .i64 y.vn, .string y.vs, .slice yp y.args.length yc, .int .i64 y.pos] _ YR.out Tryz.underlying26 rfl size_ex7 ?_
                    refine wpList_store_mid rfl 26 _ _ rfl (w.heap.size + 1) 0 #[.string y.op, .string y.nm, .int .i64 y.vt, .int .i64 y.vn, .string y.vs, .slice yp y.args.length yc, .int .i64 y.pos] rfl rfl Z8T.out size_ex7 (one7a _ _ _ _ _ _ _ _ _) ?_
                    show wpList _ _ _ [] _ (WO.setCells (w.heap.size + 1) 0 [.string y.op, .string y.nm, .int .i64 y.vt, .int .i64 y.vn, .string y.vs, .slice yp y.args.length yc, .int .i64 y.pos])
                    rw [HW9.out]
                    clear fw0 fw1 fw2 fw3 fw4 fw5 fw6 e0 e1 e2 e3 e4 e5 e6
                    go_wp2
                    exact bodyPost_ret (v := .agg #[.string y.op, .string y.nm, .int .i64 y.vt, .int .i64 y.vn, .string y.vs, .slice yp y.args.length yc, .int .i64 y.pos]) (by simp [results, Tryz.results6, go_sem, HPB.out.c0, HPB.out.c1, HPB.out.c2, HPB.out.c3, HPB.out.c4, HPB.out.c5, HPB.out.c6]) rfl ⟨⟨_, rfl, UZ.out⟩, HPW.out⟩
            · have hcf : isCh op.data.toList = false := by simpa using hc
              have hno : op.data.toList ≠ [97, 110, 100] ∧ op.data.toList ≠ [111, 114] ∧ op.data.toList ≠ [105, 102] := ⟨fun h => by rw [h] at hcf; exact absurd hcf (by decide), fun h => by rw [h] at hcf; exact absurd hcf (by decide), fun h => by rw [h] at hcf; exact absurd hcf (by decide)⟩
              rw [decide_eq_false hno.1] at q2
              rw [decide_eq_false hno.2.1] at q3
              rw [decide_eq_false hno.2.2] at q4
              by_cases hn : op.data.toList = [110, 111, 116]
              · rw [decide_eq_true hn] at q1
                by_cases hff : f.op.data.toList = [110, 111, 116]
                · rw [decide_eq_true hff] at qf
                  have hg : 0 < f.args.length := by
                    have hfR := HPR.out f (by rw [HLC.out]; exact List.mem_cons_self ..)
                    cases f with
                    | node fo fn ft fk fs fp fl =>
                      obtain ⟨-, gr⟩ := rg_parts hfR (by rw [show fo.data.toList = [110, 111, 116] from hff]; decide) (by rw [show fo.data.toList = [110, 111, 116] from hff]; decide)
                      obtain ⟨z, r', e⟩ := fd_some gr
                      show 0 < fl.length
                      rw [e]; simp
                  have hpf : f.args.length = 0 ∨ ∃ b off, fp' = some ⟨b, off, none⟩ ∧ b < WO.heap.size ∧ w.heap.size + 2 ≤ b ∧ ExsIn WO (fun b => w.heap.size + 2 ≤ b) b off f.args := by
                    obtain ⟨p', c', e, -, h⟩ := HFX.out.args
                    injection e with e1 e2 e3
                    subst e1
                    exact h
                  obtain ⟨bg, og, yp, yc, rfl, hbg, -, yw0, yw1, yw2, yw3, yw4, yw5, yw6, hyx⟩ := partF_at hpf hg
                  have hins : insP (.node op ⟨#[]⟩ 0 0 ⟨#[]⟩ pos L) = f.args[0] := by
                    rw [HIN.out]
                    conv => lhs; arg 3; rw [HLC.out]
                    rw [insQ, if_neg (by rw [hcf]; simp), if_pos ⟨hn, hff⟩, List.getElem?_eq_getElem hg]
                    rfl
                  simp only [Nat.zero_mul, Nat.add_zero] at yw0 yw1 yw2 yw3 yw4 yw5 yw6
                  have hg0 : (0 : Int) < (f.args.length : Int) := by omega
                  generalize f.args[0] = y at yw0 yw1 yw2 yw3 yw4 yw5 yw6 hyx hins
                  have YR : Aside (WO.rangeAt bg og [.string y.op, .string y.nm, .int .i64 y.vt, .int .i64 y.vn, .string y.vs, .slice yp y.args.length yc, .int .i64 y.pos]) := range7 yw0 yw1 yw2 yw3 yw4 yw5 yw6
                  have HYX : Aside (ExIn WO (fun b => w.heap.size + 2 ≤ b) _ y) := hyx
                  clear yw0 yw1 yw2 yw3 yw4 yw5 yw6 hyx hn hff HRU HPR hpf HFX hno hcf hc qv q2 q3 q4
                  obtain ⟨W9, hW9⟩ : ∃ W9, WO.setCells (w.heap.size + 1) 0 [.string y.op, .string y.nm, .int .i64 y.vt, .int .i64 y.vn, .string y.vs, .slice yp y.args.length yc, .int .i64 y.pos] = W9 := ⟨_, rfl⟩
                  have PP := put7 (v0 := .string y.op) (v1 := .string y.nm) (v2 := .int .i64 y.vt) (v3 := .int .i64 y.vn) (v4 := .string y.vs) (v5 := .slice yp y.args.length yc) (v6 := .int .i64 y.pos) HZ8.out HB8.out (Nat.le_succ _)
                  rw [hW9] at PP
                  obtain ⟨PB, PW, PX⟩ := PP
                  have UZ : Aside (ExIn W9 (fun b => w.heap.size ≤ b) (.agg #[.string y.op, .string y.nm, .int .i64 y.vt, .int .i64 y.vn, .string y.vs, .slice yp y.args.length yc, .int .i64 y.pos]) (fdP (.node op ⟨#[]⟩ 0 0 ⟨#[]⟩ pos l))) := ExIn.low (fun b _ h => by omega) _ _ (PX (fun b => w.heap.size + 2 ≤ b) _ _ (by rw [HFD.out, hins]; exact HYX.out) (fun b (hb : w.heap.size + 2 ≤ b) => by omega))
                  have HPB : Aside (Box7 W9 (w.heap.size + 1) _ _ _ _ _ _ _) := PB
                  have HPW : Aside (Below _ _ W9) := PW
                  have HW9 : Hid (WO.setCells (w.heap.size + 1) 0 [.string y.op, .string y.nm, .int .i64 y.vt, .int .i64 y.vn, .string y.vs, .slice yp y.args.length yc, .int .i64 y.pos] = W9) := hW9
                  clear PB PW PX hW9
                  go_upto_region 19 with fail
                  refine wp_region_lit ?_
                  iterate 15 go_step
                  refine wpList_load_mid rfl 26 _ rfl bg og rfl [.string y.op, .string y.nm, .int .i64 y.vt, .int .i64 y.vn, .string y.vs, .slice yp y.args.length yc, .int .i64 y.pos] _ YR.out Tryz.underlying26 rfl size_ex7 ?_
                  refine wpList_store_mid rfl 26 _ _ rfl (w.heap.size + 1) 0 #[.string y.op, .string y.nm, .int .i64 y.vt, .int .i64 y.vn, .string y.vs, .slice yp y.args.length yc, .int .i64 y.pos] rfl rfl Z8T.out size_ex7 (one7a _ _ _ _ _ _ _ _ _) ?_
                  show wpList _ _ _ [] _ (WO.setCells (w.heap.size + 1) 0 [.string y.op, .string y.nm, .int .i64 y.vt, .int .i64 y.vn, .string y.vs, .slice yp y.args.length yc, .int .i64 y.pos])
                  rw [HW9.out]
                  clear fw0 fw1 fw2 fw3 fw4 fw5 fw6 e0 e1 e2 e3 e4 e5 e6
                  go_wp2
                  exact bodyPost_ret (v := .agg #[.string y.op, .string y.nm, .int .i64 y.vt, .int .i64 y.vn, .string y.vs, .slice yp y.args.length yc, .int .i64 y.pos]) (by simp [results, Tryz.results6, go_sem, HPB.out.c0, HPB.out.c1, HPB.out.c2, HPB.out.c3, HPB.out.c4, HPB.out.c5, HPB.out.c6]) rfl ⟨⟨_, rfl, UZ.out⟩, HPW.out⟩
                · rw [decide_eq_false hff] at qf
                  have hins : insP (.node op ⟨#[]⟩ 0 0 ⟨#[]⟩ pos L) = .node op ⟨#[]⟩ 0 0 ⟨#[]⟩ pos L := by
                    rw [HIN.out]
                    conv => lhs; arg 3; rw [HLC.out]
                    rw [insQ, if_neg (by rw [hcf]; simp), if_neg (fun h => hff h.2)]
                  clear hn hff hc hcf hno HRU HPR
                  cases hv : isV f
                  · rw [hv] at qv
                    obtain ⟨W9, hW9⟩ : ∃ W9, WO.setCells (w.heap.size + 1) 0 [.string op, .string ⟨#[]⟩, .int .i64 0, .int .i64 0, .string ⟨#[]⟩, .slice (some ⟨bq, oq, none⟩) kk cp, .int .i64 pos] = W9 := ⟨_, rfl⟩
                    have PP := put7 (v0 := .string op) (v1 := .string ⟨#[]⟩) (v2 := .int .i64 0) (v3 := .int .i64 0) (v4 := .string ⟨#[]⟩) (v5 := .slice (some ⟨bq, oq, none⟩) kk cp) (v6 := .int .i64 pos) HZ8.out HB8.out (Nat.le_succ _)
                    rw [hW9] at PP
                    obtain ⟨PB, PW, PX⟩ := PP
                    have UZ : Aside (ExIn W9 (fun b => w.heap.size ≤ b) (.agg #[.string op, .string ⟨#[]⟩, .int .i64 0, .int .i64 0, .string ⟨#[]⟩, .slice (some ⟨bq, oq, none⟩) kk cp, .int .i64 pos]) (fdP (.node op ⟨#[]⟩ 0 0 ⟨#[]⟩ pos l))) := ExIn.low (fun b _ h => by omega) _ _ (PX (fun b => w.heap.size + 2 ≤ b) _ _ (by rw [HFD.out, hins]; exact (HXO.out.on BXO.out)) (fun b (hb : w.heap.size + 2 ≤ b) => by omega))
                    have HPB : Aside (Box7 W9 (w.heap.size + 1) _ _ _ _ _ _ _) := PB
                    have HPW : Aside (Below _ _ W9) := PW
                    have HW9 : Hid (WO.setCells (w.heap.size + 1) 0 [.string op, .string ⟨#[]⟩, .int .i64 0, .int .i64 0, .string ⟨#[]⟩, .slice (some ⟨bq, oq, none⟩) kk cp, .int .i64 pos] = W9) := hW9
                    clear PB PW PX hW9
                    go_upto_region 21 with fail
                    refine wp_region_lit ?_
                    refine wpList_load_mid rfl 26 _ rfl wx.heap.size 0 rfl [.string op, .string ⟨#[]⟩, .int .i64 0, .int .i64 0, .string ⟨#[]⟩, .slice (some ⟨bq, oq, none⟩) kk cp, .int .i64 pos] _ XO'.out Tryz.underlying26 rfl size_ex7 ?_
                    refine wpList_store_mid rfl 26 _ _ rfl (w.heap.size + 1) 0 #[.string op, .string ⟨#[]⟩, .int .i64 0, .int .i64 0, .string ⟨#[]⟩, .slice (some ⟨bq, oq, none⟩) kk cp, .int .i64 pos] rfl rfl Z8T.out size_ex7 (one7a _ _ _ _ _ _ _ _ _) ?_
                    show wpList _ _ _ [] _ (WO.setCells (w.heap.size + 1) 0 [.string op, .string ⟨#[]⟩, .int .i64 0, .int .i64 0, .string ⟨#[]⟩, .slice (some ⟨bq, oq, none⟩) kk cp, .int .i64 pos])
                    rw [HW9.out]
                    clear fw0 fw1 fw2 fw3 fw4 fw5 fw6 e0 e1 e2 e3 e4 e5 e6
                    go_wp2
                    exact bodyPost_ret (v := .agg #[.string op, .string ⟨#[]⟩, .int .i64 0, .int .i64 0, .string ⟨#[]⟩, .slice (some ⟨bq, oq, none⟩) kk cp, .int .i64 pos]) (by simp [results, Tryz.results6, go_sem, HPB.out.c0, HPB.out.c1, HPB.out.c2, HPB.out.c3, HPB.out.c4, HPB.out.c5, HPB.out.c6]) rfl ⟨⟨_, rfl, UZ.out⟩, HPW.out⟩
                  · rw [hv] at qv
                    obtain ⟨W9, hW9⟩ : ∃ W9, WO.setCells (w.heap.size + 1) 0 [.string op, .string ⟨#[]⟩, .int .i64 0, .int .i64 0, .string ⟨#[]⟩, .slice (some ⟨bq, oq, none⟩) kk cp, .int .i64 pos] = W9 := ⟨_, rfl⟩
                    have PP := put7 (v0 := .string op) (v1 := .string ⟨#[]⟩) (v2 := .int .i64 0) (v3 := .int .i64 0) (v4 := .string ⟨#[]⟩) (v5 := .slice (some ⟨bq, oq, none⟩) kk cp) (v6 := .int .i64 pos) HZ8.out HB8.out (Nat.le_succ _)
                    rw [hW9] at PP
                    obtain ⟨PB, PW, PX⟩ := PP
                    have UZ : Aside (ExIn W9 (fun b => w.heap.size ≤ b) (.agg #[.string op, .string ⟨#[]⟩, .int .i64 0, .int .i64 0, .string ⟨#[]⟩, .slice (some ⟨bq, oq, none⟩) kk cp, .int .i64 pos]) (fdP (.node op ⟨#[]⟩ 0 0 ⟨#[]⟩ pos l))) := ExIn.low (fun b _ h => by omega) _ _ (PX (fun b => w.heap.size + 2 ≤ b) _ _ (by rw [HFD.out, hins]; exact (HXO.out.on BXO.out)) (fun b (hb : w.heap.size + 2 ≤ b) => by omega))
                    have HPB : Aside (Box7 W9 (w.heap.size + 1) _ _ _ _ _ _ _) := PB
                    have HPW : Aside (Below _ _ W9) := PW
                    have HW9 : Hid (WO.setCells (w.heap.size + 1) 0 [.string op, .string ⟨#[]⟩, .int .i64 0, .int .i64 0, .string ⟨#[]⟩, .slice (some ⟨bq, oq, none⟩) kk cp, .int .i64 pos] = W9) := hW9
                    clear PB PW PX hW9
                    go_upto_region 36 with fail
                    refine wp_region_lit ?_
                    refine wpList_load_mid rfl 26 _ rfl wx.heap.size 0 rfl [.string op, .string ⟨#[]⟩, .int .i64 0, .int .i64 0, .string ⟨#[]⟩, .slice (some ⟨bq, oq, none⟩) kk cp, .int .i64 pos] _ XO'.out Tryz.underlying26 rfl size_ex7 ?_
                    refine wpList_store_mid rfl 26 _ _ rfl (w.heap.size + 1) 0 #[.string op, .string ⟨#[]⟩, .int .i64 0, .int .i64 0, .string ⟨#[]⟩, .slice (some ⟨bq, oq, none⟩) kk cp, .int .i64 pos] rfl rfl Z8T.out size_ex7 (one7a _ _ _ _ _ _ _ _ _) ?_
                    show wpList _ _ _ [] _ (WO.setCells (w.heap.size + 1) 0 [.string op, .string ⟨#[]⟩, .int .i64 0, .int .i64 0, .string ⟨#[]⟩, .slice (some ⟨bq, oq, none⟩) kk cp, .int .i64 pos])
                    rw [HW9.out]
                    clear fw0 fw1 fw2 fw3 fw4 fw5 fw6 e0 e1 e2 e3 e4 e5 e6
                    go_wp2
                    exact bodyPost_ret (v := .agg #[.string op, .string ⟨#[]⟩, .int .i64 0, .int .i64 0, .string ⟨#[]⟩, .slice (some ⟨bq, oq, none⟩) kk cp, .int .i64 pos]) (by simp [results, Tryz.results6, go_sem, HPB.out.c0, HPB.out.c1, HPB.out.c2, HPB.out.c3, HPB.out.c4, HPB.out.c5, HPB.out.c6]) rfl ⟨⟨_, rfl, UZ.out⟩, HPW.out⟩
              · rw [decide_eq_false hn] at q1
                have hins : insP (.node op ⟨#[]⟩ 0 0 ⟨#[]⟩ pos L) = .node op ⟨#[]⟩ 0 0 ⟨#[]⟩ pos L := by
                  rw [HIN.out]
                  conv => lhs; arg 3; rw [HLC.out]
                  rw [insQ, if_neg (by rw [hcf]; simp), if_neg (fun h => hn h.1)]
                clear hn hc hcf hno HRU HPR qf
                cases hv : isV f
                · rw [hv] at qv
                  obtain ⟨W9, hW9⟩ : ∃ W9, WO.setCells (w.heap.size + 1) 0 [.string op, .string ⟨#[]⟩, .int .i64 0, .int .i64 0, .string ⟨#[]⟩, .slice (some ⟨bq, oq, none⟩) kk cp, .int .i64 pos] = W9 := ⟨_, rfl⟩
                  have PP := put7 (v0 := .string op) (v1 := .string ⟨#[]⟩) (v2 := .int .i64 0) (v3 := .int .i64 0) (v4 := .string ⟨#[]⟩) (v5 := .slice (some ⟨bq, oq, none⟩) kk cp) (v6 := .int .i64 pos) HZ8.out HB8.out (Nat.le_succ _)
                  rw [hW9] at PP
                  obtain ⟨PB, PW, PX⟩ := PP
                  have UZ : Aside (ExIn W9 (fun b => w.heap.size ≤ b) (.agg #[.string op, .string ⟨#[]⟩, .int .i64 0, .int .i64 0, .string ⟨#[]⟩, .slice (some ⟨bq, oq, none⟩) kk cp, .int .i64 pos]) (fdP (.node op ⟨#[]⟩ 0 0 ⟨#[]⟩ pos l))) := ExIn.low (fun b _ h => by omega) _ _ (PX (fun b => w.heap.size + 2 ≤ b) _ _ (by rw [HFD.out, hins]; exact (HXO.out.on BXO.out)) (fun b (hb : w.heap.size + 2 ≤ b) => by omega))
                  have HPB : Aside (Box7 W9 (w.heap.size + 1) _ _ _ _ _ _ _) := PB
                  have HPW : Aside (Below _ _ W9) := PW
                  have HW9 : Hid (WO.setCells (w.heap.size + 1) 0 [.string op, .string ⟨#[]⟩, .int .i64 0, .int .i64 0, .string ⟨#[]⟩, .slice (some ⟨bq, oq, none⟩) kk cp, .int .i64 pos] = W9) := hW9
                  clear PB PW PX hW9
                  go_upto_region 21 with fail
                  refine wp_region_lit ?_
                  refine wpList_load_mid rfl 26 _ rfl wx.heap.size 0 rfl [.string op, .string ⟨#[]⟩, .int .i64 0, .int .i64 0, .string ⟨#[]⟩, .slice (some ⟨bq, oq, none⟩) kk cp, .int .i64 pos] _ XO'.out Tryz.underlying26 rfl size_ex7 ?_
                  refine wpList_store_mid rfl 26 _ _ rfl (w.heap.size + 1) 0 #[.string op, .string ⟨#[]⟩, .int .i64 0, .int .i64 0, .string ⟨#[]⟩, .slice (some ⟨bq, oq, none⟩) kk cp, .int .i64 pos] rfl rfl Z8T.out size_ex7 (one7a _ _ _ _ _ _ _ _ _) ?_
                  show wpList _ _ _ [] _ (WO.setCells (w.heap.size + 1) 0 [.string op, .string ⟨#[]⟩, .int .i64 0, .int .i64 0, .string ⟨#[]⟩, .slice (some ⟨bq, oq, none⟩) kk cp, .int .i64 pos])
                  rw [HW9.out]
                  clear fw0 fw1 fw2 fw3 fw4 fw5 fw6 e0 e1 e2 e3 e4 e5 e6
                  go_wp2
                  exact bodyPost_ret (v := .agg #[.string op, .string ⟨#[]⟩, .int .i64 0, .int .i64 0, .string ⟨#[]⟩, .slice (some ⟨bq, oq, none⟩) kk cp, .int .i64 pos]) (by simp [results, Tryz.results6, go_sem, HPB.out.c0, HPB.out.c1, HPB.out.c2, HPB.out.c3, HPB.out.c4, HPB.out.c5, HPB.out.c6]) rfl ⟨⟨_, rfl, UZ.out⟩, HPW.out⟩
                · rw [hv] at qv
                  obtain ⟨W9, hW9⟩ : ∃ W9, WO.setCells (w.heap.size + 1) 0 [.string op, .string ⟨#[]⟩, .int .i64 0, .int .i64 0, .string ⟨#[]⟩, .slice (some ⟨bq, oq, none⟩) kk cp, .int .i64 pos] = W9 := ⟨_, rfl⟩
                  have PP := put7 (v0 := .string op) (v1 := .string ⟨#[]⟩) (v2 := .int .i64 0) (v3 := .int .i64 0) (v4 := .string ⟨#[]⟩) (v5 := .slice (some ⟨bq, oq, none⟩) kk cp) (v6 := .int .i64 pos) HZ8.out HB8.out (Nat.le_succ _)
                  rw [hW9] at PP
                  obtain ⟨PB, PW, PX⟩ := PP
                  have UZ : Aside (ExIn W9 (fun b => w.heap.size ≤ b) (.agg #[.string op, .string ⟨#[]⟩, .int .i64 0, .int .i64 0, .string ⟨#[]⟩, .slice (some ⟨bq, oq, none⟩) kk cp, .int .i64 pos]) (fdP (.node op ⟨#[]⟩ 0 0 ⟨#[]⟩ pos l))) := ExIn.low (fun b _ h => by omega) _ _ (PX (fun b => w.heap.size + 2 ≤ b) _ _ (by rw [HFD.out, hins]; exact (HXO.out.on BXO.out)) (fun b (hb : w.heap.size + 2 ≤ b) => by omega))
                  have HPB : Aside (Box7 W9 (w.heap.size + 1) _ _ _ _ _ _ _) := PB
                  have HPW : Aside (Below _ _ W9) := PW
                  have HW9 : Hid (WO.setCells (w.heap.size + 1) 0 [.string op, .string ⟨#[]⟩, .int .i64 0, .int .i64 0, .string ⟨#[]⟩, .slice (some ⟨bq, oq, none⟩) kk cp, .int .i64 pos] = W9) := hW9
                  clear PB PW PX hW9
                  go_upto_region 36 with fail
                  refine wp_region_lit ?_
                  refine wpList_load_mid rfl 26 _ rfl wx.heap.size 0 rfl [.string op, .string ⟨#[]⟩, .int .i64 0, .int .i64 0, .string ⟨#[]⟩, .slice (some ⟨bq, oq, none⟩) kk cp, .int .i64 pos] _ XO'.out Tryz.underlying26 rfl size_ex7 ?_
                  refine wpList_store_mid rfl 26 _ _ rfl (w.heap.size + 1) 0 #[.string op, .string ⟨#[]⟩, .int .i64 0, .int .i64 0, .string ⟨#[]⟩, .slice (some ⟨bq, oq, none⟩) kk cp, .int .i64 pos] rfl rfl Z8T.out size_ex7 (one7a _ _ _ _ _ _ _ _ _) ?_
                  show wpList _ _ _ [] _ (WO.setCells (w.heap.size + 1) 0 [.string op, .string ⟨#[]⟩, .int .i64 0, .int .i64 0, .string ⟨#[]⟩, .slice (some ⟨bq, oq, none⟩) kk cp, .int .i64 pos])
                  rw [HW9.out]
                  clear fw0 fw1 fw2 fw3 fw4 fw5 fw6 e0 e1 e2 e3 e4 e5 e6
                  go_wp2
                  exact bodyPost_ret (v := .agg #[.string op, .string ⟨#[]⟩, .int .i64 0, .int .i64 0, .string ⟨#[]⟩, .slice (some ⟨bq, oq, none⟩) kk cp, .int .i64 pos]) (by simp [results, Tryz.results6, go_sem, HPB.out.c0, HPB.out.c1, HPB.out.c2, HPB.out.c3, HPB.out.c4, HPB.out.c5, HPB.out.c6]) rfl ⟨⟨_, rfl, UZ.out⟩, HPW.out⟩
end Go.Proofs.YtknibfhoecgjlaaGreatDoor
