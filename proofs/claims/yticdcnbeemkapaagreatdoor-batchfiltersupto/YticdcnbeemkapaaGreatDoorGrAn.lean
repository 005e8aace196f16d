/-
  RowChk, EvOpen, RwO, EvAq, EvDo, in one text.
-/
import Derived.Test.YticdcnbeemkapaaGreatDoorGrAk
import Derived.Test.YticdcnbeemkapaaGreatDoorQEvAp
import Derived.Deep.QuietTactic
import Derived.BigQuiet
import Derived.Deep.SlicePairs
import Derived.Test.YticdcnbeemkapaaGreatDoorRows
import Derived.Deep.Strs
import Derived.Deep.Slices
import Derived.OpenShut
import Derived.Carry
import Derived.ProofKit
namespace Go.Proofs.YticdcnbeemkapaaGreatDoor
open Go.RowKit Go.BigFrame
set_option linter.unusedVariables false

def rcGo : List (ByteArray × Int) → List V3 → Int
  | z :: zs, r :: rs => if chk r.1 r.2.1 r.2.2.data.toList ≠ 0 then chk r.1 r.2.1 r.2.2.data.toList else if r.1 ≠ z.2 then 8 else rcGo zs rs
  | _, _ => 0
/-- The fault of a row of a schema. -/
def rowChk (zs : List (ByteArray × Int)) (rs : List V3) : Int := if schE zs ≠ 0 then schE zs else if rs.length ≠ zs.length then 3 else rcGo zs rs
theorem rcGo_at {zs : List (ByteArray × Int)} {rs : List V3} {k : Nat} (hz : k < zs.length) (hr : k < rs.length) :
    rcGo (zs.drop k) (rs.drop k) = if chk rs[k].1 rs[k].2.1 rs[k].2.2.data.toList ≠ 0 then chk rs[k].1 rs[k].2.1 rs[k].2.2.data.toList else if rs[k].1 ≠ zs[k].2 then 8 else rcGo (zs.drop (k + 1)) (rs.drop (k + 1)) := by
  rw [List.drop_eq_getElem_cons hz, List.drop_eq_getElem_cons hr, rcGo]
set_option maxHeartbeats 4000000 in
theorem rowCheck_v (lv rv : Value) (zs : List (ByteArray × Int)) (rs : List V3) (w : World) (hw : TW w) (hl : ColsV w lv zs) (hr : ValsV w rv rs) (hsz : SizedV rs) :
    Calls Tryz.prog 18 #[lv, rv] w fun e w' => e = .returned (errV (rowChk zs rs)) ∧ Below w.heap.size w w' := by
  have cS := schemaV lv zs w hw hl
  obtain ⟨K, hK⟩ : ∃ K, rowChk zs rs = K := ⟨_, rfl⟩
  rw [hK]
  rw [rowChk] at hK
  by_cases h0 : schE zs = 0
  · rw [if_neg (by simpa using h0)] at hK
    rw [h0, show errV 0 = .nilIface from rfl] at cS
    have hz0 := (schE_zero h0).1
    have hzm := (schE_zero h0).2.1
    obtain ⟨zp, zc, rfl, hzz⟩ := hl
    obtain ⟨rp, rc, rfl, hrm, hrr⟩ := hr
    clear h0
    by_cases hle : rs.length = zs.length
    · rw [if_neg (by simpa using hle)] at hK
      rcases hzz with h | ⟨zb, zo, rfl, _, _, hzi⟩
      · exact absurd h hz0
      · rcases hrr with h | ⟨rb, ro, rfl, hrl, hri⟩
        · exact absurd (hle.symm.trans h) hz0
        · have hlez : (rs.length : Int) = (zs.length : Int) := by omega
          have hqz : ((rs.length : Int) != (zs.length : Int)) = false := by rw [hlez]; simp
          have HK : Hid (rcGo zs rs = K) := hK
          unfold maxLen at hrm
          clear hK
          go_enter Tryz.func18, Tryz.ntmps18
          go_wp2_with fail
          refine cS.mono ?_
          rintro e w0 ⟨rfl, b0⟩
          go_wp2
          go_loopg [6, 7, 8, 22] rs.length (fun gg _ _ _ s22 wr => ∃ kk : Nat, kk ≤ rs.length ∧ rs.length - kk ≤ gg ∧ s22 = .int .i64 kk ∧ Aside (Below w.heap.size w wr) ∧ Hid (K = rcGo (zs.drop kk) (rs.drop kk)))
          case atStart => exact ⟨0, Nat.zero_le _, by omega, rfl, b0, (show Hid _ by simp [Hid, HK.out])⟩
          case round =>
            obtain ⟨kk, hkk, hg, rfl, BW, HS⟩ := hrel
            by_cases hlt : kk < rs.length
            · have hltz : (kk : Int) < (rs.length : Int) := by omega
              have hltz2 : (kk : Int) < (zs.length : Int) := by omega
              have k0 : (0 : Int) ≤ (kk : Int) := by omega
              obtain ⟨c0, c1, c2⟩ := hri kk hlt
              have kR : ∀ o, wr.cell? ⟨rb, o, none⟩ = w.cell? ⟨rb, o, none⟩ := fun o => BW.out.cell (p := ⟨rb, o, none⟩) hrl
              rw [← kR] at c0 c1 c2
              have hrlr : rb < wr.heap.size := by have := BW.out.size; omega
              clear kR
              have hltn : kk < zs.length := by omega
              have HS2 : Hid (K = _) := HS.out.trans (rcGo_at hltn hlt)
              obtain ⟨hs1, hn1⟩ := hsz _ (List.getElem_mem hlt)
              have hzi2 := (hzi.on BW.out)
              obtain ⟨d0, d1⟩ := hzi2.2 kk hltn
              have hzl := hzi2.1
              generalize hy : rs[kk] = y at c0 c1 c2 HS2 hs1 hn1
              generalize hyz : zs[kk] = z at d0 d1 HS2
              obtain ⟨yt, yn, ys⟩ := y
              obtain ⟨zn, zt⟩ := z
              simp only at c0 c1 c2 d0 d1 HS2 hs1 hn1
              have B1 := BW.out.alloc BW.out.size (.cells #[.int .i64 yt, .int .i64 yn, .string ys] 23)
              have cC := check_any yt yn ys (wr.alloc (.cells #[.int .i64 yt, .int .i64 yn, .string ys] 23)) hs1
              obtain ⟨ce, hce⟩ : ∃ ce, chk yt yn ys.data.toList = ce := ⟨_, rfl⟩
              rw [hce] at cC
              have HS3 : Hid (K = if ce ≠ 0 then ce else if yt ≠ zt then 8 else rcGo (zs.drop (kk + 1)) (rs.drop (kk + 1))) := by
                rw [← hce]; exact HS2
              have e1 := errK_neq ce
              have e2 := errK_gneq ce
              clear HS HS2 hy hyz hce hsz
              go_wp2_with fail
              refine cC.mono ?_
              rintro e w1 ⟨rfl, b1⟩
              obtain ⟨hc1, hf1⟩ := bcell b1
              have l1 : wr.heap.size < w1.heap.size := by have := b1.size; simp at this; omega
              have q0 : w1.cell? ⟨wr.heap.size, 0, none⟩ = some (.int .i64 yt) := by
                rw [hc1 _ _ (by simp), World.cell?_alloc_at _ _ _ _ rfl]; rfl
              have g1 : w1.cell? ⟨zb, zo + kk * 2 + 1, none⟩ = some (.int .i64 zt) := by
                rw [hc1 _ _ (by simp; omega), World.cell?_alloc_lt _ _ _ hzl]; exact d1
              have B2 := B1.trans (b1.mono B1.size)
              clear hc1 hf1 b1 cC c0 c1 c2 d0 d1 B1 hzi2
              by_cases hz : ce = 0
              · have hb : (ce != 0) = false := by simpa using hz
                rw [hb] at e1
                by_cases htt : yt = zt
                · have hq : (yt != zt) = false := by simpa using htt
                  have HS4 : Hid (K = rcGo (zs.drop (kk + 1)) (rs.drop (kk + 1))) := by
                    have := HS3.out
                    rwa [if_neg (by simpa using hz), if_neg (by simpa using htt)] at this
                  clear HS3 hz hb htt
                  go_wp2
                  go_quiet (fail)
                  go_wp2
                  go_roundg (rs.length - (kk + 1))
                  case measure => omega
                  case rel => exact ⟨kk + 1, by omega, by omega, by go_num, by repeat (first | exact B2 | apply below_drewN | refine Below.drew ?_), HS4⟩
                · have hq : (yt != zt) = true := by simpa using htt
                  have HS4 : K = 8 := by
                    have := HS3.out
                    rwa [if_neg (by simpa using hz), if_pos htt] at this
                  subst HS4
                  clear HS3 hz hb htt
                  go_wp2
                  go_quiet (fail)
                  go_wp2
                  go_ret
                  exact ⟨rfl, by repeat (first | exact B2 | apply below_drewN | refine Below.drew ?_)⟩
              · have hb : (ce != 0) = true := by simpa using hz
                rw [hb] at e1
                have HS4 : K = ce := by
                  have := HS3.out
                  rwa [if_pos hz] at this
                subst HS4
                clear HS3 hz hb
                go_wp2
                go_ret
                exact ⟨rfl, B2⟩
            · have hltz : ¬ (kk : Int) < (rs.length : Int) := by omega
              have hkz : K = 0 := by
                rw [HS.out, List.drop_eq_nil_of_le (show zs.length ≤ kk by omega)]; rfl
              subst hkz
              clear HS HK
              go_wp2
              go_ret
              exact ⟨rfl, BW.out⟩
    · rw [if_pos hle] at hK
      subst hK
      have hqz : ((rs.length : Int) != (zs.length : Int)) = true := by simp; omega
      clear hle hzz hrr
      go_enter Tryz.func18, Tryz.ntmps18
      go_wp2_with fail
      refine cS.mono ?_
      rintro e w0 ⟨rfl, b0⟩
      go_wp2
      go_ret
      exact ⟨rfl, b0⟩
  · rw [if_pos h0] at hK
    rw [hK] at cS h0
    have HE : Hid (errV K = .iface 42 (.int .i64 K)) := by show errV K = _; rw [errV, if_neg h0]
    clear hK h0 hl hr
    go_enter Tryz.func18, Tryz.ntmps18
    go_wp2_with fail
    refine cS.mono ?_
    rintro e w0 ⟨rfl, b0⟩
    rw [HE.out]
    go_wp2
    go_ret
    exact ⟨by rw [HE.out]; rfl, b0⟩
end Go.Proofs.YticdcnbeemkapaaGreatDoor
namespace Go.Proofs.YticdcnbeemkapaaGreatDoor
open Go.ChangeShapes Go.WideShapes Go.ChangeAt Go.RowKit Go.Deep
set_option linter.unusedVariables false

set_option maxRecDepth 100000 in
theorem open_valsV {H : Type} {enc : TypeId × Value → H} {W : World} {base : Nat} {v : Value} {d : DataW H} {p : List MemPlace} (hv : Value.okWide Tryz.prog W .any base 41 v) (h : DataW.Trod enc Tryz.prog W 0 (fun _ => true) true 41 v d p) :
    ∃ rs, ValsV W v rs ∧ SizedV rs := by
  obtain ⟨a0, len0, cap0, rfl⟩ := okWide_slice Tryz.underlying41 hv
  obtain ⟨fuel, hf⟩ := h
  rcases open_slice Tryz.underlying41 hf with ⟨hcs, hx⟩ | ⟨a, len, cap, m, n, D, Pl, hcs, _, hl, hm, hmeq, hx, hall⟩
  · simp [Value.cells] at hcs
    obtain ⟨rfl, rfl, rfl⟩ := hcs
    exact ⟨[], ⟨_, _, rfl, Nat.zero_le _, .inl rfl⟩, fun r hr => by simp at hr⟩
  · simp [Value.cells] at hcs
    obtain ⟨rfl, rfl, rfl⟩ := hcs
    by_cases h0 : len0 = 0
    · subst h0
      exact ⟨[], ⟨_, _, rfl, Nat.zero_le _, .inl rfl⟩, fun r hr => by simp at hr⟩
    · simp only [if_true] at hmeq
      subst hmeq
      have each : ∀ i, i < len0 → ∃ r : V3, W.cell? (a.add (i * 3)) = some (.int .i64 r.1) ∧ W.cell? (a.add (i * 3 + 1)) = some (.int .i64 r.2.1) ∧ W.cell? (a.add (i * 3 + 2)) = some (.string r.2.2) ∧ r.2.2.size ≤ maxLen ∧ (-9223372036854775808 ≤ r.2.1 ∧ r.2.1 ≤ 9223372036854775807) := by
        intro i hi
        obtain ⟨cs', h1, h2⟩ := hall i (by omega)
        rw [cellsVl] at h1
        obtain ⟨_, hlen, hcell⟩ := World.cells?_some h1
        obtain ⟨y0, y1, y2, k, _, _, t0, t1, t2⟩ := trod_struct3 Tryz.underlying23 h2
        match cs', hlen with
        | [v0, v1, v2], _ =>
          simp [cellsInt, cellsStr] at t0 t1 t2
          obtain ⟨x0, e0, _, _⟩ := DataW.trod_int Tryz.underlying3 t0
          obtain ⟨x1, e1, _, w1⟩ := DataW.trod_int Tryz.underlying3 t1
          obtain ⟨x2, e2, _, hs⟩ := DataW.trod_string Tryz.underlying9 t2
          simp at e0 e1 e2
          subst e0 e1 e2
          have g0 := hcell 0 (by omega)
          have g1 := hcell 1 (by omega)
          have g2 := hcell 2 (by omega)
          rw [add_add] at g0 g1 g2
          exact ⟨(x0, x1, x2), by simpa using g0, by simpa using g1, by simpa using g2, hs, int_bd w1⟩
      obtain ⟨f, hF⟩ := choose_lt (α := V3) each
      obtain ⟨sb, so, spot⟩ := a
      have hspot : spot = none := by simpa [Addr.add] using World.cell?_spot (hF 0 (by omega)).1
      subst hspot
      have hlen : ((List.range len0).map f).length = len0 := by simp
      refine ⟨(List.range len0).map f, ⟨_, _, by rw [hlen], by omega, .inr ⟨sb, so, rfl, ?_, ?_⟩⟩, ?_⟩
      · have := (hF 0 (by omega)).1
        exact cell_lt' (o := so + 0 * 3) (by simpa [add_plain] using this)
      · intro j hj
        obtain ⟨c0, c1, c2, _, _⟩ := hF j (by omega)
        simp only [List.getElem_map, List.getElem_range]
        rw [add_plain] at c0 c1 c2
        exact ⟨c0, by rw [Nat.add_assoc]; exact c1, by rw [Nat.add_assoc]; exact c2⟩
      · intro r hr
        obtain ⟨i, hi, rfl⟩ := List.mem_map.1 hr
        obtain ⟨_, _, _, h1, h2⟩ := hF i (List.mem_range.1 hi)
        exact ⟨h1, h2⟩
end Go.Proofs.YticdcnbeemkapaaGreatDoor
namespace Go.Proofs.YticdcnbeemkapaaGreatDoor
open Go.ChangeShapes Go.WideShapes Go.ChangeAt Go.RowKit Go.Deep
set_option linter.unusedVariables false

/-- Rows of values. -/
def RowsB (w : World) (p : Option Addr) (rws : List (List V3)) : Prop := rws.length = 0 ∨ ∃ b off, p = some ⟨b, off, none⟩ ∧ b < w.heap.size ∧ ∀ j (h : j < rws.length), ∃ q c, w.cell? ⟨b, off + j, none⟩ = some (.slice q rws[j].length c) ∧ ValsAt w q rws[j] ∧ (rws[j].length = 0 ∨ ∀ g o, q = some ⟨g, o, none⟩ → g < w.heap.size)
theorem RowsB.on {w w' : World} {p : Option Addr} {rws : List (List V3)} (h : RowsB w p rws) (hb : Below w.heap.size w w') : RowsB w' p rws := by
  rcases h with h | ⟨b, off, e, hl, h⟩
  · exact .inl h
  · have := hb.size
    refine .inr ⟨b, off, e, by omega, fun j hj => ?_⟩
    obtain ⟨q, c, h1, h2, h3⟩ := h j hj
    refine ⟨q, c, by rw [hb.cell (p := ⟨b, _, none⟩) hl]; exact h1, h2.on hb, ?_⟩
    rcases h3 with h3 | h3
    · exact .inl h3
    · exact .inr fun g o e => by have := h3 g o e; omega
/-- Rows that are handed in. -/
def RowsV (w : World) (v : Value) (rws : List (List V3)) : Prop := ∃ q c, v = .slice q rws.length c ∧ rws.length ≤ maxLen ∧ RowsB w q rws ∧ ∀ r ∈ rws, SizedV r ∧ r.length ≤ maxLen
theorem RowsV.on {w w' : World} {v : Value} {rws : List (List V3)} (h : RowsV w v rws) (hb : Below w.heap.size w w') : RowsV w' v rws := by
  obtain ⟨q, c, e, h1, h2, h3⟩ := h
  exact ⟨q, c, e, h1, h2.on hb, h3⟩
namespace rwO
theorem cellsI : Tryz.prog.cellsOf 3 = 1 := by kernel_rfl
theorem cellsS : Tryz.prog.cellsOf 9 = 1 := by kernel_rfl
theorem cellsV : Tryz.prog.cellsOf 23 = 3 := by kernel_rfl
theorem cellsSV : Tryz.prog.cellsOf 41 = 1 := by kernel_rfl
theorem int_in {x : Int} (h : (Lit.int .i64 x).wf = true) : inB x := by
  simpa [inB, Lit.wf, IntKind.min, IntKind.max, IntKind.signed, IntKind.bits] using h
theorem lt_of_cell {w : World} {b o : Nat} {v : Value} (h : w.cell? ⟨b, o, none⟩ = some v) : b < w.heap.size := by
  rcases Nat.lt_or_ge b w.heap.size with h' | h'
  · exact h'
  · simp [World.cell?, Array.getElem?_eq_none h'] at h
set_option maxRecDepth 100000 in
/-- Values. -/
theorem vals {H : Type} {enc : TypeId × Value → H} {W : World} {fuel : Nat} {cs : List Value} {x : DataW H × List MemPlace} (hf : DataW.trod enc Tryz.prog W 0 (fun _ => true) true fuel 41 cs = some x) :
    ∃ q vs c, cs = [.slice q vs.length c] ∧ vs.length ≤ maxLen ∧ ValsAt W q vs ∧ SizedV vs ∧ (vs.length = 0 ∨ ∀ g o, q = some ⟨g, o, none⟩ → g < W.heap.size) := by
  rcases open_slice Tryz.underlying41 hf with ⟨rfl, hx⟩ | ⟨a, len, cap, m, n, D, Pl, rfl, _, hl, hm, hmeq, hx, hall⟩
  · exact ⟨none, [], 0, rfl, Nat.zero_le _, .inl rfl, fun r hr => by simp at hr, .inl rfl⟩
  · simp only [if_true] at hmeq
    subst hmeq
    have each : ∀ i, i < len → ∃ r : Int × Int × ByteArray, W.cell? (a.add (i * 3)) = some (.int .i64 r.1) ∧ W.cell? (a.add (i * 3 + 1)) = some (.int .i64 r.2.1) ∧ W.cell? (a.add (i * 3 + 2)) = some (.string r.2.2) ∧ r.2.2.size ≤ maxLen ∧ inB r.2.1 := by
      intro i hi
      obtain ⟨cs', h1, h2⟩ := hall i (by omega)
      rw [cellsV] at h1
      obtain ⟨_, hlen, hcell⟩ := World.cells?_some h1
      obtain ⟨y0, y1, y2, k, _, _, t0, t1, t2⟩ := trod_struct3 Tryz.underlying23 h2
      match cs', hlen with
      | [v0, v1, v2], _ =>
        simp [cellsI, cellsS] at t0 t1 t2
        obtain ⟨x0, e0, _, _⟩ := DataW.trod_int Tryz.underlying3 t0
        obtain ⟨x1, e1, _, w1⟩ := DataW.trod_int Tryz.underlying3 t1
        obtain ⟨x2, e2, _, hs⟩ := DataW.trod_string Tryz.underlying9 t2
        simp at e0 e1 e2
        subst e0 e1 e2
        have g0 := hcell 0 (by omega)
        have g1 := hcell 1 (by omega)
        have g2 := hcell 2 (by omega)
        rw [add_add] at g0 g1 g2
        exact ⟨(x0, x1, x2), by simpa using g0, by simpa using g1, by simpa using g2, hs, int_in w1⟩
    obtain ⟨f, hF⟩ := choose_lt (α := Int × Int × ByteArray) each
    have hlen : ((List.range len).map f).length = len := by simp
    have hsz : SizedV ((List.range len).map f) := fun r hr => by
      obtain ⟨i, hi, rfl⟩ := List.mem_map.1 hr
      obtain ⟨_, _, _, h4, h5⟩ := hF i (List.mem_range.1 hi)
      exact ⟨h4, h5⟩
    by_cases h0 : len = 0
    · exact ⟨some a, (List.range len).map f, _, by rw [hlen], by omega, .inl (by omega), hsz, .inl (by omega)⟩
    · obtain ⟨sb, so, spot⟩ := a
      have hspot : spot = none := by simpa [Addr.add] using World.cell?_spot (hF 0 (by omega)).1
      subst hspot
      have hlt : sb < W.heap.size := by
        have := (hF 0 (by omega)).1
        exact lt_of_cell (o := so + 0 * 3) (by simpa [add_plain] using this)
      refine ⟨_, (List.range len).map f, _, by rw [hlen], by omega, .inr ⟨sb, so, rfl, hlt, fun j hj => ?_⟩, hsz, .inr fun g o e => ?_⟩
      · obtain ⟨c0, c1, c2, _, _⟩ := hF j (by omega)
        simp only [List.getElem_map, List.getElem_range]
        rw [add_plain] at c0 c1 c2
        exact ⟨c0, by rw [Nat.add_assoc]; exact c1, by rw [Nat.add_assoc]; exact c2⟩
      · injection e with e
        injection e with e
        omega
instance : Inhabited (List V3) := ⟨[]⟩
set_option maxRecDepth 100000 in
/-- Rows of values. -/
theorem rows {H : Type} {enc : TypeId × Value → H} {W : World} {fuel : Nat} {cs : List Value} {x : DataW H × List MemPlace} (hf : DataW.trod enc Tryz.prog W 0 (fun _ => true) true fuel 28 cs = some x) :
    ∃ q rws c, cs = [.slice q rws.length c] ∧ rws.length ≤ maxLen ∧ RowsB W q rws ∧ ∀ r ∈ rws, SizedV r ∧ r.length ≤ maxLen := by
  rcases open_slice Tryz.underlying28 hf with ⟨rfl, hx⟩ | ⟨a, len, cap, m, n, D, Pl, rfl, _, hl, hm, hmeq, hx, hall⟩
  · exact ⟨none, [], 0, rfl, Nat.zero_le _, .inl rfl, fun t ht => by cases ht⟩
  · simp only [if_true] at hmeq
    subst hmeq
    have each : ∀ i, i < len → ∃ r : List V3, (∃ q c, W.cell? (a.add (i * 1)) = some (.slice q r.length c) ∧ ValsAt W q r ∧ (r.length = 0 ∨ ∀ g o, q = some ⟨g, o, none⟩ → g < W.heap.size)) ∧ SizedV r ∧ r.length ≤ maxLen := by
      intro i hi
      obtain ⟨cs', h1, h2⟩ := hall i (by omega)
      rw [cellsSV] at h1
      obtain ⟨_, hlen, hcell⟩ := World.cells?_some h1
      obtain ⟨q, vs, c, rfl, k1, k2, k3, k4⟩ := vals h2
      have g0 := hcell 0 (by omega)
      rw [add_add] at g0
      exact ⟨vs, ⟨q, c, by simpa using g0, k2, k4⟩, k3, k1⟩
    obtain ⟨f, hF⟩ := choose_lt (α := List V3) each
    have hlen : ((List.range len).map f).length = len := by simp
    refine ⟨some a, (List.range len).map f, _, by rw [hlen], by omega, ?_, fun t ht => ?_⟩
    · by_cases h0 : len = 0
      · exact .inl (by omega)
      · obtain ⟨sb, so, spot⟩ := a
        obtain ⟨⟨_, _, z0, _⟩, _⟩ := hF 0 (by omega)
        have hspot : spot = none := by simpa [Addr.add] using World.cell?_spot z0
        subst hspot
        refine .inr ⟨sb, so, rfl, ?_, fun j hj => ?_⟩
        · exact lt_of_cell (o := so + 0 * 1) (by simpa [add_plain] using z0)
        · obtain ⟨⟨q, c, z1, z2, z3⟩, _⟩ := hF j (by simpa using hj)
          refine ⟨q, c, ?_, ?_, ?_⟩
          · simp only [List.getElem_map, List.getElem_range]
            simpa [add_plain] using z1
          · simp only [List.getElem_map, List.getElem_range]
            exact z2
          · simp only [List.getElem_map, List.getElem_range]
            exact z3
    · obtain ⟨i, hi, rfl⟩ := List.mem_map.1 ht
      exact (hF i (List.mem_range.1 hi)).2
end rwO
set_option maxRecDepth 100000 in
theorem open_rowsV {H : Type} {enc : TypeId × Value → H} {W : World} {base : Nat} {v : Value} {d : DataW H} {p : List MemPlace} (hv : Value.okWide Tryz.prog W .any base 28 v) (h : DataW.Trod enc Tryz.prog W 0 (fun _ => true) true 28 v d p) : ∃ rws, RowsV W v rws := by
  obtain ⟨a0, len0, cap0, rfl⟩ := okWide_slice Tryz.underlying28 hv
  obtain ⟨f, hf⟩ := h
  obtain ⟨q, rws, c, e, h1, h2, h3⟩ := rwO.rows hf
  simp [Value.cells] at e
  obtain ⟨rfl, rfl, rfl⟩ := e
  exact ⟨rws, _, _, rfl, h1, h2, h3⟩
end Go.Proofs.YticdcnbeemkapaaGreatDoor
namespace Go.Proofs.YticdcnbeemkapaaGreatDoor
open Go.RowKit
set_option linter.unusedVariables false

theorem one_of {w : World} {b off j : Nat} {vs : List V3} (h : ∀ j (h : j < vs.length), w.cell? ⟨b, off + j * 3, none⟩ = some (.int .i64 vs[j].1) ∧ w.cell? ⟨b, off + j * 3 + 1, none⟩ = some (.int .i64 vs[j].2.1) ∧ w.cell? ⟨b, off + j * 3 + 2, none⟩ = some (.string vs[j].2.2)) (hj : j < vs.length) (o : Nat) (ho : o = off + j * 3) : One w b o vs[j].1 vs[j].2.1 vs[j].2.2 := by
  subst ho
  exact h j hj
theorem app_any (op : ByteArray) (p : Option Addr) (c N : Nat) (vs : List V3) (w : World) (hN : vs.length = N) (hvs : ValsAt w p vs) (hv : ∀ v ∈ vs, chk v.1 v.2.1 v.2.2.data.toList = 0) (hb : ∀ v ∈ vs, v.2.2.size ≤ maxLen ∧ inB v.2.1) (T : Int) (hr : ruleP op.data.toList (vs.map (·.1)) = (T, 0)) (t k : Int) (s : ByteArray) (e : Int) (hR : appP op.data.toList vs = ((t, k, s), e)) :
    Calls Tryz.prog 69 #[.string op, .slice p N c] w fun e' w' => e' = .returned (.tuple #[.agg #[.int .i64 t, .int .i64 k, .string s], errV e]) ∧ Below w.heap.size w w' := by
  obtain ⟨r, hf, hlen, hall, hT⟩ := ruleP_in hr
  rw [List.length_map] at hlen
  obtain ⟨hm, he⟩ := kdFind_mem hf
  have h1 := (kdCnt_ok r hm).1
  rcases hvs with h | ⟨b, off, rfl, hbl, hc⟩
  · omega
  obtain ⟨⟨l⟩⟩ := op
  simp only at he
  subst he
  clear hr hf h1
  simp only [kdRules, List.mem_cons, List.not_mem_nil, or_false] at hm
  have len1 : ∀ {l : List V3}, l.length = 1 → ∃ a, l = [a] := fun {l} h => by
    match l, h with
    | [a], _ => exact ⟨a, rfl⟩
  have len2 : ∀ {l : List V3}, l.length = 2 → ∃ a b, l = [a, b] := fun {l} h => by
    match l, h with
    | [a, b], _ => exact ⟨a, b, rfl⟩
  have len3 : ∀ {l : List V3}, l.length = 3 → ∃ a b c, l = [a, b, c] := fun {l} h => by
    match l, h with
    | [a, b, c], _ => exact ⟨a, b, c, rfl⟩
  have five : ∀ (op : ByteArray) (x y : V3), vs = [x, y] → ops5.contains op.data.toList = true → rkV op.data.toList x.2.1 y.2.1 = ((t, k, s), e) → Calls Tryz.prog 69 #[.string op, .slice (some ⟨b, off, none⟩) N c] w fun e' w' => e' = .returned (.tuple #[.agg #[.int .i64 t, .int .i64 k, .string s], errV e]) ∧ Below w.heap.size w w' := fun op x y hxy ho hR2 => by
    subst hxy
    exact app_five op b off c N (by rw [← hN]; exact Nat.le_refl _) _ _ _ _ _ _ w hbl (one_of hc (j := 0) (by simp) off (by omega)) (one_of hc (j := 1) (by simp) (off + 3) (by omega)) (hb x (by simp)).2 (hb y (by simp)).2 ho t k s e hR2
  have cmps : ∀ (op : ByteArray) (x y : V3), vs = [x, y] → (op = ⟨#[61]⟩ ∨ op = ⟨#[60, 62]⟩ ∨ op = ⟨#[60]⟩ ∨ op = ⟨#[60, 61]⟩ ∨ op = ⟨#[62]⟩ ∨ op = ⟨#[62, 61]⟩) → cmpV op.data.toList x y = ((t, k, s), e) → Calls Tryz.prog 69 #[.string op, .slice (some ⟨b, off, none⟩) N c] w fun e' w' => e' = .returned (.tuple #[.agg #[.int .i64 t, .int .i64 k, .string s], errV e]) ∧ Below w.heap.size w w' := fun op x y hxy ho hR2 => by
    subst hxy
    exact app_cmp op b off c N (by rw [← hN]; exact Nat.le_refl _) _ _ _ _ _ _ w hbl (one_of hc (j := 0) (by simp) off (by omega)) (one_of hc (j := 1) (by simp) (off + 3) (by omega)) (hb x (by simp)).1 (hb y (by simp)).1 ho t k s e hR2
  rcases hm with rfl | rfl | rfl | rfl | rfl | rfl | rfl | rfl | rfl | rfl | rfl | rfl | rfl | rfl | rfl | rfl | rfl
  · obtain ⟨x, y, rfl⟩ := len2 hlen
    replace hR : (truP (isY x || isY y), (0 : Int)) = ((t, k, s), e) := hR
    simp only [truP, Prod.mk.injEq] at hR
    obtain ⟨⟨rfl, hk, rfl⟩, rfl⟩ := hR
    exact app_or b off c N (by rw [← hN]; exact Nat.le_refl _) _ _ _ _ _ _ w hbl (one_of hc (j := 0) (by simp) off (by omega)) (one_of hc (j := 1) (by simp) (off + 3) (by omega)) k hk
  · obtain ⟨x, y, rfl⟩ := len2 hlen
    replace hR : (truP (isY x && isY y), (0 : Int)) = ((t, k, s), e) := hR
    simp only [truP, Prod.mk.injEq] at hR
    obtain ⟨⟨rfl, hk, rfl⟩, rfl⟩ := hR
    exact app_and b off c N (by rw [← hN]; exact Nat.le_refl _) _ _ _ _ _ _ w hbl (one_of hc (j := 0) (by simp) off (by omega)) (one_of hc (j := 1) (by simp) (off + 3) (by omega)) k hk
  · obtain ⟨x, rfl⟩ := len1 hlen
    replace hR : (truP (!isY x), (0 : Int)) = ((t, k, s), e) := hR
    simp only [truP, Prod.mk.injEq] at hR
    obtain ⟨⟨rfl, hk, rfl⟩, rfl⟩ := hR
    exact app_not b off c N (by rw [← hN]; exact Nat.le_refl _) _ _ _ w hbl (one_of hc (j := 0) (by simp) off (by omega)) k hk
  · obtain ⟨x, y, h⟩ := len2 hlen
    exact cmps ⟨#[61]⟩ x y h (by simp) (by subst h; exact hR)
  · obtain ⟨x, y, h⟩ := len2 hlen
    exact cmps ⟨#[60, 62]⟩ x y h (by simp) (by subst h; exact hR)
  · obtain ⟨x, y, h⟩ := len2 hlen
    exact cmps ⟨#[60]⟩ x y h (by simp) (by subst h; exact hR)
  · obtain ⟨x, y, h⟩ := len2 hlen
    exact cmps ⟨#[60, 61]⟩ x y h (by simp) (by subst h; exact hR)
  · obtain ⟨x, y, h⟩ := len2 hlen
    exact cmps ⟨#[62]⟩ x y h (by simp) (by subst h; exact hR)
  · obtain ⟨x, y, h⟩ := len2 hlen
    exact cmps ⟨#[62, 61]⟩ x y h (by simp) (by subst h; exact hR)
  · obtain ⟨x, y, h⟩ := len2 hlen
    exact five ⟨#[43]⟩ x y h (by decide) (by subst h; exact hR)
  · obtain ⟨x, y, h⟩ := len2 hlen
    exact five ⟨#[45]⟩ x y h (by decide) (by subst h; exact hR)
  · obtain ⟨x, y, h⟩ := len2 hlen
    exact five ⟨#[42]⟩ x y h (by decide) (by subst h; exact hR)
  · obtain ⟨x, y, h⟩ := len2 hlen
    exact five ⟨#[47]⟩ x y h (by decide) (by subst h; exact hR)
  · obtain ⟨x, y, h⟩ := len2 hlen
    exact five ⟨#[37]⟩ x y h (by decide) (by subst h; exact hR)
  · obtain ⟨x, rfl⟩ := len1 hlen
    exact app_neg b off c N (by rw [← hN]; exact Nat.le_refl _) _ _ _ w hbl (one_of hc (j := 0) (by simp) off (by omega)) (hb x (by simp)).2 t k s e hR
  · obtain ⟨x, rfl⟩ := len1 hlen
    replace hR : (((1 : Int), (x.2.2.size : Int), (⟨#[]⟩ : ByteArray)), (0 : Int)) = ((t, k, s), e) := hR
    simp only [Prod.mk.injEq] at hR
    obtain ⟨⟨rfl, rfl, rfl⟩, rfl⟩ := hR
    exact app_len b off c N (by rw [← hN]; exact Nat.le_refl _) _ _ _ w hbl (one_of hc (j := 0) (by simp) off (by omega))
  · obtain ⟨x, y, z, rfl⟩ := len3 hlen
    replace hR : (if isY x = true then y else z, (0 : Int)) = ((t, k, s), e) := hR
    have cI := app_if b off c N (by rw [← hN]; exact Nat.le_refl _) _ _ _ _ _ _ _ _ _ w hbl (one_of hc (j := 0) (by simp) off (by omega)) (one_of hc (j := 1) (by simp) (off + 3) (by omega)) (one_of hc (j := 2) (by simp) (off + 6) (by omega))
    refine cI.mono fun e' w' h => ⟨?_, h.2⟩
    rw [h.1]
    obtain ⟨hyz, rfl⟩ := Prod.mk.inj hR
    unfold isY at hyz
    simp only [List.getElem_cons_zero, List.getElem_cons_succ]
    split at hyz
    · rename_i hbb
      subst hyz
      rw [if_pos hbb]
      rfl
    · rename_i hbb
      subst hyz
      rw [if_neg hbb]
      rfl
end Go.Proofs.YticdcnbeemkapaaGreatDoor
namespace Go.Proofs.YticdcnbeemkapaaGreatDoor
open Go.RowKit Go.BigFrame
set_option linter.unusedVariables false

theorem vlE_at {vs : List V3} {k : Nat} (h : k < vs.length) : vlE (vs.drop k) = if chk vs[k].1 vs[k].2.1 vs[k].2.2.data.toList ≠ 0 then chk vs[k].1 vs[k].2.1 vs[k].2.2.data.toList else vlE (vs.drop (k + 1)) := by
  rw [List.drop_eq_getElem_cons h, vlE]
theorem map_take {vs : List V3} {k : Nat} (h : k < vs.length) : (vs.take k).map (·.1) ++ [vs[k].1] = (vs.take (k + 1)).map (·.1) := by
  rw [List.take_add_one, List.getElem?_eq_getElem h, List.map_append]
  rfl
set_option maxHeartbeats 8000000 in
set_option maxRecDepth 20000 in
theorem do_any (op : ByteArray) (p : Option Addr) (c N : Nat) (vs : List V3) (w : World) (henv : REnv w) (hN : vs.length = N) (hl : N ≤ 1048576) (hvs : ValsAt w p vs) (hsz : ∀ v ∈ vs, v.2.2.size ≤ maxLen ∧ inB v.2.1) (T K : Int) (S : ByteArray) (E : Int) (hR : doP op.data.toList vs = ((T, K, S), E)) :
    Calls Tryz.prog 39 #[.string op, .slice p N c] w fun e w' => e = .returned (.tuple #[.agg #[.int .i64 T, .int .i64 K, .string S], errV E]) ∧ Below w.heap.size w w' := by
  obtain ⟨i0, hi, hz0, hz1, hzz⟩ := info_parts info_int
  obtain ⟨b1, box⟩ := box_res w
  have HEN : Aside (REnv w) := henv
  have HVS : Aside (ValsAt w p vs) := hvs
  have HSZ : Aside (∀ v ∈ vs, v.2.2.size ≤ maxLen ∧ inB v.2.1) := hsz
  have HR : Hid (doP op.data.toList vs = ((T, K, S), E)) := hR
  have HN : Hid (vs.length = N) := hN
  have BOX : Hid (∀ W, Below (w.heap.size + 1) (w.alloc (.cells #[.int .i64 0, .int .i64 0, .string ⟨#[]⟩] 23)) W → (W.cell? ⟨w.heap.size, 0, none⟩ = some (.int .i64 0) ∧ W.cell? ⟨w.heap.size, 1, none⟩ = some (.int .i64 0) ∧ W.cell? ⟨w.heap.size, 2, none⟩ = some (.string ⟨#[]⟩) ∧ (∀ o, W.frozen? ⟨w.heap.size, o, none⟩ = false) ∧ w.heap.size < W.heap.size) ∧ Below w.heap.size w W) := box
  have hNz : (N : Int) ≤ 1048576 := by omega
  clear henv hvs hsz hR box hN b1
  go_enter Tryz.func39, Tryz.ntmps39
  go_wp2
  go_loopg [6, 8, 9, 16] N (fun gg s6 _ _ s16 wr => ∃ (kk : Nat) (acc : List Int) (q : Option Addr) (cp : Nat), kk ≤ N ∧ N - kk ≤ gg ∧ s16 = .int .i64 kk ∧ s6 = .slice q kk cp ∧ Aside (wr.ownsRow (w.heap.size + 1) 3 1 (.slice q kk cp) kk (acc.map fun t => .int .i64 t)) ∧ Aside (Below (w.heap.size + 1) (w.alloc (.cells #[.int .i64 0, .int .i64 0, .string ⟨#[]⟩] 23)) wr) ∧ Hid (vlE (vs.drop kk) = vlE vs ∧ acc = (vs.take kk).map (·.1)))
  case atStart => exact ⟨0, [], none, 0, Nat.zero_le _, by omega, rfl, rfl, (show Aside _ from ⟨rfl, .inl ⟨rfl, rfl⟩⟩), (show Aside _ from Below.refl _ _), (show Hid _ from ⟨rfl, rfl⟩)⟩
  case round =>
    obtain ⟨kk, acc, q, cp, hkk, hg, rfl, rfl, OW, BW, HG⟩ := hrel
    obtain ⟨⟨f0, f1, f2, ff, hl0⟩, bwr⟩ := BOX.out wr BW.out
    by_cases hlt : kk < N
    · have hltz : (kk : Int) < (N : Int) := by omega
      have h0z : (0 : Int) ≤ (kk : Int) := by omega
      have hk2 : kk < vs.length := by rw [HN.out]; exact hlt
      rcases HVS.out.on bwr with h | ⟨b, off, rfl, hbl, hc⟩
      · exact absurd h (by omega)
      obtain ⟨e0, e1, e2⟩ := hc kk hk2
      have hat := vlE_at hk2
      rw [HG.out.1] at hat
      have hszk := (HSZ.out _ (List.getElem_mem hk2)).1
      have hmt := map_take hk2
      generalize hve : vs[kk] = ve at e0 e1 e2 hat hszk hmt
      obtain ⟨t, n, s⟩ := ve
      simp only at e0 e1 e2 hat hszk hmt
      have HAT : Hid (vlE vs = if chk t n s.data.toList ≠ 0 then chk t n s.data.toList else vlE (vs.drop (kk + 1))) := hat
      have HMT : Hid (acc ++ [t] = (vs.take (kk + 1)).map (·.1)) := by rw [HG.out.2]; exact hmt
      have HKL : Hid (kk < N) := hlt
      clear hc hat hmt hk2 hve
      by_cases hck : chk t n s.data.toList = 0
      · have cC := check_ok t n s (wr.alloc (.cells #[.int .i64 t, .int .i64 n, .string s] 23)) hszk hck
        have HG2 : Hid (vlE (vs.drop (kk + 1)) = vlE vs ∧ acc ++ [t] = (vs.take (kk + 1)).map (·.1)) := by
          have h := HAT.out
          rw [if_neg (fun hh => hh hck)] at h
          exact ⟨h.symm, HMT.out⟩
        clear HAT HG hck
        go_wp2_with fail
        refine cC.mono ?_
        rintro e w4 ⟨rfl, b4⟩
        have hz4 : wr.heap.size + 1 ≤ w4.heap.size := by have := b4.size; simpa using this
        have hzr : w.heap.size + 1 ≤ wr.heap.size := hl0
        obtain ⟨k1, k2, hl1⟩ := box_at wr _ _ b4 (by simp)
        have g0 : w4.cell? ⟨wr.heap.size, 0, none⟩ = some (.int .i64 t) := k1 0
        have b5 : Below (w.heap.size + 1) wr w4 := ((Below.refl _ wr).alloc (by omega) _).trans (b4.mono (by simp; omega))
        have OW4 := own_but (OW.out.alloc (.cells #[.int .i64 t, .int .i64 n, .string s] 23)) (But.of_below' (r := 0) b4 (Nat.zero_le _)) (by omega)
        have BW5 : Aside (Below (w.heap.size + 1) (w.alloc (.cells #[.int .i64 0, .int .i64 0, .string ⟨#[]⟩] 23)) w4) := BW.out.trans b5
        clear cC b4 e0 e1 e2 OW k1 b5
        go_wp2_with (at_builtin; refine wpList_append_own _ rfl _ _ 77 rfl (w.heap.size + 1) 3 i0 (.int .i64 0) 1 8 Tryz.underlying77 hi hz0 hz1 hzz rfl (by decide) _ _ _ rfl (OW4.alloc _) ⟨w4.heap.size, 0, none⟩ 1 1 [.int .i64 t] rfl rfl ?c1 ?c2 ?c3 ?c4 ?c5 ?_)
        case c1 =>
          intro i u hu
          rw [Go.WideShapes.add_plain, World.cell?_alloc_at _ _ _ _ (by simp)]
          simpa using hu
        case c2 =>
          intro u hu
          simp at hu
          subst hu; rfl
        case c3 => simp [maxLen]; omega
        case c4 => omega
        case c5 => simp; omega
        · intro v' w5 hown' hgrow _
          have hlo3 : ∀ j, (Value.slice q kk cp).ownBlock = some j → w.heap.size + 1 ≤ j := fun j hj => (OW4.lt j hj).1
          have bg : Below (w.heap.size + 1) w4 w5 := ((Below.refl _ _).alloc (by omega) _).grown hgrow (by simp; omega) hlo3
          have BW6 : Aside (Below (w.heap.size + 1) (w.alloc (.cells #[.int .i64 0, .int .i64 0, .string ⟨#[]⟩] 23)) w5) := BW5.out.trans bg
          obtain ⟨q5, c5, rfl⟩ := lown_slice hown'
          have ow6 : w5.ownsRow (w.heap.size + 1) 3 1 (.slice q5 (kk + 1) c5) (kk + 1) ((acc ++ [t]).map fun t => .int .i64 t) := by rw [List.map_append]; exact hown'
          clear hown' hgrow OW4 bg BW5
          go_wp2
          go_roundg (N - (kk + 1))
          case measure => have := HKL.out; omega
          case rel => exact ⟨kk + 1, acc ++ [t], q5, c5, by have := HKL.out; omega, by omega, by go_num, rfl, (show Aside _ from ow6), BW6, HG2⟩
      · have cC := check_bad t n s (wr.alloc (.cells #[.int .i64 t, .int .i64 n, .string s] 23)) hszk hck
        have hfin := HR.out
        have hat := HAT.out
        rw [if_pos hck] at hat
        unfold doP at hfin
        rw [if_pos (by rw [hat]; exact hck), hat] at hfin
        simp only [noV, Prod.mk.injEq] at hfin
        obtain ⟨⟨rfl, rfl, rfl⟩, rfl⟩ := hfin
        have HCK : Hid (chk t n s.data.toList ≠ 0) := hck
        clear hat HAT hck HR
        go_wp2_with fail
        refine cC.mono ?_
        rintro e w4 ⟨rfl, b4⟩
        have b5 : Below (w.heap.size + 1) wr w4 := ((Below.refl _ wr).alloc (by omega) _).trans (b4.mono (by simp; omega))
        obtain ⟨⟨f0, f1, f2, ff, hl4⟩, b6⟩ := BOX.out w4 (BW.out.trans b5)
        clear cC b4 e0 e1 e2 b5
        go_wp2
        refine bodyPost_ret (v := .tuple #[.agg #[.int .i64 0, .int .i64 0, .string ⟨#[]⟩], .iface 42 (.int .i64 (chk t n s.data.toList))]) (by simp [results, Tryz.results39, go_sem, World.cell?_setCell_other, World.cell?_setCell_same, f0, f1, f2]) rfl ⟨by rw [errV, if_neg HCK.out], ?_⟩
        exact below3 b6 (Nat.le_refl _) _ _ _
    · have hltz : ¬ (kk : Int) < (N : Int) := by omega
      have hkN : kk = N := by omega
      subst hkN
      have hacc : acc = vs.map (·.1) := by rw [HG.out.2, List.take_of_length_le (by rw [HN.out]; exact Nat.le_refl _)]
      have hvz : vlE vs = 0 := by rw [← HG.out.1, List.drop_eq_nil_of_le (by rw [HN.out]; exact Nat.le_refl _)]; rfl
      have hla : acc.length = kk := by rw [hacc, List.length_map]; exact HN.out
      obtain ⟨RT, RE, hrr⟩ : ∃ RT RE, ruleP op.data.toList acc = (RT, RE) := ⟨_, _, rfl⟩
      have cR := rule_any op q cp kk acc wr (HEN.out.on bwr) hla (by omega) (ownInts hla OW.out) RT RE hrr
      have hfin := HR.out
      unfold doP at hfin
      rw [if_neg (fun hh => hh hvz), ← hacc, hrr] at hfin
      simp only at hfin
      by_cases hE : RE = 0
      · subst hE
        rw [if_neg (by simp)] at hfin
        rw [show errV 0 = .nilIface from rfl] at cR
        rw [hacc] at hrr
        have cA := fun W (hb : Below w.heap.size w W) => app_any op p c kk vs W HN.out (HVS.out.on hb) (vlE_zero.1 hvz) HSZ.out RT hrr T K S E hfin
        have hS : S.size ≤ 40 := by
          rcases app_comes (vlE_zero.1 hvz) (fun v hv => (HSZ.out v hv).2) hrr with h | h
          · rw [hfin] at h
            have := chk_size h.2.2.1
            simpa using this
          · rw [hfin] at h
            simp only [noV, Prod.mk.injEq] at h
            rw [h.1.2.2]
            decide
        have cF := fresh_any T K S
        clear hacc hvz hla hrr HR HG OW hfin HVS HSZ HN HEN
        go_wp2_with fail
        refine cR.mono ?_
        rintro e w4 ⟨rfl, b4⟩
        have B4 : Below (w.heap.size + 1) (w.alloc (.cells #[.int .i64 0, .int .i64 0, .string ⟨#[]⟩] 23)) w4 := BW.out.trans (b4.mono hl0)
        have cA4 := cA w4 (BOX.out w4 B4).2
        clear cR cA b4
        go_wp2_with fail
        refine cA4.mono ?_
        rintro e w5 ⟨rfl, b5⟩
        have B5 := B4.trans (b5.mono (BOX.out w4 B4).1.2.2.2.2)
        have B6 := B5.alloc (BOX.out w5 B5).1.2.2.2.2 (.cells #[.int .i64 T, .int .i64 K, .string S] 23)
        have cF6 := cF (w5.alloc (.cells #[.int .i64 T, .int .i64 K, .string S] 23)) hS
        have hl5 := (BOX.out w5 B5).1.2.2.2.2
        clear cA4 cF b5
        go_wp2_with fail
        refine cF6.mono ?_
        rintro e w7 ⟨rfl, b7⟩
        obtain ⟨⟨f0, f1, f2, ff, hl7⟩, b8⟩ := BOX.out w7 (B6.trans (b7.mono (by simp; omega)))
        clear cF6 b7 B4 B5 B6
        go_wp2
        refine bodyPost_ret (v := .tuple #[.agg #[.int .i64 T, .int .i64 K, .string S], errV E]) (by simp [results, Tryz.results39, go_sem, World.cell?_setCell_other, World.cell?_setCell_same, f0, f1, f2]) rfl ⟨rfl, ?_⟩
        exact below3 b8 (Nat.le_refl _) _ _ _
      · rw [if_pos hE] at hfin
        simp only [noV, Prod.mk.injEq] at hfin
        obtain ⟨⟨rfl, rfl, rfl⟩, rfl⟩ := hfin
        have cR2 : Calls Tryz.prog 30 #[.string op, .slice q kk cp] wr fun e w' => e = .returned (.tuple #[.int .i64 RT, .iface 42 (.int .i64 RE)]) ∧ Below wr.heap.size wr w' := cR.mono fun e w' h => by rw [errV, if_neg hE] at h; exact h
        have HCK : Hid (RE ≠ 0) := hE
        clear hacc hvz hla hrr HR HG OW HVS HSZ HN HEN cR hE
        go_wp2_with fail
        refine cR2.mono ?_
        rintro e w4 ⟨rfl, b4⟩
        obtain ⟨⟨f0, f1, f2, ff, hl4⟩, b6⟩ := BOX.out w4 (BW.out.trans (b4.mono hl0))
        clear cR2 b4
        go_wp2
        refine bodyPost_ret (v := .tuple #[.agg #[.int .i64 0, .int .i64 0, .string ⟨#[]⟩], .iface 42 (.int .i64 RE)]) (by simp [results, Tryz.results39, go_sem, World.cell?_setCell_other, World.cell?_setCell_same, f0, f1, f2]) rfl ⟨by rw [errV, if_neg HCK.out], ?_⟩
        exact below3 b6 (Nat.le_refl _) _ _ _
end Go.Proofs.YticdcnbeemkapaaGreatDoor
