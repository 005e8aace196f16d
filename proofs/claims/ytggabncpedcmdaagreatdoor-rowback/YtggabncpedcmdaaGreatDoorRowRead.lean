/-
  What ParseSchema of package row says of any text.
-/
import Derived.Test.YtggabncpedcmdaaGreatDoorRowCol
import Derived.Test.YtggabncpedcmdaaGreatDoorRowParse
namespace Go.Proofs.YtggabncpedcmdaaGreatDoor
open Go.RowKit
set_option linter.unusedVariables false

/-- The columns of a text, part by part. -/
def sdGo : Nat → List UInt8 → List (ByteArray × Int) → List (ByteArray × Int) × Int
  | 0, _, _ => ([], 0)
  | f + 1, l, cs =>
    if (colRd (cut1 44 l).1).2.2 ≠ 0 then ([], (colRd (cut1 44 l).1).2.2)
    else
      if (cut1 44 l).2.2 = true then
        sdGo f (cut1 44 l).2.1 (if cs.length ≤ 6 then cs ++ [(⟨(colRd (cut1 44 l).1).1.toArray⟩, (colRd (cut1 44 l).1).2.1)] else cs)
      else (if cs.length ≤ 6 then cs ++ [(⟨(colRd (cut1 44 l).1).1.toArray⟩, (colRd (cut1 44 l).1).2.1)] else cs, 0)
def sdNext (f : Nat) (l : List UInt8) (m : Bool) (cs : List (ByteArray × Int)) : List (ByteArray × Int) × Int := if m = true then sdGo f l cs else (cs, 0)
def sdEnd (r : List (ByteArray × Int) × Int) : List (ByteArray × Int) × Int := if r.2 ≠ 0 then ([], r.2) else if schE r.1 ≠ 0 then ([], schE r.1) else (r.1, 0)
def sdRow (s : ByteArray) : List (ByteArray × Int) × Int := sdEnd (sdGo (s.size + 1) s.data.toList [])
theorem sd_step {f : Nat} {l : List UInt8} {cs : List (ByteArray × Int)} {P r : ByteArray} {m : Bool} {nm : ByteArray} {t k : Int} (hc : cut1 44 l = (P.data.toList, r.data.toList, m)) (hr : colRd P.data.toList = (nm.data.toList, t, k)) :
    sdGo (f + 1) l cs = if k ≠ 0 then ([], k) else sdNext f r.data.toList m (if cs.length ≤ 6 then cs ++ [(nm, t)] else cs) := by
  have hn : (⟨nm.data.toList.toArray⟩ : ByteArray) = nm := by simp
  rw [sdGo, hc]
  simp only [hr, hn, sdNext]
theorem info_col : (Tryz.prog.info? 86).map (fun i => (i.zero, i.size, i.bytes)) = some (some (.agg #[.string ⟨#[]⟩, .int .i64 0]), 2, 24) := by kernel_rfl
def colCells (zs : List (ByteArray × Int)) : List Value := zs.flatMap fun z => [.string z.1, .int .i64 z.2]
theorem colCells_at : ∀ (zs : List (ByteArray × Int)) (j : Nat) (h : j < zs.length), (colCells zs)[j * 2]? = some (.string zs[j].1) ∧ (colCells zs)[j * 2 + 1]? = some (.int .i64 zs[j].2)
  | [], j, h => absurd h (by simp)
  | z :: zs, 0, _ => by simp [colCells]
  | z :: zs, j + 1, h => by
    have ih := colCells_at zs j (by simpa using h)
    have e : colCells (z :: zs) = .string z.1 :: .int .i64 z.2 :: colCells zs := rfl
    rw [e, show (j + 1) * 2 = j * 2 + 1 + 1 by omega, List.getElem?_cons_succ, List.getElem?_cons_succ, List.getElem?_cons_succ, List.getElem?_cons_succ]
    simpa using ih
theorem own_cols {W : World} {base g cap : Nat} {zs : List (ByteArray × Int)} (h : W.ownsRow base 86 2 (.slice (some ⟨g, 0, none⟩) zs.length cap) zs.length (colCells zs)) (hg : g < W.heap.size) : ColsIn W g 0 zs :=
  ⟨hg, fun j hj => by
    obtain ⟨e0, e1⟩ := colCells_at zs j hj
    have h0 := h.cells (g := g) rfl _ _ e0
    have h1 := h.cells (g := g) rfl _ _ e1
    rw [Go.WideShapes.add_plain] at h0 h1
    exact ⟨h0, h1⟩⟩
theorem rel_col {B : Nat} {l : List (ByteArray × Int)} {t : Int} {x : ByteArray} {w wr w1 : World} {v v' : Value} {o : Obj} (hown : wr.ownsRow B 86 2 v l.length (colCells l)) (hnx : Below B w wr) (hB : B ≤ wr.heap.size)
    (hown' : w1.ownsRow B 86 2 v' (l.length + 1) (colCells l ++ [.string x, .int .i64 t])) (hgrow : (wr.alloc o).grownBy w1 v.ownBlock) :
    w1.ownsRow B 86 2 v' (l ++ [(x, t)]).length (colCells (l ++ [(x, t)])) ∧ Below B w w1 :=
  ⟨by rw [List.length_append]; simpa [colCells] using hown', (hnx.alloc hB o).grown hgrow (by simp; omega) (fun j hj => (hown.lt j hj).1)⟩
set_option maxHeartbeats 8000000 in
set_option maxRecDepth 20000 in
theorem rschema_any (s : ByteArray) (w : World) (hs : s.size ≤ 140737488355328) (hw : TW w) :
    Calls Tryz.prog 29 #[.string s] w fun e w' => (∃ v, e = .returned (.tuple #[v, errR (sdRow s).2]) ∧ w'.ownsRow w.heap.size 86 2 v (sdRow s).1.length (colCells (sdRow s).1)) ∧ Below w.heap.size w w' := by
  obtain ⟨R, E, hR⟩ : ∃ R E, sdRow s = (R, E) := ⟨_, _, rfl⟩
  rw [hR]
  simp only
  obtain ⟨i0, hi, hz0, hz1, hz2⟩ := info_parts info_col
  go_enter Tryz.func29, Tryz.ntmps29
  go_wp2
  go_loopg [4, 5, 6, 7, 8, 9] (s.size + 1) (fun gg s4 s5 s6 _ _ _ wr => ∃ (cs : List (ByteArray × Int)) (rest : ByteArray) (more : Bool), s5 = .string rest ∧ s6 = .bool more ∧ wr.ownsRow w.heap.size 86 2 s4 cs.length (colCells cs) ∧ Aside (Below w.heap.size w wr) ∧ Hid ((R, E) = sdEnd (sdNext gg rest.data.toList more cs)) ∧ Hid (more = true → rest.size + 1 ≤ gg) ∧ Hid (cs.length ≤ 7) ∧ rest.size ≤ 140737488355328 ∧ Hid (∀ z ∈ cs, z.1.size ≤ maxLen))
  case atStart => exact ⟨[], s, true, rfl, rfl, World.ownsRow_nil _ _ _ _, Below.refl _ w, (show Hid _ by simp [Hid, sdNext, ← hR, sdRow]), (show Hid _ from fun _ => Nat.le_refl _), (show Hid _ by simp [Hid]), hs, (show Hid _ by simp [Hid])⟩
  case round =>
    obtain ⟨cs, rest, more, rfl, rfl, hown, BW, HR, HG, HL, hrs, HZ⟩ := hrel
    obtain ⟨vp, vc, rfl⟩ := own_slice hown
    cases more
    · have HF : Hid ((R, E) = if schE cs ≠ 0 then ([], schE cs) else (cs, 0)) := by
        show _ = _
        have := HR.out
        rw [sdNext, if_neg (by decide), sdEnd, if_neg (by simp)] at this
        exact this
      clear HR HG HL hR
      rcases hown.2 with ⟨hv, hn0⟩ | ⟨g, cap, cur, hv, _, hgg, hcap2, _, _, _⟩
      · have hcs := List.length_eq_zero_iff.1 hn0
        subst hcs
        have he : (R, E) = ([], 5) := by rw [HF.out]; rfl
        obtain ⟨rfl, rfl⟩ := Prod.mk.inj he
        clear he HF HZ
        have HE : Hid (errR 5 = .iface 69 (.int .i64 5)) := errR_n (by decide)
        go_wp2_with fail
        refine (schema_none _ _ _).mono ?_
        rintro e w1 ⟨rfl, rfl⟩
        rw [HE.out]
        go_wp2
        go_ret2
        exact ⟨⟨_, by rw [HE.out]; rfl, World.ownsRow_nil _ _ _ _⟩, BW.out⟩
      · rw [hv] at hown
        have hgl : g < wr.heap.size := (Array.getElem?_eq_some_iff.1 hgg).1
        have hv2 := hv
        simp only [Value.slice.injEq] at hv2
        obtain ⟨rfl, _, rfl⟩ := hv2
        have cS := schema_any g 0 vc cs wr (hw.on BW.out) hcap2 HZ.out (own_cols hown hgl)
        obtain ⟨K, hK⟩ : ∃ K, schE cs = K := ⟨_, rfl⟩
        rw [hK] at cS
        have HF2 : Hid ((R, E) = if K ≠ 0 then ([], K) else (cs, 0)) := by rw [← hK]; exact HF
        clear HF hK HZ hv
        by_cases k0 : K = 0
        · subst k0
          have he : (R, E) = (cs, 0) := HF2.out
          obtain ⟨rfl, rfl⟩ := Prod.mk.inj he
          clear he HF2
          go_wp2_with fail
          refine cS.mono ?_
          rintro e w1 ⟨rfl, b1⟩
          rw [errR_z rfl]
          go_wp2
          go_ret2
          exact ⟨⟨_, rfl, own_below hown b1⟩, BW.out.trans (b1.mono BW.out.size)⟩
        · have he : (R, E) = ([], K) := by rw [HF2.out, if_pos k0]
          obtain ⟨rfl, rfl⟩ := Prod.mk.inj he
          have HE : Hid (errR E = .iface 69 (.int .i64 E)) := errR_n k0
          clear he HF2 k0
          go_wp2_with fail
          refine cS.mono ?_
          rintro e w1 ⟨rfl, b1⟩
          rw [HE.out]
          go_wp2
          go_ret2
          exact ⟨⟨_, by rw [HE.out]; rfl, World.ownsRow_nil _ _ _ _⟩, BW.out.trans (b1.mono BW.out.size)⟩
    · obtain ⟨g', rfl⟩ : ∃ g', gk = g' + 1 := ⟨gk - 1, by have := HG.out rfl; omega⟩
      have HR1 : Hid ((R, E) = sdEnd (sdGo (g' + 1) rest.data.toList cs)) := HR.out
      have HG1 : Hid (rest.size + 1 ≤ g' + 1) := HG.out rfl
      clear HR HG
      go_wp2_with fail
      refine (cut_one rest 44 _ (by unfold maxLen; omega)).mono ?_
      rintro e w1 ⟨⟨P, rr, m, rfl, HC, hPs, hrr, HM⟩, b1⟩
      have B1 := BW.out.trans (b1.mono BW.out.size)
      have o1 := own_below hown b1
      clear b1 hown
      go_wp2_with fail
      refine (parseCol_any P _ (by unfold maxLen; omega) (hw.on B1)).mono ?_
      rintro e w2 ⟨⟨nm, t, k, rfl, HV, hnm⟩, b2⟩
      have B2 := B1.trans (b2.mono B1.size)
      have o3 := (own_below o1 b2).alloc (.cells #[.string nm, .int .i64 t] 86)
      have B3 := B2.alloc B2.size (.cells #[.string nm, .int .i64 t] 86)
      have HR2 : Hid ((R, E) = sdEnd (if k ≠ 0 then ([], k) else sdNext g' rr.data.toList m (if cs.length ≤ 6 then cs ++ [(nm, t)] else cs))) := by
        show _ = _
        rw [HR1.out, sd_step HC.out HV.out]
      have HG2 : Hid (m = true → rr.size + 1 ≤ g') := fun hm => by have := HM.out hm; have := HG1.out; omega
      have hr2 : rr.size ≤ 140737488355328 := by omega
      have Hnm : Hid (nm.size ≤ maxLen) := by
        show _ ≤ _
        unfold maxLen; omega
      clear b2 o1 B1 HR1 HC HV HM HG1 hrs hPs hrr hR hnm
      by_cases k0 : k = 0
      · subst k0
        rw [show errR 0 = .nilIface from rfl]
        by_cases h6 : cs.length ≤ 6
        · have h6z : (cs.length : Int) ≤ 6 := by omega
          have HR3 : Hid ((R, E) = sdEnd (sdNext g' rr.data.toList m (cs ++ [(nm, t)]))) := by
            show _ = _
            have := HR2.out
            rwa [if_neg (by simp), if_pos h6] at this
          have HZ2 : Hid (∀ z ∈ cs ++ [(nm, t)], z.1.size ≤ maxLen) := by
            intro z hz
            rcases List.mem_append.1 hz with h | h
            · exact HZ.out z h
            · obtain rfl := List.mem_singleton.1 h
              exact Hnm.out
          have HL2 : Hid ((cs ++ [(nm, t)]).length ≤ 7) := by
            show _ ≤ _
            rw [List.length_append, List.length_singleton]; omega
          have HL6 : Hid (cs.length ≤ 6) := h6
          clear HR2 h6 HZ Hnm HL
          go_wp2_with (at_builtin; refine wpList_append_own _ rfl _ _ 43 rfl w.heap.size 86 i0 (.agg #[.string ⟨#[]⟩, .int .i64 0]) 2 24 Tryz.underlying43 hi hz0 hz1 hz2 rfl (by decide) _ _ _ rfl (o3.alloc _) ⟨w2.heap.size + 1, 0, none⟩ 1 1 [.string nm, .int .i64 t] rfl rfl ?c1 ?c2 ?c3 ?c4 ?c5 ?_)
          case c1 =>
            intro i u hu
            rw [Go.WideShapes.add_plain]
            match i, hu with
            | 0, hu => simp at hu; subst hu; rw [World.cell?_alloc_at _ _ _ _ (by simp)]; rfl
            | 1, hu => simp at hu; subst hu; rw [World.cell?_alloc_at _ _ _ _ (by simp)]; rfl
          case c2 =>
            intro u hu
            simp at hu
            rcases hu with rfl | rfl <;> rfl
          case c3 => have := HL6.out; unfold maxLen; omega
          case c4 => have := HL6.out; omega
          case c5 => have := B2.size; simp; omega
          · intro v' w3 hown' hgrow _
            have RR := rel_col o3 B3 (by have := B3.size; omega) hown' hgrow
            clear hown' hgrow o3
            go_wp2
            go_roundg g'
            case measure => omega
            case rel => exact ⟨cs ++ [(nm, t)], rr, m, rfl, rfl, RR.1, RR.2, HR3, HG2, HL2, hr2, HZ2⟩
        · have h6z : ¬ (cs.length : Int) ≤ 6 := by omega
          have HR3 : Hid ((R, E) = sdEnd (sdNext g' rr.data.toList m cs)) := by
            show _ = _
            have := HR2.out
            rwa [if_neg (by simp), if_neg h6] at this
          clear HR2 h6
          go_wp2
          go_roundg g'
          case measure => omega
          case rel => exact ⟨cs, rr, m, rfl, rfl, o3, B3, HR3, HG2, HL, hr2, HZ⟩
      · have he : (R, E) = ([], k) := by
          rw [HR2.out, if_pos k0, sdEnd, if_pos (by simpa using k0)]
        obtain ⟨rfl, rfl⟩ := Prod.mk.inj he
        have HE : Hid (errR E = .iface 69 (.int .i64 E)) := errR_n k0
        rw [HE.out]
        clear he HR2 k0
        go_wp2
        go_ret2
        exact ⟨⟨_, by rw [HE.out]; rfl, World.ownsRow_nil _ _ _ _⟩, B3⟩
end Go.Proofs.YtggabncpedcmdaaGreatDoor
