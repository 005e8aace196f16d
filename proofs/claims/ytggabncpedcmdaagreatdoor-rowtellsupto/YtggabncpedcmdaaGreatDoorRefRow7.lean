/-
  The document's ReadSchema (package sluiceref1), at any text.
-/
import Derived.Test.YtggabncpedcmdaaGreatDoorRefRow6
namespace Go.Proofs.YtggabncpedcmdaaGreatDoor
open Go.RowKit
set_option linter.unusedVariables false

/-- The column of a piece, as the document has it. -/
def colRf (l : List UInt8) : Option (List UInt8 × Int) := match pieces 32 l with
  | [nm, wd] => if typeOfW wd = 0 ∨ nameB nm = false then none else some (nm, typeOfW wd)
  | _ => none
def sfGo : List (List UInt8) → List (ByteArray × Int) → List (ByteArray × Int) × Int
  | [], cs => sdEnd (cs, 0)
  | p :: ps, cs => match colRf p with
    | none => ([], 2)
    | some (nm, t) => sfGo ps (cs ++ [(⟨nm.toArray⟩, t)])
/-- The schema of a text, as the document has it. -/
def sdRef (s : ByteArray) : List (ByteArray × Int) × Int := sfGo (pieces 44 s.data.toList) []
theorem sfGo_at {ws : List ByteArray} {k : Nat} (h : k < ws.length) (cs : List (ByteArray × Int)) : sfGo ((ws.drop k).map (·.data.toList)) cs = match colRf ws[k].data.toList with
    | none => ([], 2)
    | some (nm, t) => sfGo ((ws.drop (k + 1)).map (·.data.toList)) (cs ++ [(⟨nm.toArray⟩, t)]) := by
  rw [List.drop_eq_getElem_cons h, List.map_cons, sfGo]
theorem typeName_1 (w : World) : Calls Tryz.prog 59 #[.int .i64 1] w fun e w' => e = .returned (.string ⟨#[105, 110, 116]⟩) ∧ Below w.heap.size w w' := typeName_any 1 w (by omega)
theorem typeName_2 (w : World) : Calls Tryz.prog 59 #[.int .i64 2] w fun e w' => e = .returned (.string ⟨#[98, 111, 111, 108]⟩) ∧ Below w.heap.size w w' := typeName_any 2 w (by omega)
theorem typeName_3 (w : World) : Calls Tryz.prog 59 #[.int .i64 3] w fun e w' => e = .returned (.string ⟨#[116, 101, 120, 116]⟩) ∧ Below w.heap.size w w' := typeName_any 3 w (by omega)
theorem strs_at {W : World} {base g cap : Nat} {ws : List ByteArray} (h : W.ownsRow base 9 1 (.slice (some ⟨g, 0, none⟩) ws.length cap) ws.length (strCells ws)) (j : Nat) (hj : j < ws.length) : W.cell? ⟨g, j, none⟩ = some (.string ws[j]) := by
  have := h.cells (g := g) rfl j (.string ws[j]) (by simp only [strCells, List.getElem?_map, List.getElem?_eq_getElem hj]; rfl)
  rw [Go.WideShapes.add_plain] at this
  simpa using this
set_option maxHeartbeats 16000000 in
set_option maxRecDepth 20000 in
theorem refReadS_any (s : ByteArray) (w : World) (hs : s.size ≤ 1099511627776) :
    Calls Tryz.prog 28 #[.string s] w fun e w' => (∃ v, e = .returned (.tuple #[v, .int .i64 (sdRef s).2]) ∧ IsCols w' v (sdRef s).1) ∧ Below w.heap.size w w' := by
  obtain ⟨R, E, hR⟩ : ∃ R E, sdRef s = (R, E) := ⟨_, _, rfl⟩
  rw [hR]
  simp only
  obtain ⟨i0, hi, hz0, hz1, hz2⟩ := info_parts info_col
  go_enter Tryz.func28, Tryz.ntmps28
  go_wp2_with fail
  refine (refCut_any s 44 44 rfl _ hs).mono ?_
  rintro e w1 ⟨⟨wv, ws, rfl, hownw, HP, HWZ, hwl⟩, B1⟩
  obtain ⟨wp, wc, rfl⟩ := own_slice hownw
  have HR0 : Hid ((R, E) = sfGo (ws.map (·.data.toList)) []) := by
    show _ = _
    rw [← HP.out, ← hR]; rfl
  clear hR HP
  go_wp2
  go_loopg [4, 6, 7, 8, 9, 10, 11] ws.length (fun gg s4 s6 _ _ _ _ _ wr => ∃ (cs : List (ByteArray × Int)) (kk : Nat), s6 = .int .i64 kk ∧ kk ≤ ws.length ∧ ws.length - kk ≤ gg ∧ wr.ownsRow w1.heap.size 86 2 s4 cs.length (colCells cs) ∧ Aside (Below w1.heap.size w1 wr) ∧ Hid ((R, E) = sfGo ((ws.drop kk).map (·.data.toList)) cs) ∧ cs.length ≤ kk ∧ Hid (∀ z ∈ cs, z.1.size ≤ maxLen))
  case atStart => exact ⟨[], 0, rfl, Nat.zero_le _, by omega, World.ownsRow_nil _ _ _ _, Below.refl _ _, (show Hid _ by simpa [Hid] using HR0.out), Nat.le_refl _, (show Hid _ by simp [Hid])⟩
  case round =>
    obtain ⟨cs, kk, rfl, hkk, hg, hown, BW, HR, hcl, HZ⟩ := hrel
    obtain ⟨lp, lc, rfl⟩ := own_slice hown
    have hcl2 := hcl
    have BW0 := B1.trans (BW.out.mono B1.size)
    by_cases hlt : kk < ws.length
    · have hltz : (kk : Int) < (ws.length : Int) := by omega
      have k0 : (0 : Int) ≤ (kk : Int) := by omega
      rcases hownw.2 with ⟨_, hn0⟩ | ⟨g, cap, cur, hv, _, hgg, _, _, _, _⟩
      · exact absurd hn0 (by omega)
      · have hv2 := hv
        simp only [Value.slice.injEq] at hv2
        obtain ⟨rfl, _, rfl⟩ := hv2
        have hgl1 : g < w1.heap.size := (Array.getElem?_eq_some_iff.1 hgg).1
        have hgl : g < wr.heap.size := by have := BW.out.size; omega
        have c0 := strs_at (own_below hownw BW.out) kk hlt
        have HR1 : Hid ((R, E) = _) := HR.out.trans (sfGo_at hlt cs)
        have hys := HWZ.out _ (List.getElem_mem hlt)
        generalize hy : ws[kk] = y at c0 HR1 hys
        clear HR hy hv hgg
        go_wp2_with fail
        refine (refCut_any y 32 32 rfl _ (by omega)).mono ?_
        rintro e w2 ⟨⟨pv, ps, rfl, hownp, HPp, HPZ, hpl⟩, b2⟩
        obtain ⟨pp, pc, rfl⟩ := own_slice hownp
        have o2 := own_below hown b2
        have B2 := BW.out.trans (b2.mono BW.out.size)
        clear b2 hown c0
        by_cases h2 : ps.length = 2
        · obtain ⟨nm, wd, rfl⟩ : ∃ nm wd, ps = [nm, wd] := by
            match ps, h2 with
            | [a, b], _ => exact ⟨a, b, rfl⟩
          have HR2 : Hid ((R, E) = if typeOfW wd.data.toList = 0 ∨ nameB nm.data.toList = false then ([], 2) else sfGo ((ws.drop (kk + 1)).map (·.data.toList)) (cs ++ [(nm, typeOfW wd.data.toList)])) := by
            show _ = _
            rw [HR1.out, colRf, HPp.out]
            simp only [List.map_cons, List.map_nil]
            by_cases h : typeOfW wd.data.toList = 0 ∨ nameB nm.data.toList = false
            · rw [if_pos h, if_pos h]
            · rw [if_neg h, if_neg h]
          rcases hownp.2 with ⟨_, hn0⟩ | ⟨pg, pcap, pcur, hv, _, hgg, _, _, _, _⟩
          · exact absurd hn0 (by simp)
          · have hv2 := hv
            simp only [Value.slice.injEq] at hv2
            obtain ⟨rfl, _, rfl⟩ := hv2
            have hpg : pg < w2.heap.size := (Array.getElem?_eq_some_iff.1 hgg).1
            have p0 : w2.cell? ⟨pg, 0, none⟩ = some (.string nm) := strs_at hownp 0 (by simp)
            have p1 : w2.cell? ⟨pg, 1, none⟩ = some (.string wd) := strs_at hownp 1 (by simp)
            have hnms := HPZ.out nm (by simp)
            clear hv hgg hownp HR1 HPp HPZ
            have hl2 : [nm, wd].length = 2 := rfl
            rw [hl2]
            clear hl2 hpl h2
            by_cases h0 : wd.data.toList = [105, 110, 116]
            · have q0 : (wd.toList == [105, 110, 116]) = true := by rw [Lib.toList_data]; simpa using h0
              have q1 : (wd.toList == [98, 111, 111, 108]) = false := by rw [Lib.toList_data, h0]; rfl
              have q2 : (wd.toList == [116, 101, 120, 116]) = false := by rw [Lib.toList_data, h0]; rfl
              have ht : typeOfW wd.data.toList = 1 := by rw [typeOfW, if_pos h0]
              rw [ht] at HR2
              clear ht h0
              go_wp2
              refine wp_loop_rounds 4 ?_
              rw [rounds_succ]
              go_wp2_with fail
              refine (typeName_1 _).mono ?_
              rintro e x0 ⟨rfl, d0⟩
              have hp0 : pg < x0.heap.size := by have := d0.size; omega
              have a0 : x0.cell? ⟨pg, 0, none⟩ = some (.string nm) := by rw [(bcells d0).1 _ _ hpg]; exact p0
              have b0 : x0.cell? ⟨pg, 1, none⟩ = some (.string wd) := by rw [(bcells d0).1 _ _ hpg]; exact p1
              have oo0 := own_below o2 d0
              have BB0 := B2.trans (d0.mono B2.size)
              clear d0 p0 p1 o2 B2 hpg
              go_wp2
              rw [rounds_succ]
              go_wp2_with fail
              refine (typeName_2 _).mono ?_
              rintro e x1 ⟨rfl, d1⟩
              have hp1 : pg < x1.heap.size := by have := d1.size; omega
              have a1 : x1.cell? ⟨pg, 0, none⟩ = some (.string nm) := by rw [(bcells d1).1 _ _ hp0]; exact a0
              have b1 : x1.cell? ⟨pg, 1, none⟩ = some (.string wd) := by rw [(bcells d1).1 _ _ hp0]; exact b0
              have oo1 := own_below oo0 d1
              have BB1 := BB0.trans (d1.mono BB0.size)
              clear d1 a0 b0 oo0 BB0 hp0
              go_wp2
              rw [rounds_succ]
              go_wp2_with fail
              refine (typeName_3 _).mono ?_
              rintro e x2 ⟨rfl, d2⟩
              have hp2 : pg < x2.heap.size := by have := d2.size; omega
              have a2 : x2.cell? ⟨pg, 0, none⟩ = some (.string nm) := by rw [(bcells d2).1 _ _ hp1]; exact a1
              have b2 : x2.cell? ⟨pg, 1, none⟩ = some (.string wd) := by rw [(bcells d2).1 _ _ hp1]; exact b1
              have oo2 := own_below oo1 d2
              have BB2 := BB1.trans (d2.mono BB1.size)
              clear d2 a1 b1 oo1 BB1 hp1
              go_wp2
              rw [rounds_succ]
              go_wp2_with fail
              refine (letters_any nm _ (by unfold maxLen; omega)).mono ?_
              rintro e w9 ⟨rfl, hq9⟩
              obtain rfl : x2 = w9 := hq9.symm
              obtain ⟨N, hN⟩ : ∃ N, nameB nm.data.toList = N := ⟨_, rfl⟩
              rw [hN] at HR2
              rw [hN]
              cases N
              · have he : (R, E) = ([], 2) := by rw [HR2.out, if_pos (Or.inr rfl)]
                obtain ⟨rfl, rfl⟩ := Prod.mk.inj he
                clear he HR2 hN HZ
                go_wp2
                go_ret2
                exact ⟨⟨_, rfl, own_colsv (World.ownsRow_nil _ w.heap.size _ _) (fun z hz => by simp at hz)⟩, B1.trans (BB2.mono B1.size)⟩
              · have HR3 : Hid ((R, E) = sfGo ((ws.drop (kk + 1)).map (·.data.toList)) (cs ++ [(nm, 1)])) := by
                  have := HR2.out
                  rwa [if_neg (by simp)] at this
                have HZ2 : Hid (∀ z ∈ cs ++ [(nm, (1 : Int))], z.1.size ≤ maxLen) := by
                  intro z hz
                  rcases List.mem_append.1 hz with h | h
                  · exact HZ.out z h
                  · obtain rfl := List.mem_singleton.1 h
                    show nm.size ≤ maxLen
                    unfold maxLen; omega
                clear HR2 hN HZ
                go_wp2_with (at_builtin; refine wpList_append_own _ rfl _ _ 43 rfl w1.heap.size 86 i0 (.agg #[.string ⟨#[]⟩, .int .i64 0]) 2 24 Tryz.underlying43 hi hz0 hz1 hz2 rfl (by decide) _ _ _ rfl (oo2.alloc _) ⟨x2.heap.size, 0, none⟩ 1 1 [.string nm, .int .i64 1] rfl rfl ?c1 ?c2 ?c3 ?c4 ?c5 ?_)
                case c1 =>
                  intro i u hu
                  rw [Go.WideShapes.add_plain]
                  match i, hu with
                  | 0, hu => simp at hu; subst hu; rw [World.cell?_alloc_at _ _ _ _ (by simp)]; rfl
                  | 1, hu => simp at hu; subst hu; rw [World.cell?_alloc_at _ _ _ _ (by simp)]; rfl
                case c2 =>
                  intro u hu
                  simp at hu
                  rcases hu with rfl | rfl <;> rfl
                case c3 => unfold maxLen; omega
                case c4 => omega
                case c5 => have := BB2.size; simp; omega
                · intro v' w3 hown' hgrow _
                  have RR := rel_col oo2 BB2 (by have := BB2.size; omega) hown' hgrow
                  clear hown' hgrow oo2
                  go_wp2
                  go_roundg (ws.length - (kk + 1))
                  case measure => omega
                  case rel => exact ⟨cs ++ [(nm, 1)], kk + 1, by go_num, by omega, by omega, RR.1, RR.2, HR3, by rw [List.length_append, List.length_singleton]; omega, HZ2⟩
            · by_cases h1 : wd.data.toList = [98, 111, 111, 108]
              · have q0 : (wd.toList == [105, 110, 116]) = false := by rw [Lib.toList_data]; simpa using h0
                have q1 : (wd.toList == [98, 111, 111, 108]) = true := by rw [Lib.toList_data]; simpa using h1
                have q2 : (wd.toList == [116, 101, 120, 116]) = false := by rw [Lib.toList_data, h1]; rfl
                have ht : typeOfW wd.data.toList = 2 := by rw [typeOfW, if_neg h0, if_pos h1]
                rw [ht] at HR2
                clear ht h0 h1
                go_wp2
                refine wp_loop_rounds 4 ?_
                rw [rounds_succ]
                go_wp2_with fail
                refine (typeName_1 _).mono ?_
                rintro e x0 ⟨rfl, d0⟩
                have hp0 : pg < x0.heap.size := by have := d0.size; omega
                have a0 : x0.cell? ⟨pg, 0, none⟩ = some (.string nm) := by rw [(bcells d0).1 _ _ hpg]; exact p0
                have b0 : x0.cell? ⟨pg, 1, none⟩ = some (.string wd) := by rw [(bcells d0).1 _ _ hpg]; exact p1
                have oo0 := own_below o2 d0
                have BB0 := B2.trans (d0.mono B2.size)
                clear d0 p0 p1 o2 B2 hpg
                go_wp2
                rw [rounds_succ]
                go_wp2_with fail
                refine (typeName_2 _).mono ?_
                rintro e x1 ⟨rfl, d1⟩
                have hp1 : pg < x1.heap.size := by have := d1.size; omega
                have a1 : x1.cell? ⟨pg, 0, none⟩ = some (.string nm) := by rw [(bcells d1).1 _ _ hp0]; exact a0
                have b1 : x1.cell? ⟨pg, 1, none⟩ = some (.string wd) := by rw [(bcells d1).1 _ _ hp0]; exact b0
                have oo1 := own_below oo0 d1
                have BB1 := BB0.trans (d1.mono BB0.size)
                clear d1 a0 b0 oo0 BB0 hp0
                go_wp2
                rw [rounds_succ]
                go_wp2_with fail
                refine (typeName_3 _).mono ?_
                rintro e x2 ⟨rfl, d2⟩
                have hp2 : pg < x2.heap.size := by have := d2.size; omega
                have a2 : x2.cell? ⟨pg, 0, none⟩ = some (.string nm) := by rw [(bcells d2).1 _ _ hp1]; exact a1
                have b2 : x2.cell? ⟨pg, 1, none⟩ = some (.string wd) := by rw [(bcells d2).1 _ _ hp1]; exact b1
                have oo2 := own_below oo1 d2
                have BB2 := BB1.trans (d2.mono BB1.size)
                clear d2 a1 b1 oo1 BB1 hp1
                go_wp2
                rw [rounds_succ]
                go_wp2_with fail
                refine (letters_any nm _ (by unfold maxLen; omega)).mono ?_
                rintro e w9 ⟨rfl, hq9⟩
                obtain rfl : x2 = w9 := hq9.symm
                obtain ⟨N, hN⟩ : ∃ N, nameB nm.data.toList = N := ⟨_, rfl⟩
                rw [hN] at HR2
                rw [hN]
                cases N
                · have he : (R, E) = ([], 2) := by rw [HR2.out, if_pos (Or.inr rfl)]
                  obtain ⟨rfl, rfl⟩ := Prod.mk.inj he
                  clear he HR2 hN HZ
                  go_wp2
                  go_ret2
                  exact ⟨⟨_, rfl, own_colsv (World.ownsRow_nil _ w.heap.size _ _) (fun z hz => by simp at hz)⟩, B1.trans (BB2.mono B1.size)⟩
                · have HR3 : Hid ((R, E) = sfGo ((ws.drop (kk + 1)).map (·.data.toList)) (cs ++ [(nm, 2)])) := by
                    have := HR2.out
                    rwa [if_neg (by simp)] at this
                  have HZ2 : Hid (∀ z ∈ cs ++ [(nm, (2 : Int))], z.1.size ≤ maxLen) := by
                    intro z hz
                    rcases List.mem_append.1 hz with h | h
                    · exact HZ.out z h
                    · obtain rfl := List.mem_singleton.1 h
                      show nm.size ≤ maxLen
                      unfold maxLen; omega
                  clear HR2 hN HZ
                  go_wp2_with (at_builtin; refine wpList_append_own _ rfl _ _ 43 rfl w1.heap.size 86 i0 (.agg #[.string ⟨#[]⟩, .int .i64 0]) 2 24 Tryz.underlying43 hi hz0 hz1 hz2 rfl (by decide) _ _ _ rfl (oo2.alloc _) ⟨x2.heap.size, 0, none⟩ 1 1 [.string nm, .int .i64 2] rfl rfl ?c1 ?c2 ?c3 ?c4 ?c5 ?_)
                  case c1 =>
                    intro i u hu
                    rw [Go.WideShapes.add_plain]
                    match i, hu with
                    | 0, hu => simp at hu; subst hu; rw [World.cell?_alloc_at _ _ _ _ (by simp)]; rfl
                    | 1, hu => simp at hu; subst hu; rw [World.cell?_alloc_at _ _ _ _ (by simp)]; rfl
                  case c2 =>
                    intro u hu
                    simp at hu
                    rcases hu with rfl | rfl <;> rfl
                  case c3 => unfold maxLen; omega
                  case c4 => omega
                  case c5 => have := BB2.size; simp; omega
                  · intro v' w3 hown' hgrow _
                    have RR := rel_col oo2 BB2 (by have := BB2.size; omega) hown' hgrow
                    clear hown' hgrow oo2
                    go_wp2
                    go_roundg (ws.length - (kk + 1))
                    case measure => omega
                    case rel => exact ⟨cs ++ [(nm, 2)], kk + 1, by go_num, by omega, by omega, RR.1, RR.2, HR3, by rw [List.length_append, List.length_singleton]; omega, HZ2⟩
              · by_cases h2 : wd.data.toList = [116, 101, 120, 116]
                · have q0 : (wd.toList == [105, 110, 116]) = false := by rw [Lib.toList_data]; simpa using h0
                  have q1 : (wd.toList == [98, 111, 111, 108]) = false := by rw [Lib.toList_data]; simpa using h1
                  have q2 : (wd.toList == [116, 101, 120, 116]) = true := by rw [Lib.toList_data]; simpa using h2
                  have ht : typeOfW wd.data.toList = 3 := by rw [typeOfW, if_neg h0, if_neg h1, if_pos h2]
                  rw [ht] at HR2
                  clear ht h0 h1 h2
                  go_wp2
                  refine wp_loop_rounds 4 ?_
                  rw [rounds_succ]
                  go_wp2_with fail
                  refine (typeName_1 _).mono ?_
                  rintro e x0 ⟨rfl, d0⟩
                  have hp0 : pg < x0.heap.size := by have := d0.size; omega
                  have a0 : x0.cell? ⟨pg, 0, none⟩ = some (.string nm) := by rw [(bcells d0).1 _ _ hpg]; exact p0
                  have b0 : x0.cell? ⟨pg, 1, none⟩ = some (.string wd) := by rw [(bcells d0).1 _ _ hpg]; exact p1
                  have oo0 := own_below o2 d0
                  have BB0 := B2.trans (d0.mono B2.size)
                  clear d0 p0 p1 o2 B2 hpg
                  go_wp2
                  rw [rounds_succ]
                  go_wp2_with fail
                  refine (typeName_2 _).mono ?_
                  rintro e x1 ⟨rfl, d1⟩
                  have hp1 : pg < x1.heap.size := by have := d1.size; omega
                  have a1 : x1.cell? ⟨pg, 0, none⟩ = some (.string nm) := by rw [(bcells d1).1 _ _ hp0]; exact a0
                  have b1 : x1.cell? ⟨pg, 1, none⟩ = some (.string wd) := by rw [(bcells d1).1 _ _ hp0]; exact b0
                  have oo1 := own_below oo0 d1
                  have BB1 := BB0.trans (d1.mono BB0.size)
                  clear d1 a0 b0 oo0 BB0 hp0
                  go_wp2
                  rw [rounds_succ]
                  go_wp2_with fail
                  refine (typeName_3 _).mono ?_
                  rintro e x2 ⟨rfl, d2⟩
                  have hp2 : pg < x2.heap.size := by have := d2.size; omega
                  have a2 : x2.cell? ⟨pg, 0, none⟩ = some (.string nm) := by rw [(bcells d2).1 _ _ hp1]; exact a1
                  have b2 : x2.cell? ⟨pg, 1, none⟩ = some (.string wd) := by rw [(bcells d2).1 _ _ hp1]; exact b1
                  have oo2 := own_below oo1 d2
                  have BB2 := BB1.trans (d2.mono BB1.size)
                  clear d2 a1 b1 oo1 BB1 hp1
                  go_wp2
                  rw [rounds_succ]
                  go_wp2_with fail
                  refine (letters_any nm _ (by unfold maxLen; omega)).mono ?_
                  rintro e w9 ⟨rfl, hq9⟩
                  obtain rfl : x2 = w9 := hq9.symm
                  obtain ⟨N, hN⟩ : ∃ N, nameB nm.data.toList = N := ⟨_, rfl⟩
                  rw [hN] at HR2
                  rw [hN]
                  cases N
                  · have he : (R, E) = ([], 2) := by rw [HR2.out, if_pos (Or.inr rfl)]
                    obtain ⟨rfl, rfl⟩ := Prod.mk.inj he
                    clear he HR2 hN HZ
                    go_wp2
                    go_ret2
                    exact ⟨⟨_, rfl, own_colsv (World.ownsRow_nil _ w.heap.size _ _) (fun z hz => by simp at hz)⟩, B1.trans (BB2.mono B1.size)⟩
                  · have HR3 : Hid ((R, E) = sfGo ((ws.drop (kk + 1)).map (·.data.toList)) (cs ++ [(nm, 3)])) := by
                      have := HR2.out
                      rwa [if_neg (by simp)] at this
                    have HZ2 : Hid (∀ z ∈ cs ++ [(nm, (3 : Int))], z.1.size ≤ maxLen) := by
                      intro z hz
                      rcases List.mem_append.1 hz with h | h
                      · exact HZ.out z h
                      · obtain rfl := List.mem_singleton.1 h
                        show nm.size ≤ maxLen
                        unfold maxLen; omega
                    clear HR2 hN HZ
                    go_wp2_with (at_builtin; refine wpList_append_own _ rfl _ _ 43 rfl w1.heap.size 86 i0 (.agg #[.string ⟨#[]⟩, .int .i64 0]) 2 24 Tryz.underlying43 hi hz0 hz1 hz2 rfl (by decide) _ _ _ rfl (oo2.alloc _) ⟨x2.heap.size, 0, none⟩ 1 1 [.string nm, .int .i64 3] rfl rfl ?c1 ?c2 ?c3 ?c4 ?c5 ?_)
                    case c1 =>
                      intro i u hu
                      rw [Go.WideShapes.add_plain]
                      match i, hu with
                      | 0, hu => simp at hu; subst hu; rw [World.cell?_alloc_at _ _ _ _ (by simp)]; rfl
                      | 1, hu => simp at hu; subst hu; rw [World.cell?_alloc_at _ _ _ _ (by simp)]; rfl
                    case c2 =>
                      intro u hu
                      simp at hu
                      rcases hu with rfl | rfl <;> rfl
                    case c3 => unfold maxLen; omega
                    case c4 => omega
                    case c5 => have := BB2.size; simp; omega
                    · intro v' w3 hown' hgrow _
                      have RR := rel_col oo2 BB2 (by have := BB2.size; omega) hown' hgrow
                      clear hown' hgrow oo2
                      go_wp2
                      go_roundg (ws.length - (kk + 1))
                      case measure => omega
                      case rel => exact ⟨cs ++ [(nm, 3)], kk + 1, by go_num, by omega, by omega, RR.1, RR.2, HR3, by rw [List.length_append, List.length_singleton]; omega, HZ2⟩
                · have q0 : (wd.toList == [105, 110, 116]) = false := by rw [Lib.toList_data]; simpa using h0
                  have q1 : (wd.toList == [98, 111, 111, 108]) = false := by rw [Lib.toList_data]; simpa using h1
                  have q2 : (wd.toList == [116, 101, 120, 116]) = false := by rw [Lib.toList_data]; simpa using h2
                  have ht : typeOfW wd.data.toList = 0 := by rw [typeOfW, if_neg h0, if_neg h1, if_neg h2]
                  rw [ht] at HR2
                  clear ht h0 h1 h2
                  go_wp2
                  refine wp_loop_rounds 4 ?_
                  rw [rounds_succ]
                  go_wp2_with fail
                  refine (typeName_1 _).mono ?_
                  rintro e x0 ⟨rfl, d0⟩
                  have hp0 : pg < x0.heap.size := by have := d0.size; omega
                  have a0 : x0.cell? ⟨pg, 0, none⟩ = some (.string nm) := by rw [(bcells d0).1 _ _ hpg]; exact p0
                  have b0 : x0.cell? ⟨pg, 1, none⟩ = some (.string wd) := by rw [(bcells d0).1 _ _ hpg]; exact p1
                  have oo0 := own_below o2 d0
                  have BB0 := B2.trans (d0.mono B2.size)
                  clear d0 p0 p1 o2 B2 hpg
                  go_wp2
                  rw [rounds_succ]
                  go_wp2_with fail
                  refine (typeName_2 _).mono ?_
                  rintro e x1 ⟨rfl, d1⟩
                  have hp1 : pg < x1.heap.size := by have := d1.size; omega
                  have a1 : x1.cell? ⟨pg, 0, none⟩ = some (.string nm) := by rw [(bcells d1).1 _ _ hp0]; exact a0
                  have b1 : x1.cell? ⟨pg, 1, none⟩ = some (.string wd) := by rw [(bcells d1).1 _ _ hp0]; exact b0
                  have oo1 := own_below oo0 d1
                  have BB1 := BB0.trans (d1.mono BB0.size)
                  clear d1 a0 b0 oo0 BB0 hp0
                  go_wp2
                  rw [rounds_succ]
                  go_wp2_with fail
                  refine (typeName_3 _).mono ?_
                  rintro e x2 ⟨rfl, d2⟩
                  have hp2 : pg < x2.heap.size := by have := d2.size; omega
                  have a2 : x2.cell? ⟨pg, 0, none⟩ = some (.string nm) := by rw [(bcells d2).1 _ _ hp1]; exact a1
                  have b2 : x2.cell? ⟨pg, 1, none⟩ = some (.string wd) := by rw [(bcells d2).1 _ _ hp1]; exact b1
                  have oo2 := own_below oo1 d2
                  have BB2 := BB1.trans (d2.mono BB1.size)
                  clear d2 a1 b1 oo1 BB1 hp1
                  go_wp2
                  rw [rounds_succ]
                  go_wp2_with fail
                  refine (letters_any nm _ (by unfold maxLen; omega)).mono ?_
                  rintro e w9 ⟨rfl, hq9⟩
                  obtain rfl : x2 = w9 := hq9.symm
                  obtain ⟨N, hN⟩ : ∃ N, nameB nm.data.toList = N := ⟨_, rfl⟩
                  rw [hN] at HR2
                  rw [hN]
                  have he : (R, E) = ([], 2) := by rw [HR2.out]; simp
                  obtain ⟨rfl, rfl⟩ := Prod.mk.inj he
                  clear he HR2 hN HZ
                  go_wp2
                  go_ret2
                  exact ⟨⟨_, rfl, own_colsv (World.ownsRow_nil _ w.heap.size _ _) (fun z hz => by simp at hz)⟩, B1.trans (BB2.mono B1.size)⟩
        · have h2z : ((ps.length : Int) != 2) = true := by rw [bne_iff_ne]; omega
          have he : (R, E) = ([], 2) := by
            rw [HR1.out, colRf, HPp.out]
            match ps, h2 with
            | [], _ => rfl
            | [a], _ => rfl
            | [a, b], h => exact absurd rfl h
            | a :: b :: c :: r, _ => rfl
          obtain ⟨rfl, rfl⟩ := Prod.mk.inj he
          clear he HR1 HPp HPZ h2 HZ
          go_wp2
          go_ret2
          exact ⟨⟨_, rfl, own_colsv (World.ownsRow_nil _ w.heap.size _ _) (fun z hz => by simp at hz)⟩, B1.trans (B2.mono B1.size)⟩
    · have hltz : ¬ (kk : Int) < (ws.length : Int) := by omega
      have HF : Hid ((R, E) = if schE cs ≠ 0 then ([], schE cs) else (cs, 0)) := by
        show _ = _
        rw [HR.out, List.drop_eq_nil_of_le (by omega), List.map_nil, sfGo, sdEnd, if_neg (by simp)]
      have hic := own_colsv hown HZ.out
      have cS := refSchema_v _ cs wr hic
      obtain ⟨K, hK⟩ : ∃ K, schE cs = K := ⟨_, rfl⟩
      rw [hK] at cS
      have HF2 : Hid ((R, E) = if K ≠ 0 then ([], K) else (cs, 0)) := by rw [← hK]; exact HF
      clear HF hK HR HZ
      by_cases k00 : K = 0
      · subst k00
        have he : (R, E) = (cs, 0) := HF2.out
        obtain ⟨rfl, rfl⟩ := Prod.mk.inj he
        clear he HF2
        go_wp2_with fail
        refine cS.mono ?_
        rintro e w' ⟨rfl, rfl⟩
        go_wp2
        go_ret2
        exact ⟨⟨_, rfl, hic⟩, BW0⟩
      · have he : (R, E) = ([], K) := by rw [HF2.out, if_pos k00]
        obtain ⟨rfl, rfl⟩ := Prod.mk.inj he
        have hb : (E != 0) = true := by simpa using k00
        clear he HF2 k00
        go_wp2_with fail
        refine cS.mono ?_
        rintro e w' ⟨rfl, rfl⟩
        go_wp2
        go_ret2
        exact ⟨⟨_, rfl, own_colsv (World.ownsRow_nil _ w.heap.size _ _) (fun z hz => by simp at hz)⟩, BW0⟩
end Go.Proofs.YtggabncpedcmdaaGreatDoor
