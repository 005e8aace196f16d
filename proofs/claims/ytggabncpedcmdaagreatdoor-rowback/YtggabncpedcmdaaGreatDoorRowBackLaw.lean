/-
  The walk of sluicelaw1.RowBack, for all columns, values and texts.
-/
import Derived.Test.YtggabncpedcmdaaGreatDoorRowBackWalk
namespace Go.Proofs.YtggabncpedcmdaaGreatDoor
open Go.RowKit
set_option linter.unusedVariables false

theorem rowT_small {rs : List (Int × Int × ByteArray)} {X : ByteArray} (hE : rowE rs = 0) (hsz : Sized rs) (hX : X.data.toList = rowT rs) : X.size ≤ 140737488355328 := by
  rw [rowE] at hE
  split at hE
  · exact absurd hE (by decide)
  · rename_i h6
    have hv := valsE_zero hE
    have := join_len [44] (rs.map fun r => shown r.1 r.2.1 r.2.2.data.toList) (fun l hl => by
      obtain ⟨r, hr, rfl⟩ := List.mem_map.1 hl
      exact shown_len (hv r hr) (hsz r hr).2) rfl
    rw [Lib.size_eq, hX, rowT]
    simp at this
    omega
theorem schT_small {zs : List (ByteArray × Int)} {X : ByteArray} (hE : schE zs = 0) (hX : X.data.toList = schT zs) : X.size ≤ 140737488355328 := by
  obtain ⟨_, h6, hF⟩ := schE_zero hE
  have := join_len [44] (zs.map fun z => (colT z).data.toList) (fun l hl => by
    obtain ⟨z, hz, rfl⟩ := List.mem_map.1 hl
    obtain ⟨j, hj, rfl⟩ := List.getElem_of_mem hz
    have h1 := colT_size _ (hF j hj).1
    have h2 : (colT zs[j]).data.toList.length = (colT zs[j]).size := by simp
    omega) rfl
  rw [Lib.size_eq, hX, schT]
  simp at this
  omega
set_option maxHeartbeats 8000000 in
set_option maxRecDepth 20000 in
theorem rback (lv rv : Value) (zs : List (ByteArray × Int)) (rs : List (Int × Int × ByteArray)) (s t : ByteArray) (w : World) (henv : Env w) (hw : TW w) (hl : IsCols w lv zs) (hr : IsVals w rv rs) (hsz : Sized rs) (hs : s.size ≤ 140737488355328) (ht : t.size ≤ 140737488355328) :
    Calls Tryz.prog 5 #[lv, rv, .string s, .string t] w fun e w' => e = .returned (.bool true) ∧ Below w.heap.size w w' := by
  have HSZ : Hid (Sized rs) := hsz
  clear hsz
  go_enter Tryz.func5, Tryz.ntmps5
  go_wp2_with fail
  refine (parse_vok ⟨#[55, 44, 39, 97, 44, 98, 39, 44, 116, 114, 117, 101]⟩ fact3 _ (by decide) henv fact_read).mono ?_
  rintro e w1 ⟨⟨fv, rfl, hfv⟩, B1⟩
  obtain ⟨fp, fc, rfl, _, hf⟩ := hfv
  rcases hf with h0 | ⟨fb, fo, rfl, hfi⟩
  · exact absurd h0 (by decide)
  have hfl := hfi.1
  have hfc : w1.cell? ⟨fb, fo + 1 * 3 + 2, none⟩ = some (.string ⟨#[97, 44, 98]⟩) := (hfi.2 1 (by decide)).2.2
  have hfc2 : w1.cell? ⟨fb, fo + 3 + 2, none⟩ = some (.string ⟨#[97, 44, 98]⟩) := hfc
  have hfc3 : w1.cell? ⟨fb, fo + 5, none⟩ = some (.string ⟨#[97, 44, 98]⟩) := hfc
  have hf3 : fact3.length = 3 := rfl
  rw [hf3]
  clear hfi
  go_wp2_with fail
  clear hfc hfc2 hfc3 hfl
  refine (print_v rv rs _ (henv.on B1) (hr.on B1) HSZ.out).mono ?_
  rintro e w2 ⟨⟨X, er, bb, rfl, hE, HX⟩, b2⟩
  have B2 := B1.trans (b2.mono B1.size)
  have he1 := hE.eql
  have he2 := hE.geql
  clear b2
  go_upto_if 49 with fail
  go_cut [13, 14, 15] (fun _ _ _ wc => Below w.heap.size w wc)
  case first => as_aux_lemma =>
    cases bb
    · go_wp2
      go_meet
      exact B2
    · obtain ⟨hn1, hE0, hXt⟩ := HX.out rfl
      have HR : Hid (rdRow X = (rs, 0)) := row_back hE0 HSZ.out hXt
      have hXs : X.size ≤ 140737488355328 := rowT_small hE0 HSZ.out hXt
      clear HX hE0 hXt hn1
      go_wp2_with fail
      refine (parse_vok X rs _ hXs (henv.on B2) HR.out).mono ?_
      rintro e w3 ⟨⟨yv, rfl, hyv⟩, b3⟩
      have B3 := B2.trans (b3.mono B2.size)
      go_wp2_with fail
      refine (vals_v yv rv rs _ hyv (hr.on B3)).mono ?_
      rintro e w4 ⟨rfl, b4⟩
      have B4 := B3.trans (b4.mono B3.size)
      go_wp2
      go_meet
      exact B4
  case rest => as_aux_lemma =>
    clear HX he1 he2 hE B2 B1
    have A1 : Below w.heap.size w wc := hcut
    clear hcut
    go_wp2_with fail
    refine (parse_v s _ hs (henv.on A1)).mono ?_
    rintro e w3 ⟨⟨yv, er, bb, R, rfl, hE, hyv, HX⟩, b3⟩
    have B3 := A1.trans (b3.mono A1.size)
    have he1 := hE.eql
    have he2 := hE.geql
    clear b3
    go_upto_if 70 with fail
    go_cut [17, 18] (fun _ _ wc => Below w.heap.size w wc)
    case first => as_aux_lemma =>
      cases bb
      · go_wp2
        go_meet
        exact B3
      · obtain ⟨hn1, hr0⟩ := HX.out rfl
        obtain ⟨k1, k2, k3⟩ := back_row hr0
        have K1 : Hid (rowE R = 0) := k1
        have K2 : Hid (s.data.toList = rowT R) := k2.symm
        have K3 : Hid (Sized R) := k3
        clear HX hr0 k1 k2 k3 hn1
        go_wp2_with fail
        refine (print_vok yv R s _ (henv.on B3) hyv K3.out K1.out K2.out).mono ?_
        rintro e w4 ⟨rfl, b4⟩
        have B4 := B3.trans (b4.mono B3.size)
        go_wp2
        go_meet
        exact B4
    case rest => as_aux_lemma =>
      clear HX he1 he2 hE B3 A1
      have A2 : Below w.heap.size w wc := hcut
      clear hcut
      go_wp2_with fail
      refine (showS_v lv zs _ (hw.on A2) (hl.on A2)).mono ?_
      rintro e w4 ⟨⟨X2, er, bb, rfl, hE, HX⟩, b4⟩
      have B4 := A2.trans (b4.mono A2.size)
      have he1 := hE.eql
      have he2 := hE.geql
      clear b4
      go_upto_if 89 with fail
      go_cut [19, 20, 21] (fun _ _ _ wc => Below w.heap.size w wc)
      case first => as_aux_lemma =>
        cases bb
        · go_wp2
          go_meet
          exact B4
        · obtain ⟨hn1, hE0, hXt⟩ := HX.out rfl
          have HR : Hid (sdRow X2 = (zs, 0)) := sch_back hE0 hXt
          have hXs : X2.size ≤ 140737488355328 := schT_small hE0 hXt
          clear HX hE0 hXt hn1
          go_wp2_with fail
          refine (readS_vok X2 zs _ hXs (hw.on B4) HR.out).mono ?_
          rintro e w5 ⟨⟨mv, rfl, hmv⟩, b5⟩
          have B5 := B4.trans (b5.mono B4.size)
          go_wp2_with fail
          refine (cols_v mv lv zs _ hmv (hl.on B5)).mono ?_
          rintro e w6 ⟨rfl, b6⟩
          have B6 := B5.trans (b6.mono B5.size)
          go_wp2
          go_meet
          exact B6
      case rest => as_aux_lemma =>
        clear HX he1 he2 hE B4 A2
        have A3 : Below w.heap.size w wc := hcut
        clear hcut
        go_wp2_with fail
        refine (readS_v t _ ht (hw.on A3)).mono ?_
        rintro e w5 ⟨⟨mv, er, bb, R, rfl, hE, hmv, HX⟩, b5⟩
        have B5 := A3.trans (b5.mono A3.size)
        have he1 := hE.neq
        have he2 := hE.gneq
        clear b5
        cases bb
        · go_wp2
          go_ret
          exact ⟨rfl, B5⟩
        · obtain ⟨hn1, hr0⟩ := HX.out rfl
          obtain ⟨k1, k2⟩ := back_sch hr0
          have K1 : Hid (schE R = 0) := k1
          have K2 : Hid (t.data.toList = schT R) := k2.symm
          clear HX hr0 k1 k2
          go_wp2_with fail
          refine (showS_vok mv R t _ (hw.on B5) hmv K1.out K2.out).mono ?_
          rintro e w6 ⟨rfl, b6⟩
          have B6 := B5.trans (b6.mono B5.size)
          go_wp2
          go_ret
          exact ⟨rfl, B6⟩
end Go.Proofs.YtggabncpedcmdaaGreatDoor
