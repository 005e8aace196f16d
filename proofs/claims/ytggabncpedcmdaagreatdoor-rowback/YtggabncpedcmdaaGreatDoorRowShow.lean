/-
  What PrintSchema of package row says of any columns.
-/
import Derived.Test.YtggabncpedcmdaaGreatDoorRowPrint
namespace Go.Proofs.YtggabncpedcmdaaGreatDoor
open Go.RowKit
set_option linter.unusedVariables false

def colT (z : ByteArray × Int) : ByteArray := z.1 ++ ⟨#[32]⟩ ++ wordOf z.2
/-- The text of a schema that is right. -/
def schT (zs : List (ByteArray × Int)) : List UInt8 := Lib.join (zs.map fun z => (colT z).data.toList) [44]
theorem nameB_len {l : List UInt8} (h : nameB l = true) : l.length ≤ 8 := by
  rw [nameB] at h
  simp at h
  exact h.2.1
theorem wordOf_size (t : Int) : (wordOf t).size ≤ 4 := by
  rw [wordOf]
  split
  · decide
  · split <;> decide
theorem colT_size (z : ByteArray × Int) (h : nameB z.1.data.toList = true) : (colT z).size ≤ 13 := by
  have h1 := nameB_len h
  have h2 := wordOf_size z.2
  have h3 : z.1.data.toList.length = z.1.size := by simp
  have h4 : (⟨#[32]⟩ : ByteArray).size = 1 := rfl
  rw [colT, ByteArray.size_append, ByteArray.size_append]
  omega
set_option maxHeartbeats 4000000 in
theorem pschema_bad (b off c : Nat) (zs : List (ByteArray × Int)) (w : World) (hw : TW w) (hcap : zs.length ≤ c) (hl : ∀ z ∈ zs, z.1.size ≤ maxLen) (hc : ColsIn w b off zs) (hE : schE zs ≠ 0) :
    Calls Tryz.prog 27 #[.slice (some ⟨b, off, none⟩) zs.length c] w fun e w' => e = .returned (.tuple #[.string ⟨#[]⟩, errR (schE zs)]) ∧ Below w.heap.size w w' := by
  have cS := schema_any b off c zs w hw hcap hl hc
  obtain ⟨E, hEq⟩ : ∃ E, schE zs = E := ⟨_, rfl⟩
  rw [hEq] at cS hE ⊢
  have HE : Hid (errR E = .iface 69 (.int .i64 E)) := errR_n hE
  clear hEq hE
  go_enter Tryz.func27, Tryz.ntmps27
  go_wp2_with fail
  refine cS.mono ?_
  rintro e w1 ⟨rfl, b1⟩
  rw [HE.out]
  go_wp2
  go_ret2
  exact ⟨by rw [HE.out]; rfl, b1⟩
theorem pschema_none (p : Option Addr) (c : Nat) (w : World) :
    Calls Tryz.prog 27 #[.slice p 0 c] w fun e w' => e = .returned (.tuple #[.string ⟨#[]⟩, errR 5]) ∧ Below w.heap.size w w' := by
  have HE : Hid (errR 5 = .iface 69 (.int .i64 5)) := errR_n (by decide)
  go_enter Tryz.func27, Tryz.ntmps27
  go_wp2_with fail
  refine (schema_none p c _).mono ?_
  rintro e w1 ⟨rfl, rfl⟩
  rw [HE.out]
  go_wp2
  go_ret2
  exact ⟨by rw [HE.out]; rfl, Below.refl _ _⟩
set_option maxHeartbeats 8000000 in
set_option maxRecDepth 20000 in
theorem pschema_ok (b off c : Nat) (zs : List (ByteArray × Int)) (w : World) (hw : TW w) (hcap : zs.length ≤ c) (hl : ∀ z ∈ zs, z.1.size ≤ maxLen) (hc : ColsIn w b off zs) (hE : schE zs = 0) :
    Calls Tryz.prog 27 #[.slice (some ⟨b, off, none⟩) zs.length c] w fun e w' => e = .returned (.tuple #[.string ⟨(schT zs).toArray⟩, .nilIface]) ∧ Below w.heap.size w w' := by
  have cS := schema_any b off c zs w hw hcap hl hc
  obtain ⟨_, h6, hF⟩ := schE_zero hE
  rw [hE, errR_z rfl] at cS
  obtain ⟨T, hT⟩ : ∃ T : ByteArray, (⟨(schT zs).toArray⟩ : ByteArray) = T := ⟨_, rfl⟩
  have HT : Hid ((⟨(schT zs).toArray⟩ : ByteArray) = T) := hT
  rw [hT]
  clear hT hE hl
  obtain ⟨i0, hi, hz0, hz1, hz2⟩ := info_parts info_str
  go_enter Tryz.func27, Tryz.ntmps27
  go_wp2_with fail
  refine cS.mono ?_
  rintro e w0 ⟨rfl, b0⟩
  go_wp2
  go_loopg [5, 7, 8, 9, 17] zs.length (fun gg s5 _ _ _ s17 wr => ∃ (kk : Nat) (L : List ByteArray), kk ≤ zs.length ∧ zs.length - kk ≤ gg ∧ s17 = .int .i64 kk ∧ wr.ownsRow w.heap.size 9 1 s5 L.length (strCells L) ∧ Hid (L = (zs.take kk).map colT) ∧ Aside (Below w.heap.size w wr))
  case atStart => exact ⟨0, [], Nat.zero_le _, by omega, rfl, World.ownsRow_nil _ _ _ _, (show Hid _ by simp [Hid]), b0⟩
  case round =>
    obtain ⟨kk, L, hkk, hg, rfl, hown, HLL, BW⟩ := hrel
    by_cases hlt : kk < zs.length
    · have hltz : (kk : Int) < (zs.length : Int) := by omega
      obtain ⟨c0, c1⟩ := (hc.on BW.out).2 kk hlt
      obtain ⟨hnm, htt, _⟩ := hF kk hlt
      have HTk : Hid (zs.take (kk + 1) = zs.take kk ++ [zs[kk]]) := List.take_succ_eq_append_getElem hlt
      generalize hy : zs[kk] = y at c0 c1 hnm htt HTk
      obtain ⟨yn, yt⟩ := y
      simp only at hnm htt c0 c1
      have hys : yn.size ≤ 8 := by have := nameB_len hnm; simpa using this
      have B1 := BW.out.alloc BW.out.size (.cells #[.string yn, .int .i64 yt] 86)
      have cB := byType_yes yt (wr.alloc (.cells #[.string yn, .int .i64 yt] 86)) (hw.on B1) htt
      have hwd := wordOf_size yt
      obtain ⟨wd, hwe⟩ : ∃ wd, wordOf yt = wd := ⟨_, rfl⟩
      rw [hwe] at cB hwd
      obtain ⟨X, hX⟩ : ∃ X : ByteArray, yn ++ ⟨#[32]⟩ ++ wd = X := ⟨_, rfl⟩
      have HX : Hid (X = colT (yn, yt)) := by
        show _ = _
        rw [colT, hwe, hX]
      obtain ⟨r0, r1, _, _⟩ := Pair.new wr (.string yn) (.int .i64 yt) 86
      have o1 := hown.alloc (.cells #[.string yn, .int .i64 yt] 86)
      have HL : Hid (L ++ [X] = (zs.take (kk + 1)).map colT) := by
        show _ = _
        rw [HTk.out, List.map_append, HX.out, HLL.out]; rfl
      have HLen : Hid (L.length ≤ 6) := by
        show _ ≤ _
        rw [HLL.out]; simp; omega
      subst hX
      clear hy hwe HX HTk HLL htt hnm hF
      go_wp2_with fail
      refine cB.mono ?_
      rintro e w1 ⟨rfl, b1⟩
      obtain ⟨hc1, hf1⟩ := bcells b1
      have l1 : wr.heap.size < w1.heap.size := by have := b1.size; simp at this; omega
      have q0 := (hc1 wr.heap.size 0 (by simp)).trans r0
      have q1 := (hc1 wr.heap.size 1 (by simp)).trans r1
      have o2 := (own_below o1 b1).alloc (.cells #[.int .i64 yt, .string wd] 94)
      have B2 := B1.trans (b1.mono B1.size)
      have B3 := B2.alloc B2.size (.cells #[.int .i64 yt, .string wd] 94)
      clear b1 hc1 hf1 o1 cB r0 r1 B1
      go_wp2_with (at_builtin; refine wpList_append_own _ rfl _ _ 88 rfl w.heap.size 9 i0 (.string ⟨#[]⟩) 1 16 Tryz.underlying88 hi hz0 hz1 hz2 rfl (by decide) _ _ _ rfl (o2.alloc _) ⟨w1.heap.size + 1, 0, none⟩ 1 1 [.string (yn ++ ⟨#[32]⟩ ++ wd)] rfl rfl ?c1 ?c2 ?c3 ?c4 ?c5 ?_)
      case c1 =>
        intro i u hu
        rw [Go.WideShapes.add_plain]
        match i, hu with
        | 0, hu => simp at hu; subst hu; rw [World.cell?_alloc_at _ _ _ _ (by simp)]; rfl
      case c2 => intro u hu; simp at hu; subst hu; rfl
      case c3 => have := HLen.out; unfold maxLen; omega
      case c4 => have := HLen.out; omega
      case c5 => have := B3.size; simp at this ⊢; omega
      · intro v' w2 hown' hgrow _
        have R := rel_str o2 B3 (by have := B3.size; omega) hown' hgrow
        clear hown' hgrow o2 hown
        go_wp2
        go_roundg (zs.length - (kk + 1))
        case measure => omega
        case rel => exact ⟨kk + 1, L ++ [yn ++ ⟨#[32]⟩ ++ wd], by omega, by omega, by go_num, R.1, HL, R.2⟩
    · have hltz : ¬ (kk : Int) < (zs.length : Int) := by omega
      have hk : kk = zs.length := by omega
      subst hk
      have HL2 : Hid (L = zs.map colT) := by
        have := HLL.out
        rwa [List.take_length] at this
      have HR : Hid ((Lib.join (L.map (·.data.toList)) [44]) = schT zs) := by
        show _ = _
        rw [schT, HL2.out, List.map_map]
        congr 1
      have hlen : (Lib.join (L.map (·.data.toList)) [44]).length ≤ 140737488355328 := by
        have := join_len [44] (L.map (·.data.toList)) (fun l hl => by
          obtain ⟨x, hx, rfl⟩ := List.mem_map.1 hl
          rw [HL2.out] at hx
          obtain ⟨z, hz, rfl⟩ := List.mem_map.1 hx
          obtain ⟨j, hj, rfl⟩ := List.getElem_of_mem hz
          have h1 := colT_size _ (hF j hj).1
          have h2 : (colT zs[j]).data.toList.length = (colT zs[j]).size := by simp
          omega) rfl
        have h3 : L.length = zs.length := by rw [HL2.out]; simp
        simp at this
        omega
      have HN : Hid (L.length ≤ 6 ∧ L.length = zs.length) := by
        show _ ∧ _
        rw [HL2.out]; simp; omega
      clear HLL HL2 hF
      rcases hown.2 with ⟨rfl, hn0⟩ | ⟨g, cap, cur, rfl, _, hgg, hcap2, _, _, _⟩
      · have hL0 := List.length_eq_zero_iff.1 hn0
        have HQ2 : T = ⟨#[]⟩ := by rw [← HT.out, ← HR.out, hL0]; rfl
        subst HQ2
        clear HT HR hlen HN hown
        go_wp2_with fail
        refine (Tryz.strings_Join_none _ _ _ _).mono ?_
        rintro e w1 ⟨rfl, rfl⟩
        go_wp2
        go_ret2
        exact ⟨rfl, BW.out⟩
      · have hgl : g < wr.heap.size := (Array.getElem?_eq_some_iff.1 hgg).1
        have cJ := Tryz.strings_Join g 0 cap L ⟨#[44]⟩ wr (fun j x hx => by
          have := hown.cells (g := g) rfl j (.string x) (by simp only [strCells, List.getElem?_map, hx]; rfl)
          rw [Go.WideShapes.add_plain] at this
          simpa using this) hgl (by have := HN.out; omega) hcap2 hlen
        have hJ : (⟨(Lib.join (L.map (·.data.toList)) (⟨#[44]⟩ : ByteArray).data.toList).toArray⟩ : ByteArray) = T := by
          rw [← HT.out, ← HR.out]
        rw [hJ] at cJ
        clear hJ HR hlen HT hown HN
        go_wp2_with fail
        refine cJ.mono ?_
        rintro e w1 ⟨rfl, b1⟩
        go_wp2
        go_ret2
        exact ⟨rfl, BW.out.trans (b1.mono BW.out.size)⟩
end Go.Proofs.YtggabncpedcmdaaGreatDoor
