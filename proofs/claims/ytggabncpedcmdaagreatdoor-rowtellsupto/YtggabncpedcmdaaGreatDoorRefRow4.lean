/-
  The document's ShowSchema (package sluiceref1), of any columns that are right.
-/
import Derived.Test.YtggabncpedcmdaaGreatDoorRefRow3
namespace Go.Proofs.YtggabncpedcmdaaGreatDoor
open Go.RowKit
set_option linter.unusedVariables false

theorem schT_snoc : ∀ (zs : List (ByteArray × Int)) (z : ByteArray × Int), schT (zs ++ [z]) = if zs = [] then (colT z).data.toList else schT zs ++ 44 :: (colT z).data.toList
  | [], z => by rw [if_pos rfl, List.nil_append, schT_one]
  | [a], z => by rw [if_neg (by simp), List.cons_append, List.nil_append, schT_cons, schT_one, schT_one]
  | a :: b :: zs, z => by
    have ih := schT_snoc (b :: zs) z
    rw [if_neg (by simp)] at ih ⊢
    rw [List.cons_append] at ih
    rw [List.cons_append, List.cons_append, schT_cons, schT_cons, ih]
    simp
theorem schT_len {zs : List (ByteArray × Int)} (h6 : zs.length ≤ 6) (h : ∀ z ∈ zs, nameB z.1.data.toList = true) : (schT zs).length ≤ 606 := by
  have := join_len [44] (zs.map fun z => (colT z).data.toList) (fun l hl => by
    obtain ⟨z, hz, rfl⟩ := List.mem_map.1 hl
    have h1 := colT_size z (h z hz)
    have h2 : (colT z).data.toList.length = (colT z).size := by simp
    omega) rfl
  rw [schT]
  simp at this
  omega
set_option maxHeartbeats 8000000 in
set_option maxRecDepth 20000 in
theorem refShowS_some (b off c : Nat) (zs : List (ByteArray × Int)) (w : World) (hE : schE zs = 0) (hc : ColsIn w b off zs) :
    Calls Tryz.prog 26 #[.slice (some ⟨b, off, none⟩) zs.length c] w fun e w' => (∃ X : ByteArray, e = .returned (.string X) ∧ X.data.toList = schT zs) ∧ Below w.heap.size w w' := by
  obtain ⟨_, h6, hF⟩ := schE_zero hE
  clear hE
  go_enter Tryz.func26, Tryz.ntmps26
  go_wp2
  go_loopg [3, 4, 5] zs.length (fun gg s3 s4 _ wr => ∃ (kk : Nat) (S : ByteArray), kk ≤ zs.length ∧ zs.length - kk ≤ gg ∧ s3 = .string S ∧ s4 = .int .i64 kk ∧ Hid (S.data.toList = schT (zs.take kk)) ∧ S.size ≤ 606 ∧ Aside (Below w.heap.size w wr))
  case atStart => exact ⟨0, ⟨#[]⟩, Nat.zero_le _, by omega, rfl, rfl, (show Hid _ by show _ = _; rfl), by decide, Below.refl _ w⟩
  case round =>
    obtain ⟨kk, S, hkk, hg, rfl, rfl, HSt, hSs, BW⟩ := hrel
    by_cases hlt : kk < zs.length
    · have hltz : (kk : Int) < (zs.length : Int) := by omega
      have k0 : (0 : Int) ≤ (kk : Int) := by omega
      have hri2 := (hc.on BW.out)
      obtain ⟨c0, c1⟩ := hri2.2 kk hlt
      have hrl := hri2.1
      obtain ⟨hnm, htt, _⟩ := hF kk hlt
      have HT : Hid (zs.take (kk + 1) = zs.take kk ++ [zs[kk]]) := List.take_succ_eq_append_getElem hlt
      have HLen : Hid ((schT (zs.take (kk + 1))).length ≤ 606) := schT_len (by simp; omega) (fun z hz => by
        obtain ⟨j, hj, rfl⟩ := List.getElem_of_mem (List.mem_of_mem_take hz)
        exact (hF j hj).1)
      generalize hy : zs[kk] = y at c0 c1 hnm htt HT
      obtain ⟨yn, yt⟩ := y
      simp only at c0 c1 hnm htt
      have hys : yn.size ≤ 8 := by have := nameB_len hnm; simpa using this
      have cT := typeName_any yt wr htt
      have hwd := wordOf_size yt
      obtain ⟨wd, hwe⟩ : ∃ wd, wordOf yt = wd := ⟨_, rfl⟩
      have HCt : Hid ((colT (yn, yt)).data.toList = yn.data.toList ++ 32 :: wd.data.toList) := by
        show _ = _
        rw [colT_list, hwe]
      rw [hwe] at cT hwd
      have hk0 : (zs.take kk = []) ↔ kk = 0 := by
        constructor
        · intro h
          have := congrArg List.length h
          rw [List.length_take, List.length_nil] at this
          omega
        · rintro rfl; simp
      have HTx : Hid (schT (zs.take (kk + 1)) = if kk = 0 then yn.data.toList ++ 32 :: wd.data.toList else S.data.toList ++ 44 :: (yn.data.toList ++ 32 :: wd.data.toList)) := by
        show _ = _
        rw [HT.out, schT_snoc, HCt.out, HSt.out]
        by_cases h : kk = 0
        · rw [if_pos h, if_pos (hk0.2 h)]
        · rw [if_neg h, if_neg (fun e => h (hk0.1 e))]
      have HS0 : Hid (kk = 0 → S.data.toList = []) := fun h => by
        subst h
        exact HSt.out
      clear hy hwe HT HSt hF hk0 hri2 htt hnm HCt
      by_cases hkz : kk = 0
      · have hkz2 : ¬ (0 : Int) < (kk : Int) := by omega
        have HX : Hid ((S ++ yn ++ ⟨#[32]⟩ ++ wd).data.toList = schT (zs.take (kk + 1))) := by
          show _ = _
          rw [HTx.out, if_pos hkz]
          simp [HS0.out hkz]
        have HXs : Hid ((S ++ yn ++ ⟨#[32]⟩ ++ wd).size ≤ 606) := by
          show _ ≤ _
          rw [Lib.size_eq, HX.out]; exact HLen.out
        clear HTx HLen HS0 hkz
        go_wp2_with fail
        refine cT.mono ?_
        rintro e w2 ⟨rfl, b2⟩
        have g0 : w2.cell? ⟨b, off + kk * 2, none⟩ = some (.string yn) := by rw [(bcells b2).1 _ _ hrl]; exact c0
        have gl : b < w2.heap.size := by have := b2.size; omega
        have B3 := BW.out.trans (b2.mono BW.out.size)
        clear c0 c1 b2
        go_wp2
        go_roundg (zs.length - (kk + 1))
        case measure => omega
        case rel => exact ⟨kk + 1, _, by omega, by omega, rfl, by go_num, HX, HXs.out, B3⟩
      · have hkz2 : (0 : Int) < (kk : Int) := by omega
        have HX : Hid ((S ++ ⟨#[44]⟩ ++ yn ++ ⟨#[32]⟩ ++ wd).data.toList = schT (zs.take (kk + 1))) := by
          show _ = _
          rw [HTx.out, if_neg hkz]
          simp
        have HXs : Hid ((S ++ ⟨#[44]⟩ ++ yn ++ ⟨#[32]⟩ ++ wd).size ≤ 606) := by
          show _ ≤ _
          rw [Lib.size_eq, HX.out]; exact HLen.out
        clear HTx HLen HS0 hkz
        go_wp2_with fail
        refine cT.mono ?_
        rintro e w2 ⟨rfl, b2⟩
        have g0 : w2.cell? ⟨b, off + kk * 2, none⟩ = some (.string yn) := by rw [(bcells b2).1 _ _ hrl]; exact c0
        have gl : b < w2.heap.size := by have := b2.size; omega
        have B3 := BW.out.trans (b2.mono BW.out.size)
        clear c0 c1 b2
        go_wp2
        go_roundg (zs.length - (kk + 1))
        case measure => omega
        case rel => exact ⟨kk + 1, _, by omega, by omega, rfl, by go_num, HX, HXs.out, B3⟩
    · have hltz : ¬ (kk : Int) < (zs.length : Int) := by omega
      have hk : kk = zs.length := by omega
      subst hk
      have HX : Hid (S.data.toList = schT zs) := by
        have := HSt.out
        rwa [List.take_length] at this
      clear HSt hF
      go_wp2
      go_ret
      exact ⟨⟨S, rfl, HX.out⟩, BW.out⟩
theorem refShowS_v (lv : Value) (zs : List (ByteArray × Int)) (w : World) (h : IsCols w lv zs) (hE : schE zs = 0) :
    Calls Tryz.prog 26 #[lv] w fun e w' => (∃ X : ByteArray, e = .returned (.string X) ∧ X.data.toList = schT zs) ∧ Below w.heap.size w w' := by
  obtain ⟨p, c, rfl, hcap, hm, hz, h⟩ := h
  rcases h with h0 | ⟨b, off, rfl, h⟩
  · exact absurd h0 (schE_zero hE).1
  · exact refShowS_some b off c zs w hE h
theorem refFind_v (lv : Value) (zs : List (ByteArray × Int)) (nm : ByteArray) (w : World) (h : IsCols w lv zs) :
    Calls Tryz.prog 31 #[lv, .string nm] w fun e w' => e = .returned (.int .i64 (findN nm.data.toList zs)) ∧ w' = w := by
  obtain ⟨p, c, rfl, hcap, hm, hz, h⟩ := h
  rcases h with h0 | ⟨b, off, rfl, h⟩
  · have := List.length_eq_zero_iff.1 h0
    subst this
    exact refFind_none p c nm w
  · exact refFind_any b off c zs nm w (by unfold maxLen at hm; omega) h
theorem find_nil (q : Option Addr) (c : Nat) (nm : ByteArray) (w : World) :
    Calls Tryz.prog 32 #[.slice q 0 c, .string nm] w fun e w' => e = .returned (.tuple #[.int .i64 0, errV 5]) ∧ Below w.heap.size w w' := by
  go_enter Tryz.func32, Tryz.ntmps32
  go_wp2_with fail
  refine (place_none nm q c _).mono ?_
  rintro e w1 ⟨rfl, b1⟩
  go_wp2
  go_ret2
  exact ⟨rfl, b1⟩
theorem find_v (lv : Value) (zs : List (ByteArray × Int)) (nm : ByteArray) (w : World) (h : IsCols w lv zs) :
    Calls Tryz.prog 32 #[lv, .string nm] w fun e w' => e = .returned (.tuple #[.int .i64 (if findN nm.data.toList zs < 0 then 0 else findN nm.data.toList zs), errV (if findN nm.data.toList zs < 0 then 5 else 0)]) ∧ Below w.heap.size w w' := by
  obtain ⟨p, c, rfl, hcap, hm, hz, h⟩ := h
  rcases h with h0 | ⟨b, off, rfl, h⟩
  · have := List.length_eq_zero_iff.1 h0
    subst this
    exact find_nil p c nm w
  · have hn : zs.length ≤ 9223372036854775807 := by unfold maxLen at hm; omega
    rcases findN_cases nm.data.toList zs with ⟨e, _⟩ | ⟨k, e, _⟩
    · rw [e]
      exact (find_none nm b off c zs w hn h e).mono fun e w' hh => ⟨hh.1, hh.2⟩
    · rw [e, if_neg (by omega), if_neg (by omega)]
      exact (find_any nm b off c zs w hn h k e).mono fun e w' hh => ⟨hh.1, hh.2⟩
end Go.Proofs.YtggabncpedcmdaaGreatDoor
