/-
  The walk of sluicelaw4.RowFinds, for all columns and texts.
-/
import Derived.Test.YtggabncpedcmdaaDoorRow5
namespace Go.Proofs.YtggabncpedcmdaaDoor
open Go.RowKit
set_option linter.unusedVariables false

theorem two_cols (w : World) : ColsIn (w.alloc (.cells #[.string ⟨#[97]⟩, .int .i64 1, .string ⟨#[98]⟩, .int .i64 2] 37)) w.heap.size 0 [(⟨#[97]⟩, 1), (⟨#[98]⟩, 2)] :=
  ⟨by simp, fun j hj => by
    have hj2 : j = 0 ∨ j = 1 := by simp at hj; omega
    rcases hj2 with rfl | rfl
    · exact ⟨by rw [World.cell?_alloc_at _ _ _ _ rfl]; rfl, by rw [World.cell?_alloc_at _ _ _ _ rfl]; rfl⟩
    · exact ⟨by rw [World.cell?_alloc_at _ _ _ _ rfl]; rfl, by rw [World.cell?_alloc_at _ _ _ _ rfl]; rfl⟩⟩
theorem any_take (zs : List (ByteArray × Int)) (x : List UInt8) (k : Nat) (h : k < zs.length) : (zs.take (k + 1)).any (fun z => z.1.data.toList == x) = ((zs.take k).any (fun z => z.1.data.toList == x) || zs[k].1.data.toList == x) := by
  rw [List.take_succ_eq_append_getElem h, List.any_append]; simp
theorem any_find (zs : List (ByteArray × Int)) (x : List UInt8) : zs.any (fun z => z.1.data.toList == x) = decide (0 ≤ findN x zs) := by
  rcases findN_cases x zs with ⟨e, hn⟩ | ⟨k, e, hk, he, _⟩
  · rw [e]
    rw [List.any_eq_false.2 fun z hz => by
      obtain ⟨j, hj, rfl⟩ := List.getElem_of_mem hz
      simpa using hn j hj]
    rfl
  · rw [e, List.any_eq_true.2 ⟨zs[k], List.getElem_mem hk, by simpa using he⟩]
    symm
    exact decide_eq_true (by omega)

set_option maxHeartbeats 4000000 in
theorem finds_none (p : Option Addr) (c : Nat) (s : ByteArray) (w : World) :
    Calls Tryd.prog 4 #[.slice p 0 c, .string s] w fun e w' => e = .returned (.bool true) ∧ Below w.heap.size w w' := by
  have B0 : Below w.heap.size w (w.alloc (.cells #[.string ⟨#[97]⟩, .int .i64 1, .string ⟨#[98]⟩, .int .i64 2] 37)) := (Below.refl _ _).alloc (Nat.le_refl _) _
  go_enter Tryd.func4, Tryd.ntmps4
  go_wp2_with fail
  refine (find_any ⟨#[98]⟩ w.heap.size 0 2 [(⟨#[97]⟩, 1), (⟨#[98]⟩, 2)] _ (by decide) (two_cols w) 1 (by decide)).mono ?_
  rintro e w1 ⟨rfl, b1⟩
  go_wp2_with fail
  refine (schema_none p c _).mono ?_
  rintro e w2 ⟨rfl, rfl⟩
  rw [errR_n (by decide)]
  go_wp2
  go_ret
  exact ⟨rfl, B0.trans (b1.mono B0.size)⟩
set_option maxHeartbeats 4000000 in
theorem finds_some (b off c : Nat) (zs : List (ByteArray × Int)) (s : ByteArray) (w : World) (hw : TW w) (hcap : zs.length ≤ c) (hl : ∀ z ∈ zs, z.1.size ≤ maxLen) (hc : ColsIn w b off zs) (hn : zs.length ≤ 9223372036854775807) :
    Calls Tryd.prog 4 #[.slice (some ⟨b, off, none⟩) zs.length c, .string s] w fun e w' => e = .returned (.bool true) ∧ Below w.heap.size w w' := by
  have B0 : Below w.heap.size w (w.alloc (.cells #[.string ⟨#[97]⟩, .int .i64 1, .string ⟨#[98]⟩, .int .i64 2] 37)) := (Below.refl _ _).alloc (Nat.le_refl _) _
  by_cases hE : schE zs = 0
  · obtain ⟨_, h6, hF⟩ := schE_zero hE
    have HE : Hid (schE zs = 0) := hE
    clear hE
    go_enter Tryd.func4, Tryd.ntmps4
    go_wp2_with fail
    refine (find_any ⟨#[98]⟩ w.heap.size 0 2 [(⟨#[97]⟩, 1), (⟨#[98]⟩, 2)] _ (by decide) (two_cols w) 1 (by decide)).mono ?_
    rintro e w1 ⟨rfl, b1⟩
    have B1 := B0.trans (b1.mono B0.size)
    clear b1
    go_wp2_with fail
    refine (schema_any b off c zs _ (hw.on B1) hcap hl (hc.on B1)).mono ?_
    rintro e w2 ⟨rfl, b2⟩
    rw [HE.out, errR_z rfl]
    have B2 := B1.trans (b2.mono B1.size)
    clear b2
    go_wp2
    go_loopg [7, 8, 9, 10] zs.length (fun gg s7 s8 _ _ wr => ∃ kk : Nat, kk ≤ zs.length ∧ zs.length - kk ≤ gg ∧ s8 = .int .i64 kk ∧ (∃ hb : Bool, s7 = .bool hb ∧ Hid (hb = (zs.take kk).any (fun z => z.1.data.toList == s.data.toList))) ∧ Aside (Below w.heap.size w wr))
    case atStart => exact ⟨0, Nat.zero_le _, by omega, rfl, ⟨false, rfl, (show Hid _ by simp [Hid])⟩, B2⟩
    case round =>
      obtain ⟨kk, hkk, hg, rfl, ⟨hb, rfl, HB⟩, BW⟩ := hrel
      by_cases hlt : kk < zs.length
      · have hltz : (kk : Int) < (zs.length : Int) := by omega
        have k0 : (0 : Int) ≤ (kk : Int) := by omega
        obtain ⟨c0, c1⟩ := (hc.on BW.out).2 kk hlt
        have hfk := (hF kk hlt).2.2
        have HA : Hid ((zs.take (kk + 1)).any (fun z => z.1.data.toList == s.data.toList) = ((zs.take kk).any (fun z => z.1.data.toList == s.data.toList) || zs[kk].1.data.toList == s.data.toList)) := any_take zs _ kk hlt
        generalize hy : zs[kk] = y at c0 c1 hfk HA
        obtain ⟨yn, yt⟩ := y
        have cF := find_any yn b off c zs wr hn (hc.on BW.out) kk hfk
        clear hfk hy
        go_wp2_with fail
        refine cF.mono ?_
        rintro e w3 ⟨rfl, b3⟩
        have B3 := BW.out.trans (b3.mono BW.out.size)
        obtain ⟨d0, d1⟩ := (show w3.cell? ⟨b, off + kk * 2, none⟩ = some (.string yn) ∧ b < w3.heap.size from ⟨by rw [b3.cell (p := ⟨b, off + kk * 2, none⟩) (hc.on BW.out).1]; exact c0, (hc.on B3).1⟩)
        clear c0 c1 b3 cF hc hF hl
        cases hb
        · have HA2 : Hid ((yn.toList == s.toList) = (zs.take (kk + 1)).any (fun z => z.1.data.toList == s.data.toList)) := by
            show _ = _
            rw [HA.out, ← HB.out, Lib.toList_data, Lib.toList_data, Bool.false_or]
          clear HA HB
          go_wp2
          go_roundg (zs.length - (kk + 1))
          case measure => omega
          case rel => exact ⟨kk + 1, by omega, by omega, by go_num, ⟨_, rfl, HA2⟩, B3⟩
        · have HA2 : Hid (true = (zs.take (kk + 1)).any (fun z => z.1.data.toList == s.data.toList)) := by
            show _ = _
            rw [HA.out, ← HB.out]; simp
          clear HA HB
          go_wp2
          go_roundg (zs.length - (kk + 1))
          case measure => omega
          case rel => exact ⟨kk + 1, by omega, by omega, by go_num, ⟨true, rfl, HA2⟩, B3⟩
      · have hltz : ¬ (kk : Int) < (zs.length : Int) := by omega
        have hk : kk = zs.length := by omega
        have HB2 : Hid (hb = decide (0 ≤ findN s.data.toList zs)) := by
          show _ = _
          rw [HB.out, hk, List.take_length]; exact any_find zs _
        clear HB hk
        rcases findN_cases s.data.toList zs with ⟨e, _⟩ | ⟨k, e, _⟩
        · have hb0 : hb = false := by rw [HB2.out, e]; rfl
          subst hb0
          clear HB2
          go_wp2_with fail
          refine (find_none s b off c zs _ hn (hc.on BW.out) e).mono ?_
          rintro e w3 ⟨rfl, b3⟩
          go_wp2
          go_ret
          exact ⟨rfl, BW.out.trans (b3.mono BW.out.size)⟩
        · have hb0 : hb = true := by rw [HB2.out, e]; exact decide_eq_true (by omega)
          subst hb0
          clear HB2
          go_wp2_with fail
          refine (find_any s b off c zs _ hn (hc.on BW.out) k e).mono ?_
          rintro e w3 ⟨rfl, b3⟩
          go_wp2
          go_ret
          exact ⟨rfl, BW.out.trans (b3.mono BW.out.size)⟩
  · have HE : Hid (schE zs ≠ 0) := hE
    clear hE
    go_enter Tryd.func4, Tryd.ntmps4
    go_wp2_with fail
    refine (find_any ⟨#[98]⟩ w.heap.size 0 2 [(⟨#[97]⟩, 1), (⟨#[98]⟩, 2)] _ (by decide) (two_cols w) 1 (by decide)).mono ?_
    rintro e w1 ⟨rfl, b1⟩
    have B1 := B0.trans (b1.mono B0.size)
    clear b1
    go_wp2_with fail
    refine (schema_any b off c zs _ (hw.on B1) hcap hl (hc.on B1)).mono ?_
    rintro e w2 ⟨rfl, b2⟩
    rw [errR_n HE.out]
    have B2 := B1.trans (b2.mono B1.size)
    clear b2
    go_wp2
    go_ret
    exact ⟨rfl, B2⟩
end Go.Proofs.YtggabncpedcmdaaDoor
