/-
  What sluicesame.Vals and sluicesame.Cols say of two lists that hold the same.
-/
import Derived.Test.YtggabncpedcmdaaGreatDoorRowRead
import Derived.Deep.QuietTactic
import Derived.BigQuiet
namespace Go.Proofs.YtggabncpedcmdaaGreatDoor
open Go.RowKit
set_option linter.unusedVariables false

theorem vals_none (pa pb : Option Addr) (ca cb : Nat) (w : World) :
    Calls Tryz.prog 25 #[.slice pa 0 ca, .slice pb 0 cb] w fun e w' => e = .returned (.bool true) ∧ Below w.heap.size w w' := by
  go_enter Tryz.func25, Tryz.ntmps25
  go_wp2
  refine wp_loop_rounds 1 ?_
  rw [rounds_succ]
  go_wp2
  go_ret
  exact ⟨rfl, Below.refl _ _⟩
set_option maxHeartbeats 4000000 in
theorem vals_same (ba oa ca bb ob cb : Nat) (rs : List (Int × Int × ByteArray)) (w : World) (hn : rs.length ≤ maxLen) (ha : ValsIn w ba oa rs) (hb : ValsIn w bb ob rs) :
    Calls Tryz.prog 25 #[.slice (some ⟨ba, oa, none⟩) rs.length ca, .slice (some ⟨bb, ob, none⟩) rs.length cb] w fun e w' => e = .returned (.bool true) ∧ Below w.heap.size w w' := by
  unfold maxLen at hn
  go_enter Tryz.func25, Tryz.ntmps25
  go_wp2
  go_loopg [5] rs.length (fun gg s5 wr => ∃ kk : Nat, kk ≤ rs.length ∧ rs.length - kk ≤ gg ∧ s5 = .int .i64 kk ∧ Aside (Below w.heap.size w wr))
  case atStart => exact ⟨0, Nat.zero_le _, by omega, rfl, Below.refl _ w⟩
  case round =>
    obtain ⟨kk, hkk, hg, rfl, BW⟩ := hrel
    by_cases hlt : kk < rs.length
    · have hltz : (kk : Int) < (rs.length : Int) := by omega
      have k0 : (0 : Int) ≤ (kk : Int) := by omega
      obtain ⟨c0, c1, c2⟩ := (ha.on BW.out).2 kk hlt
      obtain ⟨d0, d1, d2⟩ := (hb.on BW.out).2 kk hlt
      generalize rs[kk] = y at c0 c1 c2 d0 d1 d2
      obtain ⟨yt, yn, ys⟩ := y
      simp only at c0 c1 c2 d0 d1 d2
      go_wp2
      go_quiet (fail)
      go_wp2
      go_roundg (rs.length - (kk + 1))
      case measure => omega
      case rel => exact ⟨kk + 1, by omega, by omega, by go_num, by repeat (first | exact BW.out | apply below_drewN | refine Below.drew ?_)⟩
    · have hltz : ¬ (kk : Int) < (rs.length : Int) := by omega
      go_wp2
      go_ret
      exact ⟨rfl, BW.out⟩
theorem cols_none (pa pb : Option Addr) (ca cb : Nat) (w : World) :
    Calls Tryz.prog 30 #[.slice pa 0 ca, .slice pb 0 cb] w fun e w' => e = .returned (.bool true) ∧ Below w.heap.size w w' := by
  go_enter Tryz.func30, Tryz.ntmps30
  go_wp2
  refine wp_loop_rounds 1 ?_
  rw [rounds_succ]
  go_wp2
  go_ret
  exact ⟨rfl, Below.refl _ _⟩
set_option maxHeartbeats 4000000 in
theorem cols_same (ba oa ca bb ob cb : Nat) (zs : List (ByteArray × Int)) (w : World) (hn : zs.length ≤ maxLen) (ha : ColsIn w ba oa zs) (hb : ColsIn w bb ob zs) :
    Calls Tryz.prog 30 #[.slice (some ⟨ba, oa, none⟩) zs.length ca, .slice (some ⟨bb, ob, none⟩) zs.length cb] w fun e w' => e = .returned (.bool true) ∧ Below w.heap.size w w' := by
  unfold maxLen at hn
  go_enter Tryz.func30, Tryz.ntmps30
  go_wp2
  go_loopg [5] zs.length (fun gg s5 wr => ∃ kk : Nat, kk ≤ zs.length ∧ zs.length - kk ≤ gg ∧ s5 = .int .i64 kk ∧ Aside (Below w.heap.size w wr))
  case atStart => exact ⟨0, Nat.zero_le _, by omega, rfl, Below.refl _ w⟩
  case round =>
    obtain ⟨kk, hkk, hg, rfl, BW⟩ := hrel
    by_cases hlt : kk < zs.length
    · have hltz : (kk : Int) < (zs.length : Int) := by omega
      have k0 : (0 : Int) ≤ (kk : Int) := by omega
      obtain ⟨c0, c1⟩ := (ha.on BW.out).2 kk hlt
      obtain ⟨d0, d1⟩ := (hb.on BW.out).2 kk hlt
      generalize zs[kk] = y at c0 c1 d0 d1
      obtain ⟨yn, yt⟩ := y
      simp only at c0 c1 d0 d1
      go_wp2
      go_quiet (fail)
      go_wp2
      go_roundg (zs.length - (kk + 1))
      case measure => omega
      case rel => exact ⟨kk + 1, by omega, by omega, by go_num, by repeat (first | exact BW.out | apply below_drewN | refine Below.drew ?_)⟩
    · have hltz : ¬ (kk : Int) < (zs.length : Int) := by omega
      go_wp2
      go_ret
      exact ⟨rfl, BW.out⟩
end Go.Proofs.YtggabncpedcmdaaGreatDoor
