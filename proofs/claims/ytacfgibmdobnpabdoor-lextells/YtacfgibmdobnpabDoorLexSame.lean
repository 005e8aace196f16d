/-
  What sluicesame's Tokens says of two lists of the same words.
-/
import Derived.Test.YtacfgibmdobnpabDoorLex5
import Derived.WalkSmall
import Derived.Deep.DeepCutAuto
namespace Go.Proofs.YtacfgibmdobnpabDoor
open Go.RowKit
set_option linter.unusedVariables false

theorem toks_none (pa pb : Option Addr) (ca cb : Nat) (w : World) :
    Calls Tryd.prog 11 #[.slice pa 0 ca, .slice pb 0 cb] w fun e w' => e = .returned (.bool true) ∧ Below w.heap.size w w' := by
  go_enter Tryd.func11, Tryd.ntmps11
  go_wp2
  refine wp_loop_rounds 1 ?_
  rw [rounds_succ]
  go_wp2
  go_ret
  exact ⟨rfl, Below.refl _ _⟩
set_option maxHeartbeats 4000000 in
theorem toks_same (ba oa ca bb ob cb : Nat) (ts : List Tok) (w : World) (hn : ts.length ≤ maxLen) (ha : ToksIn w ba oa ts) (hb : ToksIn w bb ob ts) :
    Calls Tryd.prog 11 #[.slice (some ⟨ba, oa, none⟩) ts.length ca, .slice (some ⟨bb, ob, none⟩) ts.length cb] w fun e w' => e = .returned (.bool true) ∧ Below w.heap.size w w' := by
  unfold maxLen at hn
  go_enter Tryd.func11, Tryd.ntmps11
  go_wp2
  go_loopg [5] ts.length (fun gg s5 wr => ∃ kk : Nat, kk ≤ ts.length ∧ ts.length - kk ≤ gg ∧ s5 = .int .i64 kk ∧ Aside (Below w.heap.size w wr))
  case atStart => exact ⟨0, Nat.zero_le _, by omega, rfl, Below.refl _ w⟩
  case round =>
    obtain ⟨kk, hkk, hg, rfl, BW⟩ := hrel
    by_cases hlt : kk < ts.length
    · have hltz : (kk : Int) < (ts.length : Int) := by omega
      have k0 : (0 : Int) ≤ (kk : Int) := by omega
      obtain ⟨c0, c1, c2⟩ := (ha.on BW.out).2 kk hlt
      obtain ⟨d0, d1, d2⟩ := (hb.on BW.out).2 kk hlt
      generalize ts[kk] = y at c0 c1 c2 d0 d1 d2
      obtain ⟨yk, yx, ya⟩ := y
      simp only at c0 c1 c2 d0 d1 d2
      go_wp2
      go_quiet (fail)
      go_wp2
      go_roundg (ts.length - (kk + 1))
      case measure => omega
      case rel => exact ⟨kk + 1, by omega, by omega, by go_num, by repeat (first | exact BW.out | apply below_drewN | refine Below.drew ?_)⟩
    · have hltz : ¬ (kk : Int) < (ts.length : Int) := by omega
      go_wp2
      go_ret
      exact ⟨rfl, BW.out⟩
theorem toks_v (a b : Value) (ts : List Tok) (w : World) (ha : IsToks w a ts) (hb : IsToks w b ts) :
    Calls Tryd.prog 11 #[a, b] w fun e w' => e = .returned (.bool true) ∧ Below w.heap.size w w' := by
  obtain ⟨pa, ca, rfl, hm, ha⟩ := ha
  obtain ⟨pb, cb, rfl, _, hb⟩ := hb
  rcases ha with h0 | ⟨ba, oa, rfl, ha⟩
  · rw [h0]
    exact toks_none pa pb ca cb w
  · rcases hb with h0 | ⟨bb, ob, rfl, hb⟩
    · rw [h0]
      exact toks_none _ pb ca cb w
    · exact toks_same ba oa ca bb ob cb ts w hm ha hb
end Go.Proofs.YtacfgibmdobnpabDoor
