/-
  The document's Check of an expression (package sluiceref1).
-/
import Derived.Test.YtknibfhoecgjlaaGreatDoorQRefNod
import Derived.Test.YtknibfhoecgjlaaGreatDoorGrAl
import Derived.Test.YtknibfhoecgjlaaGreatDoorGrAr
namespace Go.Proofs.YtknibfhoecgjlaaGreatDoor
open Go.RowKit
set_option linter.unusedVariables false

set_option maxHeartbeats 2000000 in
theorem refCheck_any (x : Ex) (lo : Nat → Prop) (v : Value) (w : World) (hx : ExIn w lo v x) (hsz : (x.pre 1).length ≤ 1048576) (K : Int) (hK : ckP x = K) :
    Calls Tryz.prog 10 #[v] w fun e w' => e = .returned (.int .i64 K) ∧ Below w.heap.size w w' := by
  obtain ⟨o1, n1, t1, k1, s1, p1, m1, c1, a1, rfl⟩ := hx.agg
  have b1 : Below w.heap.size w (w.alloc (.cells #[.string o1, .string n1, .int .i64 t1, .int .i64 k1, .string s1, .slice p1 m1 c1, .int .i64 a1] 26)) := (Below.refl _ w).alloc (Nat.le_refl _) _
  have cS := refSmall_any x lo _ _ (hx.on b1) (by rw [← size_pre x 1]; exact hsz)
  have cN := fun W (hb : Below w.heap.size w W) => refNodes_any x lo _ W (hx.on hb)
  rw [ckP_nd] at hK
  have box : Hid (∀ W, Below (w.heap.size + 1) (w.alloc (.cells #[.string o1, .string n1, .int .i64 t1, .int .i64 k1, .string s1, .slice p1 m1 c1, .int .i64 a1] 26)) W → (∀ i, W.cell? ⟨w.heap.size, i, none⟩ = (#[.string o1, .string n1, .int .i64 t1, .int .i64 k1, .string s1, .slice p1 m1 c1, .int .i64 a1] : Array Value)[i]?) ∧ w.heap.size < W.heap.size ∧ Below w.heap.size w W) := fun W hb => by
    obtain ⟨h1, _, h3⟩ := box_at w _ _ hb (Nat.lt_succ_self _)
    exact ⟨h1, h3, b1.trans (hb.mono (Nat.le_succ _))⟩
  clear hx hsz
  cases hs : x.small
  · rw [hs] at cS
    rw [hs, if_pos rfl] at hK
    subst hK
    clear hs cN
    go_enter Tryz.func10, Tryz.ntmps10
    go_wp2_with fail
    refine cS.mono ?_
    rintro e w1 ⟨rfl, b2⟩
    have b3 := b1.trans (b2.mono b1.size)
    clear cS b2
    go_wp2
    go_ret
    exact ⟨rfl, b3⟩
  · rw [hs] at cS
    rw [hs, if_neg (by simp)] at hK
    rw [hK] at cN
    clear hs hK
    go_enter Tryz.func10, Tryz.ntmps10
    go_wp2_with fail
    refine cS.mono ?_
    rintro e w1 ⟨rfl, b2⟩
    obtain ⟨hB, hl, bw1⟩ := box.out w1 (b2.mono (by simp))
    have cN1 := cN w1 bw1
    have g0 : w1.cell? ⟨w.heap.size, 0, none⟩ = some (.string o1) := hB 0
    have g1 : w1.cell? ⟨w.heap.size, 1, none⟩ = some (.string n1) := hB 1
    have g2 : w1.cell? ⟨w.heap.size, 2, none⟩ = some (.int .i64 t1) := hB 2
    have g3 : w1.cell? ⟨w.heap.size, 3, none⟩ = some (.int .i64 k1) := hB 3
    have g4 : w1.cell? ⟨w.heap.size, 4, none⟩ = some (.string s1) := hB 4
    have g5 : w1.cell? ⟨w.heap.size, 5, none⟩ = some (.slice p1 m1 c1) := hB 5
    have g6 : w1.cell? ⟨w.heap.size, 6, none⟩ = some (.int .i64 a1) := hB 6
    clear cS cN b2 hB
    go_wp2_with fail
    refine cN1.mono ?_
    rintro e w2 ⟨rfl, b3⟩
    have b4 := bw1.trans (b3.mono bw1.size)
    clear cN1 b3 g0 g1 g2 g3 g4 g5 g6
    go_wp2
    go_ret
    exact ⟨rfl, b4⟩
end Go.Proofs.YtknibfhoecgjlaaGreatDoor
