/-
  The document's Check and Of (package sluiceref1).
-/
import Derived.Test.YtpgadbpkednjkaaGreatDoorRefNod
import Derived.Test.YtpgadbpkednjkaaGreatDoorRefTy
import Derived.Test.YtpgadbpkednjkaaGreatDoorLo8
namespace Go.Proofs.YtpgadbpkednjkaaGreatDoor
open Go.RowKit Go.BigFrame
set_option linter.unusedVariables false

set_option maxHeartbeats 2000000 in
theorem refCheck_any (x : Ex) (lo : Nat → Prop) (v : Value) (w : World) (hx : ExIn w lo v x) (hsz : (x.pre 1).length ≤ 1048576) (K : Int) (hK : ckP x = K) :
    Calls Tryz.prog 9 #[v] w fun e w' => e = .returned (.int .i64 K) ∧ Below w.heap.size w w' := by
  obtain ⟨o1, n1, t1, k1, s1, p1, m1, c1, a1, rfl⟩ := hx.agg
  have b1 : Below w.heap.size w (w.alloc (.cells #[.string o1, .string n1, .int .i64 t1, .int .i64 k1, .string s1, .slice p1 m1 c1, .int .i64 a1] 26)) := (Below.refl _ w).alloc (Nat.le_refl _) _
  have cS := refSmall_any x lo _ _ (hx.on b1) (by rw [← size_pre x 1]; exact hsz)
  have cN := fun W (hb : Below w.heap.size w W) => refNodes_any x lo _ W (hx.on hb)
  rw [ckP_nd] at hK
  have box : Hid (∀ W, Below (w.heap.size + 1) (w.alloc (.cells #[.string o1, .string n1, .int .i64 t1, .int .i64 k1, .string s1, .slice p1 m1 c1, .int .i64 a1] 26)) W → (∀ i, W.cell? ⟨w.heap.size, i, none⟩ = (#[.string o1, .string n1, .int .i64 t1, .int .i64 k1, .string s1, .slice p1 m1 c1, .int .i64 a1] : Array Value)[i]?) ∧ w.heap.size < W.heap.size ∧ Below w.heap.size w W) := fun W hb => by
    obtain ⟨h1, _, h3⟩ := box_at w _ _ hb (Nat.lt_succ_self _)
    exact ⟨h1, h3, b1.trans (hb.mono (Nat.le_succ _))⟩
  clear hx hsz
  cases hs : x.small
  · rw [hs] at cS
    rw [hs, if_pos rfl] at hK
    subst hK
    clear hs cN
    go_enter Tryz.func9, Tryz.ntmps9
    go_wp2_with fail
    refine cS.mono ?_
    rintro e w1 ⟨rfl, b2⟩
    have b3 := b1.trans (b2.mono b1.size)
    clear cS b2
    go_wp2
    go_ret
    exact ⟨rfl, b3⟩
  · rw [hs] at cS
    rw [hs, if_neg (by simp)] at hK
    rw [hK] at cN
    clear hs hK
    go_enter Tryz.func9, Tryz.ntmps9
    go_wp2_with fail
    refine cS.mono ?_
    rintro e w1 ⟨rfl, b2⟩
    obtain ⟨hB, hl, bw1⟩ := box.out w1 (b2.mono (by simp))
    have cN1 := cN w1 bw1
    have g0 : w1.cell? ⟨w.heap.size, 0, none⟩ = some (.string o1) := hB 0
    have g1 : w1.cell? ⟨w.heap.size, 1, none⟩ = some (.string n1) := hB 1
    have g2 : w1.cell? ⟨w.heap.size, 2, none⟩ = some (.int .i64 t1) := hB 2
    have g3 : w1.cell? ⟨w.heap.size, 3, none⟩ = some (.int .i64 k1) := hB 3
    have g4 : w1.cell? ⟨w.heap.size, 4, none⟩ = some (.string s1) := hB 4
    have g5 : w1.cell? ⟨w.heap.size, 5, none⟩ = some (.slice p1 m1 c1) := hB 5
    have g6 : w1.cell? ⟨w.heap.size, 6, none⟩ = some (.int .i64 a1) := hB 6
    clear cS cN b2 hB
    go_wp2_with fail
    refine cN1.mono ?_
    rintro e w2 ⟨rfl, b3⟩
    have b4 := bw1.trans (b3.mono bw1.size)
    clear cN1 b3 g0 g1 g2 g3 g4 g5 g6
    go_wp2
    go_ret
    exact ⟨rfl, b4⟩
theorem refSchemaV (v : Value) (zs : List (ByteArray × Int)) (w : World) (h : ColsV w v zs) : Calls Tryz.prog 51 #[v] w fun e w' => e = .returned (.int .i64 (schE zs)) ∧ w' = w := by
  obtain ⟨q, c, rfl, h⟩ := h
  rcases h with h | ⟨b, off, rfl, h1, h2, h3⟩
  · rw [h, schE, if_pos h]
    exact refSchema_none q c w
  · exact refSchema_any b off c zs w h2 h3
set_option maxHeartbeats 2000000 in
theorem refOf_any (x : Ex) (lo : Nat → Prop) (v vl : Value) (zs : List (ByteArray × Int)) (w : World) (hx : ExIn w lo v x) (hsz : (x.pre 1).length ≤ 1048576) (hcv : ColsV w vl zs) (T H P : Int) (hR : ofP zs x = (T, H, P)) :
    Calls Tryz.prog 21 #[v, vl] w fun e w' => e = .returned (.tuple #[.int .i64 T, .int .i64 H, .int .i64 P]) ∧ Below w.heap.size w w' := by
  obtain ⟨o1, n1, t1, k1, s1, p1, m1, c1, a1, rfl⟩ := hx.agg
  have b1 : Below w.heap.size w (w.alloc (.cells #[.string o1, .string n1, .int .i64 t1, .int .i64 k1, .string s1, .slice p1 m1 c1, .int .i64 a1] 26)) := (Below.refl _ w).alloc (Nat.le_refl _) _
  have box : Hid (∀ W, Below (w.heap.size + 1) (w.alloc (.cells #[.string o1, .string n1, .int .i64 t1, .int .i64 k1, .string s1, .slice p1 m1 c1, .int .i64 a1] 26)) W → (∀ i, W.cell? ⟨w.heap.size, i, none⟩ = (#[.string o1, .string n1, .int .i64 t1, .int .i64 k1, .string s1, .slice p1 m1 c1, .int .i64 a1] : Array Value)[i]?) ∧ w.heap.size < W.heap.size ∧ Below w.heap.size w W) := fun W hb => by
    obtain ⟨h1, _, h3⟩ := box_at w _ _ hb (Nat.lt_succ_self _)
    exact ⟨h1, h3, b1.trans (hb.mono (Nat.le_succ _))⟩
  rw [ofP] at hR
  by_cases hck : ckP x = 0
  · have cC := refCheck_any x lo _ _ (hx.on b1) hsz 0 hck
    rw [if_neg (fun h => h hck)] at hR
    have cS := fun W (hb : Below w.heap.size w W) => refSchemaV vl zs W (hcv.on hb)
    by_cases hsc : schE zs = 0
    · rw [if_neg (fun h => h hsc)] at hR
      rw [hsc] at cS
      obtain ⟨hz1, hz2, _⟩ := schE_zero hsc
      obtain ⟨q, c, rfl, hcols⟩ := hcv
      rcases hcols with h | ⟨b, off, rfl, _, _, hco⟩
      · exact absurd h hz1
      have cT := fun W (hb : Below w.heap.size w W) => refTyped_any zs b off c hz2 x 1 lo _ W T H P (ckP_zero hck).2 (hx.on hb) (hco.on hb) hR
      clear hck hR hsc hz1 hx hco hsz
      go_enter Tryz.func21, Tryz.ntmps21
      go_wp2_with fail
      refine cC.mono ?_
      rintro e w1 ⟨rfl, b2⟩
      obtain ⟨hB, hl, bw1⟩ := box.out w1 (b2.mono (by simp))
      have cS1 := cS w1 bw1
      have cT1 := cT w1 bw1
      have g0 : w1.cell? ⟨w.heap.size, 0, none⟩ = some (.string o1) := hB 0
      have g1 : w1.cell? ⟨w.heap.size, 1, none⟩ = some (.string n1) := hB 1
      have g2 : w1.cell? ⟨w.heap.size, 2, none⟩ = some (.int .i64 t1) := hB 2
      have g3 : w1.cell? ⟨w.heap.size, 3, none⟩ = some (.int .i64 k1) := hB 3
      have g4 : w1.cell? ⟨w.heap.size, 4, none⟩ = some (.string s1) := hB 4
      have g5 : w1.cell? ⟨w.heap.size, 5, none⟩ = some (.slice p1 m1 c1) := hB 5
      have g6 : w1.cell? ⟨w.heap.size, 6, none⟩ = some (.int .i64 a1) := hB 6
      clear cC cS cT b2 hB
      go_wp2_with fail
      refine cS1.mono ?_
      rintro e w2 ⟨rfl, rfl⟩
      go_wp2_with fail
      refine cT1.mono ?_
      rintro e w3 ⟨rfl, b4⟩
      have b5 := bw1.trans (b4.mono bw1.size)
      clear cS1 cT1 b4 g0 g1 g2 g3 g4 g5 g6
      go_wp2
      exact bodyPost_ret (v := .tuple #[.int .i64 T, .int .i64 H, .int .i64 P]) (by simp [results, Tryz.results21, go_sem]) rfl ⟨rfl, b5⟩
    · rw [if_pos hsc] at hR
      simp only [Prod.mk.injEq] at hR
      obtain ⟨rfl, hH, rfl⟩ := hR
      obtain ⟨S, hS⟩ : ∃ S, schE zs = S := ⟨_, rfl⟩
      rw [hS] at hsc hH cS
      subst hH
      have hsb : (S != 0) = true := by simpa using hsc
      clear hck hS hx hsz hsc
      go_enter Tryz.func21, Tryz.ntmps21
      go_wp2_with fail
      refine cC.mono ?_
      rintro e w1 ⟨rfl, b2⟩
      obtain ⟨_, hl, bw1⟩ := box.out w1 (b2.mono (by simp))
      have cS1 := cS w1 bw1
      clear cC cS b2
      go_wp2_with fail
      refine cS1.mono ?_
      rintro e w2 ⟨rfl, rfl⟩
      go_wp2
      exact bodyPost_ret (v := .tuple #[.int .i64 0, .int .i64 S, .int .i64 0]) (by simp [results, Tryz.results21, go_sem]) rfl ⟨rfl, bw1⟩
  · rw [if_pos hck] at hR
    simp only [Prod.mk.injEq] at hR
    obtain ⟨rfl, hH, rfl⟩ := hR
    have cC := refCheck_any x lo _ _ (hx.on b1) hsz H hH
    have hH0 : H ≠ 0 := by rw [← hH]; exact hck
    have hHb : (H != 0) = true := by simpa using hH0
    have hHe : (H == 0) = false := by simpa using hH0
    clear hck hH hx hsz hH0
    go_enter Tryz.func21, Tryz.ntmps21
    go_wp2_with fail
    refine cC.mono ?_
    rintro e w1 ⟨rfl, b2⟩
    obtain ⟨_, hl, bw1⟩ := box.out w1 (b2.mono (by simp))
    clear cC b2
    go_wp2
    exact bodyPost_ret (v := .tuple #[.int .i64 0, .int .i64 H, .int .i64 0]) (by simp [results, Tryz.results21, go_sem]) rfl ⟨rfl, bw1⟩
end Go.Proofs.YtpgadbpkednjkaaGreatDoor
