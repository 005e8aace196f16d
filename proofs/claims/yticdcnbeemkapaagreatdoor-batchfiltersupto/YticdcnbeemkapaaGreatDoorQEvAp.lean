/-
  What package eval's apply comes to, of values that the operation's rule lets through.
-/
import Derived.Test.YticdcnbeemkapaaGreatDoorGrAk
import Derived.Test.YticdcnbeemkapaaGreatDoorGrAm
import Derived.Deep.RegionWith
namespace Go.Proofs.YticdcnbeemkapaaGreatDoor
open Go.RowKit
set_option linter.unusedVariables false

theorem below3 {n B : Nat} {w W : World} (h : Below n w W) (hB : n ≤ B) (x y z : Value) : Below n w (((W.setCell ⟨B, 0, none⟩ x).setCell ⟨B, 1, none⟩ y).setCell ⟨B, 2, none⟩ z) :=
  ((h.setCell (p := ⟨B, 0, none⟩) hB _).setCell (p := ⟨B, 1, none⟩) hB _).setCell (p := ⟨B, 2, none⟩) hB _
/-- The block of the result, as apply makes it. -/
theorem box_res (w : World) : Below w.heap.size w (w.alloc (.cells #[.int .i64 0, .int .i64 0, .string ⟨#[]⟩] 23)) ∧ ∀ W, Below (w.heap.size + 1) (w.alloc (.cells #[.int .i64 0, .int .i64 0, .string ⟨#[]⟩] 23)) W → (W.cell? ⟨w.heap.size, 0, none⟩ = some (.int .i64 0) ∧ W.cell? ⟨w.heap.size, 1, none⟩ = some (.int .i64 0) ∧ W.cell? ⟨w.heap.size, 2, none⟩ = some (.string ⟨#[]⟩) ∧ (∀ o, W.frozen? ⟨w.heap.size, o, none⟩ = false) ∧ w.heap.size < W.heap.size) ∧ Below w.heap.size w W := by
  have b1 : Below w.heap.size w (w.alloc (.cells #[.int .i64 0, .int .i64 0, .string ⟨#[]⟩] 23)) := (Below.refl _ w).alloc (Nat.le_refl _) _
  refine ⟨b1, fun W hb => ?_⟩
  obtain ⟨h1, h2, h3⟩ := box_at w _ _ hb (Nat.lt_succ_self _)
  exact ⟨⟨h1 0, h1 1, h1 2, h2, h3⟩, b1.trans (hb.mono (Nat.le_succ _))⟩
set_option maxHeartbeats 1000000 in
theorem app_or (b off c n : Nat) (hn : 2 ≤ n) (t0 n0 t1 n1 : Int) (s0 s1 : ByteArray) (w : World) (hb : b < w.heap.size) (h0 : One w b off t0 n0 s0) (h1 : One w b (off + 3) t1 n1 s1) (N : Int) (hN : (if (n0 == 1 || n1 == 1) = true then (1 : Int) else 0) = N) :
    Calls Tryz.prog 69 #[.string ⟨#[111, 114]⟩, .slice (some ⟨b, off, none⟩) n c] w fun e w' => e = .returned (.tuple #[.agg #[.int .i64 2, .int .i64 N, .string ⟨#[]⟩], .nilIface]) ∧ Below w.heap.size w w' := by
  obtain ⟨b1, box⟩ := box_res w
  obtain ⟨B0, hB0⟩ : ∃ B, (n0 == 1) = B := ⟨_, rfl⟩
  obtain ⟨B1, hB1⟩ : ∃ B, (n1 == 1) = B := ⟨_, rfl⟩
  have cI := isTrue_any t0 n0 s0
  have cJ := isTrue_any t1 n1 s1
  have cT := truth_any (B0 || B1)
  rw [hB0] at cI hN
  rw [hB1] at cJ hN
  rw [hN] at cT
  have hz1 : (1 : Int) < (n : Int) := by omega
  have hz0 : (0 : Int) < (n : Int) := by omega
  have hbn : b < (w.alloc (.cells #[.int .i64 0, .int .i64 0, .string ⟨#[]⟩] 23)).heap.size := by simp; omega
  obtain ⟨e0, e1, e2⟩ := h0.on hb b1
  have k1 := h1.on hb b1
  clear hN hB0 hB1
  cases B0
  · go_enter Tryz.func69, Tryz.ntmps69
    go_wp2_with fail
    refine (cI _).mono ?_
    rintro e w1 ⟨rfl, b2⟩
    obtain ⟨e3, e4, e5⟩ := k1.on hbn b2
    have hbl1 : b < w1.heap.size := by have := b2.size; simp at this; omega
    go_wp2_with fail
    refine (cJ _).mono ?_
    rintro e w2 ⟨rfl, b3⟩
    have b23 := b2.trans (b3.mono b2.size)
    go_wp2_with fail
    refine (cT _).mono ?_
    rintro e w3 ⟨rfl, b4⟩
    obtain ⟨⟨f0, f1, f2, ff, hl⟩, b5⟩ := box w3 ((b23.trans (b4.mono b23.size)).mono (by simp))
    clear cI cJ cT box b4 b23 b2 b1
    go_wp2
    refine bodyPost_ret (v := .tuple #[.agg #[.int .i64 2, .int .i64 N, .string ⟨#[]⟩], .nilIface]) (by simp [results, Tryz.results69, go_sem, World.cell?_setCell_other, World.cell?_setCell_same, f0, f1, f2]) rfl ⟨rfl, ?_⟩
    exact below3 b5 (Nat.le_refl _) _ _ _
  · go_enter Tryz.func69, Tryz.ntmps69
    go_wp2_with fail
    refine (cI _).mono ?_
    rintro e w1 ⟨rfl, b2⟩
    have b23 := b2
    go_wp2_with fail
    refine (cT _).mono ?_
    rintro e w3 ⟨rfl, b4⟩
    obtain ⟨⟨f0, f1, f2, ff, hl⟩, b5⟩ := box w3 ((b23.trans (b4.mono b23.size)).mono (by simp))
    clear cI cJ cT box b4 b23 b2 b1
    go_wp2
    refine bodyPost_ret (v := .tuple #[.agg #[.int .i64 2, .int .i64 N, .string ⟨#[]⟩], .nilIface]) (by simp [results, Tryz.results69, go_sem, World.cell?_setCell_other, World.cell?_setCell_same, f0, f1, f2]) rfl ⟨rfl, ?_⟩
    exact below3 b5 (Nat.le_refl _) _ _ _
set_option maxHeartbeats 1000000 in
theorem app_and (b off c n : Nat) (hn : 2 ≤ n) (t0 n0 t1 n1 : Int) (s0 s1 : ByteArray) (w : World) (hb : b < w.heap.size) (h0 : One w b off t0 n0 s0) (h1 : One w b (off + 3) t1 n1 s1) (N : Int) (hN : (if (n0 == 1 && n1 == 1) = true then (1 : Int) else 0) = N) :
    Calls Tryz.prog 69 #[.string ⟨#[97, 110, 100]⟩, .slice (some ⟨b, off, none⟩) n c] w fun e w' => e = .returned (.tuple #[.agg #[.int .i64 2, .int .i64 N, .string ⟨#[]⟩], .nilIface]) ∧ Below w.heap.size w w' := by
  obtain ⟨b1, box⟩ := box_res w
  obtain ⟨B0, hB0⟩ : ∃ B, (n0 == 1) = B := ⟨_, rfl⟩
  obtain ⟨B1, hB1⟩ : ∃ B, (n1 == 1) = B := ⟨_, rfl⟩
  have cI := isTrue_any t0 n0 s0
  have cJ := isTrue_any t1 n1 s1
  have cT := truth_any (B0 && B1)
  rw [hB0] at cI hN
  rw [hB1] at cJ hN
  rw [hN] at cT
  have hz1 : (1 : Int) < (n : Int) := by omega
  have hz0 : (0 : Int) < (n : Int) := by omega
  have hbn : b < (w.alloc (.cells #[.int .i64 0, .int .i64 0, .string ⟨#[]⟩] 23)).heap.size := by simp; omega
  obtain ⟨e0, e1, e2⟩ := h0.on hb b1
  have k1 := h1.on hb b1
  clear hN hB0 hB1
  cases B0
  · go_enter Tryz.func69, Tryz.ntmps69
    go_wp2_with fail
    refine (cI _).mono ?_
    rintro e w1 ⟨rfl, b2⟩
    have b23 := b2
    go_wp2_with fail
    refine (cT _).mono ?_
    rintro e w3 ⟨rfl, b4⟩
    obtain ⟨⟨f0, f1, f2, ff, hl⟩, b5⟩ := box w3 ((b23.trans (b4.mono b23.size)).mono (by simp))
    clear cI cJ cT box b4 b23 b2 b1
    go_wp2
    refine bodyPost_ret (v := .tuple #[.agg #[.int .i64 2, .int .i64 N, .string ⟨#[]⟩], .nilIface]) (by simp [results, Tryz.results69, go_sem, World.cell?_setCell_other, World.cell?_setCell_same, f0, f1, f2]) rfl ⟨rfl, ?_⟩
    exact below3 b5 (Nat.le_refl _) _ _ _
  · go_enter Tryz.func69, Tryz.ntmps69
    go_wp2_with fail
    refine (cI _).mono ?_
    rintro e w1 ⟨rfl, b2⟩
    obtain ⟨e3, e4, e5⟩ := k1.on hbn b2
    have hbl1 : b < w1.heap.size := by have := b2.size; simp at this; omega
    go_wp2_with fail
    refine (cJ _).mono ?_
    rintro e w2 ⟨rfl, b3⟩
    have b23 := b2.trans (b3.mono b2.size)
    go_wp2_with fail
    refine (cT _).mono ?_
    rintro e w3 ⟨rfl, b4⟩
    obtain ⟨⟨f0, f1, f2, ff, hl⟩, b5⟩ := box w3 ((b23.trans (b4.mono b23.size)).mono (by simp))
    clear cI cJ cT box b4 b23 b2 b1
    go_wp2
    refine bodyPost_ret (v := .tuple #[.agg #[.int .i64 2, .int .i64 N, .string ⟨#[]⟩], .nilIface]) (by simp [results, Tryz.results69, go_sem, World.cell?_setCell_other, World.cell?_setCell_same, f0, f1, f2]) rfl ⟨rfl, ?_⟩
    exact below3 b5 (Nat.le_refl _) _ _ _
set_option maxHeartbeats 1000000 in
theorem app_not (b off c n : Nat) (hn : 1 ≤ n) (t0 n0 : Int) (s0 : ByteArray) (w : World) (hb : b < w.heap.size) (h0 : One w b off t0 n0 s0) (N : Int) (hN : (if (!(n0 == 1)) = true then (1 : Int) else 0) = N) :
    Calls Tryz.prog 69 #[.string ⟨#[110, 111, 116]⟩, .slice (some ⟨b, off, none⟩) n c] w fun e w' => e = .returned (.tuple #[.agg #[.int .i64 2, .int .i64 N, .string ⟨#[]⟩], .nilIface]) ∧ Below w.heap.size w w' := by
  obtain ⟨b1, box⟩ := box_res w
  have cI := isTrue_any t0 n0 s0
  have cT := truth_any (!(n0 == 1))
  rw [hN] at cT
  have hz0 : (0 : Int) < (n : Int) := by omega
  obtain ⟨e0, e1, e2⟩ := h0.on hb b1
  clear hN
  go_enter Tryz.func69, Tryz.ntmps69
  go_wp2_with fail
  refine (cI _).mono ?_
  rintro e w1 ⟨rfl, b2⟩
  go_wp2_with fail
  refine (cT _).mono ?_
  rintro e w3 ⟨rfl, b4⟩
  obtain ⟨⟨f0, f1, f2, ff, hl⟩, b5⟩ := box w3 ((b2.trans (b4.mono b2.size)).mono (by simp))
  clear cI cT box b4 b2 b1
  go_wp2
  refine bodyPost_ret (v := .tuple #[.agg #[.int .i64 2, .int .i64 N, .string ⟨#[]⟩], .nilIface]) (by simp [results, Tryz.results69, go_sem, World.cell?_setCell_other, World.cell?_setCell_same, f0, f1, f2]) rfl ⟨rfl, ?_⟩
  exact below3 b5 (Nat.le_refl _) _ _ _
set_option maxHeartbeats 1000000 in
theorem app_neg (b off c n : Nat) (hn : 1 ≤ n) (t0 n0 : Int) (s0 : ByteArray) (w : World) (hb : b < w.heap.size) (h0 : One w b off t0 n0 s0) (hi : inB n0) (t k : Int) (s : ByteArray) (e : Int) (hr : rkV [45] 0 n0 = ((t, k, s), e)) :
    Calls Tryz.prog 69 #[.string ⟨#[110, 101, 103]⟩, .slice (some ⟨b, off, none⟩) n c] w fun e' w' => e' = .returned (.tuple #[.agg #[.int .i64 t, .int .i64 k, .string s], errV e]) ∧ Below w.heap.size w w' := by
  obtain ⟨b1, box⟩ := box_res w
  have cR := fun W => reckon_any ⟨#[45]⟩ 0 n0 W (by unfold inB; omega) hi (by decide) t k s e hr
  have hz0 : (0 : Int) < (n : Int) := by omega
  obtain ⟨e0, e1, e2⟩ := h0.on hb b1
  have hbn : b < (w.alloc (.cells #[.int .i64 0, .int .i64 0, .string ⟨#[]⟩] 23)).heap.size := by simp; omega
  clear hr
  go_enter Tryz.func69, Tryz.ntmps69
  go_wp2_with fail
  refine (cR _).mono ?_
  rintro e w1 ⟨rfl, b2⟩
  obtain ⟨⟨f0, f1, f2, ff, hl⟩, b5⟩ := box w1 (b2.mono (by simp))
  clear cR box b2 b1
  go_wp2
  refine bodyPost_ret (v := .tuple #[.agg #[.int .i64 t, .int .i64 k, .string s], errV e]) (by simp [results, Tryz.results69, go_sem, World.cell?_setCell_other, World.cell?_setCell_same, f0, f1, f2]) rfl ⟨rfl, ?_⟩
  exact below3 b5 (Nat.le_refl _) _ _ _
set_option maxHeartbeats 1000000 in
theorem app_len (b off c n : Nat) (hn : 1 ≤ n) (t0 n0 : Int) (s0 : ByteArray) (w : World) (hb : b < w.heap.size) (h0 : One w b off t0 n0 s0) :
    Calls Tryz.prog 69 #[.string ⟨#[108, 101, 110]⟩, .slice (some ⟨b, off, none⟩) n c] w fun e' w' => e' = .returned (.tuple #[.agg #[.int .i64 1, .int .i64 s0.size, .string ⟨#[]⟩], .nilIface]) ∧ Below w.heap.size w w' := by
  obtain ⟨b1, box⟩ := box_res w
  have hz0 : (0 : Int) < (n : Int) := by omega
  obtain ⟨e0, e1, e2⟩ := h0.on hb b1
  go_enter Tryz.func69, Tryz.ntmps69
  go_wp2
  exact bodyPost_ret (v := .tuple #[.agg #[.int .i64 1, .int .i64 s0.size, .string ⟨#[]⟩], .nilIface]) (by simp [results, Tryz.results69, go_sem]) rfl ⟨rfl, (Below.refl _ w).alloc (Nat.le_refl _) _⟩
set_option maxHeartbeats 1000000 in
theorem app_if (b off c n : Nat) (hn : 3 ≤ n) (t0 n0 t1 n1 t2 n2 : Int) (s0 s1 s2 : ByteArray) (w : World) (hb : b < w.heap.size) (h0 : One w b off t0 n0 s0) (h1 : One w b (off + 3) t1 n1 s1) (h2 : One w b (off + 6) t2 n2 s2) :
    Calls Tryz.prog 69 #[.string ⟨#[105, 102]⟩, .slice (some ⟨b, off, none⟩) n c] w fun e' w' => e' = .returned (.tuple #[if (n0 == 1) = true then .agg #[.int .i64 t1, .int .i64 n1, .string s1] else .agg #[.int .i64 t2, .int .i64 n2, .string s2], .nilIface]) ∧ Below w.heap.size w w' := by
  obtain ⟨b1, box⟩ := box_res w
  obtain ⟨B0, hB0⟩ : ∃ B, (n0 == 1) = B := ⟨_, rfl⟩
  have cC := chosen_any t0 n0 s0
  rw [hB0] at cC ⊢
  have hz1 : (1 : Int) < (n : Int) := by omega
  have hz0 : (0 : Int) < (n : Int) := by omega
  have hz2 : (2 : Int) < (n : Int) := by omega
  have hbn : b < (w.alloc (.cells #[.int .i64 0, .int .i64 0, .string ⟨#[]⟩] 23)).heap.size := by simp; omega
  obtain ⟨e0, e1, e2⟩ := h0.on hb b1
  have k1 := h1.on hb b1
  have k2 := h2.on hb b1
  clear hB0 h0 h1 h2
  cases B0
  · simp only [Bool.false_eq_true, if_false] at cC ⊢
    go_enter Tryz.func69, Tryz.ntmps69
    go_wp2_with fail
    refine (cC _).mono ?_
    rintro e w1 ⟨rfl, b2⟩
    obtain ⟨e3, e4, e5⟩ := k2.on hbn b2
    have hbl1 : b < w1.heap.size := by have := b2.size; simp at this; omega
    obtain ⟨⟨f0, f1, f2, ff, hl⟩, b5⟩ := box w1 (b2.mono (by simp))
    clear cC box b2 b1 k1 k2
    go_wp2
    refine bodyPost_ret (v := .tuple #[.agg #[.int .i64 t2, .int .i64 n2, .string s2], .nilIface]) (by simp [results, Tryz.results69, go_sem, World.cell?_setCell_other, World.cell?_setCell_same, f0, f1, f2]) rfl ⟨rfl, ?_⟩
    exact below3 b5 (Nat.le_refl _) _ _ _
  · simp only [if_true] at cC ⊢
    go_enter Tryz.func69, Tryz.ntmps69
    go_wp2_with fail
    refine (cC _).mono ?_
    rintro e w1 ⟨rfl, b2⟩
    obtain ⟨e3, e4, e5⟩ := k1.on hbn b2
    have hbl1 : b < w1.heap.size := by have := b2.size; simp at this; omega
    obtain ⟨⟨f0, f1, f2, ff, hl⟩, b5⟩ := box w1 (b2.mono (by simp))
    clear cC box b2 b1 k1 k2
    go_wp2
    refine bodyPost_ret (v := .tuple #[.agg #[.int .i64 t1, .int .i64 n1, .string s1], .nilIface]) (by simp [results, Tryz.results69, go_sem, World.cell?_setCell_other, World.cell?_setCell_same, f0, f1, f2]) rfl ⟨rfl, ?_⟩
    exact below3 b5 (Nat.le_refl _) _ _ _
set_option maxHeartbeats 4000000 in
theorem app_five (op : ByteArray) (b off c n : Nat) (hn : 2 ≤ n) (t0 n0 t1 n1 : Int) (s0 s1 : ByteArray) (w : World) (hb : b < w.heap.size) (h0 : One w b off t0 n0 s0) (h1 : One w b (off + 3) t1 n1 s1) (hi : inB n0) (hj : inB n1) (ho : ops5.contains op.data.toList = true) (t k : Int) (s : ByteArray) (e : Int) (hr : rkV op.data.toList n0 n1 = ((t, k, s), e)) :
    Calls Tryz.prog 69 #[.string op, .slice (some ⟨b, off, none⟩) n c] w fun e' w' => e' = .returned (.tuple #[.agg #[.int .i64 t, .int .i64 k, .string s], errV e]) ∧ Below w.heap.size w w' := by
  obtain ⟨b1, box⟩ := box_res w
  have cR : ∀ W, Below (w.heap.size + 1) (w.alloc (.cells #[.int .i64 0, .int .i64 0, .string ⟨#[]⟩] 23)) W → Calls Tryz.prog 101 #[.string op, .int .i64 n0, .int .i64 n1] W fun e' w' => e' = .returned (.tuple #[.agg #[.int .i64 t, .int .i64 k, .string s], errV e]) ∧ (w'.cell? ⟨w.heap.size, 0, none⟩ = some (.int .i64 0) ∧ w'.cell? ⟨w.heap.size, 1, none⟩ = some (.int .i64 0) ∧ w'.cell? ⟨w.heap.size, 2, none⟩ = some (.string ⟨#[]⟩) ∧ (∀ o, w'.frozen? ⟨w.heap.size, o, none⟩ = false) ∧ w.heap.size < w'.heap.size) ∧ Below w.heap.size w w' := fun W hW =>
    (reckon_any op n0 n1 W hi hj ho t k s e hr).mono fun e' w' h => ⟨h.1, box w' (hW.trans (h.2.mono (by have := hW.size; simp at this; omega)))⟩
  have hz1 : (1 : Int) < (n : Int) := by omega
  have hz0 : (0 : Int) < (n : Int) := by omega
  have hbn : b < (w.alloc (.cells #[.int .i64 0, .int .i64 0, .string ⟨#[]⟩] 23)).heap.size := by simp; omega
  obtain ⟨e0, e1, e2⟩ := h0.on hb b1
  obtain ⟨e3, e4, e5⟩ := h1.on hb b1
  have hm : op = ⟨#[43]⟩ ∨ op = ⟨#[45]⟩ ∨ op = ⟨#[42]⟩ ∨ op = ⟨#[47]⟩ ∨ op = ⟨#[37]⟩ := by
    obtain ⟨⟨l⟩⟩ := op
    simp [ops5] at ho
    rcases ho with rfl | rfl | rfl | rfl | rfl <;> simp
  clear hr ho h0 h1
  rcases hm with rfl | rfl | rfl | rfl | rfl
  all_goals
    go_enter Tryz.func69, Tryz.ntmps69
    go_wp2_with fail
    go_region_with (go_at_call 101; refine (cR _ (by repeat (first | exact Below.refl _ _ | apply Below.drew))).mono ?_; rintro e' w1 ⟨rfl, ⟨f0, f1, f2, ff, hl⟩, b5⟩)
    all_goals
      go_wp2
      refine bodyPost_ret (v := .tuple #[.agg #[.int .i64 t, .int .i64 k, .string s], errV e]) (by simp [results, Tryz.results69, go_sem, World.cell?_setCell_other, World.cell?_setCell_same, f0, f1, f2]) rfl ⟨rfl, ?_⟩
      exact below3 b5 (Nat.le_refl _) _ _ _
set_option maxHeartbeats 4000000 in
theorem app_cmp (op : ByteArray) (b off c n : Nat) (hn : 2 ≤ n) (t0 n0 t1 n1 : Int) (s0 s1 : ByteArray) (w : World) (hb : b < w.heap.size) (h0 : One w b off t0 n0 s0) (h1 : One w b (off + 3) t1 n1 s1) (hs : s0.size ≤ maxLen) (hs2 : s1.size ≤ maxLen) (ho : op = ⟨#[61]⟩ ∨ op = ⟨#[60, 62]⟩ ∨ op = ⟨#[60]⟩ ∨ op = ⟨#[60, 61]⟩ ∨ op = ⟨#[62]⟩ ∨ op = ⟨#[62, 61]⟩) (t k : Int) (s : ByteArray) (e : Int) (hr : cmpV op.data.toList (t0, n0, s0) (t1, n1, s1) = ((t, k, s), e)) :
    Calls Tryz.prog 69 #[.string op, .slice (some ⟨b, off, none⟩) n c] w fun e' w' => e' = .returned (.tuple #[.agg #[.int .i64 t, .int .i64 k, .string s], errV e]) ∧ Below w.heap.size w w' := by
  obtain ⟨b1, box⟩ := box_res w
  have cR : ∀ W, Below (w.heap.size + 1) (w.alloc (.cells #[.int .i64 0, .int .i64 0, .string ⟨#[]⟩] 23)) W → Calls Tryz.prog 102 #[.string op, .agg #[.int .i64 t0, .int .i64 n0, .string s0], .agg #[.int .i64 t1, .int .i64 n1, .string s1]] W fun e' w' => e' = .returned (.tuple #[.agg #[.int .i64 t, .int .i64 k, .string s], errV e]) ∧ (w'.cell? ⟨w.heap.size, 0, none⟩ = some (.int .i64 0) ∧ w'.cell? ⟨w.heap.size, 1, none⟩ = some (.int .i64 0) ∧ w'.cell? ⟨w.heap.size, 2, none⟩ = some (.string ⟨#[]⟩) ∧ (∀ o, w'.frozen? ⟨w.heap.size, o, none⟩ = false) ∧ w.heap.size < w'.heap.size) ∧ Below w.heap.size w w' := fun W hW =>
    (compareE_any op (t0, n0, s0) (t1, n1, s1) W hs hs2 t k s e hr).mono fun e' w' h => ⟨h.1, box w' (hW.trans (h.2.mono (by have := hW.size; simp at this; omega)))⟩
  have hz1 : (1 : Int) < (n : Int) := by omega
  have hz0 : (0 : Int) < (n : Int) := by omega
  have hbn : b < (w.alloc (.cells #[.int .i64 0, .int .i64 0, .string ⟨#[]⟩] 23)).heap.size := by simp; omega
  obtain ⟨e0, e1, e2⟩ := h0.on hb b1
  obtain ⟨e3, e4, e5⟩ := h1.on hb b1
  clear hr h0 h1
  rcases ho with rfl | rfl | rfl | rfl | rfl | rfl
  all_goals
    go_enter Tryz.func69, Tryz.ntmps69
    go_wp2_with fail
    go_region_with (go_at_call 102; refine (cR _ (by repeat (first | exact Below.refl _ _ | apply Below.drew))).mono ?_; rintro e' w1 ⟨rfl, ⟨f0, f1, f2, ff, hl⟩, b5⟩)
    all_goals
      go_wp2
      refine bodyPost_ret (v := .tuple #[.agg #[.int .i64 t, .int .i64 k, .string s], errV e]) (by simp [results, Tryz.results69, go_sem, World.cell?_setCell_other, World.cell?_setCell_same, f0, f1, f2]) rfl ⟨rfl, ?_⟩
      exact below3 b5 (Nat.le_refl _) _ _ _
end Go.Proofs.YticdcnbeemkapaaGreatDoor
