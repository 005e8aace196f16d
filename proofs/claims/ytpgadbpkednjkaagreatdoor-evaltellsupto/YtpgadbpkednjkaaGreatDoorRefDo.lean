/-
  What the document's Do comes to, of values that the operation's rule lets through.
-/
import Derived.Test.YtpgadbpkednjkaaGreatDoorLoC
import Derived.Test.YtpgadbpkednjkaaGreatDoorLoD
import Derived.Test.YtpgadbpkednjkaaGreatDoorLo9
import Derived.Deep.RegionWith
import Derived.Deep.DeepCutAuto
import Derived.Deep.QuietTactic
namespace Go.Proofs.YtpgadbpkednjkaaGreatDoor
open Go.RowKit
set_option linter.unusedVariables false

theorem refTruth_any (B : Bool) (w : World) :
    Calls Tryz.prog 44 #[.bool B] w fun e w' => e = .returned (.agg #[.int .i64 2, .int .i64 (if B = true then 1 else 0), .string ⟨#[]⟩]) ∧ Below w.heap.size w w' := by
  cases B
  · go_enter Tryz.func44, Tryz.ntmps44
    go_wp2
    refine bodyPost_ret (v := .agg #[.int .i64 2, .int .i64 0, .string ⟨#[]⟩]) (by simp [results, Tryz.results44, go_sem]) rfl ⟨rfl, ?_⟩
    exact (Below.refl _ w).alloc (Nat.le_refl _) _
  · go_enter Tryz.func44, Tryz.ntmps44
    go_wp2
    refine bodyPost_ret (v := .agg #[.int .i64 2, .int .i64 1, .string ⟨#[]⟩]) (by simp [results, Tryz.results44, go_sem]) rfl ⟨rfl, ?_⟩
    exact (Below.refl _ w).alloc (Nat.le_refl _) _
/-- A value of three cells, read as one. -/
theorem refRk (op : ByteArray) (a b : Int) (ho : ops5.contains op.data.toList = true) (ha : inB a) (hb : inB b) : RefSays op a b (rkP op.data.toList a b) := by
  simp only [ops5, List.contains_cons, List.contains_nil, Bool.or_false, Bool.or_eq_true, beq_iff_eq] at ho
  obtain ⟨⟨l⟩⟩ := op
  simp only at ho ⊢
  rcases ho with rfl | rfl | rfl | rfl | rfl
  · exact says_eq (ref_add a b ha hb) rfl rfl rfl
  · exact says_eq (ref_sub a b ha hb) rfl rfl rfl
  · exact says_eq (ref_mul a b ha hb) rfl rfl rfl
  · exact says_eq (ref_div a b ha hb) rfl rfl rfl
  · exact says_eq (ref_rem a b ha hb) rfl rfl rfl
theorem rkP_form {op : List UInt8} {a b : Int} {t k : Int} {s : ByteArray} {e : Int} (h : rkV op a b = ((t, k, s), e)) (ha : inB a) (hb : inB b) : ∃ n, rkP op a b = (n, e) ∧ ((e = 0 ∧ t = 1 ∧ k = n ∧ s = ⟨#[]⟩) ∨ (e = 9 ∧ t = 0 ∧ k = 0 ∧ s = ⟨#[]⟩)) := by
  rw [rkV] at h
  rcases rkP_bd op a b ha hb with ⟨h0, _⟩ | h9
  · rw [if_neg (by simpa using h0)] at h
    simp only [Prod.mk.injEq] at h
    obtain ⟨⟨rfl, rfl, rfl⟩, rfl⟩ := h
    exact ⟨(rkP op a b).1, Prod.ext rfl h0, .inl ⟨rfl, rfl, rfl, rfl⟩⟩
  · rw [h9, if_pos (by decide)] at h
    simp only [noV, Prod.mk.injEq] at h
    obtain ⟨⟨rfl, rfl, rfl⟩, rfl⟩ := h
    exact ⟨0, h9, .inr ⟨rfl, rfl, rfl, rfl⟩⟩
set_option maxRecDepth 20000 in
set_option maxHeartbeats 1000000 in
theorem rd_or (b off c n : Nat) (hn : 2 ≤ n) (t0 n0 t1 n1 : Int) (s0 s1 : ByteArray) (w : World) (hb : b < w.heap.size) (h0 : One w b off t0 n0 s0) (h1 : One w b (off + 3) t1 n1 s1) (N : Int) (hN : (if (n0 == 1 || n1 == 1) = true then (1 : Int) else 0) = N) :
    Calls Tryz.prog 19 #[.string ⟨#[111, 114]⟩, .slice (some ⟨b, off, none⟩) n c] w fun e w' => e = .returned (.tuple #[.agg #[.int .i64 2, .int .i64 N, .string ⟨#[]⟩], .int .i64 0]) ∧ Below w.heap.size w w' := by
  obtain ⟨b1, box⟩ := box_res w
  have hbn : b < (w.alloc (.cells #[.int .i64 0, .int .i64 0, .string ⟨#[]⟩] 23)).heap.size := by simp; omega
  obtain ⟨e0, e1, e2⟩ := h0.on hb b1
  obtain ⟨e3, e4, e5⟩ := h1.on hb b1
  have hz1 : (1 : Int) < (n : Int) := by omega
  have hz0 : (0 : Int) < (n : Int) := by omega
  by_cases q0 : n0 = 1
  · have qb : (n0 == 1) = true := by simpa using q0
    rw [qb] at hN
    have cT := refTruth_any true
    subst hN
    simp only [if_true, Bool.true_or] at cT ⊢
    clear q0
    go_enter Tryz.func19, Tryz.ntmps19
    go_wp2_with fail
    refine (cT _).mono ?_
    rintro e w3 ⟨rfl, b4⟩
    obtain ⟨⟨f0, f1, f2, ff, hl⟩, b5⟩ := box w3 (b4.mono (by simp))
    clear box b4 b1
    go_wp2
    refine bodyPost_ret (v := .tuple #[.agg #[.int .i64 2, .int .i64 1, .string ⟨#[]⟩], .int .i64 0]) (by simp [results, Tryz.results19, go_sem, World.cell?_setCell_other, World.cell?_setCell_same, f0, f1, f2]) rfl ⟨rfl, ?_⟩
    exact below3 b5 (Nat.le_refl _) _ _ _
  · have qb : (n0 == 1) = false := by simpa using q0
    obtain ⟨B1, hB1⟩ : ∃ B, (n1 == 1) = B := ⟨_, rfl⟩
    rw [qb, hB1, Bool.false_or] at hN
    have cT := refTruth_any B1
    rw [hN] at cT
    clear q0 hN
    go_enter Tryz.func19, Tryz.ntmps19
    go_wp2_with fail
    refine (cT _).mono ?_
    rintro e w3 ⟨rfl, b4⟩
    obtain ⟨⟨f0, f1, f2, ff, hl⟩, b5⟩ := box w3 (b4.mono (by simp))
    clear box b4 b1
    go_wp2
    refine bodyPost_ret (v := .tuple #[.agg #[.int .i64 2, .int .i64 N, .string ⟨#[]⟩], .int .i64 0]) (by simp [results, Tryz.results19, go_sem, World.cell?_setCell_other, World.cell?_setCell_same, f0, f1, f2]) rfl ⟨rfl, ?_⟩
    exact below3 b5 (Nat.le_refl _) _ _ _
set_option maxRecDepth 20000 in
set_option maxHeartbeats 1000000 in
theorem rd_and (b off c n : Nat) (hn : 2 ≤ n) (t0 n0 t1 n1 : Int) (s0 s1 : ByteArray) (w : World) (hb : b < w.heap.size) (h0 : One w b off t0 n0 s0) (h1 : One w b (off + 3) t1 n1 s1) (N : Int) (hN : (if (n0 == 1 && n1 == 1) = true then (1 : Int) else 0) = N) :
    Calls Tryz.prog 19 #[.string ⟨#[97, 110, 100]⟩, .slice (some ⟨b, off, none⟩) n c] w fun e w' => e = .returned (.tuple #[.agg #[.int .i64 2, .int .i64 N, .string ⟨#[]⟩], .int .i64 0]) ∧ Below w.heap.size w w' := by
  obtain ⟨b1, box⟩ := box_res w
  have hbn : b < (w.alloc (.cells #[.int .i64 0, .int .i64 0, .string ⟨#[]⟩] 23)).heap.size := by simp; omega
  obtain ⟨e0, e1, e2⟩ := h0.on hb b1
  obtain ⟨e3, e4, e5⟩ := h1.on hb b1
  have hz1 : (1 : Int) < (n : Int) := by omega
  have hz0 : (0 : Int) < (n : Int) := by omega
  by_cases q0 : n0 = 1
  · have qb : (n0 == 1) = true := by simpa using q0
    obtain ⟨B1, hB1⟩ : ∃ B, (n1 == 1) = B := ⟨_, rfl⟩
    rw [qb, hB1, Bool.true_and] at hN
    have cT := refTruth_any B1
    rw [hN] at cT
    clear q0 hN
    go_enter Tryz.func19, Tryz.ntmps19
    go_wp2_with fail
    refine (cT _).mono ?_
    rintro e w3 ⟨rfl, b4⟩
    obtain ⟨⟨f0, f1, f2, ff, hl⟩, b5⟩ := box w3 (b4.mono (by simp))
    clear box b4 b1
    go_wp2
    refine bodyPost_ret (v := .tuple #[.agg #[.int .i64 2, .int .i64 N, .string ⟨#[]⟩], .int .i64 0]) (by simp [results, Tryz.results19, go_sem, World.cell?_setCell_other, World.cell?_setCell_same, f0, f1, f2]) rfl ⟨rfl, ?_⟩
    exact below3 b5 (Nat.le_refl _) _ _ _
  · have qb : (n0 == 1) = false := by simpa using q0
    rw [qb] at hN
    have cT := refTruth_any false
    subst hN
    simp only [Bool.false_and, Bool.false_eq_true, if_false] at cT ⊢
    clear q0
    go_enter Tryz.func19, Tryz.ntmps19
    go_wp2_with fail
    refine (cT _).mono ?_
    rintro e w3 ⟨rfl, b4⟩
    obtain ⟨⟨f0, f1, f2, ff, hl⟩, b5⟩ := box w3 (b4.mono (by simp))
    clear box b4 b1
    go_wp2
    refine bodyPost_ret (v := .tuple #[.agg #[.int .i64 2, .int .i64 0, .string ⟨#[]⟩], .int .i64 0]) (by simp [results, Tryz.results19, go_sem, World.cell?_setCell_other, World.cell?_setCell_same, f0, f1, f2]) rfl ⟨rfl, ?_⟩
    exact below3 b5 (Nat.le_refl _) _ _ _
set_option maxRecDepth 20000 in
set_option maxHeartbeats 1000000 in
theorem rd_not (b off c n : Nat) (hn : 1 ≤ n) (t0 n0 : Int) (s0 : ByteArray) (w : World) (hb : b < w.heap.size) (h0 : One w b off t0 n0 s0) (h01 : n0 = 0 ∨ n0 = 1) (N : Int) (hN : (if (!(n0 == 1)) = true then (1 : Int) else 0) = N) :
    Calls Tryz.prog 19 #[.string ⟨#[110, 111, 116]⟩, .slice (some ⟨b, off, none⟩) n c] w fun e w' => e = .returned (.tuple #[.agg #[.int .i64 2, .int .i64 N, .string ⟨#[]⟩], .int .i64 0]) ∧ Below w.heap.size w w' := by
  obtain ⟨b1, box⟩ := box_res w
  have hbn : b < (w.alloc (.cells #[.int .i64 0, .int .i64 0, .string ⟨#[]⟩] 23)).heap.size := by simp; omega
  obtain ⟨e0, e1, e2⟩ := h0.on hb b1
  have hz0 : (0 : Int) < (n : Int) := by omega
  have cT := refTruth_any (n0 == 0)
  have hq : (if (n0 == 0) = true then (1 : Int) else 0) = N := by rw [← hN]; rcases h01 with rfl | rfl <;> rfl
  rw [hq] at cT
  clear hN hq h01
  go_enter Tryz.func19, Tryz.ntmps19
  go_wp2_with fail
  refine (cT _).mono ?_
  rintro e w3 ⟨rfl, b4⟩
  obtain ⟨⟨f0, f1, f2, ff, hl⟩, b5⟩ := box w3 (b4.mono (by simp))
  clear box b4 b1
  go_wp2
  refine bodyPost_ret (v := .tuple #[.agg #[.int .i64 2, .int .i64 N, .string ⟨#[]⟩], .int .i64 0]) (by simp [results, Tryz.results19, go_sem, World.cell?_setCell_other, World.cell?_setCell_same, f0, f1, f2]) rfl ⟨rfl, ?_⟩
  exact below3 b5 (Nat.le_refl _) _ _ _
set_option maxRecDepth 20000 in
set_option maxHeartbeats 1000000 in
theorem rd_len (b off c n : Nat) (hn : 1 ≤ n) (t0 n0 : Int) (s0 : ByteArray) (w : World) (hb : b < w.heap.size) (h0 : One w b off t0 n0 s0) :
    Calls Tryz.prog 19 #[.string ⟨#[108, 101, 110]⟩, .slice (some ⟨b, off, none⟩) n c] w fun e w' => e = .returned (.tuple #[.agg #[.int .i64 1, .int .i64 s0.size, .string ⟨#[]⟩], .int .i64 0]) ∧ Below w.heap.size w w' := by
  obtain ⟨b1, box⟩ := box_res w
  have hbn : b < (w.alloc (.cells #[.int .i64 0, .int .i64 0, .string ⟨#[]⟩] 23)).heap.size := by simp; omega
  obtain ⟨e0, e1, e2⟩ := h0.on hb b1
  have hz0 : (0 : Int) < (n : Int) := by omega
  clear box
  go_enter Tryz.func19, Tryz.ntmps19
  go_wp2
  refine bodyPost_ret (v := .tuple #[.agg #[.int .i64 1, .int .i64 s0.size, .string ⟨#[]⟩], .int .i64 0]) (by simp [results, Tryz.results19, go_sem]) rfl ⟨rfl, ?_⟩
  exact (Below.refl _ w).alloc (Nat.le_refl _) _
set_option maxRecDepth 20000 in
set_option maxHeartbeats 1000000 in
theorem rd_if (b off c n : Nat) (hn : 3 ≤ n) (t0 n0 t1 n1 t2 n2 : Int) (s0 s1 s2 : ByteArray) (w : World) (hb : b < w.heap.size) (h0 : One w b off t0 n0 s0) (h1 : One w b (off + 3) t1 n1 s1) (h2 : One w b (off + 6) t2 n2 s2) (h01 : n0 = 0 ∨ n0 = 1) :
    Calls Tryz.prog 19 #[.string ⟨#[105, 102]⟩, .slice (some ⟨b, off, none⟩) n c] w fun e' w' => e' = .returned (.tuple #[if (n0 == 1) = true then .agg #[.int .i64 t1, .int .i64 n1, .string s1] else .agg #[.int .i64 t2, .int .i64 n2, .string s2], .int .i64 0]) ∧ Below w.heap.size w w' := by
  obtain ⟨b1, box⟩ := box_res w
  have hbn : b < (w.alloc (.cells #[.int .i64 0, .int .i64 0, .string ⟨#[]⟩] 23)).heap.size := by simp; omega
  obtain ⟨e0, e1, e2⟩ := h0.on hb b1
  obtain ⟨e3, e4, e5⟩ := h1.on hb b1
  obtain ⟨e6, e7, e8⟩ := h2.on hb b1
  have hz0 : (0 : Int) < (n : Int) := by omega
  have hz1 : (1 : Int) < (n : Int) := by omega
  have hz2 : (2 : Int) < (n : Int) := by omega
  clear box
  rcases h01 with rfl | rfl
  · rw [if_neg (by decide)]
    go_enter Tryz.func19, Tryz.ntmps19
    go_wp2
    refine bodyPost_ret (v := .tuple #[.agg #[.int .i64 t2, .int .i64 n2, .string s2], .int .i64 0]) (by simp [results, Tryz.results19, go_sem]) rfl ⟨rfl, ?_⟩
    exact (Below.refl _ w).alloc (Nat.le_refl _) _
  · rw [if_pos (by decide)]
    go_enter Tryz.func19, Tryz.ntmps19
    go_wp2
    refine bodyPost_ret (v := .tuple #[.agg #[.int .i64 t1, .int .i64 n1, .string s1], .int .i64 0]) (by simp [results, Tryz.results19, go_sem]) rfl ⟨rfl, ?_⟩
    exact (Below.refl _ w).alloc (Nat.le_refl _) _
set_option maxRecDepth 20000 in
set_option maxHeartbeats 1000000 in
theorem rd_neg (b off c n : Nat) (hn : 1 ≤ n) (t0 n0 : Int) (s0 : ByteArray) (w : World) (hb : b < w.heap.size) (h0 : One w b off t0 n0 s0) (hi : inB n0) (t k : Int) (s : ByteArray) (e : Int) (hr : rkV [45] 0 n0 = ((t, k, s), e)) :
    Calls Tryz.prog 19 #[.string ⟨#[110, 101, 103]⟩, .slice (some ⟨b, off, none⟩) n c] w fun e' w' => e' = .returned (.tuple #[.agg #[.int .i64 t, .int .i64 k, .string s], .int .i64 e]) ∧ Below w.heap.size w w' := by
  obtain ⟨b1, box⟩ := box_res w
  have hbn : b < (w.alloc (.cells #[.int .i64 0, .int .i64 0, .string ⟨#[]⟩] 23)).heap.size := by simp; omega
  obtain ⟨e0, e1, e2⟩ := h0.on hb b1
  have hz0 : (0 : Int) < (n : Int) := by omega
  have cR := refRk ⟨#[45]⟩ 0 n0 (by decide) (by unfold inB; omega) hi
  obtain ⟨r, hr1, hr2⟩ := rkP_form hr (by unfold inB; omega) hi
  have hr3 : rkP (⟨#[45]⟩ : ByteArray).data.toList 0 n0 = (r, e) := hr1
  rw [hr3] at cR
  clear hr hr1 hr3
  rcases hr2 with ⟨rfl, rfl, rfl, rfl⟩ | ⟨rfl, rfl, rfl, rfl⟩
  · go_enter Tryz.func19, Tryz.ntmps19
    go_wp2_with fail
    refine (cR _).mono ?_
    rintro e w3 ⟨rfl, rfl⟩
    clear box
    go_wp2
    refine bodyPost_ret (v := .tuple #[.agg #[.int .i64 1, .int .i64 k, .string ⟨#[]⟩], .int .i64 0]) (by simp [results, Tryz.results19, go_sem]) rfl ⟨rfl, ?_⟩
    exact (Below.refl _ w).alloc (Nat.le_refl _) _
  · go_enter Tryz.func19, Tryz.ntmps19
    go_wp2_with fail
    refine (cR _).mono ?_
    rintro e w3 ⟨rfl, rfl⟩
    clear box
    go_wp2
    refine bodyPost_ret (v := .tuple #[.agg #[.int .i64 0, .int .i64 0, .string ⟨#[]⟩], .int .i64 9]) (by simp [results, Tryz.results19, go_sem]) rfl ⟨rfl, ?_⟩
    exact (Below.refl _ w).alloc (Nat.le_refl _) _
end Go.Proofs.YtpgadbpkednjkaaGreatDoor
