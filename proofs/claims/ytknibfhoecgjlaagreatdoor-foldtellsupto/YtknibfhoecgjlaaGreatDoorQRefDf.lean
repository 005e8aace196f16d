/-
  The document's Do of the five operations of numbers.
-/
import Derived.Test.YtknibfhoecgjlaaGreatDoorGrAq
import Derived.Deep.RegionWith
import Derived.Deep.DeepCutAuto
import Derived.Deep.QuietTactic
namespace Go.Proofs.YtknibfhoecgjlaaGreatDoor
open Go.RowKit
set_option linter.unusedVariables false

theorem ops5_ne {op : ByteArray} (ho : ops5.contains op.data.toList = true) : (op.toList == [111, 114]) = false ∧ (op.toList == [97, 110, 100]) = false ∧ (op.toList == [110, 111, 116]) = false ∧ (op.toList == [108, 101, 110]) = false ∧ (op.toList == [105, 102]) = false ∧ (op.toList == [110, 101, 103]) = false ∧ (op.toList == [61]) = false ∧ (op.toList == [60, 62]) = false ∧ (op.toList == [60]) = false ∧ (op.toList == [60, 61]) = false ∧ (op.toList == [62]) = false ∧ (op.toList == [62, 61]) = false := by
  rw [Lib.toList_data]
  simp only [ops5, List.contains_cons, List.contains_nil, Bool.or_false, Bool.or_eq_true, beq_iff_eq] at ho
  rcases ho with h | h | h | h | h <;> rw [h] <;> decide
set_option maxRecDepth 20000 in
set_option maxHeartbeats 1000000 in
theorem rd_five (op : ByteArray) (b off c n : Nat) (hn : 2 ≤ n) (t0 n0 t1 n1 : Int) (s0 s1 : ByteArray) (w : World) (hb : b < w.heap.size) (h0 : One w b off t0 n0 s0) (h1 : One w b (off + 3) t1 n1 s1) (hi : inB n0) (hj : inB n1) (ho : ops5.contains op.data.toList = true) (t k : Int) (s : ByteArray) (e : Int) (hr : rkV op.data.toList n0 n1 = ((t, k, s), e)) :
    Calls Tryz.prog 21 #[.string op, .slice (some ⟨b, off, none⟩) n c] w fun e' w' => e' = .returned (.tuple #[.agg #[.int .i64 t, .int .i64 k, .string s], .int .i64 e]) ∧ Below w.heap.size w w' := by
  obtain ⟨b1, box⟩ := box_res w
  have hbn : b < (w.alloc (.cells #[.int .i64 0, .int .i64 0, .string ⟨#[]⟩] 23)).heap.size := by simp; omega
  obtain ⟨e0, e1, e2⟩ := h0.on hb b1
  obtain ⟨e3, e4, e5⟩ := h1.on hb b1
  have hz0 : (0 : Int) < (n : Int) := by omega
  have hz1 : (1 : Int) < (n : Int) := by omega
  obtain ⟨r, hr1, hr2⟩ := rkP_form hr hi hj
  have cR : ∀ W, Below (w.heap.size + 1) (w.alloc (.cells #[.int .i64 0, .int .i64 0, .string ⟨#[]⟩] 23)) W → Calls Tryz.prog 44 #[.string op, .int .i64 n0, .int .i64 n1] W fun e' w' => e' = .returned (.tuple #[.int .i64 r, .int .i64 e]) ∧ (w'.cell? ⟨w.heap.size, 0, none⟩ = some (.int .i64 0) ∧ w'.cell? ⟨w.heap.size, 1, none⟩ = some (.int .i64 0) ∧ w'.cell? ⟨w.heap.size, 2, none⟩ = some (.string ⟨#[]⟩) ∧ (∀ o, w'.frozen? ⟨w.heap.size, o, none⟩ = false) ∧ w.heap.size < w'.heap.size) ∧ Below w.heap.size w w' := fun W hW =>
    (refRk op n0 n1 ho hi hj W).mono fun e' w' h => ⟨by rw [h.1, hr1], by rw [h.2]; exact box W hW⟩
  obtain ⟨q0, q1, q2, q3, q4, q5, q6, q7, q8, q9, q10, q11⟩ := ops5_ne ho
  clear hr hr1 ho h0 h1 box
  go_enter Tryz.func21, Tryz.ntmps21
  go_upto_region 26 with fail
  go_cut [10, 11] (fun s10 s11 wx => s10 = .int .i64 r ∧ s11 = .int .i64 e ∧ (wx.cell? ⟨w.heap.size, 0, none⟩ = some (.int .i64 0) ∧ wx.cell? ⟨w.heap.size, 1, none⟩ = some (.int .i64 0) ∧ wx.cell? ⟨w.heap.size, 2, none⟩ = some (.string ⟨#[]⟩) ∧ (∀ o, wx.frozen? ⟨w.heap.size, o, none⟩ = false) ∧ w.heap.size < wx.heap.size) ∧ Aside (Below w.heap.size w wx))
  case first =>
    go_region_with (go_at_call 44; refine (cR _ (by repeat (first | exact Below.refl _ _ | apply Below.drew))).mono ?_; rintro e' w1 ⟨rfl, f, b5⟩)
    all_goals
      go_wp2_with fail
      go_meet
      case rel => exact ⟨rfl, rfl, by first | exact f | (obtain ⟨f0, f1, f2, ff, hl⟩ := f; exact ⟨f0, f1, f2, ff, hl⟩), (show Aside _ by repeat (first | exact b5 | apply below_drewN | refine Below.drew ?_))⟩
  case rest =>
    obtain ⟨rfl, rfl, ⟨f0, f1, f2, ff, hl⟩, BX⟩ := hcut
    have b5 := BX.out
    clear BX cR
    rcases hr2 with ⟨rfl, rfl, rfl, rfl⟩ | ⟨rfl, rfl, rfl, rfl⟩
    · go_wp2
      refine bodyPost_ret (v := .tuple #[.agg #[.int .i64 1, .int .i64 k, .string ⟨#[]⟩], .int .i64 0]) (by simp [results, Tryz.results21, go_sem, World.cell?_setCell_other, World.cell?_setCell_same, f0, f1, f2]) rfl ⟨rfl, ?_⟩
      exact below3 b5 (Nat.le_refl _) _ _ _
    · go_wp2
      refine bodyPost_ret (v := .tuple #[.agg #[.int .i64 0, .int .i64 0, .string ⟨#[]⟩], .int .i64 9]) (by simp [results, Tryz.results21, go_sem, World.cell?_setCell_other, World.cell?_setCell_same, f0, f1, f2]) rfl ⟨rfl, ?_⟩
      exact below3 b5 (Nat.le_refl _) _ _ _
end Go.Proofs.YtknibfhoecgjlaaGreatDoor
