/-
  The document's Do of a comparison.
-/
import Derived.Test.YtknibfhoecgjlaaGreatDoorGrAq
import Derived.Deep.RegionWith
import Derived.Deep.DeepCutAuto
import Derived.Deep.QuietTactic
namespace Go.Proofs.YtknibfhoecgjlaaGreatDoor
open Go.RowKit
set_option linter.unusedVariables false

set_option maxRecDepth 20000 in
set_option maxHeartbeats 2000000 in
theorem rd_cmp (op : ByteArray) (b off c n : Nat) (hn : 2 ≤ n) (t0 n0 t1 n1 : Int) (s0 s1 : ByteArray) (w : World) (hb : b < w.heap.size) (h0 : One w b off t0 n0 s0) (h1 : One w b (off + 3) t1 n1 s1) (ho : op = ⟨#[61]⟩ ∨ op = ⟨#[60, 62]⟩ ∨ op = ⟨#[60]⟩ ∨ op = ⟨#[60, 61]⟩ ∨ op = ⟨#[62]⟩ ∨ op = ⟨#[62, 61]⟩) (hE : cmpE t0 n0 s0.data.toList t1 n1 s1.data.toList = 0) (N : Int) (hN : (if holdsP op.data.toList (cmpN t0 n0 s0.data.toList t1 n1 s1.data.toList) = true then (1 : Int) else 0) = N) :
    Calls Tryz.prog 21 #[.string op, .slice (some ⟨b, off, none⟩) n c] w fun e' w' => e' = .returned (.tuple #[.agg #[.int .i64 2, .int .i64 N, .string ⟨#[]⟩], .int .i64 0]) ∧ Below w.heap.size w w' := by
  obtain ⟨b1, box⟩ := box_res w
  have hbn : b < (w.alloc (.cells #[.int .i64 0, .int .i64 0, .string ⟨#[]⟩] 23)).heap.size := by simp; omega
  obtain ⟨e0, e1, e2⟩ := h0.on hb b1
  obtain ⟨e3, e4, e5⟩ := h1.on hb b1
  have hz0 : (0 : Int) < (n : Int) := by omega
  have hz1 : (1 : Int) < (n : Int) := by omega
  have cO : ∀ W, Below (w.heap.size + 1) (w.alloc (.cells #[.int .i64 0, .int .i64 0, .string ⟨#[]⟩] 23)) W → Calls Tryz.prog 45 #[.agg #[.int .i64 t0, .int .i64 n0, .string s0], .agg #[.int .i64 t1, .int .i64 n1, .string s1]] W fun e' w' => e' = .returned (.int .i64 (cmpN t0 n0 s0.data.toList t1 n1 s1.data.toList)) ∧ Below (w.heap.size + 1) (w.alloc (.cells #[.int .i64 0, .int .i64 0, .string ⟨#[]⟩] 23)) w' := fun W hW =>
    (order_any t0 n0 s0 t1 n1 s1 W hE).mono fun e' w' h => ⟨h.1, hW.trans (h.2.mono (by have := hW.size; simp at this; omega))⟩
  clear hE
  generalize cmpN t0 n0 s0.data.toList t1 n1 s1.data.toList = o at cO hN
  have HN : Hid ((if holdsP op.data.toList o = true then (1 : Int) else 0) = N) := hN
  clear hN
  have cT := refTruth_any
  rcases ho with rfl | rfl | rfl | rfl | rfl | rfl
  all_goals
    go_enter Tryz.func21, Tryz.ntmps21
    go_upto_region 23 with fail
    go_cut [8] (fun s8 wx => s8 = .int .i64 o ∧ Aside (Below (w.heap.size + 1) (w.alloc (.cells #[.int .i64 0, .int .i64 0, .string ⟨#[]⟩] 23)) wx))
    case first =>
      go_region_with (go_at_call 45; refine (cO _ (by repeat (first | exact Below.refl _ _ | apply Below.drew))).mono ?_; rintro e' w3 ⟨rfl, b3⟩)
      all_goals
        go_wp2_with fail
        go_meet
        case rel => exact ⟨rfl, (show Aside _ by repeat (first | exact b3 | apply below_drewN | refine Below.drew ?_))⟩
    case rest =>
      obtain ⟨rfl, BX⟩ := hcut
      have b3 := BX.out
      clear BX cO e0 e1 e2 e3 e4 e5
      go_wp2_with fail
      all_goals
        refine (cT _ _).mono ?_
        rintro e w4 ⟨rfl, b4⟩
        obtain ⟨⟨f0, f1, f2, ff, hl⟩, b5⟩ := box w4 (b3.trans (b4.mono (by have := b3.size; simp at this; omega)))
        clear b3 b4
        go_wp2
        all_goals
          refine bodyPost_ret (v := .tuple #[.agg #[.int .i64 2, .int .i64 N, .string ⟨#[]⟩], .int .i64 0]) (by rw [← HN.out]; simp [holdsP, results, Tryz.results21, go_sem, World.cell?_setCell_other, World.cell?_setCell_same, f0, f1, f2] <;> omega) rfl ⟨rfl, ?_⟩
          exact below3 b5 (Nat.le_refl _) _ _ _
end Go.Proofs.YtknibfhoecgjlaaGreatDoor
