/-
  The boxes of sluicelaw1.EvalSides, and what its tests come to.
-/
import Derived.Test.YtomakklbfjkdpabDoorEvMk
import Derived.Test.YtomakklbfjkdpabDoorTreeSi
import Derived.Deep.QuietTactic
import Derived.BigQuiet
import Derived.Deep.DeepCutAuto
namespace Go.Proofs.YtomakklbfjkdpabDoor
open Go.RowKit Go.BigFrame
set_option linter.unusedVariables false

theorem sides_box (w : World) (CA CB CY CN CO : Array Value) : Below w.heap.size w (((((w.alloc (.cells CA 26)).alloc (.cells CB 26)).alloc (.cells CY 26)).alloc (.cells CN 26)).alloc (.cells CO 30)) ∧ ∀ W, Below (w.heap.size + 5) (((((w.alloc (.cells CA 26)).alloc (.cells CB 26)).alloc (.cells CY 26)).alloc (.cells CN 26)).alloc (.cells CO 30)) W → (∀ i, W.cell? ⟨w.heap.size, i, none⟩ = CA[i]?) ∧ (∀ i, W.cell? ⟨w.heap.size + 1, i, none⟩ = CB[i]?) ∧ (∀ i, W.cell? ⟨w.heap.size + 2, i, none⟩ = CY[i]?) ∧ (∀ i, W.cell? ⟨w.heap.size + 3, i, none⟩ = CN[i]?) ∧ w.heap.size + 5 ≤ W.heap.size ∧ Below w.heap.size w W := by
  have b1 : Below w.heap.size w (((((w.alloc (.cells CA 26)).alloc (.cells CB 26)).alloc (.cells CY 26)).alloc (.cells CN 26)).alloc (.cells CO 30)) := (((((Below.refl _ w).alloc (Nat.le_refl _) _).alloc (by simp) _).alloc (by first | (simp; done) | (simp; omega)) _).alloc (by first | (simp; done) | (simp; omega)) _).alloc (by first | (simp; done) | (simp; omega)) _
  refine ⟨b1, fun W hb => ?_⟩
  have hz := hb.size
  simp at hz
  refine ⟨fun i => ?_, fun i => ?_, fun i => ?_, fun i => ?_, by omega, b1.trans (hb.mono (by omega))⟩
  · rw [hb.cell (p := ⟨w.heap.size, i, none⟩) (by simp), World.cell?_alloc_lt _ _ _ (by first | (simp; done) | (simp; omega)), World.cell?_alloc_lt _ _ _ (by first | (simp; done) | (simp; omega)), World.cell?_alloc_lt _ _ _ (by first | (simp; done) | (simp; omega)), World.cell?_alloc_lt _ _ _ (by simp), World.cell?_alloc_at _ _ _ _ rfl]
  · rw [hb.cell (p := ⟨w.heap.size + 1, i, none⟩) (by simp), World.cell?_alloc_lt _ _ _ (by first | (simp; done) | (simp; omega)), World.cell?_alloc_lt _ _ _ (by first | (simp; done) | (simp; omega)), World.cell?_alloc_lt _ _ _ (by simp), World.cell?_alloc_at _ _ _ _ (by simp)]
  · rw [hb.cell (p := ⟨w.heap.size + 2, i, none⟩) (by simp), World.cell?_alloc_lt _ _ _ (by first | (simp; done) | (simp; omega)), World.cell?_alloc_lt _ _ _ (by simp), World.cell?_alloc_at _ _ _ _ (by simp)]
  · rw [hb.cell (p := ⟨w.heap.size + 3, i, none⟩) (by simp), World.cell?_alloc_lt _ _ _ (by simp), World.cell?_alloc_at _ _ _ _ (by simp)]
def Cells7 (W : World) (b : Nat) (v0 v1 v2 v3 v4 v5 v6 : Value) : Prop := W.cell? ⟨b, 0, none⟩ = some v0 ∧ W.cell? ⟨b, 1, none⟩ = some v1 ∧ W.cell? ⟨b, 2, none⟩ = some v2 ∧ W.cell? ⟨b, 3, none⟩ = some v3 ∧ W.cell? ⟨b, 4, none⟩ = some v4 ∧ W.cell? ⟨b, 5, none⟩ = some v5 ∧ W.cell? ⟨b, 6, none⟩ = some v6
theorem boolK_neq (b : Bool) (W : World) : Sem.run Tryd.prog (binOp .neq 4 (.bool b) (.bool b)) W = .ok (.bool false) W := by cases b <;> kernel_rfl
theorem boolK_eql (b : Bool) (W : World) : Sem.run Tryd.prog (binOp .eql 4 (.bool b) (.bool b)) W = .ok (.bool true) W := by cases b <;> kernel_rfl
theorem valK_self (t n : Int) (s : ByteArray) (W : World) : Sem.run Tryd.prog (binOp .neq 23 (.agg #[.int .i64 t, .int .i64 n, .string s]) (.agg #[.int .i64 t, .int .i64 n, .string s])) W = .ok (.bool false) W := by
  rw [valK_neq]; simp
theorem valK_eql (t n : Int) (s : ByteArray) (W : World) : Sem.run Tryd.prog (binOp .eql 23 (.agg #[.int .i64 t, .int .i64 n, .string s]) (.agg #[.int .i64 t, .int .i64 n, .string s])) W = .ok (.bool true) W := by
  have h := valK_eqIn t n t n s s W
  have h1 : ((t == t) && ((n == n) && (s.toList == s.toList))) = true := by simp
  rw [h1] at h
  rw [run_eql_struct, h]
  rfl
theorem chain {A W W' : World} (h : Below A.heap.size A W) (o : Obj) (h2 : Below (W.alloc o).heap.size (W.alloc o) W') : Below A.heap.size A W' := by
  have hz := h.size
  exact (h.alloc hz o).trans (h2.mono (by simp; omega))
theorem chain0 {A W W' : World} (h : Below A.heap.size A W) (h2 : Below W.heap.size W W') : Below A.heap.size A W' := h.trans (h2.mono h.size)
theorem evP_ok {zs : List (ByteArray × Int)} {rs : List V3} {x : Ex} {T P : Int} (h : ofP zs x = (T, 0, P)) (hr : rowChk zs rs = 0) : evP zs rs x = cmP zs rs x := by
  rw [evP, h, if_neg (by simp), if_neg (fun hh => hh hr)]
end Go.Proofs.YtomakklbfjkdpabDoor
