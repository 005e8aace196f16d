/-
  An error of package api as a fault (package kind).
-/
import Derived.Test.YtkoejkpjkcejcaaDoorGrAh
namespace Go.Proofs.YtkoejkpjkcejcaaDoor
open Go.RowKit Go.BigFrame
set_option linter.unusedVariables false

set_option maxHeartbeats 4000000 in
set_option maxRecDepth 20000 in
theorem faultOf_any (k pos : Int) (w : World) (henv : KEnv w) :
    Calls Tryd.prog 29 #[.iface 41 (.int .i64 k), .int .i64 pos] w fun e w' => e = .returned (.agg #[.int .i64 k, .int .i64 pos]) ∧ Below w.heap.size w w' := by
  have b1 : Below w.heap.size w ((w.alloc (.cells #[.int .i64 0, .int .i64 0] 43)).alloc (.cells #[.int .i64 0] 41)) := ((Below.refl _ w).alloc (Nat.le_refl _) _).alloc (by simp) _
  have hgA := (henv.on b1).et
  have htA : ((w.alloc (.cells #[.int .i64 0, .int .i64 0] 43)).alloc (.cells #[.int .i64 0] 41)).cell? ⟨w.heap.size + 1, 0, none⟩ = some (.int .i64 0) := by rw [World.cell?_alloc_at _ _ _ _ (by simp)]; rfl
  have hfA : ((w.alloc (.cells #[.int .i64 0, .int .i64 0] 43)).alloc (.cells #[.int .i64 0] 41)).frozen? ⟨w.heap.size + 1, 0, none⟩ = false := by rw [World.frozen?_alloc_at _ _ _ _ (by simp)]
  have cA : Calls Tryd.prog 41 #[.iface 41 (.int .i64 k), .iface 80 (.pointer (some ⟨w.heap.size + 1, 0, none⟩))] ((w.alloc (.cells #[.int .i64 0, .int .i64 0] 43)).alloc (.cells #[.int .i64 0] 41)) fun e w2 => e = .returned (.bool true) ∧ w2.cell? ⟨w.heap.size + 1, 0, none⟩ = some (.int .i64 k) ∧ w2.cell? ⟨w.heap.size, 0, none⟩ = some (.int .i64 0) ∧ w2.cell? ⟨w.heap.size, 1, none⟩ = some (.int .i64 0) ∧ (∀ o, w2.frozen? ⟨w.heap.size, o, none⟩ = false) ∧ w.heap.size + 1 < w2.heap.size ∧ Below w.heap.size w w2 := by
    refine (as_hit k ⟨w.heap.size + 1, 0, none⟩ (.int .i64 0) _ hgA htA hfA).mono ?_
    rintro e w2 ⟨rfl, rfl⟩
    generalize hW : ((w.alloc (.cells #[.int .i64 0, .int .i64 0] 43)).alloc (.cells #[.int .i64 0] 41)) = W at *
    have hz : W.heap.size = w.heap.size + 2 := by rw [← hW]; simp
    have c0 : W.cell? ⟨w.heap.size, 0, none⟩ = some (.int .i64 0) := by rw [← hW, World.cell?_alloc_lt _ _ _ (by simp), World.cell?_alloc_at _ _ _ _ rfl]; rfl
    have c1 : W.cell? ⟨w.heap.size, 1, none⟩ = some (.int .i64 0) := by rw [← hW, World.cell?_alloc_lt _ _ _ (by simp), World.cell?_alloc_at _ _ _ _ rfl]; rfl
    have cf : ∀ o, W.frozen? ⟨w.heap.size, o, none⟩ = false := fun o => by rw [← hW, World.frozen?_alloc_old _ _ _ (by simp), World.frozen?_alloc_at _ _ _ _ rfl]
    clear hW
    have B4 : ∀ o1 o2 o3 o4, Below W.heap.size W ((((W.alloc o1).alloc o2).alloc o3).alloc o4) := fun o1 o2 o3 o4 => ((((Below.refl _ W).alloc (Nat.le_refl _) o1).alloc (by simp) o2).alloc (by simp; omega) o3).alloc (by simp; omega) o4
    generalize hV : ((((W.alloc (.cells #[.pointer (some ⟨w.heap.size + 1, 0, none⟩)] 80)).alloc _).alloc _).alloc _) = V
    have BV : Below W.heap.size W V := by rw [← hV]; exact B4 _ _ _ _
    have hzV := BV.size
    have e0 : V.cell? ⟨w.heap.size + 1, 0, none⟩ = some (.int .i64 0) := by rw [BV.cell (p := ⟨w.heap.size + 1, 0, none⟩) (by show w.heap.size + 1 < _; omega)]; exact htA
    have hne : (⟨w.heap.size + 1, 0, none⟩ : Addr).block ≠ w.heap.size := by simp
    refine ⟨rfl, World.cell?_setCell_same V _ _ e0, ?_, ?_, ?_, ?_, ?_⟩
    · rw [World.cell?_setCell_other _ _ _ _ (by simp), BV.cell (p := ⟨w.heap.size, 0, none⟩) (by show w.heap.size < _; omega)]; exact c0
    · rw [World.cell?_setCell_other _ _ _ _ (by simp), BV.cell (p := ⟨w.heap.size, 1, none⟩) (by show w.heap.size < _; omega)]; exact c1
    · intro o
      have h : V.frozen? ⟨w.heap.size, o, none⟩ = false := by rw [BV.frozen (p := ⟨w.heap.size, o, none⟩) (by show w.heap.size < _; omega)]; exact cf o
      simpa using h
    · simp [World.setCell]; omega
    · exact (b1.trans (BV.mono (by omega))).setCell (p := ⟨w.heap.size + 1, 0, none⟩) (by simp) _
  clear hgA htA hfA henv
  go_enter Tryd.func29, Tryd.ntmps29
  go_wp2_with fail
  refine cA.mono ?_
  rintro e w2 ⟨rfl, c0, c1, c2, cf, hl, b2⟩
  have hl0 : w.heap.size < w2.heap.size := by omega
  clear cA b1
  go_wp2
  refine bodyPost_ret (v := .agg #[.int .i64 k, .int .i64 pos]) (by simp [results, Tryd.results29, go_sem, World.cell?_setCell_other, World.cell?_setCell_same, c1, c2]) rfl ⟨rfl, ?_⟩
  exact (b2.setCell (p := ⟨w.heap.size, 0, none⟩) (Nat.le_refl _) _).setCell (p := ⟨w.heap.size, 1, none⟩) (Nat.le_refl _) _
end Go.Proofs.YtkoejkpjkcejcaaDoor
