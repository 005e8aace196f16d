/-
  The document's Size, deep and Small (package sluiceref1), at any expression that is not too great.
-/
import Derived.Test.YtkbhmghdonomnaaGreatDoorGrAd
namespace Go.Proofs.YtkbhmghdonomnaaGreatDoor
open Go.RowKit
set_option linter.unusedVariables false

theorem sizes_take {l : List Ex} {k : Nat} (h : k < l.length) : Ex.sizes (l.take (k + 1)) = Ex.sizes (l.take k) + l[k].size := by
  induction l generalizing k with
  | nil => simp at h
  | cons x xs ih =>
    cases k with
    | zero => simp [Ex.sizes]
    | succ k =>
      rw [List.take_succ_cons, List.take_succ_cons, Ex.sizes, Ex.sizes, ih (by simpa using h)]
      simp only [List.getElem_cons_succ]
      omega
theorem sizes_take_le (l : List Ex) (k : Nat) : Ex.sizes (l.take k) ≤ Ex.sizes l := by
  induction l generalizing k with
  | nil => simp
  | cons x xs ih =>
    cases k with
    | zero => simp [Ex.sizes]
    | succ k =>
      rw [List.take_succ_cons, Ex.sizes, Ex.sizes]
      have := ih k
      omega
theorem size_arg {l : List Ex} {k : Nat} (h : k < l.length) : l[k].size ≤ Ex.sizes l := by
  have h1 := sizes_take h
  have h2 := sizes_take_le l (k + 1)
  omega
theorem deeps_take {l : List Ex} {k : Nat} (h : k < l.length) : Ex.deeps (l.take (k + 1)) = max (Ex.deeps (l.take k)) l[k].deep := by
  induction l generalizing k with
  | nil => simp at h
  | cons x xs ih =>
    cases k with
    | zero => simp [Ex.deeps]
    | succ k =>
      rw [List.take_succ_cons, List.take_succ_cons, Ex.deeps, Ex.deeps, ih (by simpa using h)]
      simp only [List.getElem_cons_succ]
      omega
theorem deep_le : ∀ x : Ex, x.deep ≤ x.size := by
  refine Ex.ind fun op nm vt vn vs pos args ih => ?_
  rw [Ex.deep, Ex.size]
  have key : ∀ l : List Ex, (∀ y ∈ l, y.deep ≤ y.size) → Ex.deeps l ≤ Ex.sizes l := by
    intro l
    induction l with
    | nil => intro _; simp [Ex.deeps, Ex.sizes]
    | cons x xs ih2 =>
      intro h
      rw [Ex.deeps, Ex.sizes]
      have h1 := h x List.mem_cons_self
      have h2 := ih2 (fun y hy => h y (List.mem_cons_of_mem _ hy))
      omega
  have := key args ih
  omega
/-- The cells of an expression that was handed in stay in its own block. -/
theorem box_kept {w wr : World} {cs : Array Value} (h : Below (w.heap.size + 1) (w.alloc (.cells cs 26)) wr) (i : Nat) : wr.cell? ⟨w.heap.size, i, none⟩ = cs[i]? := by
  rw [h.cell (p := ⟨w.heap.size, i, none⟩) (Nat.lt_succ_self _), World.cell?_alloc_at _ _ _ _ rfl]
theorem box_below {w wr : World} {cs : Array Value} (h : Below (w.heap.size + 1) (w.alloc (.cells cs 26)) wr) : Below w.heap.size w wr :=
  ((Below.refl _ _).alloc (Nat.le_refl _) _).trans (h.mono (Nat.le_succ _))
theorem box_size {w wr : World} {cs : Array Value} (h : Below (w.heap.size + 1) (w.alloc (.cells cs 26)) wr) : w.heap.size + 1 ≤ wr.heap.size := by
  have := h.size
  simpa using this
theorem deeps_take_le (l : List Ex) (k : Nat) : Ex.deeps (l.take k) ≤ Ex.deeps l := by
  induction l generalizing k with
  | nil => simp
  | cons x xs ih =>
    cases k with
    | zero => simp [Ex.deeps]
    | succ k =>
      rw [List.take_succ_cons, Ex.deeps, Ex.deeps]
      have := ih k
      omega
/-- Are there no more than may be? -/
def Ex.small (x : Ex) : Bool := decide (x.size ≤ 200) && decide (x.deep ≤ 30)
end Go.Proofs.YtkbhmghdonomnaaGreatDoor
