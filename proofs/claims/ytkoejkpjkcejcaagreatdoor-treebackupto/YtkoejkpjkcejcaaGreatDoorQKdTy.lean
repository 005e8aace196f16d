/-
  The type of an expression whose nodes have at most three parts each, over columns (package kind's typeOf).
-/
import Derived.Test.YtkoejkpjkcejcaaGreatDoorGrAn
namespace Go.Proofs.YtkoejkpjkcejcaaGreatDoor
open Go.RowKit Go.BigFrame
set_option linter.unusedVariables false

theorem info_int : (Tryz.prog.info? 3).map (fun i => (i.zero, i.size, i.bytes)) = some (some (.int .i64 0), 1, 8) := by kernel_rfl
theorem tysP_step {zs : List (ByteArray × Int)} {l : List Ex} {k : Nat} (h : k < l.length) : tysP zs (l.drop k) = if (tyP zs l[k]).2.1 ≠ 0 then ([], (tyP zs l[k]).2) else if (tysP zs (l.drop (k + 1))).2.1 ≠ 0 then ([], (tysP zs (l.drop (k + 1))).2) else ((tyP zs l[k]).1 :: (tysP zs (l.drop (k + 1))).1, 0, 0) := by
  rw [List.drop_eq_getElem_cons h, tysP]
/-- What comes of types that are there, and of the parts that are left. -/
def tyGo (zs : List (ByteArray × Int)) (acc : List Int) (l : List Ex) : List Int × Int × Int := if (tysP zs l).2.1 ≠ 0 then ([], (tysP zs l).2) else (acc ++ (tysP zs l).1, 0, 0)
theorem tysP_zero (zs : List (ByteArray × Int)) : ∀ l : List Ex, (tysP zs l).2.1 = 0 → (tysP zs l).2 = (0, 0)
  | [], _ => by rw [tysP]
  | x :: xs, h => by
    rw [tysP] at h ⊢
    split
    · rename_i h1; rw [if_pos h1] at h; exact absurd h h1
    · rename_i h1
      rw [if_neg h1] at h
      split
      · rename_i h2; rw [if_pos h2] at h; exact absurd h h2
      · rfl
theorem tyGo_start (zs : List (ByteArray × Int)) (l : List Ex) : tyGo zs [] (l.drop 0) = tysP zs l := by
  rw [List.drop_zero, tyGo]
  split
  · rename_i h
    cases l with
    | nil => rw [tysP] at h; exact absurd rfl h
    | cons x xs =>
      rw [tysP] at h ⊢
      split at h
      · rename_i h1; rw [if_pos h1]
      · rename_i h1
        rw [if_neg h1]
        split at h
        · rename_i h2; rw [if_pos h2]
        · exact absurd rfl h
  · rename_i h
    have h0 : (tysP zs l).2.1 = 0 := by simpa using h
    rw [List.nil_append, ← tysP_zero zs l h0]
theorem tyGo_bad {zs : List (ByteArray × Int)} {acc : List Int} {l : List Ex} {k : Nat} (h : k < l.length) (hb : (tyP zs l[k]).2.1 ≠ 0) : tyGo zs acc (l.drop k) = ([], (tyP zs l[k]).2) := by
  rw [tyGo, tysP_step h, if_pos hb, if_pos hb]
theorem tyGo_ok {zs : List (ByteArray × Int)} {acc : List Int} {l : List Ex} {k : Nat} (h : k < l.length) (hb : (tyP zs l[k]).2.1 = 0) : tyGo zs acc (l.drop k) = tyGo zs (acc ++ [(tyP zs l[k]).1]) (l.drop (k + 1)) := by
  have hs := tysP_step (zs := zs) h
  rw [if_neg (fun hh => hh hb)] at hs
  rw [tyGo, hs, tyGo]
  by_cases h2 : (tysP zs (l.drop (k + 1))).2.1 = 0
  · simp [h2]
  · simp [h2]
theorem tyGo_end {zs : List (ByteArray × Int)} {acc : List Int} {l : List Ex} {k : Nat} (h : l.length ≤ k) : tyGo zs acc (l.drop k) = (acc, 0, 0) := by
  rw [List.drop_eq_nil_of_le h, tyGo, tysP]; simp
theorem tyP_op {zs : List (ByteArray × Int)} {op nm vs : ByteArray} {vt vn pos : Int} {l : List Ex} (h1 : op.data.toList ≠ [118, 97, 108]) (h2 : op.data.toList ≠ [99, 111, 108]) : tyP zs (.node op nm vt vn vs pos l) = if (tysP zs l).2.1 ≠ 0 then (0, (tysP zs l).2) else if (ruleP op.data.toList (tysP zs l).1).2 ≠ 0 then (0, (ruleP op.data.toList (tysP zs l).1).2, pos) else ((ruleP op.data.toList (tysP zs l).1).1, 0, 0) := by
  rw [tyP, if_neg h1, if_neg h2]
theorem pres_mem {d : Nat} {y : Ex} : ∀ {l : List Ex}, y ∈ l → ∀ q ∈ y.pre d, q ∈ Ex.pres d l
  | [], h, _, _ => absurd h (by simp)
  | x :: xs, h, q, hq => by
    rw [Ex.pres]
    rcases List.mem_cons.1 h with rfl | h
    · exact List.mem_append.2 (.inl hq)
    · exact List.mem_append.2 (.inr (pres_mem h q hq))
theorem ownInts {W : World} {B : Nat} {q : Option Addr} {c n : Nat} {ts : List Int} (hn : ts.length = n) (h : W.ownsRow B 3 1 (.slice q n c) n (ts.map fun t => .int .i64 t)) : IntsAt W q ts := by
  by_cases h0 : ts.length = 0
  · exact .inl h0
  · refine .inr ?_
    rcases h.2 with ⟨e1, _⟩ | ⟨g, cap, cur, e1, hb, hg, hm, hx, hs, ht⟩
    · injection e1 with e1 e2; omega
    · injection e1 with e1 e2 e3
      subst e1
      refine ⟨g, 0, rfl, (Array.getElem?_eq_some_iff.1 hg).1, fun j hj => ?_⟩
      have h1 := h.cells (g := g) rfl j (.int .i64 ts[j]) (by rw [List.getElem?_map, List.getElem?_eq_getElem hj]; rfl)
      rw [Go.WideShapes.add_plain] at h1
      simpa using h1
theorem res2 {W : World} {b : Nat} {x0 x1 : Value} (c0 : W.cell? ⟨b, 0, none⟩ = some x0) (c1 : W.cell? ⟨b, 1, none⟩ = some x1) (hl : b < W.heap.size) (v0 v1 : Value) (o : Obj) : (((W.setCell ⟨b, 0, none⟩ v0).setCell ⟨b, 1, none⟩ v1).alloc o).cell? ⟨b, 0, none⟩ = some v0 ∧ (((W.setCell ⟨b, 0, none⟩ v0).setCell ⟨b, 1, none⟩ v1).alloc o).cell? ⟨b, 1, none⟩ = some v1 := by
  rw [World.cell?_alloc_lt _ _ ⟨b, 0, none⟩ (by simpa [World.setCell] using hl), World.cell?_alloc_lt _ _ ⟨b, 1, none⟩ (by simpa [World.setCell] using hl)]
  constructor <;> simp [World.cell?_setCell_other, World.cell?_setCell_same, c0, c1]
end Go.Proofs.YtkoejkpjkcejcaaGreatDoor
