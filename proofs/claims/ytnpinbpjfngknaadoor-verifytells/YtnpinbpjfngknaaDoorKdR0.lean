/-
  The rules of package kind as they lie in memory.
-/
import Derived.Test.YtnpinbpjfngknaaDoorVal1
import Derived.Laws.Rows
import Derived.RowKitTokens
import Derived.Lib.OthersKept
import Derived.Laws.RangeAny
import Derived.Deep.DeepCutAuto
import Derived.Deep.LoopGhost
namespace Go.Proofs.YtnpinbpjfngknaaDoor
open Go.RowKit Go.BigFrame
set_option linter.unusedVariables false

/-- The rules: an Op, of which types its parts are (0: none more; -1: one type, whichever it is), and of which it is itself. -/
def kdRules : List (List UInt8 × Int × Int × Int × Int) := [([111, 114], 2, 2, 0, 2), ([97, 110, 100], 2, 2, 0, 2), ([110, 111, 116], 2, 0, 0, 2), ([61], -1, -1, 0, 2), ([60, 62], -1, -1, 0, 2), ([60], -1, -1, 0, 2), ([60, 61], -1, -1, 0, 2), ([62], -1, -1, 0, 2), ([62, 61], -1, -1, 0, 2), ([43], 1, 1, 0, 1), ([45], 1, 1, 0, 1), ([42], 1, 1, 0, 1), ([47], 1, 1, 0, 1), ([37], 1, 1, 0, 1), ([110, 101, 103], 1, 0, 0, 1), ([108, 101, 110], 3, 0, 0, 1), ([105, 102], 2, -1, -1, -1)]
abbrev KRule := List UInt8 × Int × Int × Int × Int
def rulesC : Array Value := #[.string ⟨#[111, 114]⟩, .int .i64 2, .int .i64 2, .int .i64 0, .int .i64 2, .string ⟨#[97, 110, 100]⟩, .int .i64 2, .int .i64 2, .int .i64 0, .int .i64 2, .string ⟨#[110, 111, 116]⟩, .int .i64 2, .int .i64 0, .int .i64 0, .int .i64 2, .string ⟨#[61]⟩, .int .i64 (-1), .int .i64 (-1), .int .i64 0, .int .i64 2, .string ⟨#[60, 62]⟩, .int .i64 (-1), .int .i64 (-1), .int .i64 0, .int .i64 2, .string ⟨#[60]⟩, .int .i64 (-1), .int .i64 (-1), .int .i64 0, .int .i64 2, .string ⟨#[60, 61]⟩, .int .i64 (-1), .int .i64 (-1), .int .i64 0, .int .i64 2, .string ⟨#[62]⟩, .int .i64 (-1), .int .i64 (-1), .int .i64 0, .int .i64 2, .string ⟨#[62, 61]⟩, .int .i64 (-1), .int .i64 (-1), .int .i64 0, .int .i64 2, .string ⟨#[43]⟩, .int .i64 1, .int .i64 1, .int .i64 0, .int .i64 1, .string ⟨#[45]⟩, .int .i64 1, .int .i64 1, .int .i64 0, .int .i64 1, .string ⟨#[42]⟩, .int .i64 1, .int .i64 1, .int .i64 0, .int .i64 1, .string ⟨#[47]⟩, .int .i64 1, .int .i64 1, .int .i64 0, .int .i64 1, .string ⟨#[37]⟩, .int .i64 1, .int .i64 1, .int .i64 0, .int .i64 1, .string ⟨#[110, 101, 103]⟩, .int .i64 1, .int .i64 0, .int .i64 0, .int .i64 1, .string ⟨#[108, 101, 110]⟩, .int .i64 3, .int .i64 0, .int .i64 0, .int .i64 1, .string ⟨#[105, 102]⟩, .int .i64 2, .int .i64 (-1), .int .i64 (-1), .int .i64 (-1)]
/-- What Rule reads of the variables: the rules. -/
def REnv (w : World) : Prop := ∃ t fr, w.heap[2]? = some (.cells rulesC t fr)
theorem REnv.lt {w : World} (h : REnv w) : 2 < w.heap.size := by
  obtain ⟨t, fr, h1⟩ := h
  exact (Array.getElem?_eq_some_iff.1 h1).1
theorem REnv.on {w w' : World} (h : REnv w) (hb : Below w.heap.size w w') : REnv w' := by
  have hl := h.lt
  obtain ⟨t, fr, h1⟩ := h
  exact ⟨t, fr, by rw [hb.block _ hl]; exact h1⟩
theorem rule_at (k : Nat) (hk : k < 17) : ∃ (S : ByteArray) (a0 a1 a2 ty : Int), (∀ W : World, Sem.run Tryd.prog (Instr.index 126 (.agg rulesC) (.int .i64 (k : Int))) W = .ok (.agg #[.string S, .int .i64 a0, .int .i64 a1, .int .i64 a2, .int .i64 ty]) W) ∧ kdRules[k]'hk = (S.data.toList, a0, a1, a2, ty) ∧ (-1 ≤ a0 ∧ a0 ≤ 3) ∧ (-1 ≤ a1 ∧ a1 ≤ 3) ∧ (-1 ≤ a2 ∧ a2 ≤ 3) ∧ (-1 ≤ ty ∧ ty ≤ 3) := by
  have h : k = 0 ∨ k = 1 ∨ k = 2 ∨ k = 3 ∨ k = 4 ∨ k = 5 ∨ k = 6 ∨ k = 7 ∨ k = 8 ∨ k = 9 ∨ k = 10 ∨ k = 11 ∨ k = 12 ∨ k = 13 ∨ k = 14 ∨ k = 15 ∨ k = 16 := by omega
  rcases h with rfl | rfl | rfl | rfl | rfl | rfl | rfl | rfl | rfl | rfl | rfl | rfl | rfl | rfl | rfl | rfl | rfl
  · exact ⟨⟨#[111, 114]⟩, 2, 2, 0, 2, fun W => by kernel_rfl, rfl, by decide, by decide, by decide, by decide⟩
  · exact ⟨⟨#[97, 110, 100]⟩, 2, 2, 0, 2, fun W => by kernel_rfl, rfl, by decide, by decide, by decide, by decide⟩
  · exact ⟨⟨#[110, 111, 116]⟩, 2, 0, 0, 2, fun W => by kernel_rfl, rfl, by decide, by decide, by decide, by decide⟩
  · exact ⟨⟨#[61]⟩, (-1), (-1), 0, 2, fun W => by kernel_rfl, rfl, by decide, by decide, by decide, by decide⟩
  · exact ⟨⟨#[60, 62]⟩, (-1), (-1), 0, 2, fun W => by kernel_rfl, rfl, by decide, by decide, by decide, by decide⟩
  · exact ⟨⟨#[60]⟩, (-1), (-1), 0, 2, fun W => by kernel_rfl, rfl, by decide, by decide, by decide, by decide⟩
  · exact ⟨⟨#[60, 61]⟩, (-1), (-1), 0, 2, fun W => by kernel_rfl, rfl, by decide, by decide, by decide, by decide⟩
  · exact ⟨⟨#[62]⟩, (-1), (-1), 0, 2, fun W => by kernel_rfl, rfl, by decide, by decide, by decide, by decide⟩
  · exact ⟨⟨#[62, 61]⟩, (-1), (-1), 0, 2, fun W => by kernel_rfl, rfl, by decide, by decide, by decide, by decide⟩
  · exact ⟨⟨#[43]⟩, 1, 1, 0, 1, fun W => by kernel_rfl, rfl, by decide, by decide, by decide, by decide⟩
  · exact ⟨⟨#[45]⟩, 1, 1, 0, 1, fun W => by kernel_rfl, rfl, by decide, by decide, by decide, by decide⟩
  · exact ⟨⟨#[42]⟩, 1, 1, 0, 1, fun W => by kernel_rfl, rfl, by decide, by decide, by decide, by decide⟩
  · exact ⟨⟨#[47]⟩, 1, 1, 0, 1, fun W => by kernel_rfl, rfl, by decide, by decide, by decide, by decide⟩
  · exact ⟨⟨#[37]⟩, 1, 1, 0, 1, fun W => by kernel_rfl, rfl, by decide, by decide, by decide, by decide⟩
  · exact ⟨⟨#[110, 101, 103]⟩, 1, 0, 0, 1, fun W => by kernel_rfl, rfl, by decide, by decide, by decide, by decide⟩
  · exact ⟨⟨#[108, 101, 110]⟩, 3, 0, 0, 1, fun W => by kernel_rfl, rfl, by decide, by decide, by decide, by decide⟩
  · exact ⟨⟨#[105, 102]⟩, 2, (-1), (-1), (-1), fun W => by kernel_rfl, rfl, by decide, by decide, by decide, by decide⟩
end Go.Proofs.YtnpinbpjfngknaaDoor
