/-
  A slice of columns, and Schema of package row at it.
-/
import Derived.Test.YtnpinbpjfngknaaDoorRow5
import Derived.Test.YtnpinbpjfngknaaDoorVal1
namespace Go.Proofs.YtnpinbpjfngknaaDoor
open Go.RowKit
set_option linter.unusedVariables false

/-- A slice of columns. -/
def ColsV (w : World) (v : Value) (zs : List (ByteArray × Int)) : Prop := ∃ q c, v = .slice q zs.length c ∧ (zs.length = 0 ∨ ∃ b off, q = some ⟨b, off, none⟩ ∧ zs.length ≤ c ∧ (∀ z ∈ zs, z.1.size ≤ maxLen) ∧ ColsIn w b off zs)
theorem ColsV.on {w w' : World} {v : Value} {zs : List (ByteArray × Int)} (h : ColsV w v zs) (hb : Below w.heap.size w w') : ColsV w' v zs := by
  obtain ⟨q, c, e, h⟩ := h
  refine ⟨q, c, e, ?_⟩
  rcases h with h | ⟨b, off, e2, h1, h2, h3⟩
  · exact .inl h
  · exact .inr ⟨b, off, e2, h1, h2, h3.on hb⟩
theorem schemaV (v : Value) (zs : List (ByteArray × Int)) (w : World) (hw : TW w) (h : ColsV w v zs) : Calls Tryd.prog 23 #[v] w fun e w' => e = .returned (errV (schE zs)) ∧ Below w.heap.size w w' := by
  obtain ⟨q, c, rfl, h⟩ := h
  rcases h with h | ⟨b, off, rfl, h1, h2, h3⟩
  · rw [h, schE, if_pos h]
    exact (schema_none q c w).mono fun e w' hh => ⟨hh.1, by rw [hh.2]; exact Below.refl _ _⟩
  · exact schema_any b off c zs w hw h1 h2 h3
end Go.Proofs.YtnpinbpjfngknaaDoor
