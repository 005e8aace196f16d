/-
  What Print of package val says of any value: its text, or its first fault; what was in memory stays.
-/
import Derived.Test.YtomakklbfjkdpaaDoorCmp
import Derived.Test.YtomakklbfjkdpaaDoorText
import Derived.Test.YtomakklbfjkdpaaDoorShelf
import Derived.WalkSmall
import Derived.Lib.LaidTab
import Derived.Lib.AppendIntMem
namespace Go.Proofs.YtomakklbfjkdpaaDoor
open Go.RowKit

/-- The text of a value that is right. -/
def shown (t n : Int) (l : List UInt8) : List UInt8 :=
  if t = 1 then Lib.itoa n
  else if t = 2 then (if n = 1 then [116, 114, 117, 101] else [102, 97, 108, 115, 101])
  else 39 :: (esc l ++ [39])
def prS (t n : Int) (l : List UInt8) : List UInt8 := if chk t n l = 0 then shown t n l else []

theorem chk_type {t n : Int} {l : List UInt8} (h : chk t n l = 0) : (t = 1 ∧ l = []) ∨ (t = 2 ∧ l = [] ∧ (n = 0 ∨ n = 1)) ∨ (t = 3 ∧ n = 0 ∧ l.length ≤ 40 ∧ plainB l = true) := by
  rw [chk] at h
  split at h
  · omega
  · rename_i h1
    split at h
    · omega
    · rename_i h2
      split at h
      · omega
      · rename_i h3
        split at h
        · omega
        · rename_i h4
          by_cases e3 : t = 3
          · have h3' : plainB l = true := by
              cases hp : plainB l with
              | true => rfl
              | false => exact absurd ⟨e3, hp⟩ h3
            exact Or.inr (Or.inr ⟨e3, by omega, by omega, h3'⟩)
          · have hl : l = [] := Classical.byContradiction fun e => h4 (Or.inl ⟨e3, e⟩)
            by_cases e2 : t = 2
            · exact Or.inr (Or.inl ⟨e2, hl, by omega⟩)
            · exact Or.inl ⟨by omega, hl⟩

theorem grow_below {w w' : World} (h : ∃ k os, w' = Sort.grow (w.drewN k) os) : Below w.heap.size w w' := by
  obtain ⟨k, os, rfl⟩ := h
  exact Lib.below_grow _ w (Nat.le_refl _) k os
theorem esc_len (l : List UInt8) : (esc l).length ≤ 2 * l.length := by
  induction l with
  | nil => simp [esc]
  | cons c l ih =>
    rw [esc_cons]
    split <;> simp <;> omega
theorem quoted (l : List UInt8) : (⟨#[39]⟩ : ByteArray) ++ ⟨(esc l).toArray⟩ ++ ⟨#[39]⟩ = ⟨(39 :: (esc l ++ [39])).toArray⟩ := by
  rfl

end Go.Proofs.YtomakklbfjkdpaaDoor
