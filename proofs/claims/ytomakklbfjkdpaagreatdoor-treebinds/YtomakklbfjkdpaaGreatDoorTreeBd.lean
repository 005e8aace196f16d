/-
  Of three with two signs between: what binds tighter is below, by reckoning all pairs of signs.
-/
import Derived.Test.YtomakklbfjkdpaaGreatDoorTreePa
import Derived.Test.YtomakklbfjkdpaaGreatDoorTreeSm
namespace Go.Proofs.YtomakklbfjkdpaaGreatDoor
open Go.RowKit
set_option linter.unusedVariables false
--BEGIN
def bdS : List (List UInt8) := [[111, 114], [97, 110, 100], [61], [60], [43], [45], [42], [47], [37]]
def bdL : List Nat := [0, 1, 2, 2, 3, 3, 4, 4, 4]
def bdT (s t : List UInt8) : List UInt8 := [120, 32] ++ s ++ [32, 121, 32] ++ t ++ [32, 122]
def bdU (s t : List UInt8) (r : Bool) : List UInt8 := if r then [120, 32] ++ s ++ [32, 40, 121, 32] ++ t ++ [32, 122, 41] else [40, 120, 32] ++ s ++ [32, 121, 41, 32] ++ t ++ [32, 122]
def bdC (s t : List UInt8) (a b : Nat) : Bool :=
  if a = 2 ∧ b = 2 then decide ((parseP (bdT s t)).2.1 = 2) && decide ((parseP (bdT s t)).2.2 = 5 + s.length)
  else decide ((parseP (bdT s t)).2.1 = 0) && (decide ((parseP (bdU s t (decide (a < b)))).2.1 = 0) && sameE false (parseP (bdT s t)).1 (parseP (bdU s t (decide (a < b)))).1)
def bdAll : Bool := (bdS.zip bdL).all fun p => (bdS.zip bdL).all fun q => bdC p.1 q.1 p.2 q.2
set_option maxRecDepth 100000 in
theorem bd_all : bdAll = true := by kernel_rfl
theorem bd_at (a b : Nat) (ha : a < 9) (hb : b < 9) : bdC (bdS[a]'ha) (bdS[b]'hb) (bdL[a]'ha) (bdL[b]'hb) = true := by
  have h := bd_all
  rw [bdAll, List.all_eq_true] at h
  have h1 := h (bdS[a]'ha, bdL[a]'ha) (by rw [List.mem_iff_getElem]; exact ⟨a, by simpa [bdS, bdL] using ha, by simp; exact ⟨rfl, rfl⟩⟩)
  rw [List.all_eq_true] at h1
  exact h1 (bdS[b]'hb, bdL[b]'hb) (by rw [List.mem_iff_getElem]; exact ⟨b, by simpa [bdS, bdL] using hb, by simp; exact ⟨rfl, rfl⟩⟩)
--END
end Go.Proofs.YtomakklbfjkdpaaGreatDoor
