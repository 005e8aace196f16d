/-
  What unquote of package val says of any text: what stood between its quotes, or that it is none.
-/
import Derived.Test.YtpgadbpkednjkaaDoorProg
import Derived.Test.YtpgadbpkednjkaaDoorUnqSteps
namespace Go.Proofs.YtpgadbpkednjkaaDoor
open Go.RowKit

theorem info_u8 : (Tryd.prog.info? 5).map (fun i => (i.zero, i.size, i.bytes)) = some (some (.int .u8 0), 1, 1) := by kernel_rfl

theorem rel_app {B : Nat} {l : List UInt8} {c : UInt8} {w wr w1 : World} {v v' : Value} {o : Obj} (hown : wr.ownsRow B 5 1 v l.length (cellsOf l)) (hnx : Below B w wr) (hB : B ≤ wr.heap.size)
    (hown' : w1.ownsRow B 5 1 v' (l.length + 1) (cellsOf l ++ [.int .u8 (c.toNat : Int)])) (hgrow : (wr.alloc o).grownBy w1 v.ownBlock) :
    w1.ownsRow B 5 1 v' (l ++ [c]).length (cellsOf (l ++ [c])) ∧ Below B w w1 :=
  ⟨by rw [cells_snoc, List.length_append]; exact hown', (hnx.alloc hB o).grown hgrow (by simp; omega) (fun j hj => (hown.lt j hj).1)⟩
theorem conv_nil (w : World) : (convert 41 9 (.slice none 0 0)).run Tryd.prog w = .ok (.string ⟨#[]⟩) w := by kernel_rfl
theorem conv_own {B : Nat} {l : List UInt8} {wr : World} {v : Value} (hown : wr.ownsRow B 5 1 v l.length (cellsOf l)) :
    (convert 41 9 v).run Tryd.prog wr = .ok (.string ⟨l.toArray⟩) wr := by
  have h := hown.2
  rcases h with ⟨rfl, hn⟩ | ⟨g, cap, cur, rfl, _, _, _, _, _, _⟩
  · obtain rfl : l = [] := List.length_eq_zero_iff.1 hn
    exact conv_nil wr
  · exact run_convert_bytes_back (P := Tryd.prog) wr 41 9 5 ⟨g, 0, none⟩ cap l Tryd.underlying41 Tryd.underlying5 Tryd.underlying9 (fun j hj => hown.cells (g := g) rfl j _ (by simp [cellsOf, hj]))

end Go.Proofs.YtpgadbpkednjkaaDoor
