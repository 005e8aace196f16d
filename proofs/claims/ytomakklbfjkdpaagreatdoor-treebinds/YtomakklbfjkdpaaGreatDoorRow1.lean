/-
  What package row's place, Find and the closures under them say of any columns.
-/
import Derived.Test.YtomakklbfjkdpaaGreatDoorProg
import Derived.WalkKit
import Derived.Below
import Derived.RowKitTokens
import Derived.Lib.OthersKept
import Derived.Lib.Strings
import Derived.Laws.RangeAny
import Derived.Deep.DeepCutAuto
namespace Go.Proofs.YtomakklbfjkdpaaGreatDoor
open Go.RowKit
set_option linter.unusedVariables false

/-- The columns of a list lie in memory one behind the other. -/
def ColsIn (w : World) (b off : Nat) (zs : List (ByteArray × Int)) : Prop :=
  b < w.heap.size ∧ ∀ j (h : j < zs.length), w.cell? ⟨b, off + j * 2, none⟩ = some (.string zs[j].1) ∧ w.cell? ⟨b, off + j * 2 + 1, none⟩ = some (.int .i64 zs[j].2)
theorem ColsIn.on {w w' : World} {b off : Nat} {zs : List (ByteArray × Int)} (h : ColsIn w b off zs) (hb : Below w.heap.size w w') : ColsIn w' b off zs :=
  ⟨by have := hb.size; have := h.1; omega, fun j hj => by
    rw [hb.cell (p := ⟨b, off + j * 2, none⟩) h.1, hb.cell (p := ⟨b, off + j * 2 + 1, none⟩) h.1]; exact h.2 j hj⟩
theorem ColsIn.take {w : World} {b off : Nat} {zs : List (ByteArray × Int)} (h : ColsIn w b off zs) (k : Nat) : ColsIn w b off (zs.take k) :=
  ⟨h.1, fun j hj => by
    have hj' : j < zs.length := by rw [List.length_take] at hj; omega
    have := h.2 j hj'
    simpa [List.getElem_take] using this⟩
/-- Where the first column of a name stands; below 0: there is none. -/
def findN (x : List UInt8) (zs : List (ByteArray × Int)) : Int := match zs.findIdx? (fun z => z.1.data.toList == x) with
  | some k => k
  | none => -1
theorem findN_hit {x : List UInt8} {zs : List (ByteArray × Int)} {k : Nat} (h : k < zs.length) (he : zs[k].1.data.toList = x) (hn : ∀ j (hj : j < k), zs[j].1.data.toList ≠ x) : findN x zs = k := by
  have : zs.findIdx? (fun z => z.1.data.toList == x) = some k := by
    rw [List.findIdx?_eq_some_iff_getElem]
    exact ⟨h, by simpa using he, fun j hj => by simpa using hn j hj⟩
  rw [findN, this]
theorem findN_miss {x : List UInt8} {zs : List (ByteArray × Int)} (hn : ∀ j (hj : j < zs.length), zs[j].1.data.toList ≠ x) : findN x zs = -1 := by
  have : zs.findIdx? (fun z => z.1.data.toList == x) = none := by
    rw [List.findIdx?_eq_none_iff]
    intro z hz
    obtain ⟨j, hj, rfl⟩ := List.getElem_of_mem hz
    simpa using hn j hj
  rw [findN, this]

end Go.Proofs.YtomakklbfjkdpaaGreatDoor
