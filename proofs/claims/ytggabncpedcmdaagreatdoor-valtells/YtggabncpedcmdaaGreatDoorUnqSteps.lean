/-
  Plain facts on a text between quotes, byte by byte: what a loop over it needs at each step.
-/
import Derived.Test.YtggabncpedcmdaaGreatDoorText
import Derived.WalkKit
namespace Go.Proofs.YtggabncpedcmdaaGreatDoor
open Go.RowKit

/-- What is left from j on, ahead of the last byte. -/
def rest (s : ByteArray) (j : Nat) : List UInt8 := (s.data.toList.drop j).take (s.size - 1 - j)
theorem rest_cons (s : ByteArray) (j : Nat) (h : j + 1 < s.size) : rest s j = s[j] :: rest s (j + 1) := by
  have hl : j < s.data.toList.length := by simp; omega
  rw [rest, rest, List.drop_eq_getElem_cons hl, show s.size - 1 - j = (s.size - 1 - (j + 1)) + 1 from by omega, List.take_succ_cons]
  rfl
theorem rest_nil (s : ByteArray) (j : Nat) (h : s.size ≤ j + 1) : rest s j = [] := by
  rw [rest, show s.size - 1 - j = 0 from by omega, List.take_zero]
/-- So far l has been gathered. -/
def Got (s : ByteArray) (j : Nat) (l : List UInt8) : Prop := unq (rest s 1) = (unq (rest s j)).map (l ++ ·)
theorem got_start (s : ByteArray) : Got s 1 [] := by simp [Got]
theorem got_plain {s : ByteArray} {j : Nat} {l : List UInt8} (h : j + 1 < s.size) (hc : (s[j].toNat : Int) ≠ 39) (g : Got s j l) : Got s (j + 1) (l ++ [s[j]]) := by
  have hne : s[j] ≠ 39 := fun e => hc (by rw [e]; rfl)
  rw [Got, rest_cons s j h, unq_ne _ _ hne, Option.map_map] at g
  rw [Got, g]
  congr 1
  funext x
  simp
theorem got_two {s : ByteArray} {j : Nat} {l : List UInt8} (h : j + 2 < s.size) (hc : (s[j].toNat : Int) = 39) (hd : (s[j + 1].toNat : Int) = 39) (g : Got s j l) : Got s (j + 2) (l ++ [s[j + 1]]) := by
  have h1 : s[j] = 39 := UInt8.toNat_inj.1 (by rw [show (39 : UInt8).toNat = 39 from rfl]; omega)
  have h2 : s[j + 1] = 39 := UInt8.toNat_inj.1 (by rw [show (39 : UInt8).toNat = 39 from rfl]; omega)
  rw [Got, rest_cons s j (by omega), rest_cons s (j + 1) (by omega), h1, h2, unq_two, Option.map_map] at g
  rw [Got, g, h2]
  congr 1
  funext x
  simp
theorem got_one {s : ByteArray} {j : Nat} {l : List UInt8} (h : j + 2 = s.size) (hc : (s[j].toNat : Int) = 39) (g : Got s j l) : unq (rest s 1) = none := by
  have h1 : s[j] = 39 := UInt8.toNat_inj.1 (by rw [show (39 : UInt8).toNat = 39 from rfl]; omega)
  rw [Got, rest_cons s j (by omega), rest_nil s (j + 1) (by omega), h1, unq_one] at g
  rw [g]; rfl
theorem got_bad {s : ByteArray} {j : Nat} {l : List UInt8} (h : j + 2 < s.size) (hc : (s[j].toNat : Int) = 39) (hd : (s[j + 1].toNat : Int) ≠ 39) (g : Got s j l) : unq (rest s 1) = none := by
  have h1 : s[j] = 39 := UInt8.toNat_inj.1 (by rw [show (39 : UInt8).toNat = 39 from rfl]; omega)
  have h2 : s[j + 1] ≠ 39 := fun e => hd (by rw [e]; rfl)
  rw [Got, rest_cons s j (by omega), rest_cons s (j + 1) (by omega), h1, unq_bad _ _ h2] at g
  rw [g]; rfl
theorem got_end {s : ByteArray} {j : Nat} {l : List UInt8} (h : s.size ≤ j + 1) (g : Got s j l) : unq (rest s 1) = some l := by
  rw [Got, rest_nil s j h] at g
  rw [g]; simp [unq]
/-- A text taken apart; none: it is none between quotes. -/
def unqT (s : ByteArray) : Option (List UInt8) :=
  if h : 2 ≤ s.size then (if (s[0].toNat : Int) = 39 ∧ (s[s.size - 1].toNat : Int) = 39 then unq (rest s 1) else none) else none
def cellsOf (l : List UInt8) : List Value := l.map fun c => Value.int .u8 (c.toNat : Int)
theorem cells_snoc (l : List UInt8) (c : UInt8) : cellsOf (l ++ [c]) = cellsOf l ++ [Value.int .u8 (c.toNat : Int)] := by simp [cellsOf]
end Go.Proofs.YtggabncpedcmdaaGreatDoor
