/-
  What Parse of package val says of any text: the value, or the first fault; what was in memory stays.
-/
import Derived.Test.YtpgadbpkednjkaaDoorPrint
import Derived.Lib.AtoiAllCases
import Derived.Test.YtpgadbpkednjkaaDoorUnquote
namespace Go.Proofs.YtpgadbpkednjkaaDoor
open Go.RowKit

theorem two_below {w w1 w2 : World} {o : Obj} (b1 : Below (w.alloc o).heap.size (w.alloc o) w1) (b2 : Below w1.heap.size w1 w2) : Below w.heap.size w w2 := by
  have := b1.size
  simp at this
  exact ((Below.refl _ _).alloc (Nat.le_refl _) _).trans ((b1.mono (by simp)).trans (b2.mono (by omega)))
theorem one_below {w w1 : World} {o : Obj} (b1 : Below (w.alloc o).heap.size (w.alloc o) w1) : Below w.heap.size w w1 :=
  ((Below.refl _ _).alloc (Nat.le_refl _) _).trans (b1.mono (by simp))

/-- What a text is read as: type, number, text; and the fault. -/
def readV (s : ByteArray) : Int × Int × List UInt8 × Int :=
  if s.data.toList = [116, 114, 117, 101] then (2, 1, [], 0)
  else if s.data.toList = [102, 97, 108, 115, 101] then (2, 0, [], 0)
  else if Lib.hasPrefix s.data.toList [39] = true then
    (match unqT s with
    | none => (0, 0, [], 2)
    | some l => if plainB l = false then (0, 0, [], 2) else if 40 < l.length then (0, 0, [], 4) else (3, 0, l, 0))
  else (match Lib.atoiAll s.data.toList with
    | .ok n => if Lib.itoa n = s.data.toList then (1, n, [], 0) else (0, 0, [], 2)
    | _ => (0, 0, [], 2))
def readR (r : Int × Int × List UInt8 × Int) : Value := .tuple #[.agg #[.int .i64 r.1, .int .i64 r.2.1, .string ⟨r.2.2.1.toArray⟩], errV r.2.2.2]

theorem unqT_len {s : ByteArray} {l : List UInt8} (h : unqT s = some l) : l.length ≤ s.size := by
  rw [unqT] at h
  split at h
  · split at h
    · have h1 := unq_len _ _ h
      rw [rest] at h1
      simp at h1
      omega
    · cases h
  · cases h
theorem atoi_bounds {s : ByteArray} {n : Int} (h : Lib.atoiAll s.data.toList = .ok n) : -9223372036854775808 ≤ n ∧ n ≤ 9223372036854775807 := by
  have := Lib.atoiAll_bounds h
  omega

theorem eq_of_list {s : ByteArray} {l : List UInt8} (h : s.data.toList = l) : s = ⟨l.toArray⟩ := by subst h; simp
end Go.Proofs.YtpgadbpkednjkaaDoor
