/-
  What Compare of package val says of any two values: the first fault, or which is ahead; what was in memory stays.
-/
import Derived.Test.YtnpinbpjfngknaaGreatDoorVal1
namespace Go.Proofs.YtnpinbpjfngknaaGreatDoor
open Go.RowKit

theorem bytesLess_lt : ∀ (x y : List UInt8), Op.bytesLess x y = decide (x < y)
  | [], [] => by simp [Op.bytesLess]
  | _ :: _, [] => by simp [Op.bytesLess]
  | [], _ :: _ => by simp [Op.bytesLess]
  | a :: x, b :: y => by
    rw [Op.bytesLess, bytesLess_lt x y]
    simp only [List.cons_lt_cons_iff]
    by_cases h1 : a < b <;> by_cases h2 : a = b <;> by_cases h3 : x < y <;> simp [h1, h2, h3]

def cmpI (x y : Int) : Int := if x < y then -1 else if y < x then 1 else 0
def cmpS (x y : List UInt8) : Int := if x < y then -1 else if y < x then 1 else 0

theorem run_gtr_str (x y : ByteArray) (w : World) : Sem.run Tryz.prog (binOp .gtr 9 (.string x) (.string y)) w = .ok (.bool !(Op.bytesLess x.toList y.toList || x.toList == y.toList)) w := by
  simp [binOp, Op.stringOp]
theorem bcell {W w1 : World} (hb : Below W.heap.size W w1) : (∀ b o, b < W.heap.size → w1.cell? ⟨b, o, none⟩ = W.cell? ⟨b, o, none⟩) ∧ (∀ b o, b < W.heap.size → w1.frozen? ⟨b, o, none⟩ = W.frozen? ⟨b, o, none⟩) :=
  ⟨fun b o h => hb.cell (p := ⟨b, o, none⟩) h, fun b o h => hb.frozen (p := ⟨b, o, none⟩) h⟩
theorem check_ok (t n : Int) (s : ByteArray) (w : World) (hs : s.size ≤ maxLen) (h : chk t n s.data.toList = 0) :
    Calls Tryz.prog 85 #[.agg #[.int .i64 t, .int .i64 n, .string s]] w fun e w' => e = .returned .nilIface ∧ Below w.heap.size w w' :=
  (check_any t n s w hs).mono fun e w' hh => ⟨by rw [hh.1, h, errV, if_pos rfl], hh.2⟩
theorem check_bad (t n : Int) (s : ByteArray) (w : World) (hs : s.size ≤ maxLen) (h : chk t n s.data.toList ≠ 0) :
    Calls Tryz.prog 85 #[.agg #[.int .i64 t, .int .i64 n, .string s]] w fun e w' => e = .returned (.iface 29 (.int .i64 (chk t n s.data.toList))) ∧ Below w.heap.size w w' :=
  (check_any t n s w hs).mono fun e w' hh => ⟨by rw [hh.1, errV, if_neg h], hh.2⟩

def cmpE (t n : Int) (l : List UInt8) (t' n' : Int) (l' : List UInt8) : Int :=
  if chk t n l ≠ 0 then chk t n l else if chk t' n' l' ≠ 0 then chk t' n' l' else if t ≠ t' then 8 else 0
def cmpN (t n : Int) (l : List UInt8) (t' n' : Int) (l' : List UInt8) : Int :=
  if cmpE t n l t' n' l' ≠ 0 then 0 else if t = 3 then cmpS l l' else cmpI n n'
theorem cmp_ret {a b j : Int} {x : Value} (ha : a = b) (hx : x = errV j) : Ending.returned (.tuple #[.int .i64 a, x]) = .returned (.tuple #[.int .i64 b, errV j]) := by rw [ha, hx]

end Go.Proofs.YtnpinbpjfngknaaGreatDoor
