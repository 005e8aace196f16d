/-
  The program's reader of words (package tree): operand.
-/
import Derived.Test.YtomakklbfjkdpaaDoorTreeR9
namespace Go.Proofs.YtomakklbfjkdpaaDoor
open Go.RowKit Go.BigFrame
set_option linter.unusedVariables false

abbrev lenIf : List (List UInt8) := [[108, 101, 110], [105, 102]]
def manyT (t : Tok) : Nat := if t.2.1.data.toList = [108, 101, 110] then 1 else 3
theorem uOne_call {sub : List Tok → Option Ex × List Tok} {ts rs : List Tok} {t : Tok} (h : nxT (sgT lenIf) ts = some (t, rs)) : uOne sub ts = ((uBr sub (manyT t) [] rs).1.map fun l => .node t.2.1 ⟨#[]⟩ 0 0 ⟨#[]⟩ (t.2.2 : Int) l, (uBr sub (manyT t) [] rs).2) := by
  rw [uOne, h, manyT]
  simp only
  cases uBr sub (if t.2.1.data.toList = [108, 101, 110] then 1 else 3) [] rs with
  | mk o r => cases o <;> rfl
theorem uOne_val {sub : List Tok → Option Ex × List Tok} {ts rs : List Tok} {t : Tok} (h : nxT (sgT lenIf) ts = none) (h2 : nxT vlT ts = some (t, rs)) : uOne sub ts = (some (valE t), rs) := by
  rw [uOne, h]; simp only [h2]
theorem uOne_col {sub : List Tok → Option Ex × List Tok} {ts rs : List Tok} {t : Tok} (h : nxT (sgT lenIf) ts = none) (h2 : nxT vlT ts = none) (h3 : nxT nmT ts = some (t, rs)) : uOne sub ts = (some (colE1 t), rs) := by
  rw [uOne, h]; simp only [h2, h3]
theorem uOne_br {sub : List Tok → Option Ex × List Tok} {ts : List Tok} (h : nxT (sgT lenIf) ts = none) (h2 : nxT vlT ts = none) (h3 : nxT nmT ts = none) : uOne sub ts = ((uBr sub 1 [] ts).1.bind List.head?, (uBr sub 1 [] ts).2) := by
  rw [uOne, h]; simp only [h2, h3]
  cases uBr sub 1 [] ts with
  | mk o r => cases o <;> rfl
theorem uBr_len {sub : List Tok → Option Ex × List Tok} : ∀ (k : Nat) (acc : List Ex) (ts : List Tok) (l : List Ex), (uBr sub k acc ts).1 = some l → l.length = acc.length + k
  | 0, acc, ts, l, h => by
    rw [uBr] at h
    cases hn : nxT (sgT [[41]]) ts with
    | none => rw [hn] at h; exact absurd h (by simp)
    | some q =>
      obtain ⟨t, r⟩ := q
      rw [hn] at h
      simp only [Option.some.injEq] at h
      subst h; rfl
  | k + 1, acc, ts, l, h => by
    rw [uBr] at h
    cases hn : nxT (sgT [if acc.length = 0 then [40] else [44]]) ts with
    | none => rw [hn] at h; exact absurd h (by simp)
    | some q =>
      obtain ⟨t, r⟩ := q
      rw [hn] at h
      simp only at h
      cases h3 : sub r with
      | mk o r2 =>
        rw [h3] at h
        cases o with
        | none => exact absurd h (by simp)
        | some e =>
          have := uBr_len k (acc ++ [e]) r2 l h
          rw [this, List.length_append, List.length_singleton]; omega
theorem many_ops {t : Tok} (h : sgT lenIf t = true) : apL t.2.1.data.toList opsL = ((manyT t : Int), true) := by
  rw [sgT, List.any_eq_true] at h
  obtain ⟨g, hg, he⟩ := h
  have he : g = t.2.1.data.toList := by simpa using he
  rw [manyT, ← he]
  simp only [List.mem_cons, List.not_mem_nil, or_false] at hg
  rcases hg with rfl | rfl <;> decide
theorem ex_args {w : World} {lo : Nat → Prop} {p : Option Addr} {n c : Nat} {xs : List Ex} {op nm vs : ByteArray} {vt vn pos : Int} (h : ArgsIs w lo (.slice p n c) xs) (ho : op.size ≤ maxLen) (hn : nm.size ≤ maxLen) (hv : vs.size ≤ maxLen) : ExIn w lo (.agg #[.string op, .string nm, .int .i64 vt, .int .i64 vn, .string vs, .slice p n c, .int .i64 pos]) (.node op nm vt vn vs pos xs) := by
  obtain ⟨q, d, e, h1, h2⟩ := h
  injection e with e1 e2 e3
  subst e1 e2 e3
  rw [ExIn]
  exact ⟨_, _, rfl, h1, ho, hn, hv, h2⟩
theorem map_ifs {ok : Bool} {xs : List Ex} {o : Option (List Ex)} {F : List Ex → Ex} (h : o = if ok = true then some xs else none) : o.map F = if ok = true then some (F xs) else none := by
  subst h
  cases ok <;> rfl
end Go.Proofs.YtomakklbfjkdpaaDoor
