/-
  The program's reader of words (package tree): oneAhead.
-/
import Derived.Test.YtomakklbfjkdpaaDoorTreeR5
namespace Go.Proofs.YtomakklbfjkdpaaDoor
open Go.RowKit Go.BigFrame
set_option linter.unusedVariables false

theorem uAhead_some {opl : List UInt8} {gs : List (List UInt8)} {sub other : List Tok → Option Ex × List Tok} {ts rs : List Tok} {t : Tok} (hn : nxT (sgT gs) ts = some (t, rs)) : uAhead opl gs sub other ts = ((sub rs).1.map fun e => op1 opl (t.2.2 : Int) [e], (sub rs).2) := by
  rw [uAhead, hn]
  simp only
  cases sub rs with
  | mk o r => cases o <;> rfl
theorem map_if {ok : Bool} {x : Ex} {o : Option Ex} {F : Ex → Ex} (h : o = if ok = true then some x else none) : o.map F = if ok = true then some (F x) else none := by
  subst h
  cases ok <;> rfl
end Go.Proofs.YtomakklbfjkdpaaDoor
