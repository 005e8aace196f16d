/-
  Is an error nil? Two run equations, whatever the error is.
-/
import Derived.Test.YtggabncpedcmdaaGreatDoorVal1
namespace Go.Proofs.YtggabncpedcmdaaGreatDoor
open Go.RowKit

/-- Is an error nil? -/
structure IsErr (er : Value) (b : Bool) : Prop where
  eql : ∀ W : World, Sem.run Tryz.prog (binOp .eql 27 er .nilIface) W = .ok (.bool b) W
  neq : ∀ W : World, Sem.run Tryz.prog (binOp .neq 27 er .nilIface) W = .ok (.bool !b) W
  geql : ∀ (W : World) (k : Nat), Sem.run Tryz.prog (eqGuard .eql 27 (.tmp k) (.const .nilIface) er .nilIface) W = .ok () W
  gneq : ∀ (W : World) (k : Nat), Sem.run Tryz.prog (eqGuard .neq 27 (.tmp k) (.const .nilIface) er .nilIface) W = .ok () W
theorem isErr_nil : IsErr .nilIface true := ⟨fun W => by kernel_rfl, fun W => by kernel_rfl, fun W k => by kernel_rfl, fun W k => by kernel_rfl⟩
theorem isErr_some (t : TypeId) (v : Value) : IsErr (.iface t v) false := ⟨fun W => by kernel_rfl, fun W => by kernel_rfl, fun W k => by kernel_rfl, fun W k => by kernel_rfl⟩
theorem isErr_errV (k : Int) : IsErr (errV k) (decide (k = 0)) := by
  rw [errV]
  by_cases h : k = 0
  · rw [if_pos h, decide_eq_true h]; exact isErr_nil
  · rw [if_neg h, decide_eq_false h]; exact isErr_some _ _
end Go.Proofs.YtggabncpedcmdaaGreatDoor
