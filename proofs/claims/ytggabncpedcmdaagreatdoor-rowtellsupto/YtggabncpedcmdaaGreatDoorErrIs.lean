/-
  What errors.Is says of two errors of package api.
-/
import Derived.Test.YtggabncpedcmdaaGreatDoorProg
import Derived.WalkKit
import Derived.Below
import Derived.LaidEql
import Derived.Stop.Asserts
import Derived.RowKitTokens
namespace Go.Proofs.YtggabncpedcmdaaGreatDoor
open Go.RowKit Go.Extern.Stop Go.Stop Go.Extern

theorem Is.typeOfE (v : Value) (w : World) : (ReflectliteType.typeOf #[.iface 69 v]).run Tryz.prog w = .ok (.iface 145 (.agg #[.pointer (some ⟨10, 69, none⟩)])) w := by kernel_rfl
theorem Is.methodComparable (h : Value) (w : World) : (Go.method 328 145 (.agg #[h]) "Comparable").run Tryz.prog w = .ok (166, .agg #[h]) w := by kernel_rfl
theorem Is.no1 (v : Value) (xT : TypeId) (w : World) : (Instr.typeAssert (.iface 69 v) xT 147 true).run Tryz.prog w = .ok (.tuple #[.nilIface, .bool false]) w := run_typeAssert_lacksB Tryz.underlying147 (by kernel_rfl) (by kernel_rfl) v xT w
theorem Is.no2 (v : Value) (xT : TypeId) (w : World) : (Instr.typeAssert (.iface 69 v) xT 150 true).run Tryz.prog w = .ok (.tuple #[.nilIface, .bool false]) w := run_typeAssert_lacksB Tryz.underlying150 (by kernel_rfl) (by kernel_rfl) v xT w
theorem Is.no3 (v : Value) (xT : TypeId) (w : World) : (Instr.typeAssert (.iface 69 v) xT 152 true).run Tryz.prog w = .ok (.tuple #[.nilIface, .bool false]) w := run_typeAssert_lacksB Tryz.underlying152 (by kernel_rfl) (by kernel_rfl) v xT w
theorem Is.eql (n m : Int) (W : World) : Sem.run Tryz.prog (binOp .eql 27 (.iface 69 (.int .i64 n)) (.iface 69 (.int .i64 m))) W = .ok (.bool (n == m)) W := by kernel_rfl
theorem Is.guard (n m : Int) (W : World) (j k : Nat) : Sem.run Tryz.prog (eqGuard .eql 27 (.tmp j) (.tmp k) (.iface 69 (.int .i64 n)) (.iface 69 (.int .i64 m))) W = .ok () W := by kernel_rfl
set_option maxHeartbeats 2000000 in
set_option maxRecDepth 20000 in
theorem is_any (n m : Int) (w : World) :
    Calls Tryz.prog 83 #[.iface 69 (.int .i64 n), .iface 69 (.int .i64 m), .bool true] w fun e w' => e = .returned (.bool (n == m)) ∧ w' = w := by
  by_cases h : n = m
  · have hb : (n == m) = true := by simpa using h
    rw [hb]
    have q1 := Is.eql n m
    rw [hb] at q1
    have q2 := Is.guard n m
    have a1 := Is.no1
    have a2 := Is.no2
    have a3 := Is.no3
    clear h hb
    go_enter Tryz.func83, Tryz.ntmps83
    go_wp2
    refine wp_loop_rounds 1 ?_
    rw [rounds_succ]
    go_wp2
    go_ret
    exact ⟨rfl, rfl⟩
  · have hb : (n == m) = false := by simpa using h
    rw [hb]
    have q1 := Is.eql n m
    rw [hb] at q1
    have q2 := Is.guard n m
    have a1 := Is.no1
    have a2 := Is.no2
    have a3 := Is.no3
    clear h hb
    go_enter Tryz.func83, Tryz.ntmps83
    go_wp2
    refine wp_loop_rounds 1 ?_
    rw [rounds_succ]
    go_wp2
    go_ret
    exact ⟨rfl, rfl⟩
theorem Is.comparable (w : World) : (ReflectliteType.method (fun t => do
    Rtype.noPackHeld "Comparable" t
    (fun a => Value.bool a.comparable) <$> typeInfo t) #[.agg #[.pointer (some ⟨10, 69, none⟩)]]).run Tryz.prog w = .ok (.bool true) w := by kernel_rfl
set_option maxHeartbeats 2000000 in
set_option maxRecDepth 20000 in
theorem errorsIs_any (n m : Int) (w : World) :
    Calls Tryz.prog 58 #[.iface 69 (.int .i64 n), .iface 69 (.int .i64 m)] w fun e w' => e = .returned (.bool (n == m)) ∧ w' = w := by
  have h10 := @run_callFunc_extern Tryz.prog 82 _ ReflectliteType.typeOf Tryz.func82 (by kernel_rfl) (by kernel_rfl) (by kernel_rfl) (by kernel_rfl)
  have h11 := @run_callFunc_extern Tryz.prog 166 _ (ReflectliteType.method (fun t => do Rtype.noPackHeld "Comparable" t; pure (.bool (← typeInfo t).comparable))) Tryz.func166 (by kernel_rfl) (by kernel_rfl) (by kernel_rfl) (by kernel_rfl)
  have tO := Is.typeOfE
  have mC := Is.methodComparable
  have cC := Is.comparable
  go_enter Tryz.func58, Tryz.ntmps58
  go_wp2_with fail
  refine (is_any n m _).mono ?_
  rintro e w' ⟨rfl, rfl⟩
  go_wp2
  go_ret
  exact ⟨rfl, rfl⟩
end Go.Proofs.YtggabncpedcmdaaGreatDoor
