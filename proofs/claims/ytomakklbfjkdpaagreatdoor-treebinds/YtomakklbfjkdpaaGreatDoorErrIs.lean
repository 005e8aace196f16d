/-
  What errors.Is says of two errors of package api.
-/
import Derived.Test.YtomakklbfjkdpaaGreatDoorProg
import Derived.WalkKit
import Derived.Below
import Derived.LaidEql
import Derived.Stop.Asserts
import Derived.RowKitTokens
namespace Go.Proofs.YtomakklbfjkdpaaGreatDoor
open Go.RowKit Go.Extern.Stop Go.Stop Go.Extern

theorem Is.typeOfE (v : Value) (w : World) : (ReflectliteType.typeOf #[.iface 29 v]).run Tryz.prog w = .ok (.iface 145 (.agg #[.pointer (some ⟨12, 29, none⟩)])) w := by kernel_rfl
theorem Is.methodComparable (h : Value) (w : World) : (Go.method 343 145 (.agg #[h]) "Comparable").run Tryz.prog w = .ok (191, .agg #[h]) w := by kernel_rfl
theorem Is.no1 (v : Value) (xT : TypeId) (w : World) : (Instr.typeAssert (.iface 29 v) xT 180 true).run Tryz.prog w = .ok (.tuple #[.nilIface, .bool false]) w := run_typeAssert_lacksB Tryz.underlying180 (by kernel_rfl) (by kernel_rfl) v xT w
theorem Is.no2 (v : Value) (xT : TypeId) (w : World) : (Instr.typeAssert (.iface 29 v) xT 153 true).run Tryz.prog w = .ok (.tuple #[.nilIface, .bool false]) w := run_typeAssert_lacksB Tryz.underlying153 (by kernel_rfl) (by kernel_rfl) v xT w
theorem Is.no3 (v : Value) (xT : TypeId) (w : World) : (Instr.typeAssert (.iface 29 v) xT 155 true).run Tryz.prog w = .ok (.tuple #[.nilIface, .bool false]) w := run_typeAssert_lacksB Tryz.underlying155 (by kernel_rfl) (by kernel_rfl) v xT w
theorem Is.eql (n m : Int) (W : World) : Sem.run Tryz.prog (binOp .eql 38 (.iface 29 (.int .i64 n)) (.iface 29 (.int .i64 m))) W = .ok (.bool (n == m)) W := by kernel_rfl
theorem Is.guard (n m : Int) (W : World) (j k : Nat) : Sem.run Tryz.prog (eqGuard .eql 38 (.tmp j) (.tmp k) (.iface 29 (.int .i64 n)) (.iface 29 (.int .i64 m))) W = .ok () W := by kernel_rfl
set_option maxHeartbeats 2000000 in
set_option maxRecDepth 20000 in
theorem is_any (n m : Int) (w : World) :
    Calls Tryz.prog 117 #[.iface 29 (.int .i64 n), .iface 29 (.int .i64 m), .bool true] w fun e w' => e = .returned (.bool (n == m)) ∧ w' = w := by
  by_cases h : n = m
  · have hb : (n == m) = true := by simpa using h
    rw [hb]
    have q1 := Is.eql n m
    rw [hb] at q1
    have q2 := Is.guard n m
    have a1 := Is.no1
    have a2 := Is.no2
    have a3 := Is.no3
    clear h hb
    go_enter Tryz.func117, Tryz.ntmps117
    go_wp2
    refine wp_loop_rounds 1 ?_
    rw [rounds_succ]
    go_wp2
    go_ret
    exact ⟨rfl, rfl⟩
  · have hb : (n == m) = false := by simpa using h
    rw [hb]
    have q1 := Is.eql n m
    rw [hb] at q1
    have q2 := Is.guard n m
    have a1 := Is.no1
    have a2 := Is.no2
    have a3 := Is.no3
    clear h hb
    go_enter Tryz.func117, Tryz.ntmps117
    go_wp2
    refine wp_loop_rounds 1 ?_
    rw [rounds_succ]
    go_wp2
    go_ret
    exact ⟨rfl, rfl⟩
theorem Is.comparable (w : World) : (ReflectliteType.method (fun t => do
    Rtype.noPackHeld "Comparable" t
    (fun a => Value.bool a.comparable) <$> typeInfo t) #[.agg #[.pointer (some ⟨12, 29, none⟩)]]).run Tryz.prog w = .ok (.bool true) w := by kernel_rfl
set_option maxHeartbeats 2000000 in
set_option maxRecDepth 20000 in
theorem errorsIs_any (n m : Int) (w : World) :
    Calls Tryz.prog 97 #[.iface 29 (.int .i64 n), .iface 29 (.int .i64 m)] w fun e w' => e = .returned (.bool (n == m)) ∧ w' = w := by
  have h10 := @run_callFunc_extern Tryz.prog 102 _ ReflectliteType.typeOf Tryz.func102 (by kernel_rfl) (by kernel_rfl) (by kernel_rfl) (by kernel_rfl)
  have h11 := @run_callFunc_extern Tryz.prog 191 _ (ReflectliteType.method (fun t => do Rtype.noPackHeld "Comparable" t; pure (.bool (← typeInfo t).comparable))) Tryz.func191 (by kernel_rfl) (by kernel_rfl) (by kernel_rfl) (by kernel_rfl)
  have tO := Is.typeOfE
  have mC := Is.methodComparable
  have cC := Is.comparable
  go_enter Tryz.func97, Tryz.ntmps97
  go_wp2_with fail
  refine (is_any n m _).mono ?_
  rintro e w' ⟨rfl, rfl⟩
  go_wp2
  go_ret
  exact ⟨rfl, rfl⟩
end Go.Proofs.YtomakklbfjkdpaaGreatDoor
