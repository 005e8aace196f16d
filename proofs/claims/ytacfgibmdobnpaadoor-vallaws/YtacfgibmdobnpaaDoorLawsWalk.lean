/-
  Numbers add and multiply, in either order, and in parts as at once, as long as nothing goes over: the walks of sluicelaw4.ValLaws, one a case.
-/
import Derived.Test.YtacfgibmdobnpaaDoorReckon
import Derived.Test.YtacfgibmdobnpaaDoorAs
import Derived.Deep.QuietTactic
import Derived.BigQuiet
import Derived.WalkSmall
namespace Go.Proofs.YtacfgibmdobnpaaDoor
open Go.RowKit
set_option linter.unusedVariables false
theorem rk_add2 (a b n : Int) (w : World) (ha : -9223372036854775808 ≤ a ∧ a ≤ 9223372036854775807) (hb : -9223372036854775808 ≤ b ∧ b ≤ 9223372036854775807) (h : a + b = n)
    (hn : -9223372036854775808 ≤ n ∧ n ≤ 9223372036854775807) :
    Calls Tryd.prog 7 #[.string { data := #[43] }, .int .i64 a, .int .i64 b] w fun e w' => e = .returned (.tuple #[.int .i64 n, .nilIface]) ∧ w' = w := by
  subst h; exact rk_add a b w ha hb hn
theorem rk_mul2 (a b n : Int) (w : World) (ha : -9223372036854775808 ≤ a ∧ a ≤ 9223372036854775807) (hb : -9223372036854775808 ≤ b ∧ b ≤ 9223372036854775807) (h : a * b = n)
    (hn : -9223372036854775808 ≤ n ∧ n ≤ 9223372036854775807) :
    Calls Tryd.prog 7 #[.string { data := #[42] }, .int .i64 a, .int .i64 b] w fun e w' => e = .returned (.tuple #[.int .i64 n, .nilIface]) ∧ w' = w := by
  subst h; exact rk_mul a b w ha hb hn

set_option maxHeartbeats 1000000 in
theorem law111 (x y z s p : Int) (w : World) (hx : -9223372036854775808 ≤ x ∧ x ≤ 9223372036854775807) (hy : -9223372036854775808 ≤ y ∧ y ≤ 9223372036854775807) (hz : -9223372036854775808 ≤ z ∧ z ≤ 9223372036854775807) (es : Hid (x + y = s)) (hs : -9223372036854775808 ≤ s ∧ s ≤ 9223372036854775807) (ep : Hid (x * y = p)) (hp : -9223372036854775808 ≤ p ∧ p ≤ 9223372036854775807) (et : Hid (¬ (-9223372036854775808 ≤ y + z ∧ y + z ≤ 9223372036854775807)))
    (hg : w.cell? ⟨0, 0, none⟩ = some (.iface 93 (.agg #[.pointer (some ⟨9, 25, none⟩)]))) :
    Calls Tryd.prog 4 #[.int .i64 x, .int .i64 y, .int .i64 z] w fun e w' => e = .returned (.bool true) ∧ Below w.heap.size w w' := by
  go_enter Tryd.func4, Tryd.ntmps4
  go_wp2_with fail
  refine (rk_mul2 (-3) 5 (-15) _ (by omega) (by omega) (by omega) (by omega)).mono ?_
  rintro e w' ⟨rfl, rfl⟩
  go_wp2_with fail
  refine (rk_divx (-9223372036854775808) (-1) _ (by omega) (by omega) (by omega)).mono ?_
  rintro e w' ⟨rfl, rfl⟩
  go_wp2_with fail
  refine (same_err 9 9 _ hg).mono ?_
  rintro e w1 ⟨rfl, hb⟩
  go_wp2_with fail
  refine (rk_add2 x y s _ hx hy es.out hs).mono ?_
  rintro e w' ⟨rfl, rfl⟩
  go_wp2_with fail
  refine (rk_add2 y x s _ hy hx (by rw [Int.add_comm]; exact es.out) hs).mono ?_
  rintro e w' ⟨rfl, rfl⟩
  go_wp2_with fail
  refine (rk_mul2 x y p _ hx hy ep.out hp).mono ?_
  rintro e w' ⟨rfl, rfl⟩
  go_wp2_with fail
  refine (rk_mul2 y x p _ hy hx (by rw [Int.mul_comm]; exact ep.out) hp).mono ?_
  rintro e w' ⟨rfl, rfl⟩
  go_wp2_with fail
  go_quiet (fail)
  go_wp2_with fail
  refine (rk_addx y z _ hy hz et.out).mono ?_
  rintro e w' ⟨rfl, rfl⟩
  go_wp2_with fail
  refine (rk_mulany x 0 _ hx (by omega)).mono ?_
  rintro e w' ⟨n1, vn1, rfl, rfl, hn11, hn12⟩
  go_wp2_with fail
  refine (rk_mulany x z _ hx hz).mono ?_
  rintro e w' ⟨n2, vn2, rfl, rfl, hn21, hn22⟩
  go_wp2_with fail
  refine (rk_addany p n2 _ hp ⟨hn21, hn22⟩).mono ?_
  rintro e w' ⟨n3, vn3, rfl, rfl, hn31, hn32⟩
  go_wp2
  go_ret
  exact ⟨rfl, by repeat (first | exact hb | apply below_drewN | refine Below.drew ?_)⟩
set_option maxHeartbeats 1000000 in
theorem law112 (x y z s p t : Int) (w : World) (hx : -9223372036854775808 ≤ x ∧ x ≤ 9223372036854775807) (hy : -9223372036854775808 ≤ y ∧ y ≤ 9223372036854775807) (hz : -9223372036854775808 ≤ z ∧ z ≤ 9223372036854775807) (es : Hid (x + y = s)) (hs : -9223372036854775808 ≤ s ∧ s ≤ 9223372036854775807) (ep : Hid (x * y = p)) (hp : -9223372036854775808 ≤ p ∧ p ≤ 9223372036854775807) (et : Hid (y + z = t)) (ht : -9223372036854775808 ≤ t ∧ t ≤ 9223372036854775807) (eu : Hid (¬ (-9223372036854775808 ≤ x * t ∧ x * t ≤ 9223372036854775807)))
    (hg : w.cell? ⟨0, 0, none⟩ = some (.iface 93 (.agg #[.pointer (some ⟨9, 25, none⟩)]))) :
    Calls Tryd.prog 4 #[.int .i64 x, .int .i64 y, .int .i64 z] w fun e w' => e = .returned (.bool true) ∧ Below w.heap.size w w' := by
  go_enter Tryd.func4, Tryd.ntmps4
  go_wp2_with fail
  refine (rk_mul2 (-3) 5 (-15) _ (by omega) (by omega) (by omega) (by omega)).mono ?_
  rintro e w' ⟨rfl, rfl⟩
  go_wp2_with fail
  refine (rk_divx (-9223372036854775808) (-1) _ (by omega) (by omega) (by omega)).mono ?_
  rintro e w' ⟨rfl, rfl⟩
  go_wp2_with fail
  refine (same_err 9 9 _ hg).mono ?_
  rintro e w1 ⟨rfl, hb⟩
  go_wp2_with fail
  refine (rk_add2 x y s _ hx hy es.out hs).mono ?_
  rintro e w' ⟨rfl, rfl⟩
  go_wp2_with fail
  refine (rk_add2 y x s _ hy hx (by rw [Int.add_comm]; exact es.out) hs).mono ?_
  rintro e w' ⟨rfl, rfl⟩
  go_wp2_with fail
  refine (rk_mul2 x y p _ hx hy ep.out hp).mono ?_
  rintro e w' ⟨rfl, rfl⟩
  go_wp2_with fail
  refine (rk_mul2 y x p _ hy hx (by rw [Int.mul_comm]; exact ep.out) hp).mono ?_
  rintro e w' ⟨rfl, rfl⟩
  go_wp2_with fail
  go_quiet (fail)
  go_wp2_with fail
  refine (rk_add2 y z t _ hy hz et.out ht).mono ?_
  rintro e w' ⟨rfl, rfl⟩
  go_wp2_with fail
  refine (rk_mulx x t _ hx ht eu.out).mono ?_
  rintro e w' ⟨rfl, rfl⟩
  go_wp2_with fail
  refine (rk_mulany x z _ hx hz).mono ?_
  rintro e w' ⟨n2, vn2, rfl, rfl, hn21, hn22⟩
  go_wp2_with fail
  refine (rk_addany p n2 _ hp ⟨hn21, hn22⟩).mono ?_
  rintro e w' ⟨n3, vn3, rfl, rfl, hn31, hn32⟩
  go_wp2
  go_ret
  exact ⟨rfl, by repeat (first | exact hb | apply below_drewN | refine Below.drew ?_)⟩
set_option maxHeartbeats 1000000 in
theorem law114 (x y z s p t u : Int) (w : World) (hx : -9223372036854775808 ≤ x ∧ x ≤ 9223372036854775807) (hy : -9223372036854775808 ≤ y ∧ y ≤ 9223372036854775807) (hz : -9223372036854775808 ≤ z ∧ z ≤ 9223372036854775807) (es : Hid (x + y = s)) (hs : -9223372036854775808 ≤ s ∧ s ≤ 9223372036854775807) (ep : Hid (x * y = p)) (hp : -9223372036854775808 ≤ p ∧ p ≤ 9223372036854775807) (et : Hid (y + z = t)) (ht : -9223372036854775808 ≤ t ∧ t ≤ 9223372036854775807) (eu : Hid (x * t = u)) (hu : -9223372036854775808 ≤ u ∧ u ≤ 9223372036854775807) (eq : Hid (¬ (-9223372036854775808 ≤ x * z ∧ x * z ≤ 9223372036854775807)))
    (hg : w.cell? ⟨0, 0, none⟩ = some (.iface 93 (.agg #[.pointer (some ⟨9, 25, none⟩)]))) :
    Calls Tryd.prog 4 #[.int .i64 x, .int .i64 y, .int .i64 z] w fun e w' => e = .returned (.bool true) ∧ Below w.heap.size w w' := by
  go_enter Tryd.func4, Tryd.ntmps4
  go_wp2_with fail
  refine (rk_mul2 (-3) 5 (-15) _ (by omega) (by omega) (by omega) (by omega)).mono ?_
  rintro e w' ⟨rfl, rfl⟩
  go_wp2_with fail
  refine (rk_divx (-9223372036854775808) (-1) _ (by omega) (by omega) (by omega)).mono ?_
  rintro e w' ⟨rfl, rfl⟩
  go_wp2_with fail
  refine (same_err 9 9 _ hg).mono ?_
  rintro e w1 ⟨rfl, hb⟩
  go_wp2_with fail
  refine (rk_add2 x y s _ hx hy es.out hs).mono ?_
  rintro e w' ⟨rfl, rfl⟩
  go_wp2_with fail
  refine (rk_add2 y x s _ hy hx (by rw [Int.add_comm]; exact es.out) hs).mono ?_
  rintro e w' ⟨rfl, rfl⟩
  go_wp2_with fail
  refine (rk_mul2 x y p _ hx hy ep.out hp).mono ?_
  rintro e w' ⟨rfl, rfl⟩
  go_wp2_with fail
  refine (rk_mul2 y x p _ hy hx (by rw [Int.mul_comm]; exact ep.out) hp).mono ?_
  rintro e w' ⟨rfl, rfl⟩
  go_wp2_with fail
  go_quiet (fail)
  go_wp2_with fail
  refine (rk_add2 y z t _ hy hz et.out ht).mono ?_
  rintro e w' ⟨rfl, rfl⟩
  go_wp2_with fail
  refine (rk_mul2 x t u _ hx ht eu.out hu).mono ?_
  rintro e w' ⟨rfl, rfl⟩
  go_wp2_with fail
  refine (rk_mulx x z _ hx hz eq.out).mono ?_
  rintro e w' ⟨rfl, rfl⟩
  go_wp2_with fail
  refine (rk_addany p 0 _ hp (by omega)).mono ?_
  rintro e w' ⟨n3, vn3, rfl, rfl, hn31, hn32⟩
  go_wp2
  go_ret
  exact ⟨rfl, by repeat (first | exact hb | apply below_drewN | refine Below.drew ?_)⟩
set_option maxHeartbeats 1000000 in
theorem law115 (x y z s p t u q : Int) (w : World) (hx : -9223372036854775808 ≤ x ∧ x ≤ 9223372036854775807) (hy : -9223372036854775808 ≤ y ∧ y ≤ 9223372036854775807) (hz : -9223372036854775808 ≤ z ∧ z ≤ 9223372036854775807) (es : Hid (x + y = s)) (hs : -9223372036854775808 ≤ s ∧ s ≤ 9223372036854775807) (ep : Hid (x * y = p)) (hp : -9223372036854775808 ≤ p ∧ p ≤ 9223372036854775807) (et : Hid (y + z = t)) (ht : -9223372036854775808 ≤ t ∧ t ≤ 9223372036854775807) (eu : Hid (x * t = u)) (hu : -9223372036854775808 ≤ u ∧ u ≤ 9223372036854775807) (eq : Hid (x * z = q)) (hq : -9223372036854775808 ≤ q ∧ q ≤ 9223372036854775807) (er : Hid (¬ (-9223372036854775808 ≤ p + q ∧ p + q ≤ 9223372036854775807)))
    (hg : w.cell? ⟨0, 0, none⟩ = some (.iface 93 (.agg #[.pointer (some ⟨9, 25, none⟩)]))) :
    Calls Tryd.prog 4 #[.int .i64 x, .int .i64 y, .int .i64 z] w fun e w' => e = .returned (.bool true) ∧ Below w.heap.size w w' := by
  go_enter Tryd.func4, Tryd.ntmps4
  go_wp2_with fail
  refine (rk_mul2 (-3) 5 (-15) _ (by omega) (by omega) (by omega) (by omega)).mono ?_
  rintro e w' ⟨rfl, rfl⟩
  go_wp2_with fail
  refine (rk_divx (-9223372036854775808) (-1) _ (by omega) (by omega) (by omega)).mono ?_
  rintro e w' ⟨rfl, rfl⟩
  go_wp2_with fail
  refine (same_err 9 9 _ hg).mono ?_
  rintro e w1 ⟨rfl, hb⟩
  go_wp2_with fail
  refine (rk_add2 x y s _ hx hy es.out hs).mono ?_
  rintro e w' ⟨rfl, rfl⟩
  go_wp2_with fail
  refine (rk_add2 y x s _ hy hx (by rw [Int.add_comm]; exact es.out) hs).mono ?_
  rintro e w' ⟨rfl, rfl⟩
  go_wp2_with fail
  refine (rk_mul2 x y p _ hx hy ep.out hp).mono ?_
  rintro e w' ⟨rfl, rfl⟩
  go_wp2_with fail
  refine (rk_mul2 y x p _ hy hx (by rw [Int.mul_comm]; exact ep.out) hp).mono ?_
  rintro e w' ⟨rfl, rfl⟩
  go_wp2_with fail
  go_quiet (fail)
  go_wp2_with fail
  refine (rk_add2 y z t _ hy hz et.out ht).mono ?_
  rintro e w' ⟨rfl, rfl⟩
  go_wp2_with fail
  refine (rk_mul2 x t u _ hx ht eu.out hu).mono ?_
  rintro e w' ⟨rfl, rfl⟩
  go_wp2_with fail
  refine (rk_mul2 x z q _ hx hz eq.out hq).mono ?_
  rintro e w' ⟨rfl, rfl⟩
  go_wp2_with fail
  refine (rk_addx p q _ hp hq er.out).mono ?_
  rintro e w' ⟨rfl, rfl⟩
  go_wp2
  go_ret
  exact ⟨rfl, by repeat (first | exact hb | apply below_drewN | refine Below.drew ?_)⟩
set_option maxHeartbeats 1000000 in
theorem law116 (x y z s p t u q : Int) (w : World) (hx : -9223372036854775808 ≤ x ∧ x ≤ 9223372036854775807) (hy : -9223372036854775808 ≤ y ∧ y ≤ 9223372036854775807) (hz : -9223372036854775808 ≤ z ∧ z ≤ 9223372036854775807) (es : Hid (x + y = s)) (hs : -9223372036854775808 ≤ s ∧ s ≤ 9223372036854775807) (ep : Hid (x * y = p)) (hp : -9223372036854775808 ≤ p ∧ p ≤ 9223372036854775807) (et : Hid (y + z = t)) (ht : -9223372036854775808 ≤ t ∧ t ≤ 9223372036854775807) (eu : Hid (x * t = u)) (hu : -9223372036854775808 ≤ u ∧ u ≤ 9223372036854775807) (eq : Hid (x * z = q)) (hq : -9223372036854775808 ≤ q ∧ q ≤ 9223372036854775807) (er : Hid (p + q = u))
    (hg : w.cell? ⟨0, 0, none⟩ = some (.iface 93 (.agg #[.pointer (some ⟨9, 25, none⟩)]))) :
    Calls Tryd.prog 4 #[.int .i64 x, .int .i64 y, .int .i64 z] w fun e w' => e = .returned (.bool true) ∧ Below w.heap.size w w' := by
  go_enter Tryd.func4, Tryd.ntmps4
  go_wp2_with fail
  refine (rk_mul2 (-3) 5 (-15) _ (by omega) (by omega) (by omega) (by omega)).mono ?_
  rintro e w' ⟨rfl, rfl⟩
  go_wp2_with fail
  refine (rk_divx (-9223372036854775808) (-1) _ (by omega) (by omega) (by omega)).mono ?_
  rintro e w' ⟨rfl, rfl⟩
  go_wp2_with fail
  refine (same_err 9 9 _ hg).mono ?_
  rintro e w1 ⟨rfl, hb⟩
  go_wp2_with fail
  refine (rk_add2 x y s _ hx hy es.out hs).mono ?_
  rintro e w' ⟨rfl, rfl⟩
  go_wp2_with fail
  refine (rk_add2 y x s _ hy hx (by rw [Int.add_comm]; exact es.out) hs).mono ?_
  rintro e w' ⟨rfl, rfl⟩
  go_wp2_with fail
  refine (rk_mul2 x y p _ hx hy ep.out hp).mono ?_
  rintro e w' ⟨rfl, rfl⟩
  go_wp2_with fail
  refine (rk_mul2 y x p _ hy hx (by rw [Int.mul_comm]; exact ep.out) hp).mono ?_
  rintro e w' ⟨rfl, rfl⟩
  go_wp2_with fail
  go_quiet (fail)
  go_wp2_with fail
  refine (rk_add2 y z t _ hy hz et.out ht).mono ?_
  rintro e w' ⟨rfl, rfl⟩
  go_wp2_with fail
  refine (rk_mul2 x t u _ hx ht eu.out hu).mono ?_
  rintro e w' ⟨rfl, rfl⟩
  go_wp2_with fail
  refine (rk_mul2 x z q _ hx hz eq.out hq).mono ?_
  rintro e w' ⟨rfl, rfl⟩
  go_wp2_with fail
  refine (rk_add2 p q u _ hp hq er.out hu).mono ?_
  rintro e w' ⟨rfl, rfl⟩
  go_wp2
  go_ret
  exact ⟨rfl, by repeat (first | exact hb | apply below_drewN | refine Below.drew ?_)⟩
set_option maxHeartbeats 1000000 in
theorem law101 (x y z s : Int) (w : World) (hx : -9223372036854775808 ≤ x ∧ x ≤ 9223372036854775807) (hy : -9223372036854775808 ≤ y ∧ y ≤ 9223372036854775807) (hz : -9223372036854775808 ≤ z ∧ z ≤ 9223372036854775807) (es : Hid (x + y = s)) (hs : -9223372036854775808 ≤ s ∧ s ≤ 9223372036854775807) (ep : Hid (¬ (-9223372036854775808 ≤ x * y ∧ x * y ≤ 9223372036854775807))) (et : Hid (¬ (-9223372036854775808 ≤ y + z ∧ y + z ≤ 9223372036854775807)))
    (hg : w.cell? ⟨0, 0, none⟩ = some (.iface 93 (.agg #[.pointer (some ⟨9, 25, none⟩)]))) :
    Calls Tryd.prog 4 #[.int .i64 x, .int .i64 y, .int .i64 z] w fun e w' => e = .returned (.bool true) ∧ Below w.heap.size w w' := by
  go_enter Tryd.func4, Tryd.ntmps4
  go_wp2_with fail
  refine (rk_mul2 (-3) 5 (-15) _ (by omega) (by omega) (by omega) (by omega)).mono ?_
  rintro e w' ⟨rfl, rfl⟩
  go_wp2_with fail
  refine (rk_divx (-9223372036854775808) (-1) _ (by omega) (by omega) (by omega)).mono ?_
  rintro e w' ⟨rfl, rfl⟩
  go_wp2_with fail
  refine (same_err 9 9 _ hg).mono ?_
  rintro e w1 ⟨rfl, hb⟩
  go_wp2_with fail
  refine (rk_add2 x y s _ hx hy es.out hs).mono ?_
  rintro e w' ⟨rfl, rfl⟩
  go_wp2_with fail
  refine (rk_add2 y x s _ hy hx (by rw [Int.add_comm]; exact es.out) hs).mono ?_
  rintro e w' ⟨rfl, rfl⟩
  go_wp2_with fail
  refine (rk_mulx x y _ hx hy ep.out).mono ?_
  rintro e w' ⟨rfl, rfl⟩
  go_wp2_with fail
  refine (rk_mulx y x _ hy hx (by rw [Int.mul_comm]; exact ep.out)).mono ?_
  rintro e w' ⟨rfl, rfl⟩
  go_wp2_with fail
  go_quiet (fail)
  go_wp2_with fail
  refine (rk_addx y z _ hy hz et.out).mono ?_
  rintro e w' ⟨rfl, rfl⟩
  go_wp2_with fail
  refine (rk_mulany x 0 _ hx (by omega)).mono ?_
  rintro e w' ⟨n1, vn1, rfl, rfl, hn11, hn12⟩
  go_wp2_with fail
  refine (rk_mulany x z _ hx hz).mono ?_
  rintro e w' ⟨n2, vn2, rfl, rfl, hn21, hn22⟩
  go_wp2_with fail
  refine (rk_addany 0 n2 _ (by omega) ⟨hn21, hn22⟩).mono ?_
  rintro e w' ⟨n3, vn3, rfl, rfl, hn31, hn32⟩
  go_wp2
  go_ret
  exact ⟨rfl, by repeat (first | exact hb | apply below_drewN | refine Below.drew ?_)⟩
set_option maxHeartbeats 1000000 in
theorem law102 (x y z s t : Int) (w : World) (hx : -9223372036854775808 ≤ x ∧ x ≤ 9223372036854775807) (hy : -9223372036854775808 ≤ y ∧ y ≤ 9223372036854775807) (hz : -9223372036854775808 ≤ z ∧ z ≤ 9223372036854775807) (es : Hid (x + y = s)) (hs : -9223372036854775808 ≤ s ∧ s ≤ 9223372036854775807) (ep : Hid (¬ (-9223372036854775808 ≤ x * y ∧ x * y ≤ 9223372036854775807))) (et : Hid (y + z = t)) (ht : -9223372036854775808 ≤ t ∧ t ≤ 9223372036854775807) (eu : Hid (¬ (-9223372036854775808 ≤ x * t ∧ x * t ≤ 9223372036854775807)))
    (hg : w.cell? ⟨0, 0, none⟩ = some (.iface 93 (.agg #[.pointer (some ⟨9, 25, none⟩)]))) :
    Calls Tryd.prog 4 #[.int .i64 x, .int .i64 y, .int .i64 z] w fun e w' => e = .returned (.bool true) ∧ Below w.heap.size w w' := by
  go_enter Tryd.func4, Tryd.ntmps4
  go_wp2_with fail
  refine (rk_mul2 (-3) 5 (-15) _ (by omega) (by omega) (by omega) (by omega)).mono ?_
  rintro e w' ⟨rfl, rfl⟩
  go_wp2_with fail
  refine (rk_divx (-9223372036854775808) (-1) _ (by omega) (by omega) (by omega)).mono ?_
  rintro e w' ⟨rfl, rfl⟩
  go_wp2_with fail
  refine (same_err 9 9 _ hg).mono ?_
  rintro e w1 ⟨rfl, hb⟩
  go_wp2_with fail
  refine (rk_add2 x y s _ hx hy es.out hs).mono ?_
  rintro e w' ⟨rfl, rfl⟩
  go_wp2_with fail
  refine (rk_add2 y x s _ hy hx (by rw [Int.add_comm]; exact es.out) hs).mono ?_
  rintro e w' ⟨rfl, rfl⟩
  go_wp2_with fail
  refine (rk_mulx x y _ hx hy ep.out).mono ?_
  rintro e w' ⟨rfl, rfl⟩
  go_wp2_with fail
  refine (rk_mulx y x _ hy hx (by rw [Int.mul_comm]; exact ep.out)).mono ?_
  rintro e w' ⟨rfl, rfl⟩
  go_wp2_with fail
  go_quiet (fail)
  go_wp2_with fail
  refine (rk_add2 y z t _ hy hz et.out ht).mono ?_
  rintro e w' ⟨rfl, rfl⟩
  go_wp2_with fail
  refine (rk_mulx x t _ hx ht eu.out).mono ?_
  rintro e w' ⟨rfl, rfl⟩
  go_wp2_with fail
  refine (rk_mulany x z _ hx hz).mono ?_
  rintro e w' ⟨n2, vn2, rfl, rfl, hn21, hn22⟩
  go_wp2_with fail
  refine (rk_addany 0 n2 _ (by omega) ⟨hn21, hn22⟩).mono ?_
  rintro e w' ⟨n3, vn3, rfl, rfl, hn31, hn32⟩
  go_wp2
  go_ret
  exact ⟨rfl, by repeat (first | exact hb | apply below_drewN | refine Below.drew ?_)⟩
set_option maxHeartbeats 1000000 in
theorem law103 (x y z s t u : Int) (w : World) (hx : -9223372036854775808 ≤ x ∧ x ≤ 9223372036854775807) (hy : -9223372036854775808 ≤ y ∧ y ≤ 9223372036854775807) (hz : -9223372036854775808 ≤ z ∧ z ≤ 9223372036854775807) (es : Hid (x + y = s)) (hs : -9223372036854775808 ≤ s ∧ s ≤ 9223372036854775807) (ep : Hid (¬ (-9223372036854775808 ≤ x * y ∧ x * y ≤ 9223372036854775807))) (et : Hid (y + z = t)) (ht : -9223372036854775808 ≤ t ∧ t ≤ 9223372036854775807) (eu : Hid (x * t = u)) (hu : -9223372036854775808 ≤ u ∧ u ≤ 9223372036854775807)
    (hg : w.cell? ⟨0, 0, none⟩ = some (.iface 93 (.agg #[.pointer (some ⟨9, 25, none⟩)]))) :
    Calls Tryd.prog 4 #[.int .i64 x, .int .i64 y, .int .i64 z] w fun e w' => e = .returned (.bool true) ∧ Below w.heap.size w w' := by
  go_enter Tryd.func4, Tryd.ntmps4
  go_wp2_with fail
  refine (rk_mul2 (-3) 5 (-15) _ (by omega) (by omega) (by omega) (by omega)).mono ?_
  rintro e w' ⟨rfl, rfl⟩
  go_wp2_with fail
  refine (rk_divx (-9223372036854775808) (-1) _ (by omega) (by omega) (by omega)).mono ?_
  rintro e w' ⟨rfl, rfl⟩
  go_wp2_with fail
  refine (same_err 9 9 _ hg).mono ?_
  rintro e w1 ⟨rfl, hb⟩
  go_wp2_with fail
  refine (rk_add2 x y s _ hx hy es.out hs).mono ?_
  rintro e w' ⟨rfl, rfl⟩
  go_wp2_with fail
  refine (rk_add2 y x s _ hy hx (by rw [Int.add_comm]; exact es.out) hs).mono ?_
  rintro e w' ⟨rfl, rfl⟩
  go_wp2_with fail
  refine (rk_mulx x y _ hx hy ep.out).mono ?_
  rintro e w' ⟨rfl, rfl⟩
  go_wp2_with fail
  refine (rk_mulx y x _ hy hx (by rw [Int.mul_comm]; exact ep.out)).mono ?_
  rintro e w' ⟨rfl, rfl⟩
  go_wp2_with fail
  go_quiet (fail)
  go_wp2_with fail
  refine (rk_add2 y z t _ hy hz et.out ht).mono ?_
  rintro e w' ⟨rfl, rfl⟩
  go_wp2_with fail
  refine (rk_mul2 x t u _ hx ht eu.out hu).mono ?_
  rintro e w' ⟨rfl, rfl⟩
  go_wp2_with fail
  refine (rk_mulany x z _ hx hz).mono ?_
  rintro e w' ⟨n2, vn2, rfl, rfl, hn21, hn22⟩
  go_wp2_with fail
  refine (rk_addany 0 n2 _ (by omega) ⟨hn21, hn22⟩).mono ?_
  rintro e w' ⟨n3, vn3, rfl, rfl, hn31, hn32⟩
  go_wp2
  go_ret
  exact ⟨rfl, by repeat (first | exact hb | apply below_drewN | refine Below.drew ?_)⟩
set_option maxHeartbeats 1000000 in
theorem law011 (x y z p : Int) (w : World) (hx : -9223372036854775808 ≤ x ∧ x ≤ 9223372036854775807) (hy : -9223372036854775808 ≤ y ∧ y ≤ 9223372036854775807) (hz : -9223372036854775808 ≤ z ∧ z ≤ 9223372036854775807) (es : Hid (¬ (-9223372036854775808 ≤ x + y ∧ x + y ≤ 9223372036854775807))) (ep : Hid (x * y = p)) (hp : -9223372036854775808 ≤ p ∧ p ≤ 9223372036854775807) (et : Hid (¬ (-9223372036854775808 ≤ y + z ∧ y + z ≤ 9223372036854775807)))
    (hg : w.cell? ⟨0, 0, none⟩ = some (.iface 93 (.agg #[.pointer (some ⟨9, 25, none⟩)]))) :
    Calls Tryd.prog 4 #[.int .i64 x, .int .i64 y, .int .i64 z] w fun e w' => e = .returned (.bool true) ∧ Below w.heap.size w w' := by
  go_enter Tryd.func4, Tryd.ntmps4
  go_wp2_with fail
  refine (rk_mul2 (-3) 5 (-15) _ (by omega) (by omega) (by omega) (by omega)).mono ?_
  rintro e w' ⟨rfl, rfl⟩
  go_wp2_with fail
  refine (rk_divx (-9223372036854775808) (-1) _ (by omega) (by omega) (by omega)).mono ?_
  rintro e w' ⟨rfl, rfl⟩
  go_wp2_with fail
  refine (same_err 9 9 _ hg).mono ?_
  rintro e w1 ⟨rfl, hb⟩
  go_wp2_with fail
  refine (rk_addx x y _ hx hy es.out).mono ?_
  rintro e w' ⟨rfl, rfl⟩
  go_wp2_with fail
  refine (rk_addx y x _ hy hx (by rw [Int.add_comm]; exact es.out)).mono ?_
  rintro e w' ⟨rfl, rfl⟩
  go_wp2_with fail
  refine (rk_mul2 x y p _ hx hy ep.out hp).mono ?_
  rintro e w' ⟨rfl, rfl⟩
  go_wp2_with fail
  refine (rk_mul2 y x p _ hy hx (by rw [Int.mul_comm]; exact ep.out) hp).mono ?_
  rintro e w' ⟨rfl, rfl⟩
  go_wp2_with fail
  go_quiet (fail)
  go_wp2_with fail
  refine (rk_addx y z _ hy hz et.out).mono ?_
  rintro e w' ⟨rfl, rfl⟩
  go_wp2_with fail
  refine (rk_mulany x 0 _ hx (by omega)).mono ?_
  rintro e w' ⟨n1, vn1, rfl, rfl, hn11, hn12⟩
  go_wp2_with fail
  refine (rk_mulany x z _ hx hz).mono ?_
  rintro e w' ⟨n2, vn2, rfl, rfl, hn21, hn22⟩
  go_wp2_with fail
  refine (rk_addany p n2 _ hp ⟨hn21, hn22⟩).mono ?_
  rintro e w' ⟨n3, vn3, rfl, rfl, hn31, hn32⟩
  go_wp2
  go_ret
  exact ⟨rfl, by repeat (first | exact hb | apply below_drewN | refine Below.drew ?_)⟩
set_option maxHeartbeats 1000000 in
theorem law012 (x y z p t : Int) (w : World) (hx : -9223372036854775808 ≤ x ∧ x ≤ 9223372036854775807) (hy : -9223372036854775808 ≤ y ∧ y ≤ 9223372036854775807) (hz : -9223372036854775808 ≤ z ∧ z ≤ 9223372036854775807) (es : Hid (¬ (-9223372036854775808 ≤ x + y ∧ x + y ≤ 9223372036854775807))) (ep : Hid (x * y = p)) (hp : -9223372036854775808 ≤ p ∧ p ≤ 9223372036854775807) (et : Hid (y + z = t)) (ht : -9223372036854775808 ≤ t ∧ t ≤ 9223372036854775807) (eu : Hid (¬ (-9223372036854775808 ≤ x * t ∧ x * t ≤ 9223372036854775807)))
    (hg : w.cell? ⟨0, 0, none⟩ = some (.iface 93 (.agg #[.pointer (some ⟨9, 25, none⟩)]))) :
    Calls Tryd.prog 4 #[.int .i64 x, .int .i64 y, .int .i64 z] w fun e w' => e = .returned (.bool true) ∧ Below w.heap.size w w' := by
  go_enter Tryd.func4, Tryd.ntmps4
  go_wp2_with fail
  refine (rk_mul2 (-3) 5 (-15) _ (by omega) (by omega) (by omega) (by omega)).mono ?_
  rintro e w' ⟨rfl, rfl⟩
  go_wp2_with fail
  refine (rk_divx (-9223372036854775808) (-1) _ (by omega) (by omega) (by omega)).mono ?_
  rintro e w' ⟨rfl, rfl⟩
  go_wp2_with fail
  refine (same_err 9 9 _ hg).mono ?_
  rintro e w1 ⟨rfl, hb⟩
  go_wp2_with fail
  refine (rk_addx x y _ hx hy es.out).mono ?_
  rintro e w' ⟨rfl, rfl⟩
  go_wp2_with fail
  refine (rk_addx y x _ hy hx (by rw [Int.add_comm]; exact es.out)).mono ?_
  rintro e w' ⟨rfl, rfl⟩
  go_wp2_with fail
  refine (rk_mul2 x y p _ hx hy ep.out hp).mono ?_
  rintro e w' ⟨rfl, rfl⟩
  go_wp2_with fail
  refine (rk_mul2 y x p _ hy hx (by rw [Int.mul_comm]; exact ep.out) hp).mono ?_
  rintro e w' ⟨rfl, rfl⟩
  go_wp2_with fail
  go_quiet (fail)
  go_wp2_with fail
  refine (rk_add2 y z t _ hy hz et.out ht).mono ?_
  rintro e w' ⟨rfl, rfl⟩
  go_wp2_with fail
  refine (rk_mulx x t _ hx ht eu.out).mono ?_
  rintro e w' ⟨rfl, rfl⟩
  go_wp2_with fail
  refine (rk_mulany x z _ hx hz).mono ?_
  rintro e w' ⟨n2, vn2, rfl, rfl, hn21, hn22⟩
  go_wp2_with fail
  refine (rk_addany p n2 _ hp ⟨hn21, hn22⟩).mono ?_
  rintro e w' ⟨n3, vn3, rfl, rfl, hn31, hn32⟩
  go_wp2
  go_ret
  exact ⟨rfl, by repeat (first | exact hb | apply below_drewN | refine Below.drew ?_)⟩
set_option maxHeartbeats 1000000 in
theorem law014 (x y z p t u : Int) (w : World) (hx : -9223372036854775808 ≤ x ∧ x ≤ 9223372036854775807) (hy : -9223372036854775808 ≤ y ∧ y ≤ 9223372036854775807) (hz : -9223372036854775808 ≤ z ∧ z ≤ 9223372036854775807) (es : Hid (¬ (-9223372036854775808 ≤ x + y ∧ x + y ≤ 9223372036854775807))) (ep : Hid (x * y = p)) (hp : -9223372036854775808 ≤ p ∧ p ≤ 9223372036854775807) (et : Hid (y + z = t)) (ht : -9223372036854775808 ≤ t ∧ t ≤ 9223372036854775807) (eu : Hid (x * t = u)) (hu : -9223372036854775808 ≤ u ∧ u ≤ 9223372036854775807) (eq : Hid (¬ (-9223372036854775808 ≤ x * z ∧ x * z ≤ 9223372036854775807)))
    (hg : w.cell? ⟨0, 0, none⟩ = some (.iface 93 (.agg #[.pointer (some ⟨9, 25, none⟩)]))) :
    Calls Tryd.prog 4 #[.int .i64 x, .int .i64 y, .int .i64 z] w fun e w' => e = .returned (.bool true) ∧ Below w.heap.size w w' := by
  go_enter Tryd.func4, Tryd.ntmps4
  go_wp2_with fail
  refine (rk_mul2 (-3) 5 (-15) _ (by omega) (by omega) (by omega) (by omega)).mono ?_
  rintro e w' ⟨rfl, rfl⟩
  go_wp2_with fail
  refine (rk_divx (-9223372036854775808) (-1) _ (by omega) (by omega) (by omega)).mono ?_
  rintro e w' ⟨rfl, rfl⟩
  go_wp2_with fail
  refine (same_err 9 9 _ hg).mono ?_
  rintro e w1 ⟨rfl, hb⟩
  go_wp2_with fail
  refine (rk_addx x y _ hx hy es.out).mono ?_
  rintro e w' ⟨rfl, rfl⟩
  go_wp2_with fail
  refine (rk_addx y x _ hy hx (by rw [Int.add_comm]; exact es.out)).mono ?_
  rintro e w' ⟨rfl, rfl⟩
  go_wp2_with fail
  refine (rk_mul2 x y p _ hx hy ep.out hp).mono ?_
  rintro e w' ⟨rfl, rfl⟩
  go_wp2_with fail
  refine (rk_mul2 y x p _ hy hx (by rw [Int.mul_comm]; exact ep.out) hp).mono ?_
  rintro e w' ⟨rfl, rfl⟩
  go_wp2_with fail
  go_quiet (fail)
  go_wp2_with fail
  refine (rk_add2 y z t _ hy hz et.out ht).mono ?_
  rintro e w' ⟨rfl, rfl⟩
  go_wp2_with fail
  refine (rk_mul2 x t u _ hx ht eu.out hu).mono ?_
  rintro e w' ⟨rfl, rfl⟩
  go_wp2_with fail
  refine (rk_mulx x z _ hx hz eq.out).mono ?_
  rintro e w' ⟨rfl, rfl⟩
  go_wp2_with fail
  refine (rk_addany p 0 _ hp (by omega)).mono ?_
  rintro e w' ⟨n3, vn3, rfl, rfl, hn31, hn32⟩
  go_wp2
  go_ret
  exact ⟨rfl, by repeat (first | exact hb | apply below_drewN | refine Below.drew ?_)⟩
set_option maxHeartbeats 1000000 in
theorem law015 (x y z p t u q : Int) (w : World) (hx : -9223372036854775808 ≤ x ∧ x ≤ 9223372036854775807) (hy : -9223372036854775808 ≤ y ∧ y ≤ 9223372036854775807) (hz : -9223372036854775808 ≤ z ∧ z ≤ 9223372036854775807) (es : Hid (¬ (-9223372036854775808 ≤ x + y ∧ x + y ≤ 9223372036854775807))) (ep : Hid (x * y = p)) (hp : -9223372036854775808 ≤ p ∧ p ≤ 9223372036854775807) (et : Hid (y + z = t)) (ht : -9223372036854775808 ≤ t ∧ t ≤ 9223372036854775807) (eu : Hid (x * t = u)) (hu : -9223372036854775808 ≤ u ∧ u ≤ 9223372036854775807) (eq : Hid (x * z = q)) (hq : -9223372036854775808 ≤ q ∧ q ≤ 9223372036854775807) (er : Hid (¬ (-9223372036854775808 ≤ p + q ∧ p + q ≤ 9223372036854775807)))
    (hg : w.cell? ⟨0, 0, none⟩ = some (.iface 93 (.agg #[.pointer (some ⟨9, 25, none⟩)]))) :
    Calls Tryd.prog 4 #[.int .i64 x, .int .i64 y, .int .i64 z] w fun e w' => e = .returned (.bool true) ∧ Below w.heap.size w w' := by
  go_enter Tryd.func4, Tryd.ntmps4
  go_wp2_with fail
  refine (rk_mul2 (-3) 5 (-15) _ (by omega) (by omega) (by omega) (by omega)).mono ?_
  rintro e w' ⟨rfl, rfl⟩
  go_wp2_with fail
  refine (rk_divx (-9223372036854775808) (-1) _ (by omega) (by omega) (by omega)).mono ?_
  rintro e w' ⟨rfl, rfl⟩
  go_wp2_with fail
  refine (same_err 9 9 _ hg).mono ?_
  rintro e w1 ⟨rfl, hb⟩
  go_wp2_with fail
  refine (rk_addx x y _ hx hy es.out).mono ?_
  rintro e w' ⟨rfl, rfl⟩
  go_wp2_with fail
  refine (rk_addx y x _ hy hx (by rw [Int.add_comm]; exact es.out)).mono ?_
  rintro e w' ⟨rfl, rfl⟩
  go_wp2_with fail
  refine (rk_mul2 x y p _ hx hy ep.out hp).mono ?_
  rintro e w' ⟨rfl, rfl⟩
  go_wp2_with fail
  refine (rk_mul2 y x p _ hy hx (by rw [Int.mul_comm]; exact ep.out) hp).mono ?_
  rintro e w' ⟨rfl, rfl⟩
  go_wp2_with fail
  go_quiet (fail)
  go_wp2_with fail
  refine (rk_add2 y z t _ hy hz et.out ht).mono ?_
  rintro e w' ⟨rfl, rfl⟩
  go_wp2_with fail
  refine (rk_mul2 x t u _ hx ht eu.out hu).mono ?_
  rintro e w' ⟨rfl, rfl⟩
  go_wp2_with fail
  refine (rk_mul2 x z q _ hx hz eq.out hq).mono ?_
  rintro e w' ⟨rfl, rfl⟩
  go_wp2_with fail
  refine (rk_addx p q _ hp hq er.out).mono ?_
  rintro e w' ⟨rfl, rfl⟩
  go_wp2
  go_ret
  exact ⟨rfl, by repeat (first | exact hb | apply below_drewN | refine Below.drew ?_)⟩
set_option maxHeartbeats 1000000 in
theorem law016 (x y z p t u q : Int) (w : World) (hx : -9223372036854775808 ≤ x ∧ x ≤ 9223372036854775807) (hy : -9223372036854775808 ≤ y ∧ y ≤ 9223372036854775807) (hz : -9223372036854775808 ≤ z ∧ z ≤ 9223372036854775807) (es : Hid (¬ (-9223372036854775808 ≤ x + y ∧ x + y ≤ 9223372036854775807))) (ep : Hid (x * y = p)) (hp : -9223372036854775808 ≤ p ∧ p ≤ 9223372036854775807) (et : Hid (y + z = t)) (ht : -9223372036854775808 ≤ t ∧ t ≤ 9223372036854775807) (eu : Hid (x * t = u)) (hu : -9223372036854775808 ≤ u ∧ u ≤ 9223372036854775807) (eq : Hid (x * z = q)) (hq : -9223372036854775808 ≤ q ∧ q ≤ 9223372036854775807) (er : Hid (p + q = u))
    (hg : w.cell? ⟨0, 0, none⟩ = some (.iface 93 (.agg #[.pointer (some ⟨9, 25, none⟩)]))) :
    Calls Tryd.prog 4 #[.int .i64 x, .int .i64 y, .int .i64 z] w fun e w' => e = .returned (.bool true) ∧ Below w.heap.size w w' := by
  go_enter Tryd.func4, Tryd.ntmps4
  go_wp2_with fail
  refine (rk_mul2 (-3) 5 (-15) _ (by omega) (by omega) (by omega) (by omega)).mono ?_
  rintro e w' ⟨rfl, rfl⟩
  go_wp2_with fail
  refine (rk_divx (-9223372036854775808) (-1) _ (by omega) (by omega) (by omega)).mono ?_
  rintro e w' ⟨rfl, rfl⟩
  go_wp2_with fail
  refine (same_err 9 9 _ hg).mono ?_
  rintro e w1 ⟨rfl, hb⟩
  go_wp2_with fail
  refine (rk_addx x y _ hx hy es.out).mono ?_
  rintro e w' ⟨rfl, rfl⟩
  go_wp2_with fail
  refine (rk_addx y x _ hy hx (by rw [Int.add_comm]; exact es.out)).mono ?_
  rintro e w' ⟨rfl, rfl⟩
  go_wp2_with fail
  refine (rk_mul2 x y p _ hx hy ep.out hp).mono ?_
  rintro e w' ⟨rfl, rfl⟩
  go_wp2_with fail
  refine (rk_mul2 y x p _ hy hx (by rw [Int.mul_comm]; exact ep.out) hp).mono ?_
  rintro e w' ⟨rfl, rfl⟩
  go_wp2_with fail
  go_quiet (fail)
  go_wp2_with fail
  refine (rk_add2 y z t _ hy hz et.out ht).mono ?_
  rintro e w' ⟨rfl, rfl⟩
  go_wp2_with fail
  refine (rk_mul2 x t u _ hx ht eu.out hu).mono ?_
  rintro e w' ⟨rfl, rfl⟩
  go_wp2_with fail
  refine (rk_mul2 x z q _ hx hz eq.out hq).mono ?_
  rintro e w' ⟨rfl, rfl⟩
  go_wp2_with fail
  refine (rk_add2 p q u _ hp hq er.out hu).mono ?_
  rintro e w' ⟨rfl, rfl⟩
  go_wp2
  go_ret
  exact ⟨rfl, by repeat (first | exact hb | apply below_drewN | refine Below.drew ?_)⟩
set_option maxHeartbeats 1000000 in
theorem law001 (x y z : Int) (w : World) (hx : -9223372036854775808 ≤ x ∧ x ≤ 9223372036854775807) (hy : -9223372036854775808 ≤ y ∧ y ≤ 9223372036854775807) (hz : -9223372036854775808 ≤ z ∧ z ≤ 9223372036854775807) (es : Hid (¬ (-9223372036854775808 ≤ x + y ∧ x + y ≤ 9223372036854775807))) (ep : Hid (¬ (-9223372036854775808 ≤ x * y ∧ x * y ≤ 9223372036854775807))) (et : Hid (¬ (-9223372036854775808 ≤ y + z ∧ y + z ≤ 9223372036854775807)))
    (hg : w.cell? ⟨0, 0, none⟩ = some (.iface 93 (.agg #[.pointer (some ⟨9, 25, none⟩)]))) :
    Calls Tryd.prog 4 #[.int .i64 x, .int .i64 y, .int .i64 z] w fun e w' => e = .returned (.bool true) ∧ Below w.heap.size w w' := by
  go_enter Tryd.func4, Tryd.ntmps4
  go_wp2_with fail
  refine (rk_mul2 (-3) 5 (-15) _ (by omega) (by omega) (by omega) (by omega)).mono ?_
  rintro e w' ⟨rfl, rfl⟩
  go_wp2_with fail
  refine (rk_divx (-9223372036854775808) (-1) _ (by omega) (by omega) (by omega)).mono ?_
  rintro e w' ⟨rfl, rfl⟩
  go_wp2_with fail
  refine (same_err 9 9 _ hg).mono ?_
  rintro e w1 ⟨rfl, hb⟩
  go_wp2_with fail
  refine (rk_addx x y _ hx hy es.out).mono ?_
  rintro e w' ⟨rfl, rfl⟩
  go_wp2_with fail
  refine (rk_addx y x _ hy hx (by rw [Int.add_comm]; exact es.out)).mono ?_
  rintro e w' ⟨rfl, rfl⟩
  go_wp2_with fail
  refine (rk_mulx x y _ hx hy ep.out).mono ?_
  rintro e w' ⟨rfl, rfl⟩
  go_wp2_with fail
  refine (rk_mulx y x _ hy hx (by rw [Int.mul_comm]; exact ep.out)).mono ?_
  rintro e w' ⟨rfl, rfl⟩
  go_wp2_with fail
  go_quiet (fail)
  go_wp2_with fail
  refine (rk_addx y z _ hy hz et.out).mono ?_
  rintro e w' ⟨rfl, rfl⟩
  go_wp2_with fail
  refine (rk_mulany x 0 _ hx (by omega)).mono ?_
  rintro e w' ⟨n1, vn1, rfl, rfl, hn11, hn12⟩
  go_wp2_with fail
  refine (rk_mulany x z _ hx hz).mono ?_
  rintro e w' ⟨n2, vn2, rfl, rfl, hn21, hn22⟩
  go_wp2_with fail
  refine (rk_addany 0 n2 _ (by omega) ⟨hn21, hn22⟩).mono ?_
  rintro e w' ⟨n3, vn3, rfl, rfl, hn31, hn32⟩
  go_wp2
  go_ret
  exact ⟨rfl, by repeat (first | exact hb | apply below_drewN | refine Below.drew ?_)⟩
set_option maxHeartbeats 1000000 in
theorem law002 (x y z t : Int) (w : World) (hx : -9223372036854775808 ≤ x ∧ x ≤ 9223372036854775807) (hy : -9223372036854775808 ≤ y ∧ y ≤ 9223372036854775807) (hz : -9223372036854775808 ≤ z ∧ z ≤ 9223372036854775807) (es : Hid (¬ (-9223372036854775808 ≤ x + y ∧ x + y ≤ 9223372036854775807))) (ep : Hid (¬ (-9223372036854775808 ≤ x * y ∧ x * y ≤ 9223372036854775807))) (et : Hid (y + z = t)) (ht : -9223372036854775808 ≤ t ∧ t ≤ 9223372036854775807) (eu : Hid (¬ (-9223372036854775808 ≤ x * t ∧ x * t ≤ 9223372036854775807)))
    (hg : w.cell? ⟨0, 0, none⟩ = some (.iface 93 (.agg #[.pointer (some ⟨9, 25, none⟩)]))) :
    Calls Tryd.prog 4 #[.int .i64 x, .int .i64 y, .int .i64 z] w fun e w' => e = .returned (.bool true) ∧ Below w.heap.size w w' := by
  go_enter Tryd.func4, Tryd.ntmps4
  go_wp2_with fail
  refine (rk_mul2 (-3) 5 (-15) _ (by omega) (by omega) (by omega) (by omega)).mono ?_
  rintro e w' ⟨rfl, rfl⟩
  go_wp2_with fail
  refine (rk_divx (-9223372036854775808) (-1) _ (by omega) (by omega) (by omega)).mono ?_
  rintro e w' ⟨rfl, rfl⟩
  go_wp2_with fail
  refine (same_err 9 9 _ hg).mono ?_
  rintro e w1 ⟨rfl, hb⟩
  go_wp2_with fail
  refine (rk_addx x y _ hx hy es.out).mono ?_
  rintro e w' ⟨rfl, rfl⟩
  go_wp2_with fail
  refine (rk_addx y x _ hy hx (by rw [Int.add_comm]; exact es.out)).mono ?_
  rintro e w' ⟨rfl, rfl⟩
  go_wp2_with fail
  refine (rk_mulx x y _ hx hy ep.out).mono ?_
  rintro e w' ⟨rfl, rfl⟩
  go_wp2_with fail
  refine (rk_mulx y x _ hy hx (by rw [Int.mul_comm]; exact ep.out)).mono ?_
  rintro e w' ⟨rfl, rfl⟩
  go_wp2_with fail
  go_quiet (fail)
  go_wp2_with fail
  refine (rk_add2 y z t _ hy hz et.out ht).mono ?_
  rintro e w' ⟨rfl, rfl⟩
  go_wp2_with fail
  refine (rk_mulx x t _ hx ht eu.out).mono ?_
  rintro e w' ⟨rfl, rfl⟩
  go_wp2_with fail
  refine (rk_mulany x z _ hx hz).mono ?_
  rintro e w' ⟨n2, vn2, rfl, rfl, hn21, hn22⟩
  go_wp2_with fail
  refine (rk_addany 0 n2 _ (by omega) ⟨hn21, hn22⟩).mono ?_
  rintro e w' ⟨n3, vn3, rfl, rfl, hn31, hn32⟩
  go_wp2
  go_ret
  exact ⟨rfl, by repeat (first | exact hb | apply below_drewN | refine Below.drew ?_)⟩
set_option maxHeartbeats 1000000 in
theorem law003 (x y z t u : Int) (w : World) (hx : -9223372036854775808 ≤ x ∧ x ≤ 9223372036854775807) (hy : -9223372036854775808 ≤ y ∧ y ≤ 9223372036854775807) (hz : -9223372036854775808 ≤ z ∧ z ≤ 9223372036854775807) (es : Hid (¬ (-9223372036854775808 ≤ x + y ∧ x + y ≤ 9223372036854775807))) (ep : Hid (¬ (-9223372036854775808 ≤ x * y ∧ x * y ≤ 9223372036854775807))) (et : Hid (y + z = t)) (ht : -9223372036854775808 ≤ t ∧ t ≤ 9223372036854775807) (eu : Hid (x * t = u)) (hu : -9223372036854775808 ≤ u ∧ u ≤ 9223372036854775807)
    (hg : w.cell? ⟨0, 0, none⟩ = some (.iface 93 (.agg #[.pointer (some ⟨9, 25, none⟩)]))) :
    Calls Tryd.prog 4 #[.int .i64 x, .int .i64 y, .int .i64 z] w fun e w' => e = .returned (.bool true) ∧ Below w.heap.size w w' := by
  go_enter Tryd.func4, Tryd.ntmps4
  go_wp2_with fail
  refine (rk_mul2 (-3) 5 (-15) _ (by omega) (by omega) (by omega) (by omega)).mono ?_
  rintro e w' ⟨rfl, rfl⟩
  go_wp2_with fail
  refine (rk_divx (-9223372036854775808) (-1) _ (by omega) (by omega) (by omega)).mono ?_
  rintro e w' ⟨rfl, rfl⟩
  go_wp2_with fail
  refine (same_err 9 9 _ hg).mono ?_
  rintro e w1 ⟨rfl, hb⟩
  go_wp2_with fail
  refine (rk_addx x y _ hx hy es.out).mono ?_
  rintro e w' ⟨rfl, rfl⟩
  go_wp2_with fail
  refine (rk_addx y x _ hy hx (by rw [Int.add_comm]; exact es.out)).mono ?_
  rintro e w' ⟨rfl, rfl⟩
  go_wp2_with fail
  refine (rk_mulx x y _ hx hy ep.out).mono ?_
  rintro e w' ⟨rfl, rfl⟩
  go_wp2_with fail
  refine (rk_mulx y x _ hy hx (by rw [Int.mul_comm]; exact ep.out)).mono ?_
  rintro e w' ⟨rfl, rfl⟩
  go_wp2_with fail
  go_quiet (fail)
  go_wp2_with fail
  refine (rk_add2 y z t _ hy hz et.out ht).mono ?_
  rintro e w' ⟨rfl, rfl⟩
  go_wp2_with fail
  refine (rk_mul2 x t u _ hx ht eu.out hu).mono ?_
  rintro e w' ⟨rfl, rfl⟩
  go_wp2_with fail
  refine (rk_mulany x z _ hx hz).mono ?_
  rintro e w' ⟨n2, vn2, rfl, rfl, hn21, hn22⟩
  go_wp2_with fail
  refine (rk_addany 0 n2 _ (by omega) ⟨hn21, hn22⟩).mono ?_
  rintro e w' ⟨n3, vn3, rfl, rfl, hn31, hn32⟩
  go_wp2
  go_ret
  exact ⟨rfl, by repeat (first | exact hb | apply below_drewN | refine Below.drew ?_)⟩
end Go.Proofs.YtacfgibmdobnpaaDoor
