/-
  What the document's reckoning comes to, at all numbers and operations: sluiceref1's Reckon, case by case of signs.
-/
import Derived.Test.YtggabncpedcmdaaGreatDoorRef1
import Derived.Test.YtggabncpedcmdaaGreatDoorArith
namespace Go.Proofs.YtggabncpedcmdaaGreatDoor
open Go.RowKit
set_option linter.unusedVariables false

theorem div_bd (x y : Int) (hx : 0 ≤ x) (hy : 0 < y) : 0 ≤ x / y ∧ x / y ≤ x := ⟨Int.ediv_nonneg hx (by omega), Int.ediv_le_self _ hx⟩
theorem mod_bd (x y : Int) (hx : 0 ≤ x) (hy : 0 < y) : 0 ≤ x % y ∧ x % y ≤ x := ⟨Int.emod_nonneg _ (by omega), by
  have h1 := Int.mul_ediv_add_emod x y
  have h2 : 0 ≤ y * (x / y) := Int.mul_nonneg (by omega) (Int.ediv_nonneg hx (by omega))
  omega⟩
theorem parts_negx (x : Int) (w : World) (hx : 1 ≤ x ∧ x ≤ 9223372036854775808) : Calls Tryz.prog 47 #[.int .i64 (-x)] w fun e w' => e = .returned (.tuple #[.bool true, .int .u64 x]) ∧ w' = w :=
  (parts_neg (-x) w (by omega)).mono fun e w' h => ⟨by rw [h.1, Int.neg_neg], h.2⟩
set_option maxRecDepth 4000 in
theorem ra_pp (x y : Int) (w : World) (hx : 0 ≤ x ∧ x ≤ 9223372036854775807) (hy : 0 ≤ y ∧ y ≤ 9223372036854775807) (h : x + y ≤ 9223372036854775807) :
    Calls Tryz.prog 15 #[.string { data := #[43] }, .int .i64 x, .int .i64 y] w fun e w' => e = .returned (.tuple #[.int .i64 (x + y), .int .i64 0]) ∧ w' = w := by
  go_enter Tryz.func15, Tryz.ntmps15
  go_wp2_with fail
  refine (parts_pos x _ hx).mono ?_
  rintro e w1 ⟨rfl, rfl⟩
  go_wp2_with fail
  refine (parts_pos y _ hy).mono ?_
  rintro e w1 ⟨rfl, rfl⟩
  go_wp2_with fail
  refine (join_pos (x + y) _ (by omega)).mono ?_
  rintro e w1 ⟨rfl, rfl⟩
  go_wp2
  go_ret2
  exact ⟨rfl, rfl⟩
set_option maxRecDepth 4000 in
theorem ra_ppx (x y : Int) (w : World) (hx : 0 ≤ x ∧ x ≤ 9223372036854775807) (hy : 0 ≤ y ∧ y ≤ 9223372036854775807) (h : 9223372036854775807 < x + y) :
    Calls Tryz.prog 15 #[.string { data := #[43] }, .int .i64 x, .int .i64 y] w fun e w' => e = .returned (.tuple #[.int .i64 (0), .int .i64 9]) ∧ w' = w := by
  go_enter Tryz.func15, Tryz.ntmps15
  go_wp2_with fail
  refine (parts_pos x _ hx).mono ?_
  rintro e w1 ⟨rfl, rfl⟩
  go_wp2_with fail
  refine (parts_pos y _ hy).mono ?_
  rintro e w1 ⟨rfl, rfl⟩
  go_wp2_with fail
  refine (join_posx (x + y) _ (by omega)).mono ?_
  rintro e w1 ⟨rfl, rfl⟩
  go_wp2
  go_ret2
  exact ⟨rfl, rfl⟩
set_option maxRecDepth 4000 in
theorem ra_nn (x y : Int) (w : World) (hx : 1 ≤ x ∧ x ≤ 9223372036854775808) (hy : 1 ≤ y ∧ y ≤ 9223372036854775808) (h : x + y ≤ 9223372036854775808) :
    Calls Tryz.prog 15 #[.string { data := #[43] }, .int .i64 (-x), .int .i64 (-y)] w fun e w' => e = .returned (.tuple #[.int .i64 (-(x + y)), .int .i64 0]) ∧ w' = w := by
  go_enter Tryz.func15, Tryz.ntmps15
  go_wp2_with fail
  refine (parts_negx x _ hx).mono ?_
  rintro e w1 ⟨rfl, rfl⟩
  go_wp2_with fail
  refine (parts_negx y _ hy).mono ?_
  rintro e w1 ⟨rfl, rfl⟩
  go_wp2_with fail
  refine (join_neg (x + y) _ (by omega)).mono ?_
  rintro e w1 ⟨rfl, rfl⟩
  go_wp2
  go_ret2
  exact ⟨rfl, rfl⟩
set_option maxRecDepth 4000 in
theorem ra_nnx (x y : Int) (w : World) (hx : 1 ≤ x ∧ x ≤ 9223372036854775808) (hy : 1 ≤ y ∧ y ≤ 9223372036854775808) (h : 9223372036854775808 < x + y) (h' : x + y ≤ 18446744073709551615) :
    Calls Tryz.prog 15 #[.string { data := #[43] }, .int .i64 (-x), .int .i64 (-y)] w fun e w' => e = .returned (.tuple #[.int .i64 (0), .int .i64 9]) ∧ w' = w := by
  go_enter Tryz.func15, Tryz.ntmps15
  go_wp2_with fail
  refine (parts_negx x _ hx).mono ?_
  rintro e w1 ⟨rfl, rfl⟩
  go_wp2_with fail
  refine (parts_negx y _ hy).mono ?_
  rintro e w1 ⟨rfl, rfl⟩
  go_wp2_with fail
  refine (join_negx (x + y) _ (by omega)).mono ?_
  rintro e w1 ⟨rfl, rfl⟩
  go_wp2
  go_ret2
  exact ⟨rfl, rfl⟩
set_option maxRecDepth 4000 in
theorem ra_pn1 (x y : Int) (w : World) (hx : 0 ≤ x ∧ x ≤ 9223372036854775807) (hy : 1 ≤ y ∧ y ≤ 9223372036854775808) (h : y ≤ x) :
    Calls Tryz.prog 15 #[.string { data := #[43] }, .int .i64 x, .int .i64 (-y)] w fun e w' => e = .returned (.tuple #[.int .i64 (x - y), .int .i64 0]) ∧ w' = w := by
  go_enter Tryz.func15, Tryz.ntmps15
  go_wp2_with fail
  refine (parts_pos x _ hx).mono ?_
  rintro e w1 ⟨rfl, rfl⟩
  go_wp2_with fail
  refine (parts_negx y _ hy).mono ?_
  rintro e w1 ⟨rfl, rfl⟩
  go_wp2_with fail
  refine (join_pos (x - y) _ (by omega)).mono ?_
  rintro e w1 ⟨rfl, rfl⟩
  go_wp2
  go_ret2
  exact ⟨rfl, rfl⟩
set_option maxRecDepth 4000 in
theorem ra_pn2 (x y : Int) (w : World) (hx : 0 ≤ x ∧ x ≤ 9223372036854775807) (hy : 1 ≤ y ∧ y ≤ 9223372036854775808) (h : x < y) :
    Calls Tryz.prog 15 #[.string { data := #[43] }, .int .i64 x, .int .i64 (-y)] w fun e w' => e = .returned (.tuple #[.int .i64 (-(y - x)), .int .i64 0]) ∧ w' = w := by
  go_enter Tryz.func15, Tryz.ntmps15
  go_wp2_with fail
  refine (parts_pos x _ hx).mono ?_
  rintro e w1 ⟨rfl, rfl⟩
  go_wp2_with fail
  refine (parts_negx y _ hy).mono ?_
  rintro e w1 ⟨rfl, rfl⟩
  go_wp2_with fail
  refine (join_neg (y - x) _ (by omega)).mono ?_
  rintro e w1 ⟨rfl, rfl⟩
  go_wp2
  go_ret2
  exact ⟨rfl, rfl⟩
set_option maxRecDepth 4000 in
theorem ra_np1 (x y : Int) (w : World) (hx : 1 ≤ x ∧ x ≤ 9223372036854775808) (hy : 0 ≤ y ∧ y ≤ 9223372036854775807) (h : y ≤ x) :
    Calls Tryz.prog 15 #[.string { data := #[43] }, .int .i64 (-x), .int .i64 y] w fun e w' => e = .returned (.tuple #[.int .i64 (-(x - y)), .int .i64 0]) ∧ w' = w := by
  go_enter Tryz.func15, Tryz.ntmps15
  go_wp2_with fail
  refine (parts_negx x _ hx).mono ?_
  rintro e w1 ⟨rfl, rfl⟩
  go_wp2_with fail
  refine (parts_pos y _ hy).mono ?_
  rintro e w1 ⟨rfl, rfl⟩
  go_wp2_with fail
  refine (join_neg (x - y) _ (by omega)).mono ?_
  rintro e w1 ⟨rfl, rfl⟩
  go_wp2
  go_ret2
  exact ⟨rfl, rfl⟩
set_option maxRecDepth 4000 in
theorem ra_np2 (x y : Int) (w : World) (hx : 1 ≤ x ∧ x ≤ 9223372036854775808) (hy : 0 ≤ y ∧ y ≤ 9223372036854775807) (h : x < y) :
    Calls Tryz.prog 15 #[.string { data := #[43] }, .int .i64 (-x), .int .i64 y] w fun e w' => e = .returned (.tuple #[.int .i64 (y - x), .int .i64 0]) ∧ w' = w := by
  go_enter Tryz.func15, Tryz.ntmps15
  go_wp2_with fail
  refine (parts_negx x _ hx).mono ?_
  rintro e w1 ⟨rfl, rfl⟩
  go_wp2_with fail
  refine (parts_pos y _ hy).mono ?_
  rintro e w1 ⟨rfl, rfl⟩
  go_wp2_with fail
  refine (join_pos (y - x) _ (by omega)).mono ?_
  rintro e w1 ⟨rfl, rfl⟩
  go_wp2
  go_ret2
  exact ⟨rfl, rfl⟩
set_option maxRecDepth 4000 in
theorem rs_p0 (x y : Int) (w : World) (hx : 0 ≤ x ∧ x ≤ 9223372036854775807) (hy : 0 ≤ y ∧ y ≤ 9223372036854775807) (h : y = 0) :
    Calls Tryz.prog 15 #[.string { data := #[45] }, .int .i64 x, .int .i64 y] w fun e w' => e = .returned (.tuple #[.int .i64 (x), .int .i64 0]) ∧ w' = w := by
  subst h
  go_enter Tryz.func15, Tryz.ntmps15
  go_wp2_with fail
  refine (parts_pos x _ hx).mono ?_
  rintro e w1 ⟨rfl, rfl⟩
  go_wp2_with fail
  refine (parts_pos 0 _ (by decide)).mono ?_
  rintro e w1 ⟨rfl, rfl⟩
  go_wp2_with fail
  refine (join_pos (x) _ (by omega)).mono ?_
  rintro e w1 ⟨rfl, rfl⟩
  go_wp2
  go_ret2
  exact ⟨rfl, rfl⟩
set_option maxRecDepth 4000 in
theorem rs_n0 (x y : Int) (w : World) (hx : 1 ≤ x ∧ x ≤ 9223372036854775808) (hy : 0 ≤ y ∧ y ≤ 9223372036854775807) (h : y = 0) :
    Calls Tryz.prog 15 #[.string { data := #[45] }, .int .i64 (-x), .int .i64 y] w fun e w' => e = .returned (.tuple #[.int .i64 (-x), .int .i64 0]) ∧ w' = w := by
  subst h
  go_enter Tryz.func15, Tryz.ntmps15
  go_wp2_with fail
  refine (parts_negx x _ hx).mono ?_
  rintro e w1 ⟨rfl, rfl⟩
  go_wp2_with fail
  refine (parts_pos 0 _ (by decide)).mono ?_
  rintro e w1 ⟨rfl, rfl⟩
  go_wp2_with fail
  refine (join_neg (x) _ (by omega)).mono ?_
  rintro e w1 ⟨rfl, rfl⟩
  go_wp2
  go_ret2
  exact ⟨rfl, rfl⟩
set_option maxRecDepth 4000 in
theorem rs_pp1 (x y : Int) (w : World) (hx : 0 ≤ x ∧ x ≤ 9223372036854775807) (hy : 0 ≤ y ∧ y ≤ 9223372036854775807) (h0 : 0 < y) (h : y ≤ x) :
    Calls Tryz.prog 15 #[.string { data := #[45] }, .int .i64 x, .int .i64 y] w fun e w' => e = .returned (.tuple #[.int .i64 (x - y), .int .i64 0]) ∧ w' = w := by
  go_enter Tryz.func15, Tryz.ntmps15
  go_wp2_with fail
  refine (parts_pos x _ hx).mono ?_
  rintro e w1 ⟨rfl, rfl⟩
  go_wp2_with fail
  refine (parts_pos y _ hy).mono ?_
  rintro e w1 ⟨rfl, rfl⟩
  go_wp2_with fail
  refine (join_pos (x - y) _ (by omega)).mono ?_
  rintro e w1 ⟨rfl, rfl⟩
  go_wp2
  go_ret2
  exact ⟨rfl, rfl⟩
set_option maxRecDepth 4000 in
theorem rs_pp2 (x y : Int) (w : World) (hx : 0 ≤ x ∧ x ≤ 9223372036854775807) (hy : 0 ≤ y ∧ y ≤ 9223372036854775807) (h0 : 0 < y) (h : x < y) :
    Calls Tryz.prog 15 #[.string { data := #[45] }, .int .i64 x, .int .i64 y] w fun e w' => e = .returned (.tuple #[.int .i64 (-(y - x)), .int .i64 0]) ∧ w' = w := by
  go_enter Tryz.func15, Tryz.ntmps15
  go_wp2_with fail
  refine (parts_pos x _ hx).mono ?_
  rintro e w1 ⟨rfl, rfl⟩
  go_wp2_with fail
  refine (parts_pos y _ hy).mono ?_
  rintro e w1 ⟨rfl, rfl⟩
  go_wp2_with fail
  refine (join_neg (y - x) _ (by omega)).mono ?_
  rintro e w1 ⟨rfl, rfl⟩
  go_wp2
  go_ret2
  exact ⟨rfl, rfl⟩
set_option maxRecDepth 4000 in
theorem rs_np (x y : Int) (w : World) (hx : 1 ≤ x ∧ x ≤ 9223372036854775808) (hy : 0 ≤ y ∧ y ≤ 9223372036854775807) (h0 : 0 < y) (h : x + y ≤ 9223372036854775808) :
    Calls Tryz.prog 15 #[.string { data := #[45] }, .int .i64 (-x), .int .i64 y] w fun e w' => e = .returned (.tuple #[.int .i64 (-(x + y)), .int .i64 0]) ∧ w' = w := by
  go_enter Tryz.func15, Tryz.ntmps15
  go_wp2_with fail
  refine (parts_negx x _ hx).mono ?_
  rintro e w1 ⟨rfl, rfl⟩
  go_wp2_with fail
  refine (parts_pos y _ hy).mono ?_
  rintro e w1 ⟨rfl, rfl⟩
  go_wp2_with fail
  refine (join_neg (x + y) _ (by omega)).mono ?_
  rintro e w1 ⟨rfl, rfl⟩
  go_wp2
  go_ret2
  exact ⟨rfl, rfl⟩
set_option maxRecDepth 4000 in
theorem rs_npx (x y : Int) (w : World) (hx : 1 ≤ x ∧ x ≤ 9223372036854775808) (hy : 0 ≤ y ∧ y ≤ 9223372036854775807) (h0 : 0 < y) (h : 9223372036854775808 < x + y) :
    Calls Tryz.prog 15 #[.string { data := #[45] }, .int .i64 (-x), .int .i64 y] w fun e w' => e = .returned (.tuple #[.int .i64 (0), .int .i64 9]) ∧ w' = w := by
  go_enter Tryz.func15, Tryz.ntmps15
  go_wp2_with fail
  refine (parts_negx x _ hx).mono ?_
  rintro e w1 ⟨rfl, rfl⟩
  go_wp2_with fail
  refine (parts_pos y _ hy).mono ?_
  rintro e w1 ⟨rfl, rfl⟩
  go_wp2_with fail
  refine (join_negx (x + y) _ (by omega)).mono ?_
  rintro e w1 ⟨rfl, rfl⟩
  go_wp2
  go_ret2
  exact ⟨rfl, rfl⟩
set_option maxRecDepth 4000 in
theorem rs_pn (x y : Int) (w : World) (hx : 0 ≤ x ∧ x ≤ 9223372036854775807) (hy : 1 ≤ y ∧ y ≤ 9223372036854775808) (h0 : 0 < y) (h : x + y ≤ 9223372036854775807) :
    Calls Tryz.prog 15 #[.string { data := #[45] }, .int .i64 x, .int .i64 (-y)] w fun e w' => e = .returned (.tuple #[.int .i64 (x + y), .int .i64 0]) ∧ w' = w := by
  go_enter Tryz.func15, Tryz.ntmps15
  go_wp2_with fail
  refine (parts_pos x _ hx).mono ?_
  rintro e w1 ⟨rfl, rfl⟩
  go_wp2_with fail
  refine (parts_negx y _ hy).mono ?_
  rintro e w1 ⟨rfl, rfl⟩
  go_wp2_with fail
  refine (join_pos (x + y) _ (by omega)).mono ?_
  rintro e w1 ⟨rfl, rfl⟩
  go_wp2
  go_ret2
  exact ⟨rfl, rfl⟩
set_option maxRecDepth 4000 in
theorem rs_pnx (x y : Int) (w : World) (hx : 0 ≤ x ∧ x ≤ 9223372036854775807) (hy : 1 ≤ y ∧ y ≤ 9223372036854775808) (h0 : 0 < y) (h : 9223372036854775807 < x + y) :
    Calls Tryz.prog 15 #[.string { data := #[45] }, .int .i64 x, .int .i64 (-y)] w fun e w' => e = .returned (.tuple #[.int .i64 (0), .int .i64 9]) ∧ w' = w := by
  go_enter Tryz.func15, Tryz.ntmps15
  go_wp2_with fail
  refine (parts_pos x _ hx).mono ?_
  rintro e w1 ⟨rfl, rfl⟩
  go_wp2_with fail
  refine (parts_negx y _ hy).mono ?_
  rintro e w1 ⟨rfl, rfl⟩
  go_wp2_with fail
  refine (join_posx (x + y) _ (by omega)).mono ?_
  rintro e w1 ⟨rfl, rfl⟩
  go_wp2
  go_ret2
  exact ⟨rfl, rfl⟩
set_option maxRecDepth 4000 in
theorem rs_nn1 (x y : Int) (w : World) (hx : 1 ≤ x ∧ x ≤ 9223372036854775808) (hy : 1 ≤ y ∧ y ≤ 9223372036854775808) (h0 : 0 < y) (h : y ≤ x) :
    Calls Tryz.prog 15 #[.string { data := #[45] }, .int .i64 (-x), .int .i64 (-y)] w fun e w' => e = .returned (.tuple #[.int .i64 (-(x - y)), .int .i64 0]) ∧ w' = w := by
  go_enter Tryz.func15, Tryz.ntmps15
  go_wp2_with fail
  refine (parts_negx x _ hx).mono ?_
  rintro e w1 ⟨rfl, rfl⟩
  go_wp2_with fail
  refine (parts_negx y _ hy).mono ?_
  rintro e w1 ⟨rfl, rfl⟩
  go_wp2_with fail
  refine (join_neg (x - y) _ (by omega)).mono ?_
  rintro e w1 ⟨rfl, rfl⟩
  go_wp2
  go_ret2
  exact ⟨rfl, rfl⟩
set_option maxRecDepth 4000 in
theorem rs_nn2 (x y : Int) (w : World) (hx : 1 ≤ x ∧ x ≤ 9223372036854775808) (hy : 1 ≤ y ∧ y ≤ 9223372036854775808) (h0 : 0 < y) (h : x < y) :
    Calls Tryz.prog 15 #[.string { data := #[45] }, .int .i64 (-x), .int .i64 (-y)] w fun e w' => e = .returned (.tuple #[.int .i64 (y - x), .int .i64 0]) ∧ w' = w := by
  go_enter Tryz.func15, Tryz.ntmps15
  go_wp2_with fail
  refine (parts_negx x _ hx).mono ?_
  rintro e w1 ⟨rfl, rfl⟩
  go_wp2_with fail
  refine (parts_negx y _ hy).mono ?_
  rintro e w1 ⟨rfl, rfl⟩
  go_wp2_with fail
  refine (join_pos (y - x) _ (by omega)).mono ?_
  rintro e w1 ⟨rfl, rfl⟩
  go_wp2
  go_ret2
  exact ⟨rfl, rfl⟩
set_option maxRecDepth 4000 in
theorem rd_pp (x y : Int) (w : World) (hx : 0 ≤ x ∧ x ≤ 9223372036854775807) (hy : 0 ≤ y ∧ y ≤ 9223372036854775807) (h0 : 0 < y) (hm : x / y ≤ 9223372036854775807) :
    Calls Tryz.prog 15 #[.string { data := #[47] }, .int .i64 x, .int .i64 y] w fun e w' => e = .returned (.tuple #[.int .i64 (x / y), .int .i64 0]) ∧ w' = w := by
  have hq0 : 0 ≤ x / y ∧ x / y ≤ x := div_bd x y (by omega) (by omega)
  go_enter Tryz.func15, Tryz.ntmps15
  go_wp2_with fail
  refine (parts_pos x _ hx).mono ?_
  rintro e w1 ⟨rfl, rfl⟩
  go_wp2_with fail
  refine (parts_pos y _ hy).mono ?_
  rintro e w1 ⟨rfl, rfl⟩
  go_wp2_with fail
  refine (join_pos (x / y) _ (by omega)).mono ?_
  rintro e w1 ⟨rfl, rfl⟩
  go_wp2
  go_ret2
  exact ⟨rfl, rfl⟩
set_option maxRecDepth 4000 in
theorem rd_pn (x y : Int) (w : World) (hx : 0 ≤ x ∧ x ≤ 9223372036854775807) (hy : 1 ≤ y ∧ y ≤ 9223372036854775808) (h0 : 0 < y) :
    Calls Tryz.prog 15 #[.string { data := #[47] }, .int .i64 x, .int .i64 (-y)] w fun e w' => e = .returned (.tuple #[.int .i64 (-(x / y)), .int .i64 0]) ∧ w' = w := by
  have hq0 : 0 ≤ x / y ∧ x / y ≤ x := div_bd x y (by omega) (by omega)
  go_enter Tryz.func15, Tryz.ntmps15
  go_wp2_with fail
  refine (parts_pos x _ hx).mono ?_
  rintro e w1 ⟨rfl, rfl⟩
  go_wp2_with fail
  refine (parts_negx y _ hy).mono ?_
  rintro e w1 ⟨rfl, rfl⟩
  go_wp2_with fail
  refine (join_neg (x / y) _ (by omega)).mono ?_
  rintro e w1 ⟨rfl, rfl⟩
  go_wp2
  go_ret2
  exact ⟨rfl, rfl⟩
set_option maxRecDepth 4000 in
theorem rd_np (x y : Int) (w : World) (hx : 1 ≤ x ∧ x ≤ 9223372036854775808) (hy : 0 ≤ y ∧ y ≤ 9223372036854775807) (h0 : 0 < y) :
    Calls Tryz.prog 15 #[.string { data := #[47] }, .int .i64 (-x), .int .i64 y] w fun e w' => e = .returned (.tuple #[.int .i64 (-(x / y)), .int .i64 0]) ∧ w' = w := by
  have hq0 : 0 ≤ x / y ∧ x / y ≤ x := div_bd x y (by omega) (by omega)
  go_enter Tryz.func15, Tryz.ntmps15
  go_wp2_with fail
  refine (parts_negx x _ hx).mono ?_
  rintro e w1 ⟨rfl, rfl⟩
  go_wp2_with fail
  refine (parts_pos y _ hy).mono ?_
  rintro e w1 ⟨rfl, rfl⟩
  go_wp2_with fail
  refine (join_neg (x / y) _ (by omega)).mono ?_
  rintro e w1 ⟨rfl, rfl⟩
  go_wp2
  go_ret2
  exact ⟨rfl, rfl⟩
set_option maxRecDepth 4000 in
theorem rd_nn (x y : Int) (w : World) (hx : 1 ≤ x ∧ x ≤ 9223372036854775808) (hy : 1 ≤ y ∧ y ≤ 9223372036854775808) (h0 : 0 < y) (hm : x / y ≤ 9223372036854775807) :
    Calls Tryz.prog 15 #[.string { data := #[47] }, .int .i64 (-x), .int .i64 (-y)] w fun e w' => e = .returned (.tuple #[.int .i64 (x / y), .int .i64 0]) ∧ w' = w := by
  have hq0 : 0 ≤ x / y ∧ x / y ≤ x := div_bd x y (by omega) (by omega)
  go_enter Tryz.func15, Tryz.ntmps15
  go_wp2_with fail
  refine (parts_negx x _ hx).mono ?_
  rintro e w1 ⟨rfl, rfl⟩
  go_wp2_with fail
  refine (parts_negx y _ hy).mono ?_
  rintro e w1 ⟨rfl, rfl⟩
  go_wp2_with fail
  refine (join_pos (x / y) _ (by omega)).mono ?_
  rintro e w1 ⟨rfl, rfl⟩
  go_wp2
  go_ret2
  exact ⟨rfl, rfl⟩
set_option maxRecDepth 4000 in
theorem rd_nnx (x y : Int) (w : World) (hx : 1 ≤ x ∧ x ≤ 9223372036854775808) (hy : 1 ≤ y ∧ y ≤ 9223372036854775808) (h0 : 0 < y) (hm : 9223372036854775807 < x / y) :
    Calls Tryz.prog 15 #[.string { data := #[47] }, .int .i64 (-x), .int .i64 (-y)] w fun e w' => e = .returned (.tuple #[.int .i64 0, .int .i64 9]) ∧ w' = w := by
  have hq0 : 0 ≤ x / y ∧ x / y ≤ x := div_bd x y (by omega) (by omega)
  go_enter Tryz.func15, Tryz.ntmps15
  go_wp2_with fail
  refine (parts_negx x _ hx).mono ?_
  rintro e w1 ⟨rfl, rfl⟩
  go_wp2_with fail
  refine (parts_negx y _ hy).mono ?_
  rintro e w1 ⟨rfl, rfl⟩
  go_wp2_with fail
  refine (join_posx (x / y) _ (by omega)).mono ?_
  rintro e w1 ⟨rfl, rfl⟩
  go_wp2
  go_ret2
  exact ⟨rfl, rfl⟩
set_option maxRecDepth 4000 in
theorem rd_p0 (x y : Int) (w : World) (hx : 0 ≤ x ∧ x ≤ 9223372036854775807) (hy : 0 ≤ y ∧ y ≤ 9223372036854775807) (h : y = 0) :
    Calls Tryz.prog 15 #[.string { data := #[47] }, .int .i64 x, .int .i64 y] w fun e w' => e = .returned (.tuple #[.int .i64 (0), .int .i64 9]) ∧ w' = w := by
  subst h
  go_enter Tryz.func15, Tryz.ntmps15
  go_wp2_with fail
  refine (parts_pos x _ hx).mono ?_
  rintro e w1 ⟨rfl, rfl⟩
  go_wp2_with fail
  refine (parts_pos 0 _ (by decide)).mono ?_
  rintro e w1 ⟨rfl, rfl⟩
  go_wp2
  go_ret2
  exact ⟨rfl, rfl⟩
set_option maxRecDepth 4000 in
theorem rd_n0 (x y : Int) (w : World) (hx : 1 ≤ x ∧ x ≤ 9223372036854775808) (hy : 0 ≤ y ∧ y ≤ 9223372036854775807) (h : y = 0) :
    Calls Tryz.prog 15 #[.string { data := #[47] }, .int .i64 (-x), .int .i64 y] w fun e w' => e = .returned (.tuple #[.int .i64 (0), .int .i64 9]) ∧ w' = w := by
  subst h
  go_enter Tryz.func15, Tryz.ntmps15
  go_wp2_with fail
  refine (parts_negx x _ hx).mono ?_
  rintro e w1 ⟨rfl, rfl⟩
  go_wp2_with fail
  refine (parts_pos 0 _ (by decide)).mono ?_
  rintro e w1 ⟨rfl, rfl⟩
  go_wp2
  go_ret2
  exact ⟨rfl, rfl⟩
set_option maxRecDepth 4000 in
theorem rm_pp (x y : Int) (w : World) (hx : 0 ≤ x ∧ x ≤ 9223372036854775807) (hy : 0 ≤ y ∧ y ≤ 9223372036854775807) (h0 : 0 < y) (hm : x % y ≤ 9223372036854775807) :
    Calls Tryz.prog 15 #[.string { data := #[37] }, .int .i64 x, .int .i64 y] w fun e w' => e = .returned (.tuple #[.int .i64 (x % y), .int .i64 0]) ∧ w' = w := by
  have hq0 : 0 ≤ x % y ∧ x % y ≤ x := mod_bd x y (by omega) (by omega)
  go_enter Tryz.func15, Tryz.ntmps15
  go_wp2_with fail
  refine (parts_pos x _ hx).mono ?_
  rintro e w1 ⟨rfl, rfl⟩
  go_wp2_with fail
  refine (parts_pos y _ hy).mono ?_
  rintro e w1 ⟨rfl, rfl⟩
  go_wp2_with fail
  refine (join_pos (x % y) _ (by omega)).mono ?_
  rintro e w1 ⟨rfl, rfl⟩
  go_wp2
  go_ret2
  exact ⟨rfl, rfl⟩
set_option maxRecDepth 4000 in
theorem rm_pn (x y : Int) (w : World) (hx : 0 ≤ x ∧ x ≤ 9223372036854775807) (hy : 1 ≤ y ∧ y ≤ 9223372036854775808) (h0 : 0 < y) (hm : x % y ≤ 9223372036854775807) :
    Calls Tryz.prog 15 #[.string { data := #[37] }, .int .i64 x, .int .i64 (-y)] w fun e w' => e = .returned (.tuple #[.int .i64 (x % y), .int .i64 0]) ∧ w' = w := by
  have hq0 : 0 ≤ x % y ∧ x % y ≤ x := mod_bd x y (by omega) (by omega)
  go_enter Tryz.func15, Tryz.ntmps15
  go_wp2_with fail
  refine (parts_pos x _ hx).mono ?_
  rintro e w1 ⟨rfl, rfl⟩
  go_wp2_with fail
  refine (parts_negx y _ hy).mono ?_
  rintro e w1 ⟨rfl, rfl⟩
  go_wp2_with fail
  refine (join_pos (x % y) _ (by omega)).mono ?_
  rintro e w1 ⟨rfl, rfl⟩
  go_wp2
  go_ret2
  exact ⟨rfl, rfl⟩
set_option maxRecDepth 4000 in
theorem rm_np (x y : Int) (w : World) (hx : 1 ≤ x ∧ x ≤ 9223372036854775808) (hy : 0 ≤ y ∧ y ≤ 9223372036854775807) (h0 : 0 < y) :
    Calls Tryz.prog 15 #[.string { data := #[37] }, .int .i64 (-x), .int .i64 y] w fun e w' => e = .returned (.tuple #[.int .i64 (-(x % y)), .int .i64 0]) ∧ w' = w := by
  have hq0 : 0 ≤ x % y ∧ x % y ≤ x := mod_bd x y (by omega) (by omega)
  go_enter Tryz.func15, Tryz.ntmps15
  go_wp2_with fail
  refine (parts_negx x _ hx).mono ?_
  rintro e w1 ⟨rfl, rfl⟩
  go_wp2_with fail
  refine (parts_pos y _ hy).mono ?_
  rintro e w1 ⟨rfl, rfl⟩
  go_wp2_with fail
  refine (join_neg (x % y) _ (by omega)).mono ?_
  rintro e w1 ⟨rfl, rfl⟩
  go_wp2
  go_ret2
  exact ⟨rfl, rfl⟩
set_option maxRecDepth 4000 in
theorem rm_nn (x y : Int) (w : World) (hx : 1 ≤ x ∧ x ≤ 9223372036854775808) (hy : 1 ≤ y ∧ y ≤ 9223372036854775808) (h0 : 0 < y) :
    Calls Tryz.prog 15 #[.string { data := #[37] }, .int .i64 (-x), .int .i64 (-y)] w fun e w' => e = .returned (.tuple #[.int .i64 (-(x % y)), .int .i64 0]) ∧ w' = w := by
  have hq0 : 0 ≤ x % y ∧ x % y ≤ x := mod_bd x y (by omega) (by omega)
  go_enter Tryz.func15, Tryz.ntmps15
  go_wp2_with fail
  refine (parts_negx x _ hx).mono ?_
  rintro e w1 ⟨rfl, rfl⟩
  go_wp2_with fail
  refine (parts_negx y _ hy).mono ?_
  rintro e w1 ⟨rfl, rfl⟩
  go_wp2_with fail
  refine (join_neg (x % y) _ (by omega)).mono ?_
  rintro e w1 ⟨rfl, rfl⟩
  go_wp2
  go_ret2
  exact ⟨rfl, rfl⟩
set_option maxRecDepth 4000 in
theorem rm_p0 (x y : Int) (w : World) (hx : 0 ≤ x ∧ x ≤ 9223372036854775807) (hy : 0 ≤ y ∧ y ≤ 9223372036854775807) (h : y = 0) :
    Calls Tryz.prog 15 #[.string { data := #[37] }, .int .i64 x, .int .i64 y] w fun e w' => e = .returned (.tuple #[.int .i64 (0), .int .i64 9]) ∧ w' = w := by
  subst h
  go_enter Tryz.func15, Tryz.ntmps15
  go_wp2_with fail
  refine (parts_pos x _ hx).mono ?_
  rintro e w1 ⟨rfl, rfl⟩
  go_wp2_with fail
  refine (parts_pos 0 _ (by decide)).mono ?_
  rintro e w1 ⟨rfl, rfl⟩
  go_wp2
  go_ret2
  exact ⟨rfl, rfl⟩
set_option maxRecDepth 4000 in
theorem rm_n0 (x y : Int) (w : World) (hx : 1 ≤ x ∧ x ≤ 9223372036854775808) (hy : 0 ≤ y ∧ y ≤ 9223372036854775807) (h : y = 0) :
    Calls Tryz.prog 15 #[.string { data := #[37] }, .int .i64 (-x), .int .i64 y] w fun e w' => e = .returned (.tuple #[.int .i64 (0), .int .i64 9]) ∧ w' = w := by
  subst h
  go_enter Tryz.func15, Tryz.ntmps15
  go_wp2_with fail
  refine (parts_negx x _ hx).mono ?_
  rintro e w1 ⟨rfl, rfl⟩
  go_wp2_with fail
  refine (parts_pos 0 _ (by decide)).mono ?_
  rintro e w1 ⟨rfl, rfl⟩
  go_wp2
  go_ret2
  exact ⟨rfl, rfl⟩
set_option maxRecDepth 4000 in
theorem rt_pp (x y : Int) (w : World) (hx : 0 ≤ x ∧ x ≤ 9223372036854775807) (hy : 0 ≤ y ∧ y ≤ 9223372036854775807) (h0 : 1 ≤ x) (h : y ≤ 9223372036854775808 / x) (hp : 0 ≤ x * y ∧ x * y ≤ 9223372036854775808) (hm : x * y ≤ 9223372036854775807) :
    Calls Tryz.prog 15 #[.string { data := #[42] }, .int .i64 x, .int .i64 y] w fun e w' => e = .returned (.tuple #[.int .i64 (x * y), .int .i64 0]) ∧ w' = w := by
  have e0 : (x != 0) = true := by simp; omega
  go_enter Tryz.func15, Tryz.ntmps15
  go_wp2_with fail
  refine (parts_pos x _ hx).mono ?_
  rintro e w1 ⟨rfl, rfl⟩
  go_wp2_with fail
  refine (parts_pos y _ hy).mono ?_
  rintro e w1 ⟨rfl, rfl⟩
  go_wp2_with fail
  refine (join_pos (x * y) _ (by omega)).mono ?_
  rintro e w1 ⟨rfl, rfl⟩
  go_wp2
  go_ret2
  exact ⟨rfl, rfl⟩
set_option maxRecDepth 4000 in
theorem rt_ppm (x y : Int) (w : World) (hx : 0 ≤ x ∧ x ≤ 9223372036854775807) (hy : 0 ≤ y ∧ y ≤ 9223372036854775807) (h0 : 1 ≤ x) (h : y ≤ 9223372036854775808 / x) (hp : 0 ≤ x * y ∧ x * y ≤ 9223372036854775808) (hm : 9223372036854775807 < x * y) :
    Calls Tryz.prog 15 #[.string { data := #[42] }, .int .i64 x, .int .i64 y] w fun e w' => e = .returned (.tuple #[.int .i64 (0), .int .i64 9]) ∧ w' = w := by
  have e0 : (x != 0) = true := by simp; omega
  go_enter Tryz.func15, Tryz.ntmps15
  go_wp2_with fail
  refine (parts_pos x _ hx).mono ?_
  rintro e w1 ⟨rfl, rfl⟩
  go_wp2_with fail
  refine (parts_pos y _ hy).mono ?_
  rintro e w1 ⟨rfl, rfl⟩
  go_wp2_with fail
  refine (join_posx (x * y) _ (by omega)).mono ?_
  rintro e w1 ⟨rfl, rfl⟩
  go_wp2
  go_ret2
  exact ⟨rfl, rfl⟩
set_option maxRecDepth 4000 in
theorem rt_ppx (x y : Int) (w : World) (hx : 0 ≤ x ∧ x ≤ 9223372036854775807) (hy : 0 ≤ y ∧ y ≤ 9223372036854775807) (h0 : 1 ≤ x) (h : 9223372036854775808 / x < y) :
    Calls Tryz.prog 15 #[.string { data := #[42] }, .int .i64 x, .int .i64 y] w fun e w' => e = .returned (.tuple #[.int .i64 (0), .int .i64 9]) ∧ w' = w := by
  have e0 : (x != 0) = true := by simp; omega
  go_enter Tryz.func15, Tryz.ntmps15
  go_wp2_with fail
  refine (parts_pos x _ hx).mono ?_
  rintro e w1 ⟨rfl, rfl⟩
  go_wp2_with fail
  refine (parts_pos y _ hy).mono ?_
  rintro e w1 ⟨rfl, rfl⟩
  go_wp2
  go_ret2
  exact ⟨rfl, rfl⟩
set_option maxRecDepth 4000 in
theorem rt_pn (x y : Int) (w : World) (hx : 0 ≤ x ∧ x ≤ 9223372036854775807) (hy : 1 ≤ y ∧ y ≤ 9223372036854775808) (h0 : 1 ≤ x) (h : y ≤ 9223372036854775808 / x) (hp : 0 ≤ x * y ∧ x * y ≤ 9223372036854775808) :
    Calls Tryz.prog 15 #[.string { data := #[42] }, .int .i64 x, .int .i64 (-y)] w fun e w' => e = .returned (.tuple #[.int .i64 (-(x * y)), .int .i64 0]) ∧ w' = w := by
  have e0 : (x != 0) = true := by simp; omega
  go_enter Tryz.func15, Tryz.ntmps15
  go_wp2_with fail
  refine (parts_pos x _ hx).mono ?_
  rintro e w1 ⟨rfl, rfl⟩
  go_wp2_with fail
  refine (parts_negx y _ hy).mono ?_
  rintro e w1 ⟨rfl, rfl⟩
  go_wp2_with fail
  refine (join_neg (x * y) _ (by omega)).mono ?_
  rintro e w1 ⟨rfl, rfl⟩
  go_wp2
  go_ret2
  exact ⟨rfl, rfl⟩
set_option maxRecDepth 4000 in
theorem rt_pnx (x y : Int) (w : World) (hx : 0 ≤ x ∧ x ≤ 9223372036854775807) (hy : 1 ≤ y ∧ y ≤ 9223372036854775808) (h0 : 1 ≤ x) (h : 9223372036854775808 / x < y) :
    Calls Tryz.prog 15 #[.string { data := #[42] }, .int .i64 x, .int .i64 (-y)] w fun e w' => e = .returned (.tuple #[.int .i64 (0), .int .i64 9]) ∧ w' = w := by
  have e0 : (x != 0) = true := by simp; omega
  go_enter Tryz.func15, Tryz.ntmps15
  go_wp2_with fail
  refine (parts_pos x _ hx).mono ?_
  rintro e w1 ⟨rfl, rfl⟩
  go_wp2_with fail
  refine (parts_negx y _ hy).mono ?_
  rintro e w1 ⟨rfl, rfl⟩
  go_wp2
  go_ret2
  exact ⟨rfl, rfl⟩
set_option maxRecDepth 4000 in
theorem rt_np (x y : Int) (w : World) (hx : 1 ≤ x ∧ x ≤ 9223372036854775808) (hy : 0 ≤ y ∧ y ≤ 9223372036854775807) (h0 : 1 ≤ x) (h : y ≤ 9223372036854775808 / x) (hp : 0 ≤ x * y ∧ x * y ≤ 9223372036854775808) :
    Calls Tryz.prog 15 #[.string { data := #[42] }, .int .i64 (-x), .int .i64 y] w fun e w' => e = .returned (.tuple #[.int .i64 (-(x * y)), .int .i64 0]) ∧ w' = w := by
  have e0 : (x != 0) = true := by simp; omega
  go_enter Tryz.func15, Tryz.ntmps15
  go_wp2_with fail
  refine (parts_negx x _ hx).mono ?_
  rintro e w1 ⟨rfl, rfl⟩
  go_wp2_with fail
  refine (parts_pos y _ hy).mono ?_
  rintro e w1 ⟨rfl, rfl⟩
  go_wp2_with fail
  refine (join_neg (x * y) _ (by omega)).mono ?_
  rintro e w1 ⟨rfl, rfl⟩
  go_wp2
  go_ret2
  exact ⟨rfl, rfl⟩
set_option maxRecDepth 4000 in
theorem rt_npx (x y : Int) (w : World) (hx : 1 ≤ x ∧ x ≤ 9223372036854775808) (hy : 0 ≤ y ∧ y ≤ 9223372036854775807) (h0 : 1 ≤ x) (h : 9223372036854775808 / x < y) :
    Calls Tryz.prog 15 #[.string { data := #[42] }, .int .i64 (-x), .int .i64 y] w fun e w' => e = .returned (.tuple #[.int .i64 (0), .int .i64 9]) ∧ w' = w := by
  have e0 : (x != 0) = true := by simp; omega
  go_enter Tryz.func15, Tryz.ntmps15
  go_wp2_with fail
  refine (parts_negx x _ hx).mono ?_
  rintro e w1 ⟨rfl, rfl⟩
  go_wp2_with fail
  refine (parts_pos y _ hy).mono ?_
  rintro e w1 ⟨rfl, rfl⟩
  go_wp2
  go_ret2
  exact ⟨rfl, rfl⟩
set_option maxRecDepth 4000 in
theorem rt_nn (x y : Int) (w : World) (hx : 1 ≤ x ∧ x ≤ 9223372036854775808) (hy : 1 ≤ y ∧ y ≤ 9223372036854775808) (h0 : 1 ≤ x) (h : y ≤ 9223372036854775808 / x) (hp : 0 ≤ x * y ∧ x * y ≤ 9223372036854775808) (hm : x * y ≤ 9223372036854775807) :
    Calls Tryz.prog 15 #[.string { data := #[42] }, .int .i64 (-x), .int .i64 (-y)] w fun e w' => e = .returned (.tuple #[.int .i64 (x * y), .int .i64 0]) ∧ w' = w := by
  have e0 : (x != 0) = true := by simp; omega
  go_enter Tryz.func15, Tryz.ntmps15
  go_wp2_with fail
  refine (parts_negx x _ hx).mono ?_
  rintro e w1 ⟨rfl, rfl⟩
  go_wp2_with fail
  refine (parts_negx y _ hy).mono ?_
  rintro e w1 ⟨rfl, rfl⟩
  go_wp2_with fail
  refine (join_pos (x * y) _ (by omega)).mono ?_
  rintro e w1 ⟨rfl, rfl⟩
  go_wp2
  go_ret2
  exact ⟨rfl, rfl⟩
set_option maxRecDepth 4000 in
theorem rt_nnm (x y : Int) (w : World) (hx : 1 ≤ x ∧ x ≤ 9223372036854775808) (hy : 1 ≤ y ∧ y ≤ 9223372036854775808) (h0 : 1 ≤ x) (h : y ≤ 9223372036854775808 / x) (hp : 0 ≤ x * y ∧ x * y ≤ 9223372036854775808) (hm : 9223372036854775807 < x * y) :
    Calls Tryz.prog 15 #[.string { data := #[42] }, .int .i64 (-x), .int .i64 (-y)] w fun e w' => e = .returned (.tuple #[.int .i64 (0), .int .i64 9]) ∧ w' = w := by
  have e0 : (x != 0) = true := by simp; omega
  go_enter Tryz.func15, Tryz.ntmps15
  go_wp2_with fail
  refine (parts_negx x _ hx).mono ?_
  rintro e w1 ⟨rfl, rfl⟩
  go_wp2_with fail
  refine (parts_negx y _ hy).mono ?_
  rintro e w1 ⟨rfl, rfl⟩
  go_wp2_with fail
  refine (join_posx (x * y) _ (by omega)).mono ?_
  rintro e w1 ⟨rfl, rfl⟩
  go_wp2
  go_ret2
  exact ⟨rfl, rfl⟩
set_option maxRecDepth 4000 in
theorem rt_nnx (x y : Int) (w : World) (hx : 1 ≤ x ∧ x ≤ 9223372036854775808) (hy : 1 ≤ y ∧ y ≤ 9223372036854775808) (h0 : 1 ≤ x) (h : 9223372036854775808 / x < y) :
    Calls Tryz.prog 15 #[.string { data := #[42] }, .int .i64 (-x), .int .i64 (-y)] w fun e w' => e = .returned (.tuple #[.int .i64 (0), .int .i64 9]) ∧ w' = w := by
  have e0 : (x != 0) = true := by simp; omega
  go_enter Tryz.func15, Tryz.ntmps15
  go_wp2_with fail
  refine (parts_negx x _ hx).mono ?_
  rintro e w1 ⟨rfl, rfl⟩
  go_wp2_with fail
  refine (parts_negx y _ hy).mono ?_
  rintro e w1 ⟨rfl, rfl⟩
  go_wp2
  go_ret2
  exact ⟨rfl, rfl⟩
set_option maxRecDepth 4000 in
theorem rt_0p (y : Int) (w : World) (hy : 0 ≤ y ∧ y ≤ 9223372036854775807) :
    Calls Tryz.prog 15 #[.string { data := #[42] }, .int .i64 0, .int .i64 y] w fun e w' => e = .returned (.tuple #[.int .i64 0, .int .i64 0]) ∧ w' = w := by
  go_enter Tryz.func15, Tryz.ntmps15
  go_wp2_with fail
  refine (parts_pos 0 _ (by decide)).mono ?_
  rintro e w1 ⟨rfl, rfl⟩
  go_wp2_with fail
  refine (parts_pos y _ hy).mono ?_
  rintro e w1 ⟨rfl, rfl⟩
  go_wp2_with fail
  refine (join_pos 0 _ (by decide)).mono ?_
  rintro e w1 ⟨rfl, rfl⟩
  go_wp2
  go_ret2
  exact ⟨rfl, rfl⟩
set_option maxRecDepth 4000 in
theorem rt_0n (y : Int) (w : World) (hy : 1 ≤ y ∧ y ≤ 9223372036854775808) :
    Calls Tryz.prog 15 #[.string { data := #[42] }, .int .i64 0, .int .i64 (-y)] w fun e w' => e = .returned (.tuple #[.int .i64 0, .int .i64 0]) ∧ w' = w := by
  go_enter Tryz.func15, Tryz.ntmps15
  go_wp2_with fail
  refine (parts_pos 0 _ (by decide)).mono ?_
  rintro e w1 ⟨rfl, rfl⟩
  go_wp2_with fail
  refine (parts_negx y _ hy).mono ?_
  rintro e w1 ⟨rfl, rfl⟩
  go_wp2_with fail
  refine (join_neg 0 _ (by decide)).mono ?_
  rintro e w1 ⟨rfl, rfl⟩
  go_wp2
  go_ret2
  exact ⟨rfl, rfl⟩
set_option maxRecDepth 4000 in
theorem ra_min (w : World) :
    Calls Tryz.prog 15 #[.string { data := #[43] }, .int .i64 (-9223372036854775808), .int .i64 (-9223372036854775808)] w fun e w' => e = .returned (.tuple #[.int .i64 0, .int .i64 9]) ∧ w' = w := by
  go_enter Tryz.func15, Tryz.ntmps15
  go_wp2_with fail
  refine (parts_negx 9223372036854775808 _ (by decide)).mono ?_
  rintro e w1 ⟨rfl, rfl⟩
  go_wp2_with fail
  refine (parts_negx 9223372036854775808 _ (by decide)).mono ?_
  rintro e w1 ⟨rfl, rfl⟩
  go_wp2_with fail
  refine (join_neg 0 _ (by decide)).mono ?_
  rintro e w1 ⟨rfl, rfl⟩
  go_wp2
  go_ret2
  exact ⟨rfl, rfl⟩
theorem parts_some (a : Int) (w : World) (ha : -9223372036854775808 ≤ a ∧ a ≤ 9223372036854775807) : Calls Tryz.prog 47 #[.int .i64 a] w fun e w' => (∃ (b : Bool) (m : Int), e = .returned (.tuple #[.bool b, .int .u64 m])) ∧ w' = w := by
  by_cases h : a < 0
  · exact (parts_neg a w ⟨ha.1, h⟩).mono fun e w' hh => ⟨⟨_, _, hh.1⟩, hh.2⟩
  · exact (parts_pos a w ⟨by omega, ha.2⟩).mono fun e w' hh => ⟨⟨_, _, hh.1⟩, hh.2⟩
set_option maxRecDepth 4000 in
theorem rk_none (op : ByteArray) (a b : Int) (w : World) (ha : -9223372036854775808 ≤ a ∧ a ≤ 9223372036854775807) (hb : -9223372036854775808 ≤ b ∧ b ≤ 9223372036854775807)
    (h1 : op.data.toList ≠ [43]) (h2 : op.data.toList ≠ [45]) (h3 : op.data.toList ≠ [42]) (h4 : op.data.toList ≠ [47]) (h5 : op.data.toList ≠ [37]) :
    Calls Tryz.prog 15 #[.string op, .int .i64 a, .int .i64 b] w fun e w' => e = .returned (.tuple #[.int .i64 0, .int .i64 1]) ∧ w' = w := by
  have q1 : (op.toList == [43]) = false := by rw [Lib.toList_data]; simpa using h1
  have q2 : (op.toList == [45]) = false := by rw [Lib.toList_data]; simpa using h2
  have q3 : (op.toList == [42]) = false := by rw [Lib.toList_data]; simpa using h3
  have q4 : (op.toList == [47]) = false := by rw [Lib.toList_data]; simpa using h4
  have q5 : (op.toList == [37]) = false := by rw [Lib.toList_data]; simpa using h5
  clear h1 h2 h3 h4 h5
  go_enter Tryz.func15, Tryz.ntmps15
  go_wp2_with fail
  refine (parts_some a _ ha).mono ?_
  rintro e w1 ⟨⟨p, x, rfl⟩, rfl⟩
  go_wp2_with fail
  refine (parts_some b _ hb).mono ?_
  rintro e w1 ⟨⟨q, y, rfl⟩, rfl⟩
  go_wp2
  go_ret2
  exact ⟨rfl, rfl⟩
end Go.Proofs.YtggabncpedcmdaaGreatDoor
