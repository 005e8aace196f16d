/-
  Ref5, Ref6, in one text.
-/
import Derived.Test.YtpgadbpkednjkaaGreatDoorLoD
import Derived.Test.YtpgadbpkednjkaaGreatDoorArith
import Derived.Test.YtpgadbpkednjkaaGreatDoorReckon
namespace Go.Proofs.YtpgadbpkednjkaaGreatDoor
open Go.RowKit
set_option linter.unusedVariables false

theorem div_bd (x y : Int) (hx : 0 ≤ x) (hy : 0 < y) : 0 ≤ x / y ∧ x / y ≤ x := ⟨Int.ediv_nonneg hx (by omega), Int.ediv_le_self _ hx⟩
theorem mod_bd (x y : Int) (hx : 0 ≤ x) (hy : 0 < y) : 0 ≤ x % y ∧ x % y ≤ x := ⟨Int.emod_nonneg _ (by omega), by
  have h1 := Int.mul_ediv_add_emod x y
  have h2 : 0 ≤ y * (x / y) := Int.mul_nonneg (by omega) (Int.ediv_nonneg hx (by omega))
  omega⟩
theorem parts_negx (x : Int) (w : World) (hx : 1 ≤ x ∧ x ≤ 9223372036854775808) : Calls Tryz.prog 84 #[.int .i64 (-x)] w fun e w' => e = .returned (.tuple #[.bool true, .int .u64 x]) ∧ w' = w :=
  (parts_neg (-x) w (by omega)).mono fun e w' h => ⟨by rw [h.1, Int.neg_neg], h.2⟩
set_option maxRecDepth 4000 in
theorem ra_pp (x y : Int) (w : World) (hx : 0 ≤ x ∧ x ≤ 9223372036854775807) (hy : 0 ≤ y ∧ y ≤ 9223372036854775807) (h : x + y ≤ 9223372036854775807) :
    Calls Tryz.prog 45 #[.string { data := #[43] }, .int .i64 x, .int .i64 y] w fun e w' => e = .returned (.tuple #[.int .i64 (x + y), .int .i64 0]) ∧ w' = w := by
  go_enter Tryz.func45, Tryz.ntmps45
  go_wp2_with fail
  refine (parts_pos x _ hx).mono ?_
  rintro e w1 ⟨rfl, rfl⟩
  go_wp2_with fail
  refine (parts_pos y _ hy).mono ?_
  rintro e w1 ⟨rfl, rfl⟩
  go_wp2_with fail
  refine (join_pos (x + y) _ (by omega)).mono ?_
  rintro e w1 ⟨rfl, rfl⟩
  go_wp2
  go_ret2
  exact ⟨rfl, rfl⟩
set_option maxRecDepth 4000 in
theorem ra_ppx (x y : Int) (w : World) (hx : 0 ≤ x ∧ x ≤ 9223372036854775807) (hy : 0 ≤ y ∧ y ≤ 9223372036854775807) (h : 9223372036854775807 < x + y) :
    Calls Tryz.prog 45 #[.string { data := #[43] }, .int .i64 x, .int .i64 y] w fun e w' => e = .returned (.tuple #[.int .i64 (0), .int .i64 9]) ∧ w' = w := by
  go_enter Tryz.func45, Tryz.ntmps45
  go_wp2_with fail
  refine (parts_pos x _ hx).mono ?_
  rintro e w1 ⟨rfl, rfl⟩
  go_wp2_with fail
  refine (parts_pos y _ hy).mono ?_
  rintro e w1 ⟨rfl, rfl⟩
  go_wp2_with fail
  refine (join_posx (x + y) _ (by omega)).mono ?_
  rintro e w1 ⟨rfl, rfl⟩
  go_wp2
  go_ret2
  exact ⟨rfl, rfl⟩
set_option maxRecDepth 4000 in
theorem ra_nn (x y : Int) (w : World) (hx : 1 ≤ x ∧ x ≤ 9223372036854775808) (hy : 1 ≤ y ∧ y ≤ 9223372036854775808) (h : x + y ≤ 9223372036854775808) :
    Calls Tryz.prog 45 #[.string { data := #[43] }, .int .i64 (-x), .int .i64 (-y)] w fun e w' => e = .returned (.tuple #[.int .i64 (-(x + y)), .int .i64 0]) ∧ w' = w := by
  go_enter Tryz.func45, Tryz.ntmps45
  go_wp2_with fail
  refine (parts_negx x _ hx).mono ?_
  rintro e w1 ⟨rfl, rfl⟩
  go_wp2_with fail
  refine (parts_negx y _ hy).mono ?_
  rintro e w1 ⟨rfl, rfl⟩
  go_wp2_with fail
  refine (join_neg (x + y) _ (by omega)).mono ?_
  rintro e w1 ⟨rfl, rfl⟩
  go_wp2
  go_ret2
  exact ⟨rfl, rfl⟩
set_option maxRecDepth 4000 in
theorem ra_nnx (x y : Int) (w : World) (hx : 1 ≤ x ∧ x ≤ 9223372036854775808) (hy : 1 ≤ y ∧ y ≤ 9223372036854775808) (h : 9223372036854775808 < x + y) (h' : x + y ≤ 18446744073709551615) :
    Calls Tryz.prog 45 #[.string { data := #[43] }, .int .i64 (-x), .int .i64 (-y)] w fun e w' => e = .returned (.tuple #[.int .i64 (0), .int .i64 9]) ∧ w' = w := by
  go_enter Tryz.func45, Tryz.ntmps45
  go_wp2_with fail
  refine (parts_negx x _ hx).mono ?_
  rintro e w1 ⟨rfl, rfl⟩
  go_wp2_with fail
  refine (parts_negx y _ hy).mono ?_
  rintro e w1 ⟨rfl, rfl⟩
  go_wp2_with fail
  refine (join_negx (x + y) _ (by omega)).mono ?_
  rintro e w1 ⟨rfl, rfl⟩
  go_wp2
  go_ret2
  exact ⟨rfl, rfl⟩
set_option maxRecDepth 4000 in
theorem ra_pn1 (x y : Int) (w : World) (hx : 0 ≤ x ∧ x ≤ 9223372036854775807) (hy : 1 ≤ y ∧ y ≤ 9223372036854775808) (h : y ≤ x) :
    Calls Tryz.prog 45 #[.string { data := #[43] }, .int .i64 x, .int .i64 (-y)] w fun e w' => e = .returned (.tuple #[.int .i64 (x - y), .int .i64 0]) ∧ w' = w := by
  go_enter Tryz.func45, Tryz.ntmps45
  go_wp2_with fail
  refine (parts_pos x _ hx).mono ?_
  rintro e w1 ⟨rfl, rfl⟩
  go_wp2_with fail
  refine (parts_negx y _ hy).mono ?_
  rintro e w1 ⟨rfl, rfl⟩
  go_wp2_with fail
  refine (join_pos (x - y) _ (by omega)).mono ?_
  rintro e w1 ⟨rfl, rfl⟩
  go_wp2
  go_ret2
  exact ⟨rfl, rfl⟩
set_option maxRecDepth 4000 in
theorem ra_pn2 (x y : Int) (w : World) (hx : 0 ≤ x ∧ x ≤ 9223372036854775807) (hy : 1 ≤ y ∧ y ≤ 9223372036854775808) (h : x < y) :
    Calls Tryz.prog 45 #[.string { data := #[43] }, .int .i64 x, .int .i64 (-y)] w fun e w' => e = .returned (.tuple #[.int .i64 (-(y - x)), .int .i64 0]) ∧ w' = w := by
  go_enter Tryz.func45, Tryz.ntmps45
  go_wp2_with fail
  refine (parts_pos x _ hx).mono ?_
  rintro e w1 ⟨rfl, rfl⟩
  go_wp2_with fail
  refine (parts_negx y _ hy).mono ?_
  rintro e w1 ⟨rfl, rfl⟩
  go_wp2_with fail
  refine (join_neg (y - x) _ (by omega)).mono ?_
  rintro e w1 ⟨rfl, rfl⟩
  go_wp2
  go_ret2
  exact ⟨rfl, rfl⟩
set_option maxRecDepth 4000 in
theorem ra_np1 (x y : Int) (w : World) (hx : 1 ≤ x ∧ x ≤ 9223372036854775808) (hy : 0 ≤ y ∧ y ≤ 9223372036854775807) (h : y ≤ x) :
    Calls Tryz.prog 45 #[.string { data := #[43] }, .int .i64 (-x), .int .i64 y] w fun e w' => e = .returned (.tuple #[.int .i64 (-(x - y)), .int .i64 0]) ∧ w' = w := by
  go_enter Tryz.func45, Tryz.ntmps45
  go_wp2_with fail
  refine (parts_negx x _ hx).mono ?_
  rintro e w1 ⟨rfl, rfl⟩
  go_wp2_with fail
  refine (parts_pos y _ hy).mono ?_
  rintro e w1 ⟨rfl, rfl⟩
  go_wp2_with fail
  refine (join_neg (x - y) _ (by omega)).mono ?_
  rintro e w1 ⟨rfl, rfl⟩
  go_wp2
  go_ret2
  exact ⟨rfl, rfl⟩
set_option maxRecDepth 4000 in
theorem ra_np2 (x y : Int) (w : World) (hx : 1 ≤ x ∧ x ≤ 9223372036854775808) (hy : 0 ≤ y ∧ y ≤ 9223372036854775807) (h : x < y) :
    Calls Tryz.prog 45 #[.string { data := #[43] }, .int .i64 (-x), .int .i64 y] w fun e w' => e = .returned (.tuple #[.int .i64 (y - x), .int .i64 0]) ∧ w' = w := by
  go_enter Tryz.func45, Tryz.ntmps45
  go_wp2_with fail
  refine (parts_negx x _ hx).mono ?_
  rintro e w1 ⟨rfl, rfl⟩
  go_wp2_with fail
  refine (parts_pos y _ hy).mono ?_
  rintro e w1 ⟨rfl, rfl⟩
  go_wp2_with fail
  refine (join_pos (y - x) _ (by omega)).mono ?_
  rintro e w1 ⟨rfl, rfl⟩
  go_wp2
  go_ret2
  exact ⟨rfl, rfl⟩
set_option maxRecDepth 4000 in
theorem rs_p0 (x y : Int) (w : World) (hx : 0 ≤ x ∧ x ≤ 9223372036854775807) (hy : 0 ≤ y ∧ y ≤ 9223372036854775807) (h : y = 0) :
    Calls Tryz.prog 45 #[.string { data := #[45] }, .int .i64 x, .int .i64 y] w fun e w' => e = .returned (.tuple #[.int .i64 (x), .int .i64 0]) ∧ w' = w := by
  subst h
  go_enter Tryz.func45, Tryz.ntmps45
  go_wp2_with fail
  refine (parts_pos x _ hx).mono ?_
  rintro e w1 ⟨rfl, rfl⟩
  go_wp2_with fail
  refine (parts_pos 0 _ (by decide)).mono ?_
  rintro e w1 ⟨rfl, rfl⟩
  go_wp2_with fail
  refine (join_pos (x) _ (by omega)).mono ?_
  rintro e w1 ⟨rfl, rfl⟩
  go_wp2
  go_ret2
  exact ⟨rfl, rfl⟩
set_option maxRecDepth 4000 in
theorem rs_n0 (x y : Int) (w : World) (hx : 1 ≤ x ∧ x ≤ 9223372036854775808) (hy : 0 ≤ y ∧ y ≤ 9223372036854775807) (h : y = 0) :
    Calls Tryz.prog 45 #[.string { data := #[45] }, .int .i64 (-x), .int .i64 y] w fun e w' => e = .returned (.tuple #[.int .i64 (-x), .int .i64 0]) ∧ w' = w := by
  subst h
  go_enter Tryz.func45, Tryz.ntmps45
  go_wp2_with fail
  refine (parts_negx x _ hx).mono ?_
  rintro e w1 ⟨rfl, rfl⟩
  go_wp2_with fail
  refine (parts_pos 0 _ (by decide)).mono ?_
  rintro e w1 ⟨rfl, rfl⟩
  go_wp2_with fail
  refine (join_neg (x) _ (by omega)).mono ?_
  rintro e w1 ⟨rfl, rfl⟩
  go_wp2
  go_ret2
  exact ⟨rfl, rfl⟩
set_option maxRecDepth 4000 in
theorem rs_pp1 (x y : Int) (w : World) (hx : 0 ≤ x ∧ x ≤ 9223372036854775807) (hy : 0 ≤ y ∧ y ≤ 9223372036854775807) (h0 : 0 < y) (h : y ≤ x) :
    Calls Tryz.prog 45 #[.string { data := #[45] }, .int .i64 x, .int .i64 y] w fun e w' => e = .returned (.tuple #[.int .i64 (x - y), .int .i64 0]) ∧ w' = w := by
  go_enter Tryz.func45, Tryz.ntmps45
  go_wp2_with fail
  refine (parts_pos x _ hx).mono ?_
  rintro e w1 ⟨rfl, rfl⟩
  go_wp2_with fail
  refine (parts_pos y _ hy).mono ?_
  rintro e w1 ⟨rfl, rfl⟩
  go_wp2_with fail
  refine (join_pos (x - y) _ (by omega)).mono ?_
  rintro e w1 ⟨rfl, rfl⟩
  go_wp2
  go_ret2
  exact ⟨rfl, rfl⟩
set_option maxRecDepth 4000 in
theorem rs_pp2 (x y : Int) (w : World) (hx : 0 ≤ x ∧ x ≤ 9223372036854775807) (hy : 0 ≤ y ∧ y ≤ 9223372036854775807) (h0 : 0 < y) (h : x < y) :
    Calls Tryz.prog 45 #[.string { data := #[45] }, .int .i64 x, .int .i64 y] w fun e w' => e = .returned (.tuple #[.int .i64 (-(y - x)), .int .i64 0]) ∧ w' = w := by
  go_enter Tryz.func45, Tryz.ntmps45
  go_wp2_with fail
  refine (parts_pos x _ hx).mono ?_
  rintro e w1 ⟨rfl, rfl⟩
  go_wp2_with fail
  refine (parts_pos y _ hy).mono ?_
  rintro e w1 ⟨rfl, rfl⟩
  go_wp2_with fail
  refine (join_neg (y - x) _ (by omega)).mono ?_
  rintro e w1 ⟨rfl, rfl⟩
  go_wp2
  go_ret2
  exact ⟨rfl, rfl⟩
set_option maxRecDepth 4000 in
theorem rs_np (x y : Int) (w : World) (hx : 1 ≤ x ∧ x ≤ 9223372036854775808) (hy : 0 ≤ y ∧ y ≤ 9223372036854775807) (h0 : 0 < y) (h : x + y ≤ 9223372036854775808) :
    Calls Tryz.prog 45 #[.string { data := #[45] }, .int .i64 (-x), .int .i64 y] w fun e w' => e = .returned (.tuple #[.int .i64 (-(x + y)), .int .i64 0]) ∧ w' = w := by
  go_enter Tryz.func45, Tryz.ntmps45
  go_wp2_with fail
  refine (parts_negx x _ hx).mono ?_
  rintro e w1 ⟨rfl, rfl⟩
  go_wp2_with fail
  refine (parts_pos y _ hy).mono ?_
  rintro e w1 ⟨rfl, rfl⟩
  go_wp2_with fail
  refine (join_neg (x + y) _ (by omega)).mono ?_
  rintro e w1 ⟨rfl, rfl⟩
  go_wp2
  go_ret2
  exact ⟨rfl, rfl⟩
set_option maxRecDepth 4000 in
theorem rs_npx (x y : Int) (w : World) (hx : 1 ≤ x ∧ x ≤ 9223372036854775808) (hy : 0 ≤ y ∧ y ≤ 9223372036854775807) (h0 : 0 < y) (h : 9223372036854775808 < x + y) :
    Calls Tryz.prog 45 #[.string { data := #[45] }, .int .i64 (-x), .int .i64 y] w fun e w' => e = .returned (.tuple #[.int .i64 (0), .int .i64 9]) ∧ w' = w := by
  go_enter Tryz.func45, Tryz.ntmps45
  go_wp2_with fail
  refine (parts_negx x _ hx).mono ?_
  rintro e w1 ⟨rfl, rfl⟩
  go_wp2_with fail
  refine (parts_pos y _ hy).mono ?_
  rintro e w1 ⟨rfl, rfl⟩
  go_wp2_with fail
  refine (join_negx (x + y) _ (by omega)).mono ?_
  rintro e w1 ⟨rfl, rfl⟩
  go_wp2
  go_ret2
  exact ⟨rfl, rfl⟩
set_option maxRecDepth 4000 in
theorem rs_pn (x y : Int) (w : World) (hx : 0 ≤ x ∧ x ≤ 9223372036854775807) (hy : 1 ≤ y ∧ y ≤ 9223372036854775808) (h0 : 0 < y) (h : x + y ≤ 9223372036854775807) :
    Calls Tryz.prog 45 #[.string { data := #[45] }, .int .i64 x, .int .i64 (-y)] w fun e w' => e = .returned (.tuple #[.int .i64 (x + y), .int .i64 0]) ∧ w' = w := by
  go_enter Tryz.func45, Tryz.ntmps45
  go_wp2_with fail
  refine (parts_pos x _ hx).mono ?_
  rintro e w1 ⟨rfl, rfl⟩
  go_wp2_with fail
  refine (parts_negx y _ hy).mono ?_
  rintro e w1 ⟨rfl, rfl⟩
  go_wp2_with fail
  refine (join_pos (x + y) _ (by omega)).mono ?_
  rintro e w1 ⟨rfl, rfl⟩
  go_wp2
  go_ret2
  exact ⟨rfl, rfl⟩
set_option maxRecDepth 4000 in
theorem rs_pnx (x y : Int) (w : World) (hx : 0 ≤ x ∧ x ≤ 9223372036854775807) (hy : 1 ≤ y ∧ y ≤ 9223372036854775808) (h0 : 0 < y) (h : 9223372036854775807 < x + y) :
    Calls Tryz.prog 45 #[.string { data := #[45] }, .int .i64 x, .int .i64 (-y)] w fun e w' => e = .returned (.tuple #[.int .i64 (0), .int .i64 9]) ∧ w' = w := by
  go_enter Tryz.func45, Tryz.ntmps45
  go_wp2_with fail
  refine (parts_pos x _ hx).mono ?_
  rintro e w1 ⟨rfl, rfl⟩
  go_wp2_with fail
  refine (parts_negx y _ hy).mono ?_
  rintro e w1 ⟨rfl, rfl⟩
  go_wp2_with fail
  refine (join_posx (x + y) _ (by omega)).mono ?_
  rintro e w1 ⟨rfl, rfl⟩
  go_wp2
  go_ret2
  exact ⟨rfl, rfl⟩
set_option maxRecDepth 4000 in
theorem rs_nn1 (x y : Int) (w : World) (hx : 1 ≤ x ∧ x ≤ 9223372036854775808) (hy : 1 ≤ y ∧ y ≤ 9223372036854775808) (h0 : 0 < y) (h : y ≤ x) :
    Calls Tryz.prog 45 #[.string { data := #[45] }, .int .i64 (-x), .int .i64 (-y)] w fun e w' => e = .returned (.tuple #[.int .i64 (-(x - y)), .int .i64 0]) ∧ w' = w := by
  go_enter Tryz.func45, Tryz.ntmps45
  go_wp2_with fail
  refine (parts_negx x _ hx).mono ?_
  rintro e w1 ⟨rfl, rfl⟩
  go_wp2_with fail
  refine (parts_negx y _ hy).mono ?_
  rintro e w1 ⟨rfl, rfl⟩
  go_wp2_with fail
  refine (join_neg (x - y) _ (by omega)).mono ?_
  rintro e w1 ⟨rfl, rfl⟩
  go_wp2
  go_ret2
  exact ⟨rfl, rfl⟩
set_option maxRecDepth 4000 in
theorem rs_nn2 (x y : Int) (w : World) (hx : 1 ≤ x ∧ x ≤ 9223372036854775808) (hy : 1 ≤ y ∧ y ≤ 9223372036854775808) (h0 : 0 < y) (h : x < y) :
    Calls Tryz.prog 45 #[.string { data := #[45] }, .int .i64 (-x), .int .i64 (-y)] w fun e w' => e = .returned (.tuple #[.int .i64 (y - x), .int .i64 0]) ∧ w' = w := by
  go_enter Tryz.func45, Tryz.ntmps45
  go_wp2_with fail
  refine (parts_negx x _ hx).mono ?_
  rintro e w1 ⟨rfl, rfl⟩
  go_wp2_with fail
  refine (parts_negx y _ hy).mono ?_
  rintro e w1 ⟨rfl, rfl⟩
  go_wp2_with fail
  refine (join_pos (y - x) _ (by omega)).mono ?_
  rintro e w1 ⟨rfl, rfl⟩
  go_wp2
  go_ret2
  exact ⟨rfl, rfl⟩
set_option maxRecDepth 4000 in
theorem rd_pp (x y : Int) (w : World) (hx : 0 ≤ x ∧ x ≤ 9223372036854775807) (hy : 0 ≤ y ∧ y ≤ 9223372036854775807) (h0 : 0 < y) (hm : x / y ≤ 9223372036854775807) :
    Calls Tryz.prog 45 #[.string { data := #[47] }, .int .i64 x, .int .i64 y] w fun e w' => e = .returned (.tuple #[.int .i64 (x / y), .int .i64 0]) ∧ w' = w := by
  have hq0 : 0 ≤ x / y ∧ x / y ≤ x := div_bd x y (by omega) (by omega)
  go_enter Tryz.func45, Tryz.ntmps45
  go_wp2_with fail
  refine (parts_pos x _ hx).mono ?_
  rintro e w1 ⟨rfl, rfl⟩
  go_wp2_with fail
  refine (parts_pos y _ hy).mono ?_
  rintro e w1 ⟨rfl, rfl⟩
  go_wp2_with fail
  refine (join_pos (x / y) _ (by omega)).mono ?_
  rintro e w1 ⟨rfl, rfl⟩
  go_wp2
  go_ret2
  exact ⟨rfl, rfl⟩
set_option maxRecDepth 4000 in
theorem rd_pn (x y : Int) (w : World) (hx : 0 ≤ x ∧ x ≤ 9223372036854775807) (hy : 1 ≤ y ∧ y ≤ 9223372036854775808) (h0 : 0 < y) :
    Calls Tryz.prog 45 #[.string { data := #[47] }, .int .i64 x, .int .i64 (-y)] w fun e w' => e = .returned (.tuple #[.int .i64 (-(x / y)), .int .i64 0]) ∧ w' = w := by
  have hq0 : 0 ≤ x / y ∧ x / y ≤ x := div_bd x y (by omega) (by omega)
  go_enter Tryz.func45, Tryz.ntmps45
  go_wp2_with fail
  refine (parts_pos x _ hx).mono ?_
  rintro e w1 ⟨rfl, rfl⟩
  go_wp2_with fail
  refine (parts_negx y _ hy).mono ?_
  rintro e w1 ⟨rfl, rfl⟩
  go_wp2_with fail
  refine (join_neg (x / y) _ (by omega)).mono ?_
  rintro e w1 ⟨rfl, rfl⟩
  go_wp2
  go_ret2
  exact ⟨rfl, rfl⟩
set_option maxRecDepth 4000 in
theorem rd_np (x y : Int) (w : World) (hx : 1 ≤ x ∧ x ≤ 9223372036854775808) (hy : 0 ≤ y ∧ y ≤ 9223372036854775807) (h0 : 0 < y) :
    Calls Tryz.prog 45 #[.string { data := #[47] }, .int .i64 (-x), .int .i64 y] w fun e w' => e = .returned (.tuple #[.int .i64 (-(x / y)), .int .i64 0]) ∧ w' = w := by
  have hq0 : 0 ≤ x / y ∧ x / y ≤ x := div_bd x y (by omega) (by omega)
  go_enter Tryz.func45, Tryz.ntmps45
  go_wp2_with fail
  refine (parts_negx x _ hx).mono ?_
  rintro e w1 ⟨rfl, rfl⟩
  go_wp2_with fail
  refine (parts_pos y _ hy).mono ?_
  rintro e w1 ⟨rfl, rfl⟩
  go_wp2_with fail
  refine (join_neg (x / y) _ (by omega)).mono ?_
  rintro e w1 ⟨rfl, rfl⟩
  go_wp2
  go_ret2
  exact ⟨rfl, rfl⟩
set_option maxRecDepth 4000 in
theorem rd_nn (x y : Int) (w : World) (hx : 1 ≤ x ∧ x ≤ 9223372036854775808) (hy : 1 ≤ y ∧ y ≤ 9223372036854775808) (h0 : 0 < y) (hm : x / y ≤ 9223372036854775807) :
    Calls Tryz.prog 45 #[.string { data := #[47] }, .int .i64 (-x), .int .i64 (-y)] w fun e w' => e = .returned (.tuple #[.int .i64 (x / y), .int .i64 0]) ∧ w' = w := by
  have hq0 : 0 ≤ x / y ∧ x / y ≤ x := div_bd x y (by omega) (by omega)
  go_enter Tryz.func45, Tryz.ntmps45
  go_wp2_with fail
  refine (parts_negx x _ hx).mono ?_
  rintro e w1 ⟨rfl, rfl⟩
  go_wp2_with fail
  refine (parts_negx y _ hy).mono ?_
  rintro e w1 ⟨rfl, rfl⟩
  go_wp2_with fail
  refine (join_pos (x / y) _ (by omega)).mono ?_
  rintro e w1 ⟨rfl, rfl⟩
  go_wp2
  go_ret2
  exact ⟨rfl, rfl⟩
set_option maxRecDepth 4000 in
theorem rd_nnx (x y : Int) (w : World) (hx : 1 ≤ x ∧ x ≤ 9223372036854775808) (hy : 1 ≤ y ∧ y ≤ 9223372036854775808) (h0 : 0 < y) (hm : 9223372036854775807 < x / y) :
    Calls Tryz.prog 45 #[.string { data := #[47] }, .int .i64 (-x), .int .i64 (-y)] w fun e w' => e = .returned (.tuple #[.int .i64 0, .int .i64 9]) ∧ w' = w := by
  have hq0 : 0 ≤ x / y ∧ x / y ≤ x := div_bd x y (by omega) (by omega)
  go_enter Tryz.func45, Tryz.ntmps45
  go_wp2_with fail
  refine (parts_negx x _ hx).mono ?_
  rintro e w1 ⟨rfl, rfl⟩
  go_wp2_with fail
  refine (parts_negx y _ hy).mono ?_
  rintro e w1 ⟨rfl, rfl⟩
  go_wp2_with fail
  refine (join_posx (x / y) _ (by omega)).mono ?_
  rintro e w1 ⟨rfl, rfl⟩
  go_wp2
  go_ret2
  exact ⟨rfl, rfl⟩
set_option maxRecDepth 4000 in
theorem rd_p0 (x y : Int) (w : World) (hx : 0 ≤ x ∧ x ≤ 9223372036854775807) (hy : 0 ≤ y ∧ y ≤ 9223372036854775807) (h : y = 0) :
    Calls Tryz.prog 45 #[.string { data := #[47] }, .int .i64 x, .int .i64 y] w fun e w' => e = .returned (.tuple #[.int .i64 (0), .int .i64 9]) ∧ w' = w := by
  subst h
  go_enter Tryz.func45, Tryz.ntmps45
  go_wp2_with fail
  refine (parts_pos x _ hx).mono ?_
  rintro e w1 ⟨rfl, rfl⟩
  go_wp2_with fail
  refine (parts_pos 0 _ (by decide)).mono ?_
  rintro e w1 ⟨rfl, rfl⟩
  go_wp2
  go_ret2
  exact ⟨rfl, rfl⟩
set_option maxRecDepth 4000 in
theorem rd_n0 (x y : Int) (w : World) (hx : 1 ≤ x ∧ x ≤ 9223372036854775808) (hy : 0 ≤ y ∧ y ≤ 9223372036854775807) (h : y = 0) :
    Calls Tryz.prog 45 #[.string { data := #[47] }, .int .i64 (-x), .int .i64 y] w fun e w' => e = .returned (.tuple #[.int .i64 (0), .int .i64 9]) ∧ w' = w := by
  subst h
  go_enter Tryz.func45, Tryz.ntmps45
  go_wp2_with fail
  refine (parts_negx x _ hx).mono ?_
  rintro e w1 ⟨rfl, rfl⟩
  go_wp2_with fail
  refine (parts_pos 0 _ (by decide)).mono ?_
  rintro e w1 ⟨rfl, rfl⟩
  go_wp2
  go_ret2
  exact ⟨rfl, rfl⟩
set_option maxRecDepth 4000 in
theorem rm_pp (x y : Int) (w : World) (hx : 0 ≤ x ∧ x ≤ 9223372036854775807) (hy : 0 ≤ y ∧ y ≤ 9223372036854775807) (h0 : 0 < y) (hm : x % y ≤ 9223372036854775807) :
    Calls Tryz.prog 45 #[.string { data := #[37] }, .int .i64 x, .int .i64 y] w fun e w' => e = .returned (.tuple #[.int .i64 (x % y), .int .i64 0]) ∧ w' = w := by
  have hq0 : 0 ≤ x % y ∧ x % y ≤ x := mod_bd x y (by omega) (by omega)
  go_enter Tryz.func45, Tryz.ntmps45
  go_wp2_with fail
  refine (parts_pos x _ hx).mono ?_
  rintro e w1 ⟨rfl, rfl⟩
  go_wp2_with fail
  refine (parts_pos y _ hy).mono ?_
  rintro e w1 ⟨rfl, rfl⟩
  go_wp2_with fail
  refine (join_pos (x % y) _ (by omega)).mono ?_
  rintro e w1 ⟨rfl, rfl⟩
  go_wp2
  go_ret2
  exact ⟨rfl, rfl⟩
set_option maxRecDepth 4000 in
theorem rm_pn (x y : Int) (w : World) (hx : 0 ≤ x ∧ x ≤ 9223372036854775807) (hy : 1 ≤ y ∧ y ≤ 9223372036854775808) (h0 : 0 < y) (hm : x % y ≤ 9223372036854775807) :
    Calls Tryz.prog 45 #[.string { data := #[37] }, .int .i64 x, .int .i64 (-y)] w fun e w' => e = .returned (.tuple #[.int .i64 (x % y), .int .i64 0]) ∧ w' = w := by
  have hq0 : 0 ≤ x % y ∧ x % y ≤ x := mod_bd x y (by omega) (by omega)
  go_enter Tryz.func45, Tryz.ntmps45
  go_wp2_with fail
  refine (parts_pos x _ hx).mono ?_
  rintro e w1 ⟨rfl, rfl⟩
  go_wp2_with fail
  refine (parts_negx y _ hy).mono ?_
  rintro e w1 ⟨rfl, rfl⟩
  go_wp2_with fail
  refine (join_pos (x % y) _ (by omega)).mono ?_
  rintro e w1 ⟨rfl, rfl⟩
  go_wp2
  go_ret2
  exact ⟨rfl, rfl⟩
set_option maxRecDepth 4000 in
theorem rm_np (x y : Int) (w : World) (hx : 1 ≤ x ∧ x ≤ 9223372036854775808) (hy : 0 ≤ y ∧ y ≤ 9223372036854775807) (h0 : 0 < y) :
    Calls Tryz.prog 45 #[.string { data := #[37] }, .int .i64 (-x), .int .i64 y] w fun e w' => e = .returned (.tuple #[.int .i64 (-(x % y)), .int .i64 0]) ∧ w' = w := by
  have hq0 : 0 ≤ x % y ∧ x % y ≤ x := mod_bd x y (by omega) (by omega)
  go_enter Tryz.func45, Tryz.ntmps45
  go_wp2_with fail
  refine (parts_negx x _ hx).mono ?_
  rintro e w1 ⟨rfl, rfl⟩
  go_wp2_with fail
  refine (parts_pos y _ hy).mono ?_
  rintro e w1 ⟨rfl, rfl⟩
  go_wp2_with fail
  refine (join_neg (x % y) _ (by omega)).mono ?_
  rintro e w1 ⟨rfl, rfl⟩
  go_wp2
  go_ret2
  exact ⟨rfl, rfl⟩
set_option maxRecDepth 4000 in
theorem rm_nn (x y : Int) (w : World) (hx : 1 ≤ x ∧ x ≤ 9223372036854775808) (hy : 1 ≤ y ∧ y ≤ 9223372036854775808) (h0 : 0 < y) :
    Calls Tryz.prog 45 #[.string { data := #[37] }, .int .i64 (-x), .int .i64 (-y)] w fun e w' => e = .returned (.tuple #[.int .i64 (-(x % y)), .int .i64 0]) ∧ w' = w := by
  have hq0 : 0 ≤ x % y ∧ x % y ≤ x := mod_bd x y (by omega) (by omega)
  go_enter Tryz.func45, Tryz.ntmps45
  go_wp2_with fail
  refine (parts_negx x _ hx).mono ?_
  rintro e w1 ⟨rfl, rfl⟩
  go_wp2_with fail
  refine (parts_negx y _ hy).mono ?_
  rintro e w1 ⟨rfl, rfl⟩
  go_wp2_with fail
  refine (join_neg (x % y) _ (by omega)).mono ?_
  rintro e w1 ⟨rfl, rfl⟩
  go_wp2
  go_ret2
  exact ⟨rfl, rfl⟩
set_option maxRecDepth 4000 in
theorem rm_p0 (x y : Int) (w : World) (hx : 0 ≤ x ∧ x ≤ 9223372036854775807) (hy : 0 ≤ y ∧ y ≤ 9223372036854775807) (h : y = 0) :
    Calls Tryz.prog 45 #[.string { data := #[37] }, .int .i64 x, .int .i64 y] w fun e w' => e = .returned (.tuple #[.int .i64 (0), .int .i64 9]) ∧ w' = w := by
  subst h
  go_enter Tryz.func45, Tryz.ntmps45
  go_wp2_with fail
  refine (parts_pos x _ hx).mono ?_
  rintro e w1 ⟨rfl, rfl⟩
  go_wp2_with fail
  refine (parts_pos 0 _ (by decide)).mono ?_
  rintro e w1 ⟨rfl, rfl⟩
  go_wp2
  go_ret2
  exact ⟨rfl, rfl⟩
set_option maxRecDepth 4000 in
theorem rm_n0 (x y : Int) (w : World) (hx : 1 ≤ x ∧ x ≤ 9223372036854775808) (hy : 0 ≤ y ∧ y ≤ 9223372036854775807) (h : y = 0) :
    Calls Tryz.prog 45 #[.string { data := #[37] }, .int .i64 (-x), .int .i64 y] w fun e w' => e = .returned (.tuple #[.int .i64 (0), .int .i64 9]) ∧ w' = w := by
  subst h
  go_enter Tryz.func45, Tryz.ntmps45
  go_wp2_with fail
  refine (parts_negx x _ hx).mono ?_
  rintro e w1 ⟨rfl, rfl⟩
  go_wp2_with fail
  refine (parts_pos 0 _ (by decide)).mono ?_
  rintro e w1 ⟨rfl, rfl⟩
  go_wp2
  go_ret2
  exact ⟨rfl, rfl⟩
set_option maxRecDepth 4000 in
theorem rt_pp (x y : Int) (w : World) (hx : 0 ≤ x ∧ x ≤ 9223372036854775807) (hy : 0 ≤ y ∧ y ≤ 9223372036854775807) (h0 : 1 ≤ x) (h : y ≤ 9223372036854775808 / x) (hp : 0 ≤ x * y ∧ x * y ≤ 9223372036854775808) (hm : x * y ≤ 9223372036854775807) :
    Calls Tryz.prog 45 #[.string { data := #[42] }, .int .i64 x, .int .i64 y] w fun e w' => e = .returned (.tuple #[.int .i64 (x * y), .int .i64 0]) ∧ w' = w := by
  have e0 : (x != 0) = true := by simp; omega
  go_enter Tryz.func45, Tryz.ntmps45
  go_wp2_with fail
  refine (parts_pos x _ hx).mono ?_
  rintro e w1 ⟨rfl, rfl⟩
  go_wp2_with fail
  refine (parts_pos y _ hy).mono ?_
  rintro e w1 ⟨rfl, rfl⟩
  go_wp2_with fail
  refine (join_pos (x * y) _ (by omega)).mono ?_
  rintro e w1 ⟨rfl, rfl⟩
  go_wp2
  go_ret2
  exact ⟨rfl, rfl⟩
set_option maxRecDepth 4000 in
theorem rt_ppm (x y : Int) (w : World) (hx : 0 ≤ x ∧ x ≤ 9223372036854775807) (hy : 0 ≤ y ∧ y ≤ 9223372036854775807) (h0 : 1 ≤ x) (h : y ≤ 9223372036854775808 / x) (hp : 0 ≤ x * y ∧ x * y ≤ 9223372036854775808) (hm : 9223372036854775807 < x * y) :
    Calls Tryz.prog 45 #[.string { data := #[42] }, .int .i64 x, .int .i64 y] w fun e w' => e = .returned (.tuple #[.int .i64 (0), .int .i64 9]) ∧ w' = w := by
  have e0 : (x != 0) = true := by simp; omega
  go_enter Tryz.func45, Tryz.ntmps45
  go_wp2_with fail
  refine (parts_pos x _ hx).mono ?_
  rintro e w1 ⟨rfl, rfl⟩
  go_wp2_with fail
  refine (parts_pos y _ hy).mono ?_
  rintro e w1 ⟨rfl, rfl⟩
  go_wp2_with fail
  refine (join_posx (x * y) _ (by omega)).mono ?_
  rintro e w1 ⟨rfl, rfl⟩
  go_wp2
  go_ret2
  exact ⟨rfl, rfl⟩
set_option maxRecDepth 4000 in
theorem rt_ppx (x y : Int) (w : World) (hx : 0 ≤ x ∧ x ≤ 9223372036854775807) (hy : 0 ≤ y ∧ y ≤ 9223372036854775807) (h0 : 1 ≤ x) (h : 9223372036854775808 / x < y) :
    Calls Tryz.prog 45 #[.string { data := #[42] }, .int .i64 x, .int .i64 y] w fun e w' => e = .returned (.tuple #[.int .i64 (0), .int .i64 9]) ∧ w' = w := by
  have e0 : (x != 0) = true := by simp; omega
  go_enter Tryz.func45, Tryz.ntmps45
  go_wp2_with fail
  refine (parts_pos x _ hx).mono ?_
  rintro e w1 ⟨rfl, rfl⟩
  go_wp2_with fail
  refine (parts_pos y _ hy).mono ?_
  rintro e w1 ⟨rfl, rfl⟩
  go_wp2
  go_ret2
  exact ⟨rfl, rfl⟩
set_option maxRecDepth 4000 in
theorem rt_pn (x y : Int) (w : World) (hx : 0 ≤ x ∧ x ≤ 9223372036854775807) (hy : 1 ≤ y ∧ y ≤ 9223372036854775808) (h0 : 1 ≤ x) (h : y ≤ 9223372036854775808 / x) (hp : 0 ≤ x * y ∧ x * y ≤ 9223372036854775808) :
    Calls Tryz.prog 45 #[.string { data := #[42] }, .int .i64 x, .int .i64 (-y)] w fun e w' => e = .returned (.tuple #[.int .i64 (-(x * y)), .int .i64 0]) ∧ w' = w := by
  have e0 : (x != 0) = true := by simp; omega
  go_enter Tryz.func45, Tryz.ntmps45
  go_wp2_with fail
  refine (parts_pos x _ hx).mono ?_
  rintro e w1 ⟨rfl, rfl⟩
  go_wp2_with fail
  refine (parts_negx y _ hy).mono ?_
  rintro e w1 ⟨rfl, rfl⟩
  go_wp2_with fail
  refine (join_neg (x * y) _ (by omega)).mono ?_
  rintro e w1 ⟨rfl, rfl⟩
  go_wp2
  go_ret2
  exact ⟨rfl, rfl⟩
set_option maxRecDepth 4000 in
theorem rt_pnx (x y : Int) (w : World) (hx : 0 ≤ x ∧ x ≤ 9223372036854775807) (hy : 1 ≤ y ∧ y ≤ 9223372036854775808) (h0 : 1 ≤ x) (h : 9223372036854775808 / x < y) :
    Calls Tryz.prog 45 #[.string { data := #[42] }, .int .i64 x, .int .i64 (-y)] w fun e w' => e = .returned (.tuple #[.int .i64 (0), .int .i64 9]) ∧ w' = w := by
  have e0 : (x != 0) = true := by simp; omega
  go_enter Tryz.func45, Tryz.ntmps45
  go_wp2_with fail
  refine (parts_pos x _ hx).mono ?_
  rintro e w1 ⟨rfl, rfl⟩
  go_wp2_with fail
  refine (parts_negx y _ hy).mono ?_
  rintro e w1 ⟨rfl, rfl⟩
  go_wp2
  go_ret2
  exact ⟨rfl, rfl⟩
set_option maxRecDepth 4000 in
theorem rt_np (x y : Int) (w : World) (hx : 1 ≤ x ∧ x ≤ 9223372036854775808) (hy : 0 ≤ y ∧ y ≤ 9223372036854775807) (h0 : 1 ≤ x) (h : y ≤ 9223372036854775808 / x) (hp : 0 ≤ x * y ∧ x * y ≤ 9223372036854775808) :
    Calls Tryz.prog 45 #[.string { data := #[42] }, .int .i64 (-x), .int .i64 y] w fun e w' => e = .returned (.tuple #[.int .i64 (-(x * y)), .int .i64 0]) ∧ w' = w := by
  have e0 : (x != 0) = true := by simp; omega
  go_enter Tryz.func45, Tryz.ntmps45
  go_wp2_with fail
  refine (parts_negx x _ hx).mono ?_
  rintro e w1 ⟨rfl, rfl⟩
  go_wp2_with fail
  refine (parts_pos y _ hy).mono ?_
  rintro e w1 ⟨rfl, rfl⟩
  go_wp2_with fail
  refine (join_neg (x * y) _ (by omega)).mono ?_
  rintro e w1 ⟨rfl, rfl⟩
  go_wp2
  go_ret2
  exact ⟨rfl, rfl⟩
set_option maxRecDepth 4000 in
theorem rt_npx (x y : Int) (w : World) (hx : 1 ≤ x ∧ x ≤ 9223372036854775808) (hy : 0 ≤ y ∧ y ≤ 9223372036854775807) (h0 : 1 ≤ x) (h : 9223372036854775808 / x < y) :
    Calls Tryz.prog 45 #[.string { data := #[42] }, .int .i64 (-x), .int .i64 y] w fun e w' => e = .returned (.tuple #[.int .i64 (0), .int .i64 9]) ∧ w' = w := by
  have e0 : (x != 0) = true := by simp; omega
  go_enter Tryz.func45, Tryz.ntmps45
  go_wp2_with fail
  refine (parts_negx x _ hx).mono ?_
  rintro e w1 ⟨rfl, rfl⟩
  go_wp2_with fail
  refine (parts_pos y _ hy).mono ?_
  rintro e w1 ⟨rfl, rfl⟩
  go_wp2
  go_ret2
  exact ⟨rfl, rfl⟩
set_option maxRecDepth 4000 in
theorem rt_nn (x y : Int) (w : World) (hx : 1 ≤ x ∧ x ≤ 9223372036854775808) (hy : 1 ≤ y ∧ y ≤ 9223372036854775808) (h0 : 1 ≤ x) (h : y ≤ 9223372036854775808 / x) (hp : 0 ≤ x * y ∧ x * y ≤ 9223372036854775808) (hm : x * y ≤ 9223372036854775807) :
    Calls Tryz.prog 45 #[.string { data := #[42] }, .int .i64 (-x), .int .i64 (-y)] w fun e w' => e = .returned (.tuple #[.int .i64 (x * y), .int .i64 0]) ∧ w' = w := by
  have e0 : (x != 0) = true := by simp; omega
  go_enter Tryz.func45, Tryz.ntmps45
  go_wp2_with fail
  refine (parts_negx x _ hx).mono ?_
  rintro e w1 ⟨rfl, rfl⟩
  go_wp2_with fail
  refine (parts_negx y _ hy).mono ?_
  rintro e w1 ⟨rfl, rfl⟩
  go_wp2_with fail
  refine (join_pos (x * y) _ (by omega)).mono ?_
  rintro e w1 ⟨rfl, rfl⟩
  go_wp2
  go_ret2
  exact ⟨rfl, rfl⟩
set_option maxRecDepth 4000 in
theorem rt_nnm (x y : Int) (w : World) (hx : 1 ≤ x ∧ x ≤ 9223372036854775808) (hy : 1 ≤ y ∧ y ≤ 9223372036854775808) (h0 : 1 ≤ x) (h : y ≤ 9223372036854775808 / x) (hp : 0 ≤ x * y ∧ x * y ≤ 9223372036854775808) (hm : 9223372036854775807 < x * y) :
    Calls Tryz.prog 45 #[.string { data := #[42] }, .int .i64 (-x), .int .i64 (-y)] w fun e w' => e = .returned (.tuple #[.int .i64 (0), .int .i64 9]) ∧ w' = w := by
  have e0 : (x != 0) = true := by simp; omega
  go_enter Tryz.func45, Tryz.ntmps45
  go_wp2_with fail
  refine (parts_negx x _ hx).mono ?_
  rintro e w1 ⟨rfl, rfl⟩
  go_wp2_with fail
  refine (parts_negx y _ hy).mono ?_
  rintro e w1 ⟨rfl, rfl⟩
  go_wp2_with fail
  refine (join_posx (x * y) _ (by omega)).mono ?_
  rintro e w1 ⟨rfl, rfl⟩
  go_wp2
  go_ret2
  exact ⟨rfl, rfl⟩
set_option maxRecDepth 4000 in
theorem rt_nnx (x y : Int) (w : World) (hx : 1 ≤ x ∧ x ≤ 9223372036854775808) (hy : 1 ≤ y ∧ y ≤ 9223372036854775808) (h0 : 1 ≤ x) (h : 9223372036854775808 / x < y) :
    Calls Tryz.prog 45 #[.string { data := #[42] }, .int .i64 (-x), .int .i64 (-y)] w fun e w' => e = .returned (.tuple #[.int .i64 (0), .int .i64 9]) ∧ w' = w := by
  have e0 : (x != 0) = true := by simp; omega
  go_enter Tryz.func45, Tryz.ntmps45
  go_wp2_with fail
  refine (parts_negx x _ hx).mono ?_
  rintro e w1 ⟨rfl, rfl⟩
  go_wp2_with fail
  refine (parts_negx y _ hy).mono ?_
  rintro e w1 ⟨rfl, rfl⟩
  go_wp2
  go_ret2
  exact ⟨rfl, rfl⟩
set_option maxRecDepth 4000 in
theorem rt_0p (y : Int) (w : World) (hy : 0 ≤ y ∧ y ≤ 9223372036854775807) :
    Calls Tryz.prog 45 #[.string { data := #[42] }, .int .i64 0, .int .i64 y] w fun e w' => e = .returned (.tuple #[.int .i64 0, .int .i64 0]) ∧ w' = w := by
  go_enter Tryz.func45, Tryz.ntmps45
  go_wp2_with fail
  refine (parts_pos 0 _ (by decide)).mono ?_
  rintro e w1 ⟨rfl, rfl⟩
  go_wp2_with fail
  refine (parts_pos y _ hy).mono ?_
  rintro e w1 ⟨rfl, rfl⟩
  go_wp2_with fail
  refine (join_pos 0 _ (by decide)).mono ?_
  rintro e w1 ⟨rfl, rfl⟩
  go_wp2
  go_ret2
  exact ⟨rfl, rfl⟩
set_option maxRecDepth 4000 in
theorem rt_0n (y : Int) (w : World) (hy : 1 ≤ y ∧ y ≤ 9223372036854775808) :
    Calls Tryz.prog 45 #[.string { data := #[42] }, .int .i64 0, .int .i64 (-y)] w fun e w' => e = .returned (.tuple #[.int .i64 0, .int .i64 0]) ∧ w' = w := by
  go_enter Tryz.func45, Tryz.ntmps45
  go_wp2_with fail
  refine (parts_pos 0 _ (by decide)).mono ?_
  rintro e w1 ⟨rfl, rfl⟩
  go_wp2_with fail
  refine (parts_negx y _ hy).mono ?_
  rintro e w1 ⟨rfl, rfl⟩
  go_wp2_with fail
  refine (join_neg 0 _ (by decide)).mono ?_
  rintro e w1 ⟨rfl, rfl⟩
  go_wp2
  go_ret2
  exact ⟨rfl, rfl⟩
set_option maxRecDepth 4000 in
theorem ra_min (w : World) :
    Calls Tryz.prog 45 #[.string { data := #[43] }, .int .i64 (-9223372036854775808), .int .i64 (-9223372036854775808)] w fun e w' => e = .returned (.tuple #[.int .i64 0, .int .i64 9]) ∧ w' = w := by
  go_enter Tryz.func45, Tryz.ntmps45
  go_wp2_with fail
  refine (parts_negx 9223372036854775808 _ (by decide)).mono ?_
  rintro e w1 ⟨rfl, rfl⟩
  go_wp2_with fail
  refine (parts_negx 9223372036854775808 _ (by decide)).mono ?_
  rintro e w1 ⟨rfl, rfl⟩
  go_wp2_with fail
  refine (join_neg 0 _ (by decide)).mono ?_
  rintro e w1 ⟨rfl, rfl⟩
  go_wp2
  go_ret2
  exact ⟨rfl, rfl⟩
theorem parts_some (a : Int) (w : World) (ha : -9223372036854775808 ≤ a ∧ a ≤ 9223372036854775807) : Calls Tryz.prog 84 #[.int .i64 a] w fun e w' => (∃ (b : Bool) (m : Int), e = .returned (.tuple #[.bool b, .int .u64 m])) ∧ w' = w := by
  by_cases h : a < 0
  · exact (parts_neg a w ⟨ha.1, h⟩).mono fun e w' hh => ⟨⟨_, _, hh.1⟩, hh.2⟩
  · exact (parts_pos a w ⟨by omega, ha.2⟩).mono fun e w' hh => ⟨⟨_, _, hh.1⟩, hh.2⟩
set_option maxRecDepth 4000 in
theorem rk_none (op : ByteArray) (a b : Int) (w : World) (ha : -9223372036854775808 ≤ a ∧ a ≤ 9223372036854775807) (hb : -9223372036854775808 ≤ b ∧ b ≤ 9223372036854775807)
    (h1 : op.data.toList ≠ [43]) (h2 : op.data.toList ≠ [45]) (h3 : op.data.toList ≠ [42]) (h4 : op.data.toList ≠ [47]) (h5 : op.data.toList ≠ [37]) :
    Calls Tryz.prog 45 #[.string op, .int .i64 a, .int .i64 b] w fun e w' => e = .returned (.tuple #[.int .i64 0, .int .i64 1]) ∧ w' = w := by
  have q1 : (op.toList == [43]) = false := by rw [Lib.toList_data]; simpa using h1
  have q2 : (op.toList == [45]) = false := by rw [Lib.toList_data]; simpa using h2
  have q3 : (op.toList == [42]) = false := by rw [Lib.toList_data]; simpa using h3
  have q4 : (op.toList == [47]) = false := by rw [Lib.toList_data]; simpa using h4
  have q5 : (op.toList == [37]) = false := by rw [Lib.toList_data]; simpa using h5
  clear h1 h2 h3 h4 h5
  go_enter Tryz.func45, Tryz.ntmps45
  go_wp2_with fail
  refine (parts_some a _ ha).mono ?_
  rintro e w1 ⟨⟨p, x, rfl⟩, rfl⟩
  go_wp2_with fail
  refine (parts_some b _ hb).mono ?_
  rintro e w1 ⟨⟨q, y, rfl⟩, rfl⟩
  go_wp2
  go_ret2
  exact ⟨rfl, rfl⟩
end Go.Proofs.YtpgadbpkednjkaaGreatDoor
namespace Go.Proofs.YtpgadbpkednjkaaGreatDoor
open Go.RowKit
set_option linter.unusedVariables false

/-- What an operation comes to: the number, and the fault. -/
def rkQ (op : List UInt8) (a b : Int) : Int × Int :=
  if op = [43] then (if -9223372036854775808 ≤ a + b ∧ a + b ≤ 9223372036854775807 then (a + b, 0) else (0, 9))
  else if op = [45] then (if -9223372036854775808 ≤ a - b ∧ a - b ≤ 9223372036854775807 then (a - b, 0) else (0, 9))
  else if op = [42] then (if -9223372036854775808 ≤ a * b ∧ a * b ≤ 9223372036854775807 then (a * b, 0) else (0, 9))
  else if op = [47] then (if b = 0 ∨ (a = -9223372036854775808 ∧ b = -1) then (0, 9) else (a.tdiv b, 0))
  else if op = [37] then (if b = 0 then (0, 9) else (a.tmod b, 0))
  else (0, 1)
def RefSays (op : ByteArray) (a b : Int) (r : Int × Int) : Prop :=
  ∀ w : World, Calls Tryz.prog 45 #[.string op, .int .i64 a, .int .i64 b] w fun e w' => e = .returned (.tuple #[.int .i64 r.1, .int .i64 r.2]) ∧ w' = w
theorem says_eq {op : ByteArray} {a b a' b' : Int} {r r' : Int × Int} (h : RefSays op a b r) (ha : a' = a) (hb : b' = b) (hr : r' = r) : RefSays op a' b' r' := by subst ha hb hr; exact h

theorem split (a : Int) (ha : -9223372036854775808 ≤ a ∧ a ≤ 9223372036854775807) : (∃ x, a = x ∧ 0 ≤ x ∧ x ≤ 9223372036854775807) ∨ (∃ x, a = -x ∧ 1 ≤ x ∧ x ≤ 9223372036854775808) := by
  by_cases h : a < 0
  · exact Or.inr ⟨-a, by omega, by omega, by omega⟩
  · exact Or.inl ⟨a, rfl, by omega, by omega⟩
theorem ref_add (a b : Int) (ha : -9223372036854775808 ≤ a ∧ a ≤ 9223372036854775807) (hb : -9223372036854775808 ≤ b ∧ b ≤ 9223372036854775807) : RefSays ⟨#[43]⟩ a b (rkQ [43] a b) := by
  have hv : rkQ [43] a b = if -9223372036854775808 ≤ a + b ∧ a + b ≤ 9223372036854775807 then (a + b, 0) else (0, 9) := by rw [rkQ, if_pos rfl]
  rw [hv]
  rcases split a ha with ⟨x, rfl, hx⟩ | ⟨x, rfl, hx⟩ <;> rcases split b hb with ⟨y, rfl, hy⟩ | ⟨y, rfl, hy⟩
  · by_cases h : a + b ≤ 9223372036854775807
    · exact says_eq (fun w => ra_pp a b w hx hy h) rfl rfl (by rw [if_pos ⟨by omega, h⟩])
    · exact says_eq (fun w => ra_ppx a b w hx hy (by omega)) rfl rfl (by rw [if_neg (by omega)]) (r := (0, 9))
  · by_cases h : y ≤ a
    · exact says_eq (fun w => ra_pn1 a y w hx hy h) rfl rfl (by rw [if_pos (by omega), show a + -y = a - y from by omega]) (r := (a - y, 0))
    · exact says_eq (fun w => ra_pn2 a y w hx hy (by omega)) rfl rfl (by rw [if_pos (by omega), show a + -y = -(y - a) from by omega]) (r := (-(y - a), 0))
  · by_cases h : b ≤ x
    · exact says_eq (fun w => ra_np1 x b w hx hy h) rfl rfl (by rw [if_pos (by omega), show -x + b = -(x - b) from by omega]) (r := (-(x - b), 0))
    · exact says_eq (fun w => ra_np2 x b w hx hy (by omega)) rfl rfl (by rw [if_pos (by omega), show -x + b = b - x from by omega]) (r := (b - x, 0))
  · by_cases h : x + y ≤ 9223372036854775808
    · exact says_eq (fun w => ra_nn x y w hx hy h) rfl rfl (by rw [if_pos (by omega), show -x + -y = -(x + y) from by omega]) (r := (-(x + y), 0))
    · by_cases h' : x + y ≤ 18446744073709551615
      · exact says_eq (fun w => ra_nnx x y w hx hy (by omega) h') rfl rfl (by rw [if_neg (by omega)]) (r := (0, 9))
      · obtain rfl : x = 9223372036854775808 := by omega
        obtain rfl : y = 9223372036854775808 := by omega
        exact says_eq (fun w => ra_min w) rfl rfl (by rw [if_neg (by omega)]) (r := (0, 9))
theorem ref_sub (a b : Int) (ha : -9223372036854775808 ≤ a ∧ a ≤ 9223372036854775807) (hb : -9223372036854775808 ≤ b ∧ b ≤ 9223372036854775807) : RefSays ⟨#[45]⟩ a b (rkQ [45] a b) := by
  have hv : rkQ [45] a b = if -9223372036854775808 ≤ a - b ∧ a - b ≤ 9223372036854775807 then (a - b, 0) else (0, 9) := by rw [rkQ, if_neg (by decide), if_pos rfl]
  rw [hv]
  rcases split a ha with ⟨x, rfl, hx⟩ | ⟨x, rfl, hx⟩ <;> rcases split b hb with ⟨y, rfl, hy⟩ | ⟨y, rfl, hy⟩
  · by_cases h0 : b = 0
    · exact says_eq (fun w => rs_p0 a b w hx hy h0) rfl rfl (by rw [if_pos (by omega), show a - b = a from by omega]) (r := (a, 0))
    · by_cases h : b ≤ a
      · exact says_eq (fun w => rs_pp1 a b w hx hy (by omega) h) rfl rfl (by rw [if_pos (by omega)]) (r := (a - b, 0))
      · exact says_eq (fun w => rs_pp2 a b w hx hy (by omega) (by omega)) rfl rfl (by rw [if_pos (by omega), show a - b = -(b - a) from by omega]) (r := (-(b - a), 0))
  · by_cases h : a + y ≤ 9223372036854775807
    · exact says_eq (fun w => rs_pn a y w hx hy (by omega) h) rfl rfl (by rw [if_pos (by omega), show a - -y = a + y from by omega]) (r := (a + y, 0))
    · exact says_eq (fun w => rs_pnx a y w hx hy (by omega) (by omega)) rfl rfl (by rw [if_neg (by omega)]) (r := (0, 9))
  · by_cases h0 : b = 0
    · exact says_eq (fun w => rs_n0 x b w hx hy h0) rfl rfl (by rw [if_pos (by omega), show -x - b = -x from by omega]) (r := (-x, 0))
    · by_cases h : x + b ≤ 9223372036854775808
      · exact says_eq (fun w => rs_np x b w hx hy (by omega) h) rfl rfl (by rw [if_pos (by omega), show -x - b = -(x + b) from by omega]) (r := (-(x + b), 0))
      · exact says_eq (fun w => rs_npx x b w hx hy (by omega) (by omega)) rfl rfl (by rw [if_neg (by omega)]) (r := (0, 9))
  · by_cases h : y ≤ x
    · exact says_eq (fun w => rs_nn1 x y w hx hy (by omega) h) rfl rfl (by rw [if_pos (by omega), show -x - -y = -(x - y) from by omega]) (r := (-(x - y), 0))
    · exact says_eq (fun w => rs_nn2 x y w hx hy (by omega) (by omega)) rfl rfl (by rw [if_pos (by omega), show -x - -y = y - x from by omega]) (r := (y - x, 0))
theorem mul_le (x y : Int) (hx : 1 ≤ x) (hy : 0 ≤ y) (h : y ≤ 9223372036854775808 / x) : 0 ≤ x * y ∧ x * y ≤ 9223372036854775808 := by
  refine ⟨Int.mul_nonneg (by omega) hy, ?_⟩
  have h1 : x * y ≤ x * (9223372036854775808 / x) := Int.mul_le_mul_of_nonneg_left h (by omega)
  have h2 := Int.mul_ediv_self_le (x := 9223372036854775808) (k := x) (by omega)
  omega
theorem mul_gt (x y : Int) (hx : 1 ≤ x) (h : 9223372036854775808 / x < y) : 9223372036854775808 < x * y := by
  have h1 := Int.lt_mul_ediv_self_add (x := 9223372036854775808) (k := x) (by omega)
  have h2 : x * (9223372036854775808 / x + 1) ≤ x * y := Int.mul_le_mul_of_nonneg_left (by omega) (by omega)
  rw [Int.mul_add, Int.mul_one] at h2
  omega
theorem ref_mul (a b : Int) (ha : -9223372036854775808 ≤ a ∧ a ≤ 9223372036854775807) (hb : -9223372036854775808 ≤ b ∧ b ≤ 9223372036854775807) : RefSays ⟨#[42]⟩ a b (rkQ [42] a b) := by
  have hv : rkQ [42] a b = if -9223372036854775808 ≤ a * b ∧ a * b ≤ 9223372036854775807 then (a * b, 0) else (0, 9) := by rw [rkQ, if_neg (by decide), if_neg (by decide), if_pos rfl]
  rw [hv]
  rcases split a ha with ⟨x, rfl, hx⟩ | ⟨x, rfl, hx⟩ <;> rcases split b hb with ⟨y, rfl, hy⟩ | ⟨y, rfl, hy⟩
  · by_cases h0 : a = 0
    · subst h0
      exact says_eq (fun w => rt_0p b w hy) rfl rfl (by rw [Int.zero_mul, if_pos (by decide)]) (r := (0, 0))
    · by_cases h : b ≤ 9223372036854775808 / a
      · have hp := mul_le a b (by omega) (by omega) h
        by_cases hm : a * b ≤ 9223372036854775807
        · exact says_eq (fun w => rt_pp a b w hx hy (by omega) h hp hm) rfl rfl (by rw [if_pos (by omega)]) (r := (a * b, 0))
        · exact says_eq (fun w => rt_ppm a b w hx hy (by omega) h hp (by omega)) rfl rfl (by rw [if_neg (by omega)]) (r := (0, 9))
      · have hg := mul_gt a b (by omega) (by omega)
        exact says_eq (fun w => rt_ppx a b w hx hy (by omega) (by omega)) rfl rfl (by rw [if_neg (by omega)]) (r := (0, 9))
  · by_cases h0 : a = 0
    · subst h0
      exact says_eq (fun w => rt_0n y w hy) rfl rfl (by rw [Int.zero_mul, if_pos (by decide)]) (r := (0, 0))
    · have e : a * -y = -(a * y) := Int.mul_neg a y
      rw [e]
      by_cases h : y ≤ 9223372036854775808 / a
      · have hp := mul_le a y (by omega) (by omega) h
        exact says_eq (fun w => rt_pn a y w hx hy (by omega) h hp) rfl rfl (by rw [if_pos (by omega)]) (r := (-(a * y), 0))
      · have hg := mul_gt a y (by omega) (by omega)
        exact says_eq (fun w => rt_pnx a y w hx hy (by omega) (by omega)) rfl rfl (by rw [if_neg (by omega)]) (r := (0, 9))
  · have e : -x * b = -(x * b) := Int.neg_mul x b
    rw [e]
    by_cases h : b ≤ 9223372036854775808 / x
    · have hp := mul_le x b (by omega) (by omega) h
      exact says_eq (fun w => rt_np x b w hx hy (by omega) h hp) rfl rfl (by rw [if_pos (by omega)]) (r := (-(x * b), 0))
    · have hg := mul_gt x b (by omega) (by omega)
      exact says_eq (fun w => rt_npx x b w hx hy (by omega) (by omega)) rfl rfl (by rw [if_neg (by omega)]) (r := (0, 9))
  · have e : -x * -y = x * y := Int.neg_mul_neg x y
    rw [e]
    by_cases h : y ≤ 9223372036854775808 / x
    · have hp := mul_le x y (by omega) (by omega) h
      by_cases hm : x * y ≤ 9223372036854775807
      · exact says_eq (fun w => rt_nn x y w hx hy (by omega) h hp hm) rfl rfl (by rw [if_pos (by omega)]) (r := (x * y, 0))
      · exact says_eq (fun w => rt_nnm x y w hx hy (by omega) h hp (by omega)) rfl rfl (by rw [if_neg (by omega)]) (r := (0, 9))
    · have hg := mul_gt x y (by omega) (by omega)
      exact says_eq (fun w => rt_nnx x y w hx hy (by omega) (by omega)) rfl rfl (by rw [if_neg (by omega)]) (r := (0, 9))
theorem ref_div (a b : Int) (ha : -9223372036854775808 ≤ a ∧ a ≤ 9223372036854775807) (hb : -9223372036854775808 ≤ b ∧ b ≤ 9223372036854775807) : RefSays ⟨#[47]⟩ a b (rkQ [47] a b) := by
  have hv : rkQ [47] a b = if b = 0 ∨ (a = -9223372036854775808 ∧ b = -1) then (0, 9) else (a.tdiv b, 0) := by rw [rkQ, if_neg (by decide), if_neg (by decide), if_neg (by decide), if_pos rfl]
  rw [hv]
  rcases split a ha with ⟨x, rfl, hx⟩ | ⟨x, rfl, hx⟩ <;> rcases split b hb with ⟨y, rfl, hy⟩ | ⟨y, rfl, hy⟩
  · by_cases h0 : b = 0
    · exact says_eq (fun w => rd_p0 a b w hx hy h0) rfl rfl (by rw [if_pos (Or.inl h0)]) (r := (0, 9))
    · have hd := div_bd a b (by omega) (by omega)
      exact says_eq (fun w => rd_pp a b w hx hy (by omega) (by omega)) rfl rfl (by rw [if_neg (by omega), Int.tdiv_eq_ediv_of_nonneg (by omega)]) (r := (a / b, 0))
  · exact says_eq (fun w => rd_pn a y w hx hy (by omega)) rfl rfl (by rw [if_neg (by omega), Int.tdiv_neg, Int.tdiv_eq_ediv_of_nonneg (by omega)]) (r := (-(a / y), 0))
  · by_cases h0 : b = 0
    · exact says_eq (fun w => rd_n0 x b w hx hy h0) rfl rfl (by rw [if_pos (Or.inl h0)]) (r := (0, 9))
    · exact says_eq (fun w => rd_np x b w hx hy (by omega)) rfl rfl (by rw [if_neg (by omega), Int.neg_tdiv, Int.tdiv_eq_ediv_of_nonneg (by omega)]) (r := (-(x / b), 0))
  · have hd := div_bd x y (by omega) (by omega)
    by_cases hm : x / y ≤ 9223372036854775807
    · have hnm : ¬ (-x = -9223372036854775808 ∧ -y = -1) := by
        rintro ⟨e1, e2⟩
        obtain rfl : x = 9223372036854775808 := by omega
        obtain rfl : y = 1 := by omega
        revert hm; decide
      exact says_eq (fun w => rd_nn x y w hx hy (by omega) hm) rfl rfl (by rw [if_neg (by omega), Int.neg_tdiv, Int.tdiv_neg, Int.neg_neg, Int.tdiv_eq_ediv_of_nonneg (by omega)]) (r := (x / y, 0))
    · have hx2 : x = 9223372036854775808 := by omega
      have hy1 : y = 1 := by
        rcases Int.lt_or_le 1 y with h2 | h2
        · exfalso
          have h3 := Int.mul_ediv_self_le (x := x) (k := y) (by omega)
          have h4 : 2 * (x / y) ≤ y * (x / y) := Int.mul_le_mul_of_nonneg_right (by omega) hd.1
          omega
        · omega
      exact says_eq (fun w => rd_nnx x y w hx hy (by omega) (by omega)) rfl rfl (by rw [if_pos (Or.inr ⟨by omega, by omega⟩)]) (r := (0, 9))
theorem ref_rem (a b : Int) (ha : -9223372036854775808 ≤ a ∧ a ≤ 9223372036854775807) (hb : -9223372036854775808 ≤ b ∧ b ≤ 9223372036854775807) : RefSays ⟨#[37]⟩ a b (rkQ [37] a b) := by
  have hv : rkQ [37] a b = if b = 0 then (0, 9) else (a.tmod b, 0) := by rw [rkQ, if_neg (by decide), if_neg (by decide), if_neg (by decide), if_neg (by decide), if_pos rfl]
  rw [hv]
  rcases split a ha with ⟨x, rfl, hx⟩ | ⟨x, rfl, hx⟩ <;> rcases split b hb with ⟨y, rfl, hy⟩ | ⟨y, rfl, hy⟩
  · by_cases h0 : b = 0
    · exact says_eq (fun w => rm_p0 a b w hx hy h0) rfl rfl (by rw [if_pos h0]) (r := (0, 9))
    · have hd := mod_bd a b (by omega) (by omega)
      exact says_eq (fun w => rm_pp a b w hx hy (by omega) (by omega)) rfl rfl (by rw [if_neg (by omega), Int.tmod_eq_emod_of_nonneg (by omega)]) (r := (a % b, 0))
  · have hd := mod_bd a y (by omega) (by omega)
    exact says_eq (fun w => rm_pn a y w hx hy (by omega) (by omega)) rfl rfl (by rw [if_neg (by omega), Int.tmod_neg, Int.tmod_eq_emod_of_nonneg (by omega)]) (r := (a % y, 0))
  · by_cases h0 : b = 0
    · exact says_eq (fun w => rm_n0 x b w hx hy h0) rfl rfl (by rw [if_pos h0]) (r := (0, 9))
    · exact says_eq (fun w => rm_np x b w hx hy (by omega)) rfl rfl (by rw [if_neg (by omega), Int.neg_tmod, Int.tmod_eq_emod_of_nonneg (by omega)]) (r := (-(x % b), 0))
  · exact says_eq (fun w => rm_nn x y w hx hy (by omega)) rfl rfl (by rw [if_neg (by omega), Int.neg_tmod, Int.tmod_neg, Int.tmod_eq_emod_of_nonneg (by omega)]) (r := (-(x % y), 0))
end Go.Proofs.YtpgadbpkednjkaaGreatDoor
