/-
  Told, WtL, WtB, WdX, in one text.
-/
import Derived.Test.YtogndffocijinaaDoorQAs
import Derived.Test.YtogndffocijinaaDoorGrAa
import Derived.Deep.OwnRows
import Derived.Laws.OwnMore
namespace Go.Proofs.YtogndffocijinaaDoor
open Go.RowKit
set_option linter.unusedVariables false

theorem told_any (k : Int) (w : World) (hg : w.cell? ⟨0, 0, none⟩ = some (.iface 58 (.agg #[.pointer (some ⟨1, 25, none⟩)]))) :
    Calls Tryd.prog 6 #[errV k, .int .i64 k] w fun e w' => e = .returned (.bool true) ∧ Below w.heap.size w w' := by
  by_cases hk : k = 0
  · subst hk
    exact (same_nil 0 w).mono fun e w' hh => ⟨by rw [hh.1]; rfl, by rw [hh.2]; exact Below.refl _ _⟩
  · rw [errV, if_neg hk]
    exact (same_err k k w hg).mono fun e w' hh => ⟨by rw [hh.1]; simp, hh.2⟩
/-- The handle of the type error lies there. -/
def EtAt (w : World) : Prop := w.cell? ⟨0, 0, none⟩ = some (.iface 58 (.agg #[.pointer (some ⟨1, 25, none⟩)]))
theorem EtAt.on {w w' : World} (h : EtAt w) (hb : Below w.heap.size w w') : EtAt w' := by
  have hl : 0 < w.heap.size := by
    rcases Nat.lt_or_ge 0 w.heap.size with h' | h'
    · exact h'
    · rw [EtAt] at h; simp [World.cell?, Array.getElem?_eq_none h'] at h
  rw [EtAt, hb.cell (p := ⟨0, 0, none⟩) hl]
  exact h
end Go.Proofs.YtogndffocijinaaDoor
namespace Go.Proofs.YtogndffocijinaaDoor
open Go.RowKit
set_option linter.unusedVariables false

/-- What is called, and what it gives. -/
structure WtC (w : World) (at_ size slide a b : Int) (E1 E2 E3 : Int) (L M : List Int) (OK TM DN : Bool) : Prop where
  win : ∀ W, Calls Tryd.prog 5 #[.int .i64 size, .int .i64 slide] W fun e w' => e = .returned (.bool OK) ∧ w' = W
  chk : ∀ W, Calls Tryd.prog 7 #[.int .i64 size, .int .i64 slide] W fun e w' => e = .returned (errV E1) ∧ Below W.heap.size W w'
  time : ∀ W, Calls Tryd.prog 8 #[.int .i64 at_] W fun e w' => e = .returned (.bool TM) ∧ w' = W
  rst : OK = true → TM = true → ∀ W, Calls Tryd.prog 9 #[.int .i64 at_, .int .i64 size, .int .i64 slide] W fun e w' => (∃ u, e = .returned u ∧ IntA w' u L) ∧ Below W.heap.size W w'
  st : ∀ W, Calls Tryd.prog 10 #[.int .i64 at_, .int .i64 size, .int .i64 slide] W fun e w' => (∃ u, e = .returned (.tuple #[u, errV E2]) ∧ IntA w' u L) ∧ Below W.heap.size W w'
  rdn : OK = true → dnR a b → ∀ W, Calls Tryd.prog 12 #[.int .i64 a, .int .i64 b, .int .i64 size, .int .i64 slide] W fun e w' => (∃ u, e = .returned (.tuple #[u, .bool DN]) ∧ IntA w' u M) ∧ Below W.heap.size W w'
  dn : ∀ W, Calls Tryd.prog 13 #[.int .i64 a, .int .i64 b, .int .i64 size, .int .i64 slide] W fun e w' => (∃ u, e = .returned (.tuple #[u, errV E3]) ∧ IntA w' u M) ∧ Below W.heap.size W w'
  et : EtAt w
set_option maxHeartbeats 2000000 in
theorem wt_tt0t (w : World) (at_ size slide a b : Int) (L M : List Int) (r1 : ¬ a < -1) (r2 : ¬ 1000000 < a) (r3 : ¬ b < a) (r4 : ¬ 1001000 < b) (c : WtC w at_ size slide a b 0 0 0 L M true true true) :
    Calls Tryd.prog 3 #[.int .i64 at_, .int .i64 size, .int .i64 slide, .int .i64 a, .int .i64 b] w fun e w' => e = .returned (.bool true) ∧ Below w.heap.size w w' := by
  have C : Aside (WtC w at_ size slide a b 0 0 0 L M true true true) := c
  have c0 := c.win w
  clear c
  go_enter Tryd.func3, Tryd.ntmps3
  go_wp2_with fail
  refine c0.mono ?_
  rintro e w0 ⟨rfl, rfl⟩
  have c1 := C.out.chk w0
  clear c0
  go_wp2_with fail
  refine c1.mono ?_
  rintro e w1 ⟨rfl, b1⟩
  have c2 := told_any 0 w1 (C.out.et.on b1)
  clear c1
  go_wp2_with fail
  refine c2.mono ?_
  rintro e w2 ⟨rfl, b2⟩
  have B2 := b1.trans (b2.mono b1.size)
  have c3 := C.out.time w2
  clear c2 b1 b2
  go_wp2_with fail
  refine c3.mono ?_
  rintro e w3 ⟨rfl, rfl⟩
  clear c3
  have c4 := C.out.rst rfl rfl w3
  go_wp2_with fail
  refine c4.mono ?_
  rintro e w4 ⟨⟨u4, rfl, i4⟩, b4⟩
  obtain ⟨q4, k4, rfl⟩ := ints_form i4
  have B4 := B2.trans (b4.mono B2.size)
  clear c4 b4 B2
  have c5 := C.out.st w4
  go_wp2_with fail
  refine c5.mono ?_
  rintro e w5 ⟨⟨u5, rfl, i5⟩, b5⟩
  obtain ⟨q5, k5, rfl⟩ := ints_form i5
  have B5 := B4.trans (b5.mono B4.size)
  have c6 := told_any 0 w5 (C.out.et.on B5)
  have j4 := i4.on b5
  clear i4
  clear c5 b5 B4
  go_wp2_with fail
  refine c6.mono ?_
  rintro e w6 ⟨rfl, b6⟩
  have B6 := B5.trans (b6.mono B5.size)
  have c7 := ints_eq _ _ _ w6 (i5.on b6) (j4.on b6)
  clear c6 b6 i5 j4 B5
  go_wp2_with fail
  refine c7.mono ?_
  rintro e w7 ⟨rfl, b7⟩
  have B7 := B6.trans (b7.mono B6.size)
  clear c7 b7 B6
  have c8 := C.out.rdn rfl ⟨by omega, by omega, by omega, by omega⟩ w7
  go_wp2_with fail
  refine c8.mono ?_
  rintro e w8 ⟨⟨u8, rfl, i8⟩, b8⟩
  obtain ⟨q8, k8, rfl⟩ := ints_form i8
  have B8 := B7.trans (b8.mono B7.size)
  clear c8 b8 B7
  have c9 := C.out.dn w8
  go_wp2_with fail
  refine c9.mono ?_
  rintro e w9 ⟨⟨u9, rfl, i9⟩, b9⟩
  obtain ⟨q9, k9, rfl⟩ := ints_form i9
  have B9 := B8.trans (b9.mono B8.size)
  have c10 := told_any 0 w9 (C.out.et.on B9)
  have j8 := i8.on b9
  clear i8
  clear c9 b9 B8
  go_wp2_with fail
  refine c10.mono ?_
  rintro e w10 ⟨rfl, b10⟩
  have B10 := B9.trans (b10.mono B9.size)
  have c11 := ints_eq _ _ _ w10 (i9.on b10) (j8.on b10)
  clear c10 b10 i9 j8 B9
  go_wp2_with fail
  refine c11.mono ?_
  rintro e w11 ⟨rfl, b11⟩
  have B11 : Aside (Below w0.heap.size w0 w11) := B10.trans (b11.mono B10.size)
  clear c11 b11 B10 C
  go_wp2
  go_ret
  exact ⟨rfl, B11.out⟩
set_option maxHeartbeats 2000000 in
theorem wt_tt0f (w : World) (at_ size slide a b : Int) (L M : List Int) (r1 : ¬ a < -1) (r2 : ¬ 1000000 < a) (r3 : ¬ b < a) (r4 : ¬ 1001000 < b) (c : WtC w at_ size slide a b 0 0 4 L M true true false) :
    Calls Tryd.prog 3 #[.int .i64 at_, .int .i64 size, .int .i64 slide, .int .i64 a, .int .i64 b] w fun e w' => e = .returned (.bool true) ∧ Below w.heap.size w w' := by
  have C : Aside (WtC w at_ size slide a b 0 0 4 L M true true false) := c
  have c0 := c.win w
  clear c
  go_enter Tryd.func3, Tryd.ntmps3
  go_wp2_with fail
  refine c0.mono ?_
  rintro e w0 ⟨rfl, rfl⟩
  have c1 := C.out.chk w0
  clear c0
  go_wp2_with fail
  refine c1.mono ?_
  rintro e w1 ⟨rfl, b1⟩
  have c2 := told_any 0 w1 (C.out.et.on b1)
  clear c1
  go_wp2_with fail
  refine c2.mono ?_
  rintro e w2 ⟨rfl, b2⟩
  have B2 := b1.trans (b2.mono b1.size)
  have c3 := C.out.time w2
  clear c2 b1 b2
  go_wp2_with fail
  refine c3.mono ?_
  rintro e w3 ⟨rfl, rfl⟩
  clear c3
  have c4 := C.out.rst rfl rfl w3
  go_wp2_with fail
  refine c4.mono ?_
  rintro e w4 ⟨⟨u4, rfl, i4⟩, b4⟩
  obtain ⟨q4, k4, rfl⟩ := ints_form i4
  have B4 := B2.trans (b4.mono B2.size)
  clear c4 b4 B2
  have c5 := C.out.st w4
  go_wp2_with fail
  refine c5.mono ?_
  rintro e w5 ⟨⟨u5, rfl, i5⟩, b5⟩
  obtain ⟨q5, k5, rfl⟩ := ints_form i5
  have B5 := B4.trans (b5.mono B4.size)
  have c6 := told_any 0 w5 (C.out.et.on B5)
  have j4 := i4.on b5
  clear i4
  clear c5 b5 B4
  go_wp2_with fail
  refine c6.mono ?_
  rintro e w6 ⟨rfl, b6⟩
  have B6 := B5.trans (b6.mono B5.size)
  have c7 := ints_eq _ _ _ w6 (i5.on b6) (j4.on b6)
  clear c6 b6 i5 j4 B5
  go_wp2_with fail
  refine c7.mono ?_
  rintro e w7 ⟨rfl, b7⟩
  have B7 := B6.trans (b7.mono B6.size)
  clear c7 b7 B6
  have c8 := C.out.rdn rfl ⟨by omega, by omega, by omega, by omega⟩ w7
  go_wp2_with fail
  refine c8.mono ?_
  rintro e w8 ⟨⟨u8, rfl, i8⟩, b8⟩
  obtain ⟨q8, k8, rfl⟩ := ints_form i8
  have B8 := B7.trans (b8.mono B7.size)
  clear c8 b8 B7
  have c9 := C.out.dn w8
  go_wp2_with fail
  refine c9.mono ?_
  rintro e w9 ⟨⟨u9, rfl, i9⟩, b9⟩
  obtain ⟨q9, k9, rfl⟩ := ints_form i9
  have B9 := B8.trans (b9.mono B8.size)
  have c10 := told_any 4 w9 (C.out.et.on B9)
  have j8 := i8.on b9
  clear i8
  clear c9 b9 B8
  go_wp2_with fail
  refine c10.mono ?_
  rintro e w10 ⟨rfl, b10⟩
  have B10 := B9.trans (b10.mono B9.size)
  have c11 := ints_eq _ _ _ w10 (i9.on b10) (j8.on b10)
  clear c10 b10 i9 j8 B9
  go_wp2_with fail
  refine c11.mono ?_
  rintro e w11 ⟨rfl, b11⟩
  have B11 : Aside (Below w0.heap.size w0 w11) := B10.trans (b11.mono B10.size)
  clear c11 b11 B10 C
  go_wp2
  go_ret
  exact ⟨rfl, B11.out⟩
set_option maxHeartbeats 2000000 in
theorem wt_tt1t (w : World) (at_ size slide a b : Int) (L M : List Int) (r1 : a < -1) (c : WtC w at_ size slide a b 0 0 1 L [] true true true) :
    Calls Tryd.prog 3 #[.int .i64 at_, .int .i64 size, .int .i64 slide, .int .i64 a, .int .i64 b] w fun e w' => e = .returned (.bool true) ∧ Below w.heap.size w w' := by
  have C : Aside (WtC w at_ size slide a b 0 0 1 L [] true true true) := c
  have c0 := c.win w
  clear c
  go_enter Tryd.func3, Tryd.ntmps3
  go_wp2_with fail
  refine c0.mono ?_
  rintro e w0 ⟨rfl, rfl⟩
  have c1 := C.out.chk w0
  clear c0
  go_wp2_with fail
  refine c1.mono ?_
  rintro e w1 ⟨rfl, b1⟩
  have c2 := told_any 0 w1 (C.out.et.on b1)
  clear c1
  go_wp2_with fail
  refine c2.mono ?_
  rintro e w2 ⟨rfl, b2⟩
  have B2 := b1.trans (b2.mono b1.size)
  have c3 := C.out.time w2
  clear c2 b1 b2
  go_wp2_with fail
  refine c3.mono ?_
  rintro e w3 ⟨rfl, rfl⟩
  clear c3
  have c4 := C.out.rst rfl rfl w3
  go_wp2_with fail
  refine c4.mono ?_
  rintro e w4 ⟨⟨u4, rfl, i4⟩, b4⟩
  obtain ⟨q4, k4, rfl⟩ := ints_form i4
  have B4 := B2.trans (b4.mono B2.size)
  clear c4 b4 B2
  have c5 := C.out.st w4
  go_wp2_with fail
  refine c5.mono ?_
  rintro e w5 ⟨⟨u5, rfl, i5⟩, b5⟩
  obtain ⟨q5, k5, rfl⟩ := ints_form i5
  have B5 := B4.trans (b5.mono B4.size)
  have c6 := told_any 0 w5 (C.out.et.on B5)
  have j4 := i4.on b5
  clear i4
  clear c5 b5 B4
  go_wp2_with fail
  refine c6.mono ?_
  rintro e w6 ⟨rfl, b6⟩
  have B6 := B5.trans (b6.mono B5.size)
  have c7 := ints_eq _ _ _ w6 (i5.on b6) (j4.on b6)
  clear c6 b6 i5 j4 B5
  go_wp2_with fail
  refine c7.mono ?_
  rintro e w7 ⟨rfl, b7⟩
  have B7 := B6.trans (b7.mono B6.size)
  clear c7 b7 B6
  have c9 := C.out.dn w7
  go_wp2_with fail
  refine c9.mono ?_
  rintro e w9 ⟨⟨u9, rfl, i9⟩, b9⟩
  obtain ⟨q9, k9, rfl⟩ := ints_form i9
  have B9 := B7.trans (b9.mono B7.size)
  have c10 := told_any 1 w9 (C.out.et.on B9)
  have j8 := IntA.nil w9
  clear c9 b9 B7
  go_wp2_with fail
  refine c10.mono ?_
  rintro e w10 ⟨rfl, b10⟩
  have B10 := B9.trans (b10.mono B9.size)
  have c11 := ints_eq _ _ _ w10 (i9.on b10) (j8.on b10)
  clear c10 b10 i9 j8 B9
  go_wp2_with fail
  refine c11.mono ?_
  rintro e w11 ⟨rfl, b11⟩
  have B11 : Aside (Below w0.heap.size w0 w11) := B10.trans (b11.mono B10.size)
  clear c11 b11 B10 C
  go_wp2
  go_ret
  exact ⟨rfl, B11.out⟩
set_option maxHeartbeats 2000000 in
theorem wt_tt2t (w : World) (at_ size slide a b : Int) (L M : List Int) (r1 : ¬ a < -1) (r2 : 1000000 < a) (c : WtC w at_ size slide a b 0 0 1 L [] true true true) :
    Calls Tryd.prog 3 #[.int .i64 at_, .int .i64 size, .int .i64 slide, .int .i64 a, .int .i64 b] w fun e w' => e = .returned (.bool true) ∧ Below w.heap.size w w' := by
  have C : Aside (WtC w at_ size slide a b 0 0 1 L [] true true true) := c
  have c0 := c.win w
  clear c
  go_enter Tryd.func3, Tryd.ntmps3
  go_wp2_with fail
  refine c0.mono ?_
  rintro e w0 ⟨rfl, rfl⟩
  have c1 := C.out.chk w0
  clear c0
  go_wp2_with fail
  refine c1.mono ?_
  rintro e w1 ⟨rfl, b1⟩
  have c2 := told_any 0 w1 (C.out.et.on b1)
  clear c1
  go_wp2_with fail
  refine c2.mono ?_
  rintro e w2 ⟨rfl, b2⟩
  have B2 := b1.trans (b2.mono b1.size)
  have c3 := C.out.time w2
  clear c2 b1 b2
  go_wp2_with fail
  refine c3.mono ?_
  rintro e w3 ⟨rfl, rfl⟩
  clear c3
  have c4 := C.out.rst rfl rfl w3
  go_wp2_with fail
  refine c4.mono ?_
  rintro e w4 ⟨⟨u4, rfl, i4⟩, b4⟩
  obtain ⟨q4, k4, rfl⟩ := ints_form i4
  have B4 := B2.trans (b4.mono B2.size)
  clear c4 b4 B2
  have c5 := C.out.st w4
  go_wp2_with fail
  refine c5.mono ?_
  rintro e w5 ⟨⟨u5, rfl, i5⟩, b5⟩
  obtain ⟨q5, k5, rfl⟩ := ints_form i5
  have B5 := B4.trans (b5.mono B4.size)
  have c6 := told_any 0 w5 (C.out.et.on B5)
  have j4 := i4.on b5
  clear i4
  clear c5 b5 B4
  go_wp2_with fail
  refine c6.mono ?_
  rintro e w6 ⟨rfl, b6⟩
  have B6 := B5.trans (b6.mono B5.size)
  have c7 := ints_eq _ _ _ w6 (i5.on b6) (j4.on b6)
  clear c6 b6 i5 j4 B5
  go_wp2_with fail
  refine c7.mono ?_
  rintro e w7 ⟨rfl, b7⟩
  have B7 := B6.trans (b7.mono B6.size)
  clear c7 b7 B6
  have c9 := C.out.dn w7
  go_wp2_with fail
  refine c9.mono ?_
  rintro e w9 ⟨⟨u9, rfl, i9⟩, b9⟩
  obtain ⟨q9, k9, rfl⟩ := ints_form i9
  have B9 := B7.trans (b9.mono B7.size)
  have c10 := told_any 1 w9 (C.out.et.on B9)
  have j8 := IntA.nil w9
  clear c9 b9 B7
  go_wp2_with fail
  refine c10.mono ?_
  rintro e w10 ⟨rfl, b10⟩
  have B10 := B9.trans (b10.mono B9.size)
  have c11 := ints_eq _ _ _ w10 (i9.on b10) (j8.on b10)
  clear c10 b10 i9 j8 B9
  go_wp2_with fail
  refine c11.mono ?_
  rintro e w11 ⟨rfl, b11⟩
  have B11 : Aside (Below w0.heap.size w0 w11) := B10.trans (b11.mono B10.size)
  clear c11 b11 B10 C
  go_wp2
  go_ret
  exact ⟨rfl, B11.out⟩
set_option maxHeartbeats 2000000 in
theorem wt_tt3t (w : World) (at_ size slide a b : Int) (L M : List Int) (r1 : ¬ a < -1) (r2 : ¬ 1000000 < a) (r3 : b < a) (c : WtC w at_ size slide a b 0 0 1 L [] true true true) :
    Calls Tryd.prog 3 #[.int .i64 at_, .int .i64 size, .int .i64 slide, .int .i64 a, .int .i64 b] w fun e w' => e = .returned (.bool true) ∧ Below w.heap.size w w' := by
  have C : Aside (WtC w at_ size slide a b 0 0 1 L [] true true true) := c
  have c0 := c.win w
  clear c
  go_enter Tryd.func3, Tryd.ntmps3
  go_wp2_with fail
  refine c0.mono ?_
  rintro e w0 ⟨rfl, rfl⟩
  have c1 := C.out.chk w0
  clear c0
  go_wp2_with fail
  refine c1.mono ?_
  rintro e w1 ⟨rfl, b1⟩
  have c2 := told_any 0 w1 (C.out.et.on b1)
  clear c1
  go_wp2_with fail
  refine c2.mono ?_
  rintro e w2 ⟨rfl, b2⟩
  have B2 := b1.trans (b2.mono b1.size)
  have c3 := C.out.time w2
  clear c2 b1 b2
  go_wp2_with fail
  refine c3.mono ?_
  rintro e w3 ⟨rfl, rfl⟩
  clear c3
  have c4 := C.out.rst rfl rfl w3
  go_wp2_with fail
  refine c4.mono ?_
  rintro e w4 ⟨⟨u4, rfl, i4⟩, b4⟩
  obtain ⟨q4, k4, rfl⟩ := ints_form i4
  have B4 := B2.trans (b4.mono B2.size)
  clear c4 b4 B2
  have c5 := C.out.st w4
  go_wp2_with fail
  refine c5.mono ?_
  rintro e w5 ⟨⟨u5, rfl, i5⟩, b5⟩
  obtain ⟨q5, k5, rfl⟩ := ints_form i5
  have B5 := B4.trans (b5.mono B4.size)
  have c6 := told_any 0 w5 (C.out.et.on B5)
  have j4 := i4.on b5
  clear i4
  clear c5 b5 B4
  go_wp2_with fail
  refine c6.mono ?_
  rintro e w6 ⟨rfl, b6⟩
  have B6 := B5.trans (b6.mono B5.size)
  have c7 := ints_eq _ _ _ w6 (i5.on b6) (j4.on b6)
  clear c6 b6 i5 j4 B5
  go_wp2_with fail
  refine c7.mono ?_
  rintro e w7 ⟨rfl, b7⟩
  have B7 := B6.trans (b7.mono B6.size)
  clear c7 b7 B6
  have c9 := C.out.dn w7
  go_wp2_with fail
  refine c9.mono ?_
  rintro e w9 ⟨⟨u9, rfl, i9⟩, b9⟩
  obtain ⟨q9, k9, rfl⟩ := ints_form i9
  have B9 := B7.trans (b9.mono B7.size)
  have c10 := told_any 1 w9 (C.out.et.on B9)
  have j8 := IntA.nil w9
  clear c9 b9 B7
  go_wp2_with fail
  refine c10.mono ?_
  rintro e w10 ⟨rfl, b10⟩
  have B10 := B9.trans (b10.mono B9.size)
  have c11 := ints_eq _ _ _ w10 (i9.on b10) (j8.on b10)
  clear c10 b10 i9 j8 B9
  go_wp2_with fail
  refine c11.mono ?_
  rintro e w11 ⟨rfl, b11⟩
  have B11 : Aside (Below w0.heap.size w0 w11) := B10.trans (b11.mono B10.size)
  clear c11 b11 B10 C
  go_wp2
  go_ret
  exact ⟨rfl, B11.out⟩
set_option maxHeartbeats 2000000 in
theorem wt_tt4t (w : World) (at_ size slide a b : Int) (L M : List Int) (r1 : ¬ a < -1) (r2 : ¬ 1000000 < a) (r3 : ¬ b < a) (r4 : 1001000 < b) (c : WtC w at_ size slide a b 0 0 1 L [] true true true) :
    Calls Tryd.prog 3 #[.int .i64 at_, .int .i64 size, .int .i64 slide, .int .i64 a, .int .i64 b] w fun e w' => e = .returned (.bool true) ∧ Below w.heap.size w w' := by
  have C : Aside (WtC w at_ size slide a b 0 0 1 L [] true true true) := c
  have c0 := c.win w
  clear c
  go_enter Tryd.func3, Tryd.ntmps3
  go_wp2_with fail
  refine c0.mono ?_
  rintro e w0 ⟨rfl, rfl⟩
  have c1 := C.out.chk w0
  clear c0
  go_wp2_with fail
  refine c1.mono ?_
  rintro e w1 ⟨rfl, b1⟩
  have c2 := told_any 0 w1 (C.out.et.on b1)
  clear c1
  go_wp2_with fail
  refine c2.mono ?_
  rintro e w2 ⟨rfl, b2⟩
  have B2 := b1.trans (b2.mono b1.size)
  have c3 := C.out.time w2
  clear c2 b1 b2
  go_wp2_with fail
  refine c3.mono ?_
  rintro e w3 ⟨rfl, rfl⟩
  clear c3
  have c4 := C.out.rst rfl rfl w3
  go_wp2_with fail
  refine c4.mono ?_
  rintro e w4 ⟨⟨u4, rfl, i4⟩, b4⟩
  obtain ⟨q4, k4, rfl⟩ := ints_form i4
  have B4 := B2.trans (b4.mono B2.size)
  clear c4 b4 B2
  have c5 := C.out.st w4
  go_wp2_with fail
  refine c5.mono ?_
  rintro e w5 ⟨⟨u5, rfl, i5⟩, b5⟩
  obtain ⟨q5, k5, rfl⟩ := ints_form i5
  have B5 := B4.trans (b5.mono B4.size)
  have c6 := told_any 0 w5 (C.out.et.on B5)
  have j4 := i4.on b5
  clear i4
  clear c5 b5 B4
  go_wp2_with fail
  refine c6.mono ?_
  rintro e w6 ⟨rfl, b6⟩
  have B6 := B5.trans (b6.mono B5.size)
  have c7 := ints_eq _ _ _ w6 (i5.on b6) (j4.on b6)
  clear c6 b6 i5 j4 B5
  go_wp2_with fail
  refine c7.mono ?_
  rintro e w7 ⟨rfl, b7⟩
  have B7 := B6.trans (b7.mono B6.size)
  clear c7 b7 B6
  have c9 := C.out.dn w7
  go_wp2_with fail
  refine c9.mono ?_
  rintro e w9 ⟨⟨u9, rfl, i9⟩, b9⟩
  obtain ⟨q9, k9, rfl⟩ := ints_form i9
  have B9 := B7.trans (b9.mono B7.size)
  have c10 := told_any 1 w9 (C.out.et.on B9)
  have j8 := IntA.nil w9
  clear c9 b9 B7
  go_wp2_with fail
  refine c10.mono ?_
  rintro e w10 ⟨rfl, b10⟩
  have B10 := B9.trans (b10.mono B9.size)
  have c11 := ints_eq _ _ _ w10 (i9.on b10) (j8.on b10)
  clear c10 b10 i9 j8 B9
  go_wp2_with fail
  refine c11.mono ?_
  rintro e w11 ⟨rfl, b11⟩
  have B11 : Aside (Below w0.heap.size w0 w11) := B10.trans (b11.mono B10.size)
  clear c11 b11 B10 C
  go_wp2
  go_ret
  exact ⟨rfl, B11.out⟩
set_option maxHeartbeats 2000000 in
theorem wt_tf0t (w : World) (at_ size slide a b : Int) (L M : List Int) (r1 : ¬ a < -1) (r2 : ¬ 1000000 < a) (r3 : ¬ b < a) (r4 : ¬ 1001000 < b) (c : WtC w at_ size slide a b 0 1 0 [] M true false true) :
    Calls Tryd.prog 3 #[.int .i64 at_, .int .i64 size, .int .i64 slide, .int .i64 a, .int .i64 b] w fun e w' => e = .returned (.bool true) ∧ Below w.heap.size w w' := by
  have C : Aside (WtC w at_ size slide a b 0 1 0 [] M true false true) := c
  have c0 := c.win w
  clear c
  go_enter Tryd.func3, Tryd.ntmps3
  go_wp2_with fail
  refine c0.mono ?_
  rintro e w0 ⟨rfl, rfl⟩
  have c1 := C.out.chk w0
  clear c0
  go_wp2_with fail
  refine c1.mono ?_
  rintro e w1 ⟨rfl, b1⟩
  have c2 := told_any 0 w1 (C.out.et.on b1)
  clear c1
  go_wp2_with fail
  refine c2.mono ?_
  rintro e w2 ⟨rfl, b2⟩
  have B2 := b1.trans (b2.mono b1.size)
  have c3 := C.out.time w2
  clear c2 b1 b2
  go_wp2_with fail
  refine c3.mono ?_
  rintro e w3 ⟨rfl, rfl⟩
  clear c3
  have c5 := C.out.st w3
  go_wp2_with fail
  refine c5.mono ?_
  rintro e w5 ⟨⟨u5, rfl, i5⟩, b5⟩
  obtain ⟨q5, k5, rfl⟩ := ints_form i5
  have B5 := B2.trans (b5.mono B2.size)
  have c6 := told_any 1 w5 (C.out.et.on B5)
  have j4 := IntA.nil w5
  clear c5 b5 B2
  go_wp2_with fail
  refine c6.mono ?_
  rintro e w6 ⟨rfl, b6⟩
  have B6 := B5.trans (b6.mono B5.size)
  have c7 := ints_eq _ _ _ w6 (i5.on b6) (j4.on b6)
  clear c6 b6 i5 j4 B5
  go_wp2_with fail
  refine c7.mono ?_
  rintro e w7 ⟨rfl, b7⟩
  have B7 := B6.trans (b7.mono B6.size)
  clear c7 b7 B6
  have c8 := C.out.rdn rfl ⟨by omega, by omega, by omega, by omega⟩ w7
  go_wp2_with fail
  refine c8.mono ?_
  rintro e w8 ⟨⟨u8, rfl, i8⟩, b8⟩
  obtain ⟨q8, k8, rfl⟩ := ints_form i8
  have B8 := B7.trans (b8.mono B7.size)
  clear c8 b8 B7
  have c9 := C.out.dn w8
  go_wp2_with fail
  refine c9.mono ?_
  rintro e w9 ⟨⟨u9, rfl, i9⟩, b9⟩
  obtain ⟨q9, k9, rfl⟩ := ints_form i9
  have B9 := B8.trans (b9.mono B8.size)
  have c10 := told_any 0 w9 (C.out.et.on B9)
  have j8 := i8.on b9
  clear i8
  clear c9 b9 B8
  go_wp2_with fail
  refine c10.mono ?_
  rintro e w10 ⟨rfl, b10⟩
  have B10 := B9.trans (b10.mono B9.size)
  have c11 := ints_eq _ _ _ w10 (i9.on b10) (j8.on b10)
  clear c10 b10 i9 j8 B9
  go_wp2_with fail
  refine c11.mono ?_
  rintro e w11 ⟨rfl, b11⟩
  have B11 : Aside (Below w0.heap.size w0 w11) := B10.trans (b11.mono B10.size)
  clear c11 b11 B10 C
  go_wp2
  go_ret
  exact ⟨rfl, B11.out⟩
set_option maxHeartbeats 2000000 in
theorem wt_tf0f (w : World) (at_ size slide a b : Int) (L M : List Int) (r1 : ¬ a < -1) (r2 : ¬ 1000000 < a) (r3 : ¬ b < a) (r4 : ¬ 1001000 < b) (c : WtC w at_ size slide a b 0 1 4 [] M true false false) :
    Calls Tryd.prog 3 #[.int .i64 at_, .int .i64 size, .int .i64 slide, .int .i64 a, .int .i64 b] w fun e w' => e = .returned (.bool true) ∧ Below w.heap.size w w' := by
  have C : Aside (WtC w at_ size slide a b 0 1 4 [] M true false false) := c
  have c0 := c.win w
  clear c
  go_enter Tryd.func3, Tryd.ntmps3
  go_wp2_with fail
  refine c0.mono ?_
  rintro e w0 ⟨rfl, rfl⟩
  have c1 := C.out.chk w0
  clear c0
  go_wp2_with fail
  refine c1.mono ?_
  rintro e w1 ⟨rfl, b1⟩
  have c2 := told_any 0 w1 (C.out.et.on b1)
  clear c1
  go_wp2_with fail
  refine c2.mono ?_
  rintro e w2 ⟨rfl, b2⟩
  have B2 := b1.trans (b2.mono b1.size)
  have c3 := C.out.time w2
  clear c2 b1 b2
  go_wp2_with fail
  refine c3.mono ?_
  rintro e w3 ⟨rfl, rfl⟩
  clear c3
  have c5 := C.out.st w3
  go_wp2_with fail
  refine c5.mono ?_
  rintro e w5 ⟨⟨u5, rfl, i5⟩, b5⟩
  obtain ⟨q5, k5, rfl⟩ := ints_form i5
  have B5 := B2.trans (b5.mono B2.size)
  have c6 := told_any 1 w5 (C.out.et.on B5)
  have j4 := IntA.nil w5
  clear c5 b5 B2
  go_wp2_with fail
  refine c6.mono ?_
  rintro e w6 ⟨rfl, b6⟩
  have B6 := B5.trans (b6.mono B5.size)
  have c7 := ints_eq _ _ _ w6 (i5.on b6) (j4.on b6)
  clear c6 b6 i5 j4 B5
  go_wp2_with fail
  refine c7.mono ?_
  rintro e w7 ⟨rfl, b7⟩
  have B7 := B6.trans (b7.mono B6.size)
  clear c7 b7 B6
  have c8 := C.out.rdn rfl ⟨by omega, by omega, by omega, by omega⟩ w7
  go_wp2_with fail
  refine c8.mono ?_
  rintro e w8 ⟨⟨u8, rfl, i8⟩, b8⟩
  obtain ⟨q8, k8, rfl⟩ := ints_form i8
  have B8 := B7.trans (b8.mono B7.size)
  clear c8 b8 B7
  have c9 := C.out.dn w8
  go_wp2_with fail
  refine c9.mono ?_
  rintro e w9 ⟨⟨u9, rfl, i9⟩, b9⟩
  obtain ⟨q9, k9, rfl⟩ := ints_form i9
  have B9 := B8.trans (b9.mono B8.size)
  have c10 := told_any 4 w9 (C.out.et.on B9)
  have j8 := i8.on b9
  clear i8
  clear c9 b9 B8
  go_wp2_with fail
  refine c10.mono ?_
  rintro e w10 ⟨rfl, b10⟩
  have B10 := B9.trans (b10.mono B9.size)
  have c11 := ints_eq _ _ _ w10 (i9.on b10) (j8.on b10)
  clear c10 b10 i9 j8 B9
  go_wp2_with fail
  refine c11.mono ?_
  rintro e w11 ⟨rfl, b11⟩
  have B11 : Aside (Below w0.heap.size w0 w11) := B10.trans (b11.mono B10.size)
  clear c11 b11 B10 C
  go_wp2
  go_ret
  exact ⟨rfl, B11.out⟩
set_option maxHeartbeats 2000000 in
theorem wt_tf1t (w : World) (at_ size slide a b : Int) (L M : List Int) (r1 : a < -1) (c : WtC w at_ size slide a b 0 1 1 [] [] true false true) :
    Calls Tryd.prog 3 #[.int .i64 at_, .int .i64 size, .int .i64 slide, .int .i64 a, .int .i64 b] w fun e w' => e = .returned (.bool true) ∧ Below w.heap.size w w' := by
  have C : Aside (WtC w at_ size slide a b 0 1 1 [] [] true false true) := c
  have c0 := c.win w
  clear c
  go_enter Tryd.func3, Tryd.ntmps3
  go_wp2_with fail
  refine c0.mono ?_
  rintro e w0 ⟨rfl, rfl⟩
  have c1 := C.out.chk w0
  clear c0
  go_wp2_with fail
  refine c1.mono ?_
  rintro e w1 ⟨rfl, b1⟩
  have c2 := told_any 0 w1 (C.out.et.on b1)
  clear c1
  go_wp2_with fail
  refine c2.mono ?_
  rintro e w2 ⟨rfl, b2⟩
  have B2 := b1.trans (b2.mono b1.size)
  have c3 := C.out.time w2
  clear c2 b1 b2
  go_wp2_with fail
  refine c3.mono ?_
  rintro e w3 ⟨rfl, rfl⟩
  clear c3
  have c5 := C.out.st w3
  go_wp2_with fail
  refine c5.mono ?_
  rintro e w5 ⟨⟨u5, rfl, i5⟩, b5⟩
  obtain ⟨q5, k5, rfl⟩ := ints_form i5
  have B5 := B2.trans (b5.mono B2.size)
  have c6 := told_any 1 w5 (C.out.et.on B5)
  have j4 := IntA.nil w5
  clear c5 b5 B2
  go_wp2_with fail
  refine c6.mono ?_
  rintro e w6 ⟨rfl, b6⟩
  have B6 := B5.trans (b6.mono B5.size)
  have c7 := ints_eq _ _ _ w6 (i5.on b6) (j4.on b6)
  clear c6 b6 i5 j4 B5
  go_wp2_with fail
  refine c7.mono ?_
  rintro e w7 ⟨rfl, b7⟩
  have B7 := B6.trans (b7.mono B6.size)
  clear c7 b7 B6
  have c9 := C.out.dn w7
  go_wp2_with fail
  refine c9.mono ?_
  rintro e w9 ⟨⟨u9, rfl, i9⟩, b9⟩
  obtain ⟨q9, k9, rfl⟩ := ints_form i9
  have B9 := B7.trans (b9.mono B7.size)
  have c10 := told_any 1 w9 (C.out.et.on B9)
  have j8 := IntA.nil w9
  clear c9 b9 B7
  go_wp2_with fail
  refine c10.mono ?_
  rintro e w10 ⟨rfl, b10⟩
  have B10 := B9.trans (b10.mono B9.size)
  have c11 := ints_eq _ _ _ w10 (i9.on b10) (j8.on b10)
  clear c10 b10 i9 j8 B9
  go_wp2_with fail
  refine c11.mono ?_
  rintro e w11 ⟨rfl, b11⟩
  have B11 : Aside (Below w0.heap.size w0 w11) := B10.trans (b11.mono B10.size)
  clear c11 b11 B10 C
  go_wp2
  go_ret
  exact ⟨rfl, B11.out⟩
set_option maxHeartbeats 2000000 in
theorem wt_tf2t (w : World) (at_ size slide a b : Int) (L M : List Int) (r1 : ¬ a < -1) (r2 : 1000000 < a) (c : WtC w at_ size slide a b 0 1 1 [] [] true false true) :
    Calls Tryd.prog 3 #[.int .i64 at_, .int .i64 size, .int .i64 slide, .int .i64 a, .int .i64 b] w fun e w' => e = .returned (.bool true) ∧ Below w.heap.size w w' := by
  have C : Aside (WtC w at_ size slide a b 0 1 1 [] [] true false true) := c
  have c0 := c.win w
  clear c
  go_enter Tryd.func3, Tryd.ntmps3
  go_wp2_with fail
  refine c0.mono ?_
  rintro e w0 ⟨rfl, rfl⟩
  have c1 := C.out.chk w0
  clear c0
  go_wp2_with fail
  refine c1.mono ?_
  rintro e w1 ⟨rfl, b1⟩
  have c2 := told_any 0 w1 (C.out.et.on b1)
  clear c1
  go_wp2_with fail
  refine c2.mono ?_
  rintro e w2 ⟨rfl, b2⟩
  have B2 := b1.trans (b2.mono b1.size)
  have c3 := C.out.time w2
  clear c2 b1 b2
  go_wp2_with fail
  refine c3.mono ?_
  rintro e w3 ⟨rfl, rfl⟩
  clear c3
  have c5 := C.out.st w3
  go_wp2_with fail
  refine c5.mono ?_
  rintro e w5 ⟨⟨u5, rfl, i5⟩, b5⟩
  obtain ⟨q5, k5, rfl⟩ := ints_form i5
  have B5 := B2.trans (b5.mono B2.size)
  have c6 := told_any 1 w5 (C.out.et.on B5)
  have j4 := IntA.nil w5
  clear c5 b5 B2
  go_wp2_with fail
  refine c6.mono ?_
  rintro e w6 ⟨rfl, b6⟩
  have B6 := B5.trans (b6.mono B5.size)
  have c7 := ints_eq _ _ _ w6 (i5.on b6) (j4.on b6)
  clear c6 b6 i5 j4 B5
  go_wp2_with fail
  refine c7.mono ?_
  rintro e w7 ⟨rfl, b7⟩
  have B7 := B6.trans (b7.mono B6.size)
  clear c7 b7 B6
  have c9 := C.out.dn w7
  go_wp2_with fail
  refine c9.mono ?_
  rintro e w9 ⟨⟨u9, rfl, i9⟩, b9⟩
  obtain ⟨q9, k9, rfl⟩ := ints_form i9
  have B9 := B7.trans (b9.mono B7.size)
  have c10 := told_any 1 w9 (C.out.et.on B9)
  have j8 := IntA.nil w9
  clear c9 b9 B7
  go_wp2_with fail
  refine c10.mono ?_
  rintro e w10 ⟨rfl, b10⟩
  have B10 := B9.trans (b10.mono B9.size)
  have c11 := ints_eq _ _ _ w10 (i9.on b10) (j8.on b10)
  clear c10 b10 i9 j8 B9
  go_wp2_with fail
  refine c11.mono ?_
  rintro e w11 ⟨rfl, b11⟩
  have B11 : Aside (Below w0.heap.size w0 w11) := B10.trans (b11.mono B10.size)
  clear c11 b11 B10 C
  go_wp2
  go_ret
  exact ⟨rfl, B11.out⟩
set_option maxHeartbeats 2000000 in
theorem wt_tf3t (w : World) (at_ size slide a b : Int) (L M : List Int) (r1 : ¬ a < -1) (r2 : ¬ 1000000 < a) (r3 : b < a) (c : WtC w at_ size slide a b 0 1 1 [] [] true false true) :
    Calls Tryd.prog 3 #[.int .i64 at_, .int .i64 size, .int .i64 slide, .int .i64 a, .int .i64 b] w fun e w' => e = .returned (.bool true) ∧ Below w.heap.size w w' := by
  have C : Aside (WtC w at_ size slide a b 0 1 1 [] [] true false true) := c
  have c0 := c.win w
  clear c
  go_enter Tryd.func3, Tryd.ntmps3
  go_wp2_with fail
  refine c0.mono ?_
  rintro e w0 ⟨rfl, rfl⟩
  have c1 := C.out.chk w0
  clear c0
  go_wp2_with fail
  refine c1.mono ?_
  rintro e w1 ⟨rfl, b1⟩
  have c2 := told_any 0 w1 (C.out.et.on b1)
  clear c1
  go_wp2_with fail
  refine c2.mono ?_
  rintro e w2 ⟨rfl, b2⟩
  have B2 := b1.trans (b2.mono b1.size)
  have c3 := C.out.time w2
  clear c2 b1 b2
  go_wp2_with fail
  refine c3.mono ?_
  rintro e w3 ⟨rfl, rfl⟩
  clear c3
  have c5 := C.out.st w3
  go_wp2_with fail
  refine c5.mono ?_
  rintro e w5 ⟨⟨u5, rfl, i5⟩, b5⟩
  obtain ⟨q5, k5, rfl⟩ := ints_form i5
  have B5 := B2.trans (b5.mono B2.size)
  have c6 := told_any 1 w5 (C.out.et.on B5)
  have j4 := IntA.nil w5
  clear c5 b5 B2
  go_wp2_with fail
  refine c6.mono ?_
  rintro e w6 ⟨rfl, b6⟩
  have B6 := B5.trans (b6.mono B5.size)
  have c7 := ints_eq _ _ _ w6 (i5.on b6) (j4.on b6)
  clear c6 b6 i5 j4 B5
  go_wp2_with fail
  refine c7.mono ?_
  rintro e w7 ⟨rfl, b7⟩
  have B7 := B6.trans (b7.mono B6.size)
  clear c7 b7 B6
  have c9 := C.out.dn w7
  go_wp2_with fail
  refine c9.mono ?_
  rintro e w9 ⟨⟨u9, rfl, i9⟩, b9⟩
  obtain ⟨q9, k9, rfl⟩ := ints_form i9
  have B9 := B7.trans (b9.mono B7.size)
  have c10 := told_any 1 w9 (C.out.et.on B9)
  have j8 := IntA.nil w9
  clear c9 b9 B7
  go_wp2_with fail
  refine c10.mono ?_
  rintro e w10 ⟨rfl, b10⟩
  have B10 := B9.trans (b10.mono B9.size)
  have c11 := ints_eq _ _ _ w10 (i9.on b10) (j8.on b10)
  clear c10 b10 i9 j8 B9
  go_wp2_with fail
  refine c11.mono ?_
  rintro e w11 ⟨rfl, b11⟩
  have B11 : Aside (Below w0.heap.size w0 w11) := B10.trans (b11.mono B10.size)
  clear c11 b11 B10 C
  go_wp2
  go_ret
  exact ⟨rfl, B11.out⟩
set_option maxHeartbeats 2000000 in
theorem wt_tf4t (w : World) (at_ size slide a b : Int) (L M : List Int) (r1 : ¬ a < -1) (r2 : ¬ 1000000 < a) (r3 : ¬ b < a) (r4 : 1001000 < b) (c : WtC w at_ size slide a b 0 1 1 [] [] true false true) :
    Calls Tryd.prog 3 #[.int .i64 at_, .int .i64 size, .int .i64 slide, .int .i64 a, .int .i64 b] w fun e w' => e = .returned (.bool true) ∧ Below w.heap.size w w' := by
  have C : Aside (WtC w at_ size slide a b 0 1 1 [] [] true false true) := c
  have c0 := c.win w
  clear c
  go_enter Tryd.func3, Tryd.ntmps3
  go_wp2_with fail
  refine c0.mono ?_
  rintro e w0 ⟨rfl, rfl⟩
  have c1 := C.out.chk w0
  clear c0
  go_wp2_with fail
  refine c1.mono ?_
  rintro e w1 ⟨rfl, b1⟩
  have c2 := told_any 0 w1 (C.out.et.on b1)
  clear c1
  go_wp2_with fail
  refine c2.mono ?_
  rintro e w2 ⟨rfl, b2⟩
  have B2 := b1.trans (b2.mono b1.size)
  have c3 := C.out.time w2
  clear c2 b1 b2
  go_wp2_with fail
  refine c3.mono ?_
  rintro e w3 ⟨rfl, rfl⟩
  clear c3
  have c5 := C.out.st w3
  go_wp2_with fail
  refine c5.mono ?_
  rintro e w5 ⟨⟨u5, rfl, i5⟩, b5⟩
  obtain ⟨q5, k5, rfl⟩ := ints_form i5
  have B5 := B2.trans (b5.mono B2.size)
  have c6 := told_any 1 w5 (C.out.et.on B5)
  have j4 := IntA.nil w5
  clear c5 b5 B2
  go_wp2_with fail
  refine c6.mono ?_
  rintro e w6 ⟨rfl, b6⟩
  have B6 := B5.trans (b6.mono B5.size)
  have c7 := ints_eq _ _ _ w6 (i5.on b6) (j4.on b6)
  clear c6 b6 i5 j4 B5
  go_wp2_with fail
  refine c7.mono ?_
  rintro e w7 ⟨rfl, b7⟩
  have B7 := B6.trans (b7.mono B6.size)
  clear c7 b7 B6
  have c9 := C.out.dn w7
  go_wp2_with fail
  refine c9.mono ?_
  rintro e w9 ⟨⟨u9, rfl, i9⟩, b9⟩
  obtain ⟨q9, k9, rfl⟩ := ints_form i9
  have B9 := B7.trans (b9.mono B7.size)
  have c10 := told_any 1 w9 (C.out.et.on B9)
  have j8 := IntA.nil w9
  clear c9 b9 B7
  go_wp2_with fail
  refine c10.mono ?_
  rintro e w10 ⟨rfl, b10⟩
  have B10 := B9.trans (b10.mono B9.size)
  have c11 := ints_eq _ _ _ w10 (i9.on b10) (j8.on b10)
  clear c10 b10 i9 j8 B9
  go_wp2_with fail
  refine c11.mono ?_
  rintro e w11 ⟨rfl, b11⟩
  have B11 : Aside (Below w0.heap.size w0 w11) := B10.trans (b11.mono B10.size)
  clear c11 b11 B10 C
  go_wp2
  go_ret
  exact ⟨rfl, B11.out⟩
set_option maxHeartbeats 2000000 in
theorem wt_ft0t (w : World) (at_ size slide a b : Int) (L M : List Int) (r1 : ¬ a < -1) (r2 : ¬ 1000000 < a) (r3 : ¬ b < a) (r4 : ¬ 1001000 < b) (c : WtC w at_ size slide a b 1 1 1 [] [] false true true) :
    Calls Tryd.prog 3 #[.int .i64 at_, .int .i64 size, .int .i64 slide, .int .i64 a, .int .i64 b] w fun e w' => e = .returned (.bool true) ∧ Below w.heap.size w w' := by
  have C : Aside (WtC w at_ size slide a b 1 1 1 [] [] false true true) := c
  have c0 := c.win w
  clear c
  go_enter Tryd.func3, Tryd.ntmps3
  go_wp2_with fail
  refine c0.mono ?_
  rintro e w0 ⟨rfl, rfl⟩
  have c1 := C.out.chk w0
  clear c0
  go_wp2_with fail
  refine c1.mono ?_
  rintro e w1 ⟨rfl, b1⟩
  have c2 := told_any 1 w1 (C.out.et.on b1)
  clear c1
  go_wp2_with fail
  refine c2.mono ?_
  rintro e w2 ⟨rfl, b2⟩
  have B2 := b1.trans (b2.mono b1.size)
  have c3 := C.out.time w2
  clear c2 b1 b2
  go_wp2_with fail
  refine c3.mono ?_
  rintro e w3 ⟨rfl, rfl⟩
  clear c3
  have c5 := C.out.st w3
  go_wp2_with fail
  refine c5.mono ?_
  rintro e w5 ⟨⟨u5, rfl, i5⟩, b5⟩
  obtain ⟨q5, k5, rfl⟩ := ints_form i5
  have B5 := B2.trans (b5.mono B2.size)
  have c6 := told_any 1 w5 (C.out.et.on B5)
  have j4 := IntA.nil w5
  clear c5 b5 B2
  go_wp2_with fail
  refine c6.mono ?_
  rintro e w6 ⟨rfl, b6⟩
  have B6 := B5.trans (b6.mono B5.size)
  have c7 := ints_eq _ _ _ w6 (i5.on b6) (j4.on b6)
  clear c6 b6 i5 j4 B5
  go_wp2_with fail
  refine c7.mono ?_
  rintro e w7 ⟨rfl, b7⟩
  have B7 := B6.trans (b7.mono B6.size)
  clear c7 b7 B6
  have c9 := C.out.dn w7
  go_wp2_with fail
  refine c9.mono ?_
  rintro e w9 ⟨⟨u9, rfl, i9⟩, b9⟩
  obtain ⟨q9, k9, rfl⟩ := ints_form i9
  have B9 := B7.trans (b9.mono B7.size)
  have c10 := told_any 1 w9 (C.out.et.on B9)
  have j8 := IntA.nil w9
  clear c9 b9 B7
  go_wp2_with fail
  refine c10.mono ?_
  rintro e w10 ⟨rfl, b10⟩
  have B10 := B9.trans (b10.mono B9.size)
  have c11 := ints_eq _ _ _ w10 (i9.on b10) (j8.on b10)
  clear c10 b10 i9 j8 B9
  go_wp2_with fail
  refine c11.mono ?_
  rintro e w11 ⟨rfl, b11⟩
  have B11 : Aside (Below w0.heap.size w0 w11) := B10.trans (b11.mono B10.size)
  clear c11 b11 B10 C
  go_wp2
  go_ret
  exact ⟨rfl, B11.out⟩
set_option maxHeartbeats 2000000 in
theorem wt_ft1t (w : World) (at_ size slide a b : Int) (L M : List Int) (r1 : a < -1) (c : WtC w at_ size slide a b 1 1 1 [] [] false true true) :
    Calls Tryd.prog 3 #[.int .i64 at_, .int .i64 size, .int .i64 slide, .int .i64 a, .int .i64 b] w fun e w' => e = .returned (.bool true) ∧ Below w.heap.size w w' := by
  have C : Aside (WtC w at_ size slide a b 1 1 1 [] [] false true true) := c
  have c0 := c.win w
  clear c
  go_enter Tryd.func3, Tryd.ntmps3
  go_wp2_with fail
  refine c0.mono ?_
  rintro e w0 ⟨rfl, rfl⟩
  have c1 := C.out.chk w0
  clear c0
  go_wp2_with fail
  refine c1.mono ?_
  rintro e w1 ⟨rfl, b1⟩
  have c2 := told_any 1 w1 (C.out.et.on b1)
  clear c1
  go_wp2_with fail
  refine c2.mono ?_
  rintro e w2 ⟨rfl, b2⟩
  have B2 := b1.trans (b2.mono b1.size)
  have c3 := C.out.time w2
  clear c2 b1 b2
  go_wp2_with fail
  refine c3.mono ?_
  rintro e w3 ⟨rfl, rfl⟩
  clear c3
  have c5 := C.out.st w3
  go_wp2_with fail
  refine c5.mono ?_
  rintro e w5 ⟨⟨u5, rfl, i5⟩, b5⟩
  obtain ⟨q5, k5, rfl⟩ := ints_form i5
  have B5 := B2.trans (b5.mono B2.size)
  have c6 := told_any 1 w5 (C.out.et.on B5)
  have j4 := IntA.nil w5
  clear c5 b5 B2
  go_wp2_with fail
  refine c6.mono ?_
  rintro e w6 ⟨rfl, b6⟩
  have B6 := B5.trans (b6.mono B5.size)
  have c7 := ints_eq _ _ _ w6 (i5.on b6) (j4.on b6)
  clear c6 b6 i5 j4 B5
  go_wp2_with fail
  refine c7.mono ?_
  rintro e w7 ⟨rfl, b7⟩
  have B7 := B6.trans (b7.mono B6.size)
  clear c7 b7 B6
  have c9 := C.out.dn w7
  go_wp2_with fail
  refine c9.mono ?_
  rintro e w9 ⟨⟨u9, rfl, i9⟩, b9⟩
  obtain ⟨q9, k9, rfl⟩ := ints_form i9
  have B9 := B7.trans (b9.mono B7.size)
  have c10 := told_any 1 w9 (C.out.et.on B9)
  have j8 := IntA.nil w9
  clear c9 b9 B7
  go_wp2_with fail
  refine c10.mono ?_
  rintro e w10 ⟨rfl, b10⟩
  have B10 := B9.trans (b10.mono B9.size)
  have c11 := ints_eq _ _ _ w10 (i9.on b10) (j8.on b10)
  clear c10 b10 i9 j8 B9
  go_wp2_with fail
  refine c11.mono ?_
  rintro e w11 ⟨rfl, b11⟩
  have B11 : Aside (Below w0.heap.size w0 w11) := B10.trans (b11.mono B10.size)
  clear c11 b11 B10 C
  go_wp2
  go_ret
  exact ⟨rfl, B11.out⟩
set_option maxHeartbeats 2000000 in
theorem wt_ft2t (w : World) (at_ size slide a b : Int) (L M : List Int) (r1 : ¬ a < -1) (r2 : 1000000 < a) (c : WtC w at_ size slide a b 1 1 1 [] [] false true true) :
    Calls Tryd.prog 3 #[.int .i64 at_, .int .i64 size, .int .i64 slide, .int .i64 a, .int .i64 b] w fun e w' => e = .returned (.bool true) ∧ Below w.heap.size w w' := by
  have C : Aside (WtC w at_ size slide a b 1 1 1 [] [] false true true) := c
  have c0 := c.win w
  clear c
  go_enter Tryd.func3, Tryd.ntmps3
  go_wp2_with fail
  refine c0.mono ?_
  rintro e w0 ⟨rfl, rfl⟩
  have c1 := C.out.chk w0
  clear c0
  go_wp2_with fail
  refine c1.mono ?_
  rintro e w1 ⟨rfl, b1⟩
  have c2 := told_any 1 w1 (C.out.et.on b1)
  clear c1
  go_wp2_with fail
  refine c2.mono ?_
  rintro e w2 ⟨rfl, b2⟩
  have B2 := b1.trans (b2.mono b1.size)
  have c3 := C.out.time w2
  clear c2 b1 b2
  go_wp2_with fail
  refine c3.mono ?_
  rintro e w3 ⟨rfl, rfl⟩
  clear c3
  have c5 := C.out.st w3
  go_wp2_with fail
  refine c5.mono ?_
  rintro e w5 ⟨⟨u5, rfl, i5⟩, b5⟩
  obtain ⟨q5, k5, rfl⟩ := ints_form i5
  have B5 := B2.trans (b5.mono B2.size)
  have c6 := told_any 1 w5 (C.out.et.on B5)
  have j4 := IntA.nil w5
  clear c5 b5 B2
  go_wp2_with fail
  refine c6.mono ?_
  rintro e w6 ⟨rfl, b6⟩
  have B6 := B5.trans (b6.mono B5.size)
  have c7 := ints_eq _ _ _ w6 (i5.on b6) (j4.on b6)
  clear c6 b6 i5 j4 B5
  go_wp2_with fail
  refine c7.mono ?_
  rintro e w7 ⟨rfl, b7⟩
  have B7 := B6.trans (b7.mono B6.size)
  clear c7 b7 B6
  have c9 := C.out.dn w7
  go_wp2_with fail
  refine c9.mono ?_
  rintro e w9 ⟨⟨u9, rfl, i9⟩, b9⟩
  obtain ⟨q9, k9, rfl⟩ := ints_form i9
  have B9 := B7.trans (b9.mono B7.size)
  have c10 := told_any 1 w9 (C.out.et.on B9)
  have j8 := IntA.nil w9
  clear c9 b9 B7
  go_wp2_with fail
  refine c10.mono ?_
  rintro e w10 ⟨rfl, b10⟩
  have B10 := B9.trans (b10.mono B9.size)
  have c11 := ints_eq _ _ _ w10 (i9.on b10) (j8.on b10)
  clear c10 b10 i9 j8 B9
  go_wp2_with fail
  refine c11.mono ?_
  rintro e w11 ⟨rfl, b11⟩
  have B11 : Aside (Below w0.heap.size w0 w11) := B10.trans (b11.mono B10.size)
  clear c11 b11 B10 C
  go_wp2
  go_ret
  exact ⟨rfl, B11.out⟩
set_option maxHeartbeats 2000000 in
theorem wt_ft3t (w : World) (at_ size slide a b : Int) (L M : List Int) (r1 : ¬ a < -1) (r2 : ¬ 1000000 < a) (r3 : b < a) (c : WtC w at_ size slide a b 1 1 1 [] [] false true true) :
    Calls Tryd.prog 3 #[.int .i64 at_, .int .i64 size, .int .i64 slide, .int .i64 a, .int .i64 b] w fun e w' => e = .returned (.bool true) ∧ Below w.heap.size w w' := by
  have C : Aside (WtC w at_ size slide a b 1 1 1 [] [] false true true) := c
  have c0 := c.win w
  clear c
  go_enter Tryd.func3, Tryd.ntmps3
  go_wp2_with fail
  refine c0.mono ?_
  rintro e w0 ⟨rfl, rfl⟩
  have c1 := C.out.chk w0
  clear c0
  go_wp2_with fail
  refine c1.mono ?_
  rintro e w1 ⟨rfl, b1⟩
  have c2 := told_any 1 w1 (C.out.et.on b1)
  clear c1
  go_wp2_with fail
  refine c2.mono ?_
  rintro e w2 ⟨rfl, b2⟩
  have B2 := b1.trans (b2.mono b1.size)
  have c3 := C.out.time w2
  clear c2 b1 b2
  go_wp2_with fail
  refine c3.mono ?_
  rintro e w3 ⟨rfl, rfl⟩
  clear c3
  have c5 := C.out.st w3
  go_wp2_with fail
  refine c5.mono ?_
  rintro e w5 ⟨⟨u5, rfl, i5⟩, b5⟩
  obtain ⟨q5, k5, rfl⟩ := ints_form i5
  have B5 := B2.trans (b5.mono B2.size)
  have c6 := told_any 1 w5 (C.out.et.on B5)
  have j4 := IntA.nil w5
  clear c5 b5 B2
  go_wp2_with fail
  refine c6.mono ?_
  rintro e w6 ⟨rfl, b6⟩
  have B6 := B5.trans (b6.mono B5.size)
  have c7 := ints_eq _ _ _ w6 (i5.on b6) (j4.on b6)
  clear c6 b6 i5 j4 B5
  go_wp2_with fail
  refine c7.mono ?_
  rintro e w7 ⟨rfl, b7⟩
  have B7 := B6.trans (b7.mono B6.size)
  clear c7 b7 B6
  have c9 := C.out.dn w7
  go_wp2_with fail
  refine c9.mono ?_
  rintro e w9 ⟨⟨u9, rfl, i9⟩, b9⟩
  obtain ⟨q9, k9, rfl⟩ := ints_form i9
  have B9 := B7.trans (b9.mono B7.size)
  have c10 := told_any 1 w9 (C.out.et.on B9)
  have j8 := IntA.nil w9
  clear c9 b9 B7
  go_wp2_with fail
  refine c10.mono ?_
  rintro e w10 ⟨rfl, b10⟩
  have B10 := B9.trans (b10.mono B9.size)
  have c11 := ints_eq _ _ _ w10 (i9.on b10) (j8.on b10)
  clear c10 b10 i9 j8 B9
  go_wp2_with fail
  refine c11.mono ?_
  rintro e w11 ⟨rfl, b11⟩
  have B11 : Aside (Below w0.heap.size w0 w11) := B10.trans (b11.mono B10.size)
  clear c11 b11 B10 C
  go_wp2
  go_ret
  exact ⟨rfl, B11.out⟩
set_option maxHeartbeats 2000000 in
theorem wt_ft4t (w : World) (at_ size slide a b : Int) (L M : List Int) (r1 : ¬ a < -1) (r2 : ¬ 1000000 < a) (r3 : ¬ b < a) (r4 : 1001000 < b) (c : WtC w at_ size slide a b 1 1 1 [] [] false true true) :
    Calls Tryd.prog 3 #[.int .i64 at_, .int .i64 size, .int .i64 slide, .int .i64 a, .int .i64 b] w fun e w' => e = .returned (.bool true) ∧ Below w.heap.size w w' := by
  have C : Aside (WtC w at_ size slide a b 1 1 1 [] [] false true true) := c
  have c0 := c.win w
  clear c
  go_enter Tryd.func3, Tryd.ntmps3
  go_wp2_with fail
  refine c0.mono ?_
  rintro e w0 ⟨rfl, rfl⟩
  have c1 := C.out.chk w0
  clear c0
  go_wp2_with fail
  refine c1.mono ?_
  rintro e w1 ⟨rfl, b1⟩
  have c2 := told_any 1 w1 (C.out.et.on b1)
  clear c1
  go_wp2_with fail
  refine c2.mono ?_
  rintro e w2 ⟨rfl, b2⟩
  have B2 := b1.trans (b2.mono b1.size)
  have c3 := C.out.time w2
  clear c2 b1 b2
  go_wp2_with fail
  refine c3.mono ?_
  rintro e w3 ⟨rfl, rfl⟩
  clear c3
  have c5 := C.out.st w3
  go_wp2_with fail
  refine c5.mono ?_
  rintro e w5 ⟨⟨u5, rfl, i5⟩, b5⟩
  obtain ⟨q5, k5, rfl⟩ := ints_form i5
  have B5 := B2.trans (b5.mono B2.size)
  have c6 := told_any 1 w5 (C.out.et.on B5)
  have j4 := IntA.nil w5
  clear c5 b5 B2
  go_wp2_with fail
  refine c6.mono ?_
  rintro e w6 ⟨rfl, b6⟩
  have B6 := B5.trans (b6.mono B5.size)
  have c7 := ints_eq _ _ _ w6 (i5.on b6) (j4.on b6)
  clear c6 b6 i5 j4 B5
  go_wp2_with fail
  refine c7.mono ?_
  rintro e w7 ⟨rfl, b7⟩
  have B7 := B6.trans (b7.mono B6.size)
  clear c7 b7 B6
  have c9 := C.out.dn w7
  go_wp2_with fail
  refine c9.mono ?_
  rintro e w9 ⟨⟨u9, rfl, i9⟩, b9⟩
  obtain ⟨q9, k9, rfl⟩ := ints_form i9
  have B9 := B7.trans (b9.mono B7.size)
  have c10 := told_any 1 w9 (C.out.et.on B9)
  have j8 := IntA.nil w9
  clear c9 b9 B7
  go_wp2_with fail
  refine c10.mono ?_
  rintro e w10 ⟨rfl, b10⟩
  have B10 := B9.trans (b10.mono B9.size)
  have c11 := ints_eq _ _ _ w10 (i9.on b10) (j8.on b10)
  clear c10 b10 i9 j8 B9
  go_wp2_with fail
  refine c11.mono ?_
  rintro e w11 ⟨rfl, b11⟩
  have B11 : Aside (Below w0.heap.size w0 w11) := B10.trans (b11.mono B10.size)
  clear c11 b11 B10 C
  go_wp2
  go_ret
  exact ⟨rfl, B11.out⟩
set_option maxHeartbeats 2000000 in
theorem wt_ff0t (w : World) (at_ size slide a b : Int) (L M : List Int) (r1 : ¬ a < -1) (r2 : ¬ 1000000 < a) (r3 : ¬ b < a) (r4 : ¬ 1001000 < b) (c : WtC w at_ size slide a b 1 1 1 [] [] false false true) :
    Calls Tryd.prog 3 #[.int .i64 at_, .int .i64 size, .int .i64 slide, .int .i64 a, .int .i64 b] w fun e w' => e = .returned (.bool true) ∧ Below w.heap.size w w' := by
  have C : Aside (WtC w at_ size slide a b 1 1 1 [] [] false false true) := c
  have c0 := c.win w
  clear c
  go_enter Tryd.func3, Tryd.ntmps3
  go_wp2_with fail
  refine c0.mono ?_
  rintro e w0 ⟨rfl, rfl⟩
  have c1 := C.out.chk w0
  clear c0
  go_wp2_with fail
  refine c1.mono ?_
  rintro e w1 ⟨rfl, b1⟩
  have c2 := told_any 1 w1 (C.out.et.on b1)
  clear c1
  go_wp2_with fail
  refine c2.mono ?_
  rintro e w2 ⟨rfl, b2⟩
  have B2 := b1.trans (b2.mono b1.size)
  have c3 := C.out.time w2
  clear c2 b1 b2
  go_wp2_with fail
  refine c3.mono ?_
  rintro e w3 ⟨rfl, rfl⟩
  clear c3
  have c5 := C.out.st w3
  go_wp2_with fail
  refine c5.mono ?_
  rintro e w5 ⟨⟨u5, rfl, i5⟩, b5⟩
  obtain ⟨q5, k5, rfl⟩ := ints_form i5
  have B5 := B2.trans (b5.mono B2.size)
  have c6 := told_any 1 w5 (C.out.et.on B5)
  have j4 := IntA.nil w5
  clear c5 b5 B2
  go_wp2_with fail
  refine c6.mono ?_
  rintro e w6 ⟨rfl, b6⟩
  have B6 := B5.trans (b6.mono B5.size)
  have c7 := ints_eq _ _ _ w6 (i5.on b6) (j4.on b6)
  clear c6 b6 i5 j4 B5
  go_wp2_with fail
  refine c7.mono ?_
  rintro e w7 ⟨rfl, b7⟩
  have B7 := B6.trans (b7.mono B6.size)
  clear c7 b7 B6
  have c9 := C.out.dn w7
  go_wp2_with fail
  refine c9.mono ?_
  rintro e w9 ⟨⟨u9, rfl, i9⟩, b9⟩
  obtain ⟨q9, k9, rfl⟩ := ints_form i9
  have B9 := B7.trans (b9.mono B7.size)
  have c10 := told_any 1 w9 (C.out.et.on B9)
  have j8 := IntA.nil w9
  clear c9 b9 B7
  go_wp2_with fail
  refine c10.mono ?_
  rintro e w10 ⟨rfl, b10⟩
  have B10 := B9.trans (b10.mono B9.size)
  have c11 := ints_eq _ _ _ w10 (i9.on b10) (j8.on b10)
  clear c10 b10 i9 j8 B9
  go_wp2_with fail
  refine c11.mono ?_
  rintro e w11 ⟨rfl, b11⟩
  have B11 : Aside (Below w0.heap.size w0 w11) := B10.trans (b11.mono B10.size)
  clear c11 b11 B10 C
  go_wp2
  go_ret
  exact ⟨rfl, B11.out⟩
set_option maxHeartbeats 2000000 in
theorem wt_ff1t (w : World) (at_ size slide a b : Int) (L M : List Int) (r1 : a < -1) (c : WtC w at_ size slide a b 1 1 1 [] [] false false true) :
    Calls Tryd.prog 3 #[.int .i64 at_, .int .i64 size, .int .i64 slide, .int .i64 a, .int .i64 b] w fun e w' => e = .returned (.bool true) ∧ Below w.heap.size w w' := by
  have C : Aside (WtC w at_ size slide a b 1 1 1 [] [] false false true) := c
  have c0 := c.win w
  clear c
  go_enter Tryd.func3, Tryd.ntmps3
  go_wp2_with fail
  refine c0.mono ?_
  rintro e w0 ⟨rfl, rfl⟩
  have c1 := C.out.chk w0
  clear c0
  go_wp2_with fail
  refine c1.mono ?_
  rintro e w1 ⟨rfl, b1⟩
  have c2 := told_any 1 w1 (C.out.et.on b1)
  clear c1
  go_wp2_with fail
  refine c2.mono ?_
  rintro e w2 ⟨rfl, b2⟩
  have B2 := b1.trans (b2.mono b1.size)
  have c3 := C.out.time w2
  clear c2 b1 b2
  go_wp2_with fail
  refine c3.mono ?_
  rintro e w3 ⟨rfl, rfl⟩
  clear c3
  have c5 := C.out.st w3
  go_wp2_with fail
  refine c5.mono ?_
  rintro e w5 ⟨⟨u5, rfl, i5⟩, b5⟩
  obtain ⟨q5, k5, rfl⟩ := ints_form i5
  have B5 := B2.trans (b5.mono B2.size)
  have c6 := told_any 1 w5 (C.out.et.on B5)
  have j4 := IntA.nil w5
  clear c5 b5 B2
  go_wp2_with fail
  refine c6.mono ?_
  rintro e w6 ⟨rfl, b6⟩
  have B6 := B5.trans (b6.mono B5.size)
  have c7 := ints_eq _ _ _ w6 (i5.on b6) (j4.on b6)
  clear c6 b6 i5 j4 B5
  go_wp2_with fail
  refine c7.mono ?_
  rintro e w7 ⟨rfl, b7⟩
  have B7 := B6.trans (b7.mono B6.size)
  clear c7 b7 B6
  have c9 := C.out.dn w7
  go_wp2_with fail
  refine c9.mono ?_
  rintro e w9 ⟨⟨u9, rfl, i9⟩, b9⟩
  obtain ⟨q9, k9, rfl⟩ := ints_form i9
  have B9 := B7.trans (b9.mono B7.size)
  have c10 := told_any 1 w9 (C.out.et.on B9)
  have j8 := IntA.nil w9
  clear c9 b9 B7
  go_wp2_with fail
  refine c10.mono ?_
  rintro e w10 ⟨rfl, b10⟩
  have B10 := B9.trans (b10.mono B9.size)
  have c11 := ints_eq _ _ _ w10 (i9.on b10) (j8.on b10)
  clear c10 b10 i9 j8 B9
  go_wp2_with fail
  refine c11.mono ?_
  rintro e w11 ⟨rfl, b11⟩
  have B11 : Aside (Below w0.heap.size w0 w11) := B10.trans (b11.mono B10.size)
  clear c11 b11 B10 C
  go_wp2
  go_ret
  exact ⟨rfl, B11.out⟩
set_option maxHeartbeats 2000000 in
theorem wt_ff2t (w : World) (at_ size slide a b : Int) (L M : List Int) (r1 : ¬ a < -1) (r2 : 1000000 < a) (c : WtC w at_ size slide a b 1 1 1 [] [] false false true) :
    Calls Tryd.prog 3 #[.int .i64 at_, .int .i64 size, .int .i64 slide, .int .i64 a, .int .i64 b] w fun e w' => e = .returned (.bool true) ∧ Below w.heap.size w w' := by
  have C : Aside (WtC w at_ size slide a b 1 1 1 [] [] false false true) := c
  have c0 := c.win w
  clear c
  go_enter Tryd.func3, Tryd.ntmps3
  go_wp2_with fail
  refine c0.mono ?_
  rintro e w0 ⟨rfl, rfl⟩
  have c1 := C.out.chk w0
  clear c0
  go_wp2_with fail
  refine c1.mono ?_
  rintro e w1 ⟨rfl, b1⟩
  have c2 := told_any 1 w1 (C.out.et.on b1)
  clear c1
  go_wp2_with fail
  refine c2.mono ?_
  rintro e w2 ⟨rfl, b2⟩
  have B2 := b1.trans (b2.mono b1.size)
  have c3 := C.out.time w2
  clear c2 b1 b2
  go_wp2_with fail
  refine c3.mono ?_
  rintro e w3 ⟨rfl, rfl⟩
  clear c3
  have c5 := C.out.st w3
  go_wp2_with fail
  refine c5.mono ?_
  rintro e w5 ⟨⟨u5, rfl, i5⟩, b5⟩
  obtain ⟨q5, k5, rfl⟩ := ints_form i5
  have B5 := B2.trans (b5.mono B2.size)
  have c6 := told_any 1 w5 (C.out.et.on B5)
  have j4 := IntA.nil w5
  clear c5 b5 B2
  go_wp2_with fail
  refine c6.mono ?_
  rintro e w6 ⟨rfl, b6⟩
  have B6 := B5.trans (b6.mono B5.size)
  have c7 := ints_eq _ _ _ w6 (i5.on b6) (j4.on b6)
  clear c6 b6 i5 j4 B5
  go_wp2_with fail
  refine c7.mono ?_
  rintro e w7 ⟨rfl, b7⟩
  have B7 := B6.trans (b7.mono B6.size)
  clear c7 b7 B6
  have c9 := C.out.dn w7
  go_wp2_with fail
  refine c9.mono ?_
  rintro e w9 ⟨⟨u9, rfl, i9⟩, b9⟩
  obtain ⟨q9, k9, rfl⟩ := ints_form i9
  have B9 := B7.trans (b9.mono B7.size)
  have c10 := told_any 1 w9 (C.out.et.on B9)
  have j8 := IntA.nil w9
  clear c9 b9 B7
  go_wp2_with fail
  refine c10.mono ?_
  rintro e w10 ⟨rfl, b10⟩
  have B10 := B9.trans (b10.mono B9.size)
  have c11 := ints_eq _ _ _ w10 (i9.on b10) (j8.on b10)
  clear c10 b10 i9 j8 B9
  go_wp2_with fail
  refine c11.mono ?_
  rintro e w11 ⟨rfl, b11⟩
  have B11 : Aside (Below w0.heap.size w0 w11) := B10.trans (b11.mono B10.size)
  clear c11 b11 B10 C
  go_wp2
  go_ret
  exact ⟨rfl, B11.out⟩
set_option maxHeartbeats 2000000 in
theorem wt_ff3t (w : World) (at_ size slide a b : Int) (L M : List Int) (r1 : ¬ a < -1) (r2 : ¬ 1000000 < a) (r3 : b < a) (c : WtC w at_ size slide a b 1 1 1 [] [] false false true) :
    Calls Tryd.prog 3 #[.int .i64 at_, .int .i64 size, .int .i64 slide, .int .i64 a, .int .i64 b] w fun e w' => e = .returned (.bool true) ∧ Below w.heap.size w w' := by
  have C : Aside (WtC w at_ size slide a b 1 1 1 [] [] false false true) := c
  have c0 := c.win w
  clear c
  go_enter Tryd.func3, Tryd.ntmps3
  go_wp2_with fail
  refine c0.mono ?_
  rintro e w0 ⟨rfl, rfl⟩
  have c1 := C.out.chk w0
  clear c0
  go_wp2_with fail
  refine c1.mono ?_
  rintro e w1 ⟨rfl, b1⟩
  have c2 := told_any 1 w1 (C.out.et.on b1)
  clear c1
  go_wp2_with fail
  refine c2.mono ?_
  rintro e w2 ⟨rfl, b2⟩
  have B2 := b1.trans (b2.mono b1.size)
  have c3 := C.out.time w2
  clear c2 b1 b2
  go_wp2_with fail
  refine c3.mono ?_
  rintro e w3 ⟨rfl, rfl⟩
  clear c3
  have c5 := C.out.st w3
  go_wp2_with fail
  refine c5.mono ?_
  rintro e w5 ⟨⟨u5, rfl, i5⟩, b5⟩
  obtain ⟨q5, k5, rfl⟩ := ints_form i5
  have B5 := B2.trans (b5.mono B2.size)
  have c6 := told_any 1 w5 (C.out.et.on B5)
  have j4 := IntA.nil w5
  clear c5 b5 B2
  go_wp2_with fail
  refine c6.mono ?_
  rintro e w6 ⟨rfl, b6⟩
  have B6 := B5.trans (b6.mono B5.size)
  have c7 := ints_eq _ _ _ w6 (i5.on b6) (j4.on b6)
  clear c6 b6 i5 j4 B5
  go_wp2_with fail
  refine c7.mono ?_
  rintro e w7 ⟨rfl, b7⟩
  have B7 := B6.trans (b7.mono B6.size)
  clear c7 b7 B6
  have c9 := C.out.dn w7
  go_wp2_with fail
  refine c9.mono ?_
  rintro e w9 ⟨⟨u9, rfl, i9⟩, b9⟩
  obtain ⟨q9, k9, rfl⟩ := ints_form i9
  have B9 := B7.trans (b9.mono B7.size)
  have c10 := told_any 1 w9 (C.out.et.on B9)
  have j8 := IntA.nil w9
  clear c9 b9 B7
  go_wp2_with fail
  refine c10.mono ?_
  rintro e w10 ⟨rfl, b10⟩
  have B10 := B9.trans (b10.mono B9.size)
  have c11 := ints_eq _ _ _ w10 (i9.on b10) (j8.on b10)
  clear c10 b10 i9 j8 B9
  go_wp2_with fail
  refine c11.mono ?_
  rintro e w11 ⟨rfl, b11⟩
  have B11 : Aside (Below w0.heap.size w0 w11) := B10.trans (b11.mono B10.size)
  clear c11 b11 B10 C
  go_wp2
  go_ret
  exact ⟨rfl, B11.out⟩
set_option maxHeartbeats 2000000 in
theorem wt_ff4t (w : World) (at_ size slide a b : Int) (L M : List Int) (r1 : ¬ a < -1) (r2 : ¬ 1000000 < a) (r3 : ¬ b < a) (r4 : 1001000 < b) (c : WtC w at_ size slide a b 1 1 1 [] [] false false true) :
    Calls Tryd.prog 3 #[.int .i64 at_, .int .i64 size, .int .i64 slide, .int .i64 a, .int .i64 b] w fun e w' => e = .returned (.bool true) ∧ Below w.heap.size w w' := by
  have C : Aside (WtC w at_ size slide a b 1 1 1 [] [] false false true) := c
  have c0 := c.win w
  clear c
  go_enter Tryd.func3, Tryd.ntmps3
  go_wp2_with fail
  refine c0.mono ?_
  rintro e w0 ⟨rfl, rfl⟩
  have c1 := C.out.chk w0
  clear c0
  go_wp2_with fail
  refine c1.mono ?_
  rintro e w1 ⟨rfl, b1⟩
  have c2 := told_any 1 w1 (C.out.et.on b1)
  clear c1
  go_wp2_with fail
  refine c2.mono ?_
  rintro e w2 ⟨rfl, b2⟩
  have B2 := b1.trans (b2.mono b1.size)
  have c3 := C.out.time w2
  clear c2 b1 b2
  go_wp2_with fail
  refine c3.mono ?_
  rintro e w3 ⟨rfl, rfl⟩
  clear c3
  have c5 := C.out.st w3
  go_wp2_with fail
  refine c5.mono ?_
  rintro e w5 ⟨⟨u5, rfl, i5⟩, b5⟩
  obtain ⟨q5, k5, rfl⟩ := ints_form i5
  have B5 := B2.trans (b5.mono B2.size)
  have c6 := told_any 1 w5 (C.out.et.on B5)
  have j4 := IntA.nil w5
  clear c5 b5 B2
  go_wp2_with fail
  refine c6.mono ?_
  rintro e w6 ⟨rfl, b6⟩
  have B6 := B5.trans (b6.mono B5.size)
  have c7 := ints_eq _ _ _ w6 (i5.on b6) (j4.on b6)
  clear c6 b6 i5 j4 B5
  go_wp2_with fail
  refine c7.mono ?_
  rintro e w7 ⟨rfl, b7⟩
  have B7 := B6.trans (b7.mono B6.size)
  clear c7 b7 B6
  have c9 := C.out.dn w7
  go_wp2_with fail
  refine c9.mono ?_
  rintro e w9 ⟨⟨u9, rfl, i9⟩, b9⟩
  obtain ⟨q9, k9, rfl⟩ := ints_form i9
  have B9 := B7.trans (b9.mono B7.size)
  have c10 := told_any 1 w9 (C.out.et.on B9)
  have j8 := IntA.nil w9
  clear c9 b9 B7
  go_wp2_with fail
  refine c10.mono ?_
  rintro e w10 ⟨rfl, b10⟩
  have B10 := B9.trans (b10.mono B9.size)
  have c11 := ints_eq _ _ _ w10 (i9.on b10) (j8.on b10)
  clear c10 b10 i9 j8 B9
  go_wp2_with fail
  refine c11.mono ?_
  rintro e w11 ⟨rfl, b11⟩
  have B11 : Aside (Below w0.heap.size w0 w11) := B10.trans (b11.mono B10.size)
  clear c11 b11 B10 C
  go_wp2
  go_ret
  exact ⟨rfl, B11.out⟩
end Go.Proofs.YtogndffocijinaaDoor
namespace Go.Proofs.YtogndffocijinaaDoor
open Go.RowKit
set_option linter.unusedVariables false

theorem wt_any_tt1 (w : World) (at_ size slide a b : Int) (L : List Int) (r1 : a < -1) {DN : Bool} (c : WtC w at_ size slide a b 0 0 1 L [] true true DN) :
    Calls Tryd.prog 3 #[.int .i64 at_, .int .i64 size, .int .i64 slide, .int .i64 a, .int .i64 b] w fun e w' => e = .returned (.bool true) ∧ Below w.heap.size w w' :=
  wt_tt1t w at_ size slide a b L [] r1 ⟨c.win, c.chk, c.time, c.rst, c.st, fun _ h => (by obtain ⟨h1, h2, h3, h4⟩ := h; omega), c.dn, c.et⟩
theorem wt_any_tt2 (w : World) (at_ size slide a b : Int) (L : List Int) (r1 : ¬ a < -1) (r2 : 1000000 < a) {DN : Bool} (c : WtC w at_ size slide a b 0 0 1 L [] true true DN) :
    Calls Tryd.prog 3 #[.int .i64 at_, .int .i64 size, .int .i64 slide, .int .i64 a, .int .i64 b] w fun e w' => e = .returned (.bool true) ∧ Below w.heap.size w w' :=
  wt_tt2t w at_ size slide a b L [] r1 r2 ⟨c.win, c.chk, c.time, c.rst, c.st, fun _ h => (by obtain ⟨h1, h2, h3, h4⟩ := h; omega), c.dn, c.et⟩
theorem wt_any_tt3 (w : World) (at_ size slide a b : Int) (L : List Int) (r1 : ¬ a < -1) (r2 : ¬ 1000000 < a) (r3 : b < a) {DN : Bool} (c : WtC w at_ size slide a b 0 0 1 L [] true true DN) :
    Calls Tryd.prog 3 #[.int .i64 at_, .int .i64 size, .int .i64 slide, .int .i64 a, .int .i64 b] w fun e w' => e = .returned (.bool true) ∧ Below w.heap.size w w' :=
  wt_tt3t w at_ size slide a b L [] r1 r2 r3 ⟨c.win, c.chk, c.time, c.rst, c.st, fun _ h => (by obtain ⟨h1, h2, h3, h4⟩ := h; omega), c.dn, c.et⟩
theorem wt_any_tt4 (w : World) (at_ size slide a b : Int) (L : List Int) (r1 : ¬ a < -1) (r2 : ¬ 1000000 < a) (r3 : ¬ b < a) (r4 : 1001000 < b) {DN : Bool} (c : WtC w at_ size slide a b 0 0 1 L [] true true DN) :
    Calls Tryd.prog 3 #[.int .i64 at_, .int .i64 size, .int .i64 slide, .int .i64 a, .int .i64 b] w fun e w' => e = .returned (.bool true) ∧ Below w.heap.size w w' :=
  wt_tt4t w at_ size slide a b L [] r1 r2 r3 r4 ⟨c.win, c.chk, c.time, c.rst, c.st, fun _ h => (by obtain ⟨h1, h2, h3, h4⟩ := h; omega), c.dn, c.et⟩
theorem wt_any_tf1 (w : World) (at_ size slide a b : Int) (L : List Int) (r1 : a < -1) {DN : Bool} (c : WtC w at_ size slide a b 0 1 1 [] [] true false DN) :
    Calls Tryd.prog 3 #[.int .i64 at_, .int .i64 size, .int .i64 slide, .int .i64 a, .int .i64 b] w fun e w' => e = .returned (.bool true) ∧ Below w.heap.size w w' :=
  wt_tf1t w at_ size slide a b [] [] r1 ⟨c.win, c.chk, c.time, c.rst, c.st, fun _ h => (by obtain ⟨h1, h2, h3, h4⟩ := h; omega), c.dn, c.et⟩
theorem wt_any_tf2 (w : World) (at_ size slide a b : Int) (L : List Int) (r1 : ¬ a < -1) (r2 : 1000000 < a) {DN : Bool} (c : WtC w at_ size slide a b 0 1 1 [] [] true false DN) :
    Calls Tryd.prog 3 #[.int .i64 at_, .int .i64 size, .int .i64 slide, .int .i64 a, .int .i64 b] w fun e w' => e = .returned (.bool true) ∧ Below w.heap.size w w' :=
  wt_tf2t w at_ size slide a b [] [] r1 r2 ⟨c.win, c.chk, c.time, c.rst, c.st, fun _ h => (by obtain ⟨h1, h2, h3, h4⟩ := h; omega), c.dn, c.et⟩
theorem wt_any_tf3 (w : World) (at_ size slide a b : Int) (L : List Int) (r1 : ¬ a < -1) (r2 : ¬ 1000000 < a) (r3 : b < a) {DN : Bool} (c : WtC w at_ size slide a b 0 1 1 [] [] true false DN) :
    Calls Tryd.prog 3 #[.int .i64 at_, .int .i64 size, .int .i64 slide, .int .i64 a, .int .i64 b] w fun e w' => e = .returned (.bool true) ∧ Below w.heap.size w w' :=
  wt_tf3t w at_ size slide a b [] [] r1 r2 r3 ⟨c.win, c.chk, c.time, c.rst, c.st, fun _ h => (by obtain ⟨h1, h2, h3, h4⟩ := h; omega), c.dn, c.et⟩
theorem wt_any_tf4 (w : World) (at_ size slide a b : Int) (L : List Int) (r1 : ¬ a < -1) (r2 : ¬ 1000000 < a) (r3 : ¬ b < a) (r4 : 1001000 < b) {DN : Bool} (c : WtC w at_ size slide a b 0 1 1 [] [] true false DN) :
    Calls Tryd.prog 3 #[.int .i64 at_, .int .i64 size, .int .i64 slide, .int .i64 a, .int .i64 b] w fun e w' => e = .returned (.bool true) ∧ Below w.heap.size w w' :=
  wt_tf4t w at_ size slide a b [] [] r1 r2 r3 r4 ⟨c.win, c.chk, c.time, c.rst, c.st, fun _ h => (by obtain ⟨h1, h2, h3, h4⟩ := h; omega), c.dn, c.et⟩
theorem wt_any_ft0 (w : World) (at_ size slide a b : Int) (r1 : ¬ a < -1) (r2 : ¬ 1000000 < a) (r3 : ¬ b < a) (r4 : ¬ 1001000 < b) {DN : Bool} (c : WtC w at_ size slide a b 1 1 1 [] [] false true DN) :
    Calls Tryd.prog 3 #[.int .i64 at_, .int .i64 size, .int .i64 slide, .int .i64 a, .int .i64 b] w fun e w' => e = .returned (.bool true) ∧ Below w.heap.size w w' :=
  wt_ft0t w at_ size slide a b [] [] r1 r2 r3 r4 ⟨c.win, c.chk, c.time, c.rst, c.st, fun h => (by cases h), c.dn, c.et⟩
theorem wt_any_ft1 (w : World) (at_ size slide a b : Int) (r1 : a < -1) {DN : Bool} (c : WtC w at_ size slide a b 1 1 1 [] [] false true DN) :
    Calls Tryd.prog 3 #[.int .i64 at_, .int .i64 size, .int .i64 slide, .int .i64 a, .int .i64 b] w fun e w' => e = .returned (.bool true) ∧ Below w.heap.size w w' :=
  wt_ft1t w at_ size slide a b [] [] r1 ⟨c.win, c.chk, c.time, c.rst, c.st, fun h => (by cases h), c.dn, c.et⟩
theorem wt_any_ft2 (w : World) (at_ size slide a b : Int) (r1 : ¬ a < -1) (r2 : 1000000 < a) {DN : Bool} (c : WtC w at_ size slide a b 1 1 1 [] [] false true DN) :
    Calls Tryd.prog 3 #[.int .i64 at_, .int .i64 size, .int .i64 slide, .int .i64 a, .int .i64 b] w fun e w' => e = .returned (.bool true) ∧ Below w.heap.size w w' :=
  wt_ft2t w at_ size slide a b [] [] r1 r2 ⟨c.win, c.chk, c.time, c.rst, c.st, fun h => (by cases h), c.dn, c.et⟩
theorem wt_any_ft3 (w : World) (at_ size slide a b : Int) (r1 : ¬ a < -1) (r2 : ¬ 1000000 < a) (r3 : b < a) {DN : Bool} (c : WtC w at_ size slide a b 1 1 1 [] [] false true DN) :
    Calls Tryd.prog 3 #[.int .i64 at_, .int .i64 size, .int .i64 slide, .int .i64 a, .int .i64 b] w fun e w' => e = .returned (.bool true) ∧ Below w.heap.size w w' :=
  wt_ft3t w at_ size slide a b [] [] r1 r2 r3 ⟨c.win, c.chk, c.time, c.rst, c.st, fun h => (by cases h), c.dn, c.et⟩
theorem wt_any_ft4 (w : World) (at_ size slide a b : Int) (r1 : ¬ a < -1) (r2 : ¬ 1000000 < a) (r3 : ¬ b < a) (r4 : 1001000 < b) {DN : Bool} (c : WtC w at_ size slide a b 1 1 1 [] [] false true DN) :
    Calls Tryd.prog 3 #[.int .i64 at_, .int .i64 size, .int .i64 slide, .int .i64 a, .int .i64 b] w fun e w' => e = .returned (.bool true) ∧ Below w.heap.size w w' :=
  wt_ft4t w at_ size slide a b [] [] r1 r2 r3 r4 ⟨c.win, c.chk, c.time, c.rst, c.st, fun h => (by cases h), c.dn, c.et⟩
theorem wt_any_ff0 (w : World) (at_ size slide a b : Int) (r1 : ¬ a < -1) (r2 : ¬ 1000000 < a) (r3 : ¬ b < a) (r4 : ¬ 1001000 < b) {DN : Bool} (c : WtC w at_ size slide a b 1 1 1 [] [] false false DN) :
    Calls Tryd.prog 3 #[.int .i64 at_, .int .i64 size, .int .i64 slide, .int .i64 a, .int .i64 b] w fun e w' => e = .returned (.bool true) ∧ Below w.heap.size w w' :=
  wt_ff0t w at_ size slide a b [] [] r1 r2 r3 r4 ⟨c.win, c.chk, c.time, c.rst, c.st, fun h => (by cases h), c.dn, c.et⟩
theorem wt_any_ff1 (w : World) (at_ size slide a b : Int) (r1 : a < -1) {DN : Bool} (c : WtC w at_ size slide a b 1 1 1 [] [] false false DN) :
    Calls Tryd.prog 3 #[.int .i64 at_, .int .i64 size, .int .i64 slide, .int .i64 a, .int .i64 b] w fun e w' => e = .returned (.bool true) ∧ Below w.heap.size w w' :=
  wt_ff1t w at_ size slide a b [] [] r1 ⟨c.win, c.chk, c.time, c.rst, c.st, fun h => (by cases h), c.dn, c.et⟩
theorem wt_any_ff2 (w : World) (at_ size slide a b : Int) (r1 : ¬ a < -1) (r2 : 1000000 < a) {DN : Bool} (c : WtC w at_ size slide a b 1 1 1 [] [] false false DN) :
    Calls Tryd.prog 3 #[.int .i64 at_, .int .i64 size, .int .i64 slide, .int .i64 a, .int .i64 b] w fun e w' => e = .returned (.bool true) ∧ Below w.heap.size w w' :=
  wt_ff2t w at_ size slide a b [] [] r1 r2 ⟨c.win, c.chk, c.time, c.rst, c.st, fun h => (by cases h), c.dn, c.et⟩
theorem wt_any_ff3 (w : World) (at_ size slide a b : Int) (r1 : ¬ a < -1) (r2 : ¬ 1000000 < a) (r3 : b < a) {DN : Bool} (c : WtC w at_ size slide a b 1 1 1 [] [] false false DN) :
    Calls Tryd.prog 3 #[.int .i64 at_, .int .i64 size, .int .i64 slide, .int .i64 a, .int .i64 b] w fun e w' => e = .returned (.bool true) ∧ Below w.heap.size w w' :=
  wt_ff3t w at_ size slide a b [] [] r1 r2 r3 ⟨c.win, c.chk, c.time, c.rst, c.st, fun h => (by cases h), c.dn, c.et⟩
theorem wt_any_ff4 (w : World) (at_ size slide a b : Int) (r1 : ¬ a < -1) (r2 : ¬ 1000000 < a) (r3 : ¬ b < a) (r4 : 1001000 < b) {DN : Bool} (c : WtC w at_ size slide a b 1 1 1 [] [] false false DN) :
    Calls Tryd.prog 3 #[.int .i64 at_, .int .i64 size, .int .i64 slide, .int .i64 a, .int .i64 b] w fun e w' => e = .returned (.bool true) ∧ Below w.heap.size w w' :=
  wt_ff4t w at_ size slide a b [] [] r1 r2 r3 r4 ⟨c.win, c.chk, c.time, c.rst, c.st, fun h => (by cases h), c.dn, c.et⟩
theorem tells_window (hC : ChkC) (hS : StC) (hD : DnC) (at_ size slide a b : Int) (w : World) (m1 : inM at_) (m2 : inM size) (m3 : inM slide) (m4 : inM a) (m5 : inM b) (et : EtAt w) :
    Calls Tryd.prog 3 #[.int .i64 at_, .int .i64 size, .int .i64 slide, .int .i64 a, .int .i64 b] w fun e w' => e = .returned (.bool true) ∧ Below w.heap.size w w' := by
  have c : WtC w at_ size slide a b (wdE size slide) (stE at_ size slide) (dnE a b size slide) (if stE at_ size slide = 0 then stP at_ size slide else []) (if dnE a b size slide = 0 then dnP a b size slide else []) (decide (wdB size slide)) (decide (0 ≤ at_ ∧ at_ ≤ 1000000)) (decide (dnN a b size slide ≤ 300)) := by
    refine ⟨fun W => refWindow_any size slide W, fun W => hC size slide W m2 m3, fun W => refTime_any at_ W, fun h1 h2 W => ?_, fun W => hS at_ size slide W m1 m2 m3, fun h1 h2 W => ?_, fun W => hD a b size slide W m4 m5 m2 m3, et⟩
    · have g1 := of_decide_eq_true h1
      have g2 := of_decide_eq_true h2
      rw [if_pos (st_zero g1 g2)]
      exact refStarts_any at_ size slide W g1 g2.1 g2.2
    · have g1 := of_decide_eq_true h1
      have := refDone_any a b size slide W g1 h2
      by_cases hf : dnN a b size slide ≤ 300
      · rw [if_pos (dn_zero g1 h2 hf)]
        rw [if_pos hf] at this
        exact this
      · rw [if_neg (by rw [dn_four g1 h2 hf]; decide)]
        rw [if_neg hf] at this
        exact this
  by_cases hw : wdB size slide
  · rw [wd_zero hw, decide_eq_true hw] at c
    by_cases ht : 0 ≤ at_ ∧ at_ ≤ 1000000
    · rw [st_zero hw ht, if_pos rfl, decide_eq_true ht] at c
      by_cases r1 : a < -1
      · have hr : ¬ dnR a b := fun h => by obtain ⟨h1, h2, h3, h4⟩ := h; omega
        rw [dn_one (fun h => hr h.2), if_neg one_ne] at c
        exact wt_any_tt1 w at_ size slide a b _ r1 c
      · by_cases r2 : 1000000 < a
        · have hr : ¬ dnR a b := fun h => by obtain ⟨h1, h2, h3, h4⟩ := h; omega
          rw [dn_one (fun h => hr h.2), if_neg one_ne] at c
          exact wt_any_tt2 w at_ size slide a b _ r1 r2 c
        · by_cases r3 : b < a
          · have hr : ¬ dnR a b := fun h => by obtain ⟨h1, h2, h3, h4⟩ := h; omega
            rw [dn_one (fun h => hr h.2), if_neg one_ne] at c
            exact wt_any_tt3 w at_ size slide a b _ r1 r2 r3 c
          · by_cases r4 : 1001000 < b
            · have hr : ¬ dnR a b := fun h => by obtain ⟨h1, h2, h3, h4⟩ := h; omega
              rw [dn_one (fun h => hr h.2), if_neg one_ne] at c
              exact wt_any_tt4 w at_ size slide a b _ r1 r2 r3 r4 c
            · have hr : dnR a b := ⟨by omega, by omega, by omega, by omega⟩
              by_cases hf : dnN a b size slide ≤ 300
              · rw [dn_zero hw hr hf, if_pos rfl, decide_eq_true hf] at c
                exact wt_tt0t w at_ size slide a b _ _ r1 r2 r3 r4 c
              · rw [dn_four hw hr hf, if_neg four_ne, decide_eq_false hf] at c
                exact wt_tt0f w at_ size slide a b _ _ r1 r2 r3 r4 c
    · rw [st_one (fun h => ht h.2), if_neg one_ne, decide_eq_false ht] at c
      by_cases r1 : a < -1
      · have hr : ¬ dnR a b := fun h => by obtain ⟨h1, h2, h3, h4⟩ := h; omega
        rw [dn_one (fun h => hr h.2), if_neg one_ne] at c
        exact wt_any_tf1 w at_ size slide a b [] r1 c
      · by_cases r2 : 1000000 < a
        · have hr : ¬ dnR a b := fun h => by obtain ⟨h1, h2, h3, h4⟩ := h; omega
          rw [dn_one (fun h => hr h.2), if_neg one_ne] at c
          exact wt_any_tf2 w at_ size slide a b [] r1 r2 c
        · by_cases r3 : b < a
          · have hr : ¬ dnR a b := fun h => by obtain ⟨h1, h2, h3, h4⟩ := h; omega
            rw [dn_one (fun h => hr h.2), if_neg one_ne] at c
            exact wt_any_tf3 w at_ size slide a b [] r1 r2 r3 c
          · by_cases r4 : 1001000 < b
            · have hr : ¬ dnR a b := fun h => by obtain ⟨h1, h2, h3, h4⟩ := h; omega
              rw [dn_one (fun h => hr h.2), if_neg one_ne] at c
              exact wt_any_tf4 w at_ size slide a b [] r1 r2 r3 r4 c
            · have hr : dnR a b := ⟨by omega, by omega, by omega, by omega⟩
              by_cases hf : dnN a b size slide ≤ 300
              · rw [dn_zero hw hr hf, if_pos rfl, decide_eq_true hf] at c
                exact wt_tf0t w at_ size slide a b [] _ r1 r2 r3 r4 c
              · rw [dn_four hw hr hf, if_neg four_ne, decide_eq_false hf] at c
                exact wt_tf0f w at_ size slide a b [] _ r1 r2 r3 r4 c
  · rw [wd_one hw, decide_eq_false hw, st_one (fun h => hw h.1), if_neg one_ne, dn_one (fun h => hw h.1), if_neg one_ne] at c
    by_cases ht : 0 ≤ at_ ∧ at_ ≤ 1000000
    · rw [decide_eq_true ht] at c
      by_cases r1 : a < -1
      · exact wt_any_ft1 w at_ size slide a b r1 c
      · by_cases r2 : 1000000 < a
        · exact wt_any_ft2 w at_ size slide a b r1 r2 c
        · by_cases r3 : b < a
          · exact wt_any_ft3 w at_ size slide a b r1 r2 r3 c
          · by_cases r4 : 1001000 < b
            · exact wt_any_ft4 w at_ size slide a b r1 r2 r3 r4 c
            · exact wt_any_ft0 w at_ size slide a b r1 r2 r3 r4 c
    · rw [decide_eq_false ht] at c
      by_cases r1 : a < -1
      · exact wt_any_ff1 w at_ size slide a b r1 c
      · by_cases r2 : 1000000 < a
        · exact wt_any_ff2 w at_ size slide a b r1 r2 c
        · by_cases r3 : b < a
          · exact wt_any_ff3 w at_ size slide a b r1 r2 r3 c
          · by_cases r4 : 1001000 < b
            · exact wt_any_ff4 w at_ size slide a b r1 r2 r3 r4 c
            · exact wt_any_ff0 w at_ size slide a b r1 r2 r3 r4 c
end Go.Proofs.YtogndffocijinaaDoor
namespace Go.Proofs.YtogndffocijinaaDoor
open Go.RowKit
set_option linter.unusedVariables false

/-- Where the first window begins above a time; how many begin from one place to another one. -/
def fsP (above slide : Int) : Int := if above < 0 then 0 else (above / slide + 1) * slide
def cnP (begin_ last slide : Int) : Int := if last < begin_ then 0 else (last - begin_) / slide + 1
theorem dnK_nn {a size slide : Int} (hw : wdB size slide) : 0 ≤ dnK a size slide := by
  unfold dnK
  split
  · exact Int.le_refl _
  · have := Int.ediv_nonneg (show 0 ≤ a - size by omega) (show 0 ≤ slide by have := hw.2.2.1; omega)
    omega
theorem fs_dn {a size slide : Int} : fsP (a - size) slide = dnK a size slide * slide := by
  unfold fsP dnK
  by_cases h : a < size
  · rw [if_pos (by omega), if_pos h, Int.zero_mul]
  · rw [if_neg (by omega), if_neg h]
theorem sub_div {x k d : Int} (hd : 0 < d) : (x - k * d) / d = x / d - k := by
  rw [Int.sub_eq_add_neg, ← Int.neg_mul, Int.add_mul_ediv_right _ _ (by omega)]; omega
theorem div_ge {x k d : Int} (hd : 0 < d) : k * d ≤ x ↔ k ≤ x / d := (Int.le_ediv_iff_mul_le hd).symm
theorem cn_dn {a b size slide : Int} (hw : wdB size slide) : cnP (dnK a size slide * slide) (b - size) slide = (dnN a b size slide : Int) := by
  have hd : 0 < slide := by have := hw.2.2.1; omega
  have hk := dnK_nn (a := a) hw
  have hm := Int.mul_nonneg hk (show 0 ≤ slide by omega)
  unfold cnP dnN
  by_cases h : b < size
  · rw [if_pos h, if_pos (by omega)]; rfl
  · rw [if_neg h]
    by_cases h2 : b - size < dnK a size slide * slide
    · rw [if_pos h2]
      have := mt (div_ge (x := b - size) (k := dnK a size slide) hd).2 (by omega)
      omega
    · rw [if_neg h2, sub_div hd]
      have := (div_ge (x := b - size) (k := dnK a size slide) hd).1 (by omega)
      omega
theorem cn_st {at_ size slide : Int} (hw : wdB size slide) (h0 : 0 ≤ at_) : cnP (dnK at_ size slide * slide) at_ slide = (stN at_ size slide : Int) := by
  have hd : 0 < slide := by have := hw.2.2.1; omega
  have hk := stK_eq hw h0
  have hp := st_pos hw h0
  have := (div_ge (x := at_) (k := dnK at_ size slide) hd).2 (by omega)
  unfold cnP
  rw [if_neg (by omega), sub_div hd]
  omega
theorem stS_eq {at_ size slide : Int} (hw : wdB size slide) (h0 : 0 ≤ at_) : stP at_ size slide = prg (dnK at_ size slide * slide) slide (stN at_ size slide) := by
  unfold stP stS
  rw [stK_eq hw h0]
theorem dn_top {a size slide : Int} (hw : wdB size slide) (ha : a ≤ 1000000) : dnK a size slide * slide ≤ 1001000 := by
  have hd : 0 < slide := by have := hw.2.2.1; omega
  unfold dnK
  obtain ⟨s1, s2, s3, s4, s5⟩ := hw
  split
  · rw [Int.zero_mul]; omega
  · obtain ⟨h1, h2⟩ := div_mul_le (a := a - size) hd
    rw [Int.add_mul, Int.one_mul]; omega
/-- The numbers that are laid so far. -/
def fillC (s d : Int) (n k : Nat) : List Value := (List.range n).map fun (i : Nat) => if i < k then .int .i64 (s + (i : Int) * d) else .int .i64 0
theorem fill_zero (s d : Int) (n : Nat) : fillC s d n 0 = (madeCells #[.int .i64 0] n).toList := by
  simp [fillC, madeCells]
  intro a _
  have : a % 1 = 0 := Nat.mod_one a
  simp [this]
theorem fill_end (s d : Int) (n : Nat) : fillC s d n n = intC (prg s d n) := by
  unfold fillC intC prg
  rw [List.map_map]
  apply List.map_congr_left
  intro i hi
  rw [List.mem_range] at hi
  simp [hi]
theorem fill_set (s d : Int) (n k : Nat) (hk : k < n) : (fillC s d n k).set k (.int .i64 (s + (k : Int) * d)) = fillC s d n (k + 1) := by
  apply List.ext_getElem
  · simp [fillC]
  · intro i h1 h2
    simp only [fillC, List.length_map, List.length_range] at h2
    rw [List.getElem_set]
    simp only [fillC, List.getElem_map, List.getElem_range]
    by_cases h : k = i
    · subst h; simp
    · rw [if_neg h]
      by_cases h3 : i < k
      · rw [if_pos h3, if_pos (by omega)]
      · rw [if_neg h3, if_neg (by omega)]
theorem within_any (n l m : Int) (w : World) : Calls Tryd.prog 15 #[.int .i64 n, .int .i64 l, .int .i64 m] w fun e w' => e = .returned (.bool (decide (l ≤ n ∧ n ≤ m))) ∧ w' = w := by
  by_cases h1 : l ≤ n
  · by_cases h2 : n ≤ m
    · have hd : decide (l ≤ n ∧ n ≤ m) = true := decide_eq_true ⟨h1, h2⟩
      rw [hd]
      clear hd
      go_enter Tryd.func15, Tryd.ntmps15
      go_wp2
      go_ret
      exact ⟨rfl, rfl⟩
    · have hd : decide (l ≤ n ∧ n ≤ m) = false := decide_eq_false (fun h => h2 h.2)
      rw [hd]
      clear hd
      go_enter Tryd.func15, Tryd.ntmps15
      go_wp2
      go_ret
      exact ⟨rfl, rfl⟩
  · have hd : decide (l ≤ n ∧ n ≤ m) = false := decide_eq_false (fun h => h1 h.1)
    rw [hd]
    clear hd
    go_enter Tryd.func15, Tryd.ntmps15
    go_wp2
    go_ret
    exact ⟨rfl, rfl⟩
theorem first_any (x d : Int) (w : World) (h1 : 1 ≤ d) (h2 : d ≤ 1000) (h3 : x ≤ 1000000) : Calls Tryd.prog 17 #[.int .i64 x, .int .i64 d] w fun e w' => e = .returned (.int .i64 (fsP x d)) ∧ w' = w := by
  by_cases h : x < 0
  · rw [fsP, if_pos h]
    go_enter Tryd.func17, Tryd.ntmps17
    go_wp2
    go_ret
    exact ⟨rfl, rfl⟩
  · rw [fsP, if_neg h]
    have htd : x.tdiv d = x / d := Int.tdiv_eq_ediv_of_nonneg (by omega)
    have hq := Int.ediv_nonneg (show 0 ≤ x by omega) (show 0 ≤ d by omega)
    have hdd : 0 < d := by omega
    obtain ⟨m1, m2⟩ := div_mul_le (a := x) hdd
    have hl : x / d ≤ 1000000 := by
      have := Int.mul_le_mul_of_nonneg_left h1 hq
      omega
    generalize x / d = q at htd hq m1 m2 hl ⊢
    have hm : (q + 1) * d ≤ 1001000 := by rw [Int.add_mul, Int.one_mul]; omega
    have hm0 : 0 ≤ (q + 1) * d := Int.mul_nonneg (by omega) (by omega)
    have hwr : IntKind.i64.wrap ((q + 1) * d) = (q + 1) * d := by rw [IntKind.wrap_i64]; omega
    have hd0 : ¬ d = 0 := by omega
    go_enter Tryd.func17, Tryd.ntmps17
    go_wp2
    go_ret
    exact ⟨rfl, rfl⟩
theorem count_any (s l d : Int) (w : World) (h1 : 1 ≤ d) (h2 : d ≤ 1000) (h3 : 0 ≤ s) (h4 : s ≤ 1001000) (h5 : l ≤ 1001000) (h6 : -2000 ≤ l) : Calls Tryd.prog 18 #[.int .i64 s, .int .i64 l, .int .i64 d] w fun e w' => e = .returned (.int .i64 (cnP s l d)) ∧ w' = w := by
  by_cases h : l < s
  · rw [cnP, if_pos h]
    go_enter Tryd.func18, Tryd.ntmps18
    go_wp2
    go_ret
    exact ⟨rfl, rfl⟩
  · rw [cnP, if_neg h]
    have htd : (l - s).tdiv d = (l - s) / d := Int.tdiv_eq_ediv_of_nonneg (by omega)
    have hq := Int.ediv_nonneg (show 0 ≤ l - s by omega) (show 0 ≤ d by omega)
    have hdd : 0 < d := by omega
    obtain ⟨m1, m2⟩ := div_mul_le (a := l - s) hdd
    have hl : (l - s) / d ≤ 1001000 := by
      have := Int.mul_le_mul_of_nonneg_left h1 hq
      omega
    generalize (l - s) / d = q at htd hq m1 m2 hl ⊢
    have hd0 : ¬ d = 0 := by omega
    go_enter Tryd.func18, Tryd.ntmps18
    go_wp2
    go_ret
    exact ⟨rfl, rfl⟩
set_option maxHeartbeats 2000000 in
theorem list_any (s l d : Int) (n : Nat) (w : World) (h1 : 1 ≤ d) (h2 : d ≤ 1000) (h3 : 0 ≤ s) (h4 : s ≤ 1001000) (h5 : l ≤ 1001000) (h6 : -2000 ≤ l) (hn : cnP s l d = (n : Int)) (hn2 : n ≤ 300) :
    Calls Tryd.prog 16 #[.int .i64 s, .int .i64 l, .int .i64 d] w fun e w' => (∃ u, e = .returned u ∧ IntA w' u (prg s d n)) ∧ Below w.heap.size w w' := by
  have c := count_any s l d w h1 h2 h3 h4 h5 h6
  rw [hn] at c
  have hmk := run_make_row' (P := Tryd.prog) 28 3 (.int .i64 0) 8 Tryd.underlying28 info_intA rfl .i64 .i64 n (by omega) (by omega)
  clear hn
  go_enter Tryd.func16, Tryd.ntmps16
  go_wp2_with fail
  refine c.mono ?_
  rintro e w1 ⟨rfl, rfl⟩
  clear c
  go_wp2
  go_loopg [16] n (fun gg s16 wr => ∃ kk : Nat, kk ≤ n ∧ n - kk ≤ gg ∧ s16 = .int .i64 kk ∧ Aside (wr.ownsRow w1.heap.size 3 1 (.slice (some ⟨w1.heap.size, 0, none⟩) n n) n (fillC s d n kk)) ∧ Aside (Below w1.heap.size w1 wr))
  case atStart =>
    refine ⟨0, Nat.zero_le _, by omega, rfl, ?_, ?_⟩
    · show World.ownsRow _ _ _ _ _ _ _
      rw [fill_zero]
      have o1 := World.ownsRow_lit (base := w1.heap.size) (e := 3) (size := 1) w1 (madeCells #[.int .i64 0] n) n (Nat.le_refl _) (by unfold maxLen; omega) (by rw [size_madeCells, Nat.mul_one])
      exact o1
    · exact (Below.refl _ w1).alloc (Nat.le_refl _) _
  case round =>
    obtain ⟨kk, hkk, hg, rfl, OW, BW⟩ := hrel
    by_cases hlt : kk < n
    · have hltz : (kk : Int) < (n : Int) := by omega
      have h0z : (0 : Int) ≤ (kk : Int) := by omega
      have hmb : (kk : Int) * d ≤ 300000 := by
        have := Int.mul_le_mul_of_nonneg_left h2 h0z
        omega
      have hm0 : 0 ≤ (kk : Int) * d := Int.mul_nonneg h0z (by omega)
      have hw1 : IntKind.i64.wrap ((kk : Int) * d) = (kk : Int) * d := by rw [IntKind.wrap_i64]; omega
      have hw2 : IntKind.i64.wrap (s + (kk : Int) * d) = s + (kk : Int) * d := by rw [IntKind.wrap_i64]; omega
      have hfz : wr.frozen? ⟨w1.heap.size, kk, none⟩ = false := OW.out.frozenAt kk
      have hce : wr.cell? ⟨w1.heap.size, kk, none⟩ = some (.int .i64 0) := by
        rw [OW.out.cellAt kk (by omega)]
        simp [fillC, hlt]
      have hst := (OW.out.stored kk (.int .i64 (s + (kk : Int) * d)))
      rw [fill_set s d n kk hlt] at hst
      have OW2 : Aside ((wr.setCell ⟨w1.heap.size, kk, none⟩ (.int .i64 (s + (kk : Int) * d))).ownsRow w1.heap.size 3 1 (.slice (some ⟨w1.heap.size, 0, none⟩) n n) n (fillC s d n (kk + 1))) := hst.1
      have BW2 : Aside (Below w1.heap.size w1 (wr.setCell ⟨w1.heap.size, kk, none⟩ (.int .i64 (s + (kk : Int) * d)))) := BW.out.setCell (Nat.le_refl _) _
      clear hst OW BW
      go_wp2
      go_roundg (n - (kk + 1))
      case measure => omega
      case rel => exact ⟨kk + 1, by omega, by omega, by go_num, OW2, BW2⟩
    · have hltz : ¬ (kk : Int) < (n : Int) := by omega
      obtain rfl : kk = n := by omega
      have I2 : Aside (IntA wr (.slice (some ⟨w1.heap.size, 0, none⟩) kk kk) (prg s d kk)) := by
        refine ints_own (B := w1.heap.size) (prg_len _ _ _) (by omega) ?_
        rw [← fill_end]
        exact OW.out
      clear OW
      go_wp2
      go_ret
      exact ⟨⟨_, rfl, I2.out⟩, BW.out⟩
theorem chkX : ChkC := fun size slide w m1 m2 => by
  have c1 := within_any size 1 1000
  have c2 := within_any slide 1 size
  by_cases h1 : 1 ≤ size ∧ size ≤ 1000
  · rw [decide_eq_true h1] at c1
    by_cases h2 : 1 ≤ slide ∧ slide ≤ size
    · rw [decide_eq_true h2] at c2
      obtain ⟨a1, a2⟩ := h1
      obtain ⟨b1, b2⟩ := h2
      have hw : IntKind.i64.wrap (10 * slide) = 10 * slide := by rw [IntKind.wrap_i64]; omega
      by_cases h3 : size ≤ 10 * slide
      · rw [wd_zero ⟨a1, a2, b1, b2, h3⟩, show errV 0 = .nilIface from rfl]
        go_enter Tryd.func7, Tryd.ntmps7
        go_wp2_with fail
        refine (c1 _).mono ?_
        rintro e w1 ⟨rfl, rfl⟩
        clear c1
        go_wp2_with fail
        refine (c2 _).mono ?_
        rintro e w1 ⟨rfl, rfl⟩
        clear c2
        go_wp2
        go_ret
        exact ⟨rfl, Below.refl _ _⟩
      · rw [wd_one (fun h => h3 h.2.2.2.2), show errV 1 = .iface 38 (.int .i64 1) from rfl]
        go_enter Tryd.func7, Tryd.ntmps7
        go_wp2_with fail
        refine (c1 _).mono ?_
        rintro e w1 ⟨rfl, rfl⟩
        clear c1
        go_wp2_with fail
        refine (c2 _).mono ?_
        rintro e w1 ⟨rfl, rfl⟩
        clear c2
        go_wp2
        go_ret
        exact ⟨rfl, Below.refl _ _⟩
    · rw [decide_eq_false h2] at c2
      rw [wd_one (fun h => h2 ⟨h.2.2.1, h.2.2.2.1⟩), show errV 1 = .iface 38 (.int .i64 1) from rfl]
      clear h1 h2
      go_enter Tryd.func7, Tryd.ntmps7
      go_wp2_with fail
      refine (c1 _).mono ?_
      rintro e w1 ⟨rfl, rfl⟩
      clear c1
      go_wp2_with fail
      refine (c2 _).mono ?_
      rintro e w1 ⟨rfl, rfl⟩
      clear c2
      go_wp2
      go_ret
      exact ⟨rfl, Below.refl _ _⟩
  · rw [decide_eq_false h1] at c1
    rw [wd_one (fun h => h1 ⟨h.1, h.2.1⟩), show errV 1 = .iface 38 (.int .i64 1) from rfl]
    clear h1 c2
    go_enter Tryd.func7, Tryd.ntmps7
    go_wp2_with fail
    refine (c1 _).mono ?_
    rintro e w1 ⟨rfl, rfl⟩
    clear c1
    go_wp2
    go_ret
    exact ⟨rfl, Below.refl _ _⟩
set_option maxHeartbeats 2000000 in
theorem stX : StC := fun at_ size slide w m1 m2 m3 => by
  have c1 := chkX size slide w m2 m3
  by_cases h1 : wdB size slide
  · rw [wd_zero h1, show errV 0 = .nilIface from rfl] at c1
    by_cases h2 : 0 ≤ at_ ∧ at_ ≤ 1000000
    · rw [st_zero h1 h2, if_pos rfl, show errV 0 = .nilIface from rfl, stS_eq h1 h2.1]
      have f1 := dnK_nn (a := at_) h1
      have f2 := dn_top (a := at_) h1 h2.2
      have f3 := stN_le h1 h2.1
      have f4 := cn_st h1 h2.1
      have c2 := within_any at_ 0 1000000
      rw [decide_eq_true h2] at c2
      obtain ⟨s1, s2, s3, s4, s5⟩ := h1
      obtain ⟨a1, a2⟩ := h2
      have f5 := Int.mul_nonneg f1 (show 0 ≤ slide by omega)
      have c3 := fun W => first_any (at_ - size) slide W s3 (by omega) (by omega)
      rw [fs_dn] at c3
      have c4 := fun W => list_any (dnK at_ size slide * slide) at_ slide (stN at_ size slide) W s3 (by omega) f5 f2 (by omega) (by omega) f4 (by omega)
      generalize dnK at_ size slide * slide = K at *
      generalize stN at_ size slide = Z at *
      clear f1 f2 f3 f4 f5
      go_enter Tryd.func10, Tryd.ntmps10
      go_wp2_with fail
      refine c1.mono ?_
      rintro e w1 ⟨rfl, B1⟩
      clear c1
      have BB : Aside (Below w.heap.size w w1) := B1
      clear B1
      go_wp2_with fail
      refine (c2 _).mono ?_
      rintro e w2 ⟨rfl, rfl⟩
      clear c2
      go_wp2_with fail
      refine (c3 _).mono ?_
      rintro e w3 ⟨rfl, rfl⟩
      clear c3
      go_wp2_with fail
      refine (c4 _).mono ?_
      rintro e w4 ⟨⟨u, rfl, I4⟩, B4⟩
      clear c4
      have I5 : Aside (IntA w4 u (prg K slide Z)) := I4
      have B5 : Aside (Below w.heap.size w w4) := BB.out.trans (B4.mono BB.out.size)
      clear I4 B4 BB
      go_wp2
      go_ret2
      exact ⟨⟨_, rfl, I5.out⟩, B5.out⟩
    · rw [st_one (fun h => h2 h.2), if_neg one_ne, show errV 1 = .iface 38 (.int .i64 1) from rfl]
      have c2 := within_any at_ 0 1000000
      rw [decide_eq_false h2] at c2
      clear h1 h2
      go_enter Tryd.func10, Tryd.ntmps10
      go_wp2_with fail
      refine c1.mono ?_
      rintro e w1 ⟨rfl, B1⟩
      clear c1
      have BB : Aside (Below w.heap.size w w1) := B1
      clear B1
      go_wp2_with fail
      refine (c2 _).mono ?_
      rintro e w2 ⟨rfl, rfl⟩
      clear c2
      go_wp2
      go_ret2
      exact ⟨⟨_, rfl, IntA.nil _⟩, BB.out⟩
  · rw [wd_one h1, show errV 1 = .iface 38 (.int .i64 1) from rfl] at c1
    rw [st_one (fun h => h1 h.1), if_neg one_ne, show errV 1 = .iface 38 (.int .i64 1) from rfl]
    clear h1
    go_enter Tryd.func10, Tryd.ntmps10
    go_wp2_with fail
    refine c1.mono ?_
    rintro e w1 ⟨rfl, B1⟩
    clear c1
    have BB : Aside (Below w.heap.size w w1) := B1
    clear B1
    go_wp2
    go_ret2
    exact ⟨⟨_, rfl, IntA.nil _⟩, BB.out⟩
set_option maxHeartbeats 2000000 in
theorem dnX : DnC := fun a b size slide w m1 m2 m3 m4 => by
  have c1 := chkX size slide w m3 m4
  by_cases h1 : wdB size slide
  · rw [wd_zero h1, show errV 0 = .nilIface from rfl] at c1
    have c2 := within_any a (-1) 1000000
    have c3 := within_any b a 1001000
    by_cases h2 : -1 ≤ a ∧ a ≤ 1000000
    · rw [decide_eq_true h2] at c2
      by_cases h3 : a ≤ b ∧ b ≤ 1001000
      · rw [decide_eq_true h3] at c3
        have hR : dnR a b := ⟨h2.1, h2.2, h3.1, h3.2⟩
        have f1 := dnK_nn (a := a) h1
        have f2 := dn_top (a := a) h1 h2.2
        have f4 := cn_dn (a := a) (b := b) h1
        have hd1 := dn_zero (a := a) (b := b) h1 hR
        have hd4 := dn_four (a := a) (b := b) h1 hR
        have HP : dnP a b size slide = prg (dnK a size slide * slide) slide (dnN a b size slide) := rfl
        obtain ⟨s1, s2, s3, s4, s5⟩ := h1
        obtain ⟨a1, a2⟩ := h2
        obtain ⟨b1, b2⟩ := h3
        clear hR
        have f5 := Int.mul_nonneg f1 (show 0 ≤ slide by omega)
        have c4 := fun W => first_any (a - size) slide W s3 (by omega) (by omega)
        rw [fs_dn] at c4
        have c5 := fun W => count_any (dnK a size slide * slide) (b - size) slide W s3 (by omega) f5 f2 (by omega) (by omega)
        rw [f4] at c5
        by_cases h4 : dnN a b size slide ≤ 300
        · rw [hd1 h4, if_pos rfl, show errV 0 = .nilIface from rfl, HP]
          have c6 := fun W => list_any (dnK a size slide * slide) (b - size) slide (dnN a b size slide) W s3 (by omega) f5 f2 (by omega) (by omega) f4 h4
          clear hd1 hd4 HP f4
          generalize dnK a size slide * slide = K at *
          generalize dnN a b size slide = Z at *
          have hz : ¬ (300 : Int) < (Z : Int) := by omega
          clear f1 f2 f5 h4
          go_enter Tryd.func13, Tryd.ntmps13
          go_wp2_with fail
          refine c1.mono ?_
          rintro e w1 ⟨rfl, B1⟩
          clear c1
          have BB : Aside (Below w.heap.size w w1) := B1
          clear B1
          go_wp2_with fail
          refine (c2 _).mono ?_
          rintro e w2 ⟨rfl, rfl⟩
          clear c2
          go_wp2_with fail
          refine (c3 _).mono ?_
          rintro e w2 ⟨rfl, rfl⟩
          clear c3
          go_wp2_with fail
          refine (c4 _).mono ?_
          rintro e w3 ⟨rfl, rfl⟩
          clear c4
          go_wp2_with fail
          refine (c5 _).mono ?_
          rintro e w3 ⟨rfl, rfl⟩
          clear c5
          go_wp2_with fail
          refine (c6 _).mono ?_
          rintro e w4 ⟨⟨u, rfl, I4⟩, B4⟩
          clear c6
          have I5 : Aside (IntA w4 u (prg K slide Z)) := I4
          have B5 : Aside (Below w.heap.size w w4) := BB.out.trans (B4.mono BB.out.size)
          clear I4 B4 BB
          go_wp2
          go_ret2
          exact ⟨⟨_, rfl, I5.out⟩, B5.out⟩
        · rw [hd4 h4, if_neg four_ne, show errV 4 = .iface 38 (.int .i64 4) from rfl]
          clear hd1 hd4 HP f4
          generalize dnK a size slide * slide = K at *
          generalize dnN a b size slide = Z at *
          have hz : (300 : Int) < (Z : Int) := by omega
          clear f1 f2 f5 h4
          go_enter Tryd.func13, Tryd.ntmps13
          go_wp2_with fail
          refine c1.mono ?_
          rintro e w1 ⟨rfl, B1⟩
          clear c1
          have BB : Aside (Below w.heap.size w w1) := B1
          clear B1
          go_wp2_with fail
          refine (c2 _).mono ?_
          rintro e w2 ⟨rfl, rfl⟩
          clear c2
          go_wp2_with fail
          refine (c3 _).mono ?_
          rintro e w2 ⟨rfl, rfl⟩
          clear c3
          go_wp2_with fail
          refine (c4 _).mono ?_
          rintro e w3 ⟨rfl, rfl⟩
          clear c4
          go_wp2_with fail
          refine (c5 _).mono ?_
          rintro e w3 ⟨rfl, rfl⟩
          clear c5
          go_wp2
          go_ret2
          exact ⟨⟨_, rfl, IntA.nil _⟩, BB.out⟩
      · rw [decide_eq_false h3] at c3
        rw [dn_one (fun h => h3 ⟨h.2.2.2.1, h.2.2.2.2⟩), if_neg one_ne, show errV 1 = .iface 38 (.int .i64 1) from rfl]
        clear h1 h2 h3
        go_enter Tryd.func13, Tryd.ntmps13
        go_wp2_with fail
        refine c1.mono ?_
        rintro e w1 ⟨rfl, B1⟩
        clear c1
        have BB : Aside (Below w.heap.size w w1) := B1
        clear B1
        go_wp2_with fail
        refine (c2 _).mono ?_
        rintro e w2 ⟨rfl, rfl⟩
        clear c2
        go_wp2_with fail
        refine (c3 _).mono ?_
        rintro e w2 ⟨rfl, rfl⟩
        clear c3
        go_wp2
        go_ret2
        exact ⟨⟨_, rfl, IntA.nil _⟩, BB.out⟩
    · rw [decide_eq_false h2] at c2
      rw [dn_one (fun h => h2 ⟨h.2.1, h.2.2.1⟩), if_neg one_ne, show errV 1 = .iface 38 (.int .i64 1) from rfl]
      clear h1 h2 c3
      go_enter Tryd.func13, Tryd.ntmps13
      go_wp2_with fail
      refine c1.mono ?_
      rintro e w1 ⟨rfl, B1⟩
      clear c1
      have BB : Aside (Below w.heap.size w w1) := B1
      clear B1
      go_wp2_with fail
      refine (c2 _).mono ?_
      rintro e w2 ⟨rfl, rfl⟩
      clear c2
      go_wp2
      go_ret2
      exact ⟨⟨_, rfl, IntA.nil _⟩, BB.out⟩
  · rw [wd_one h1, show errV 1 = .iface 38 (.int .i64 1) from rfl] at c1
    rw [dn_one (fun h => h1 h.1), if_neg one_ne, show errV 1 = .iface 38 (.int .i64 1) from rfl]
    clear h1
    go_enter Tryd.func13, Tryd.ntmps13
    go_wp2_with fail
    refine c1.mono ?_
    rintro e w1 ⟨rfl, B1⟩
    clear c1
    have BB : Aside (Below w.heap.size w w1) := B1
    clear B1
    go_wp2
    go_ret2
    exact ⟨⟨_, rfl, IntA.nil _⟩, BB.out⟩
end Go.Proofs.YtogndffocijinaaDoor
