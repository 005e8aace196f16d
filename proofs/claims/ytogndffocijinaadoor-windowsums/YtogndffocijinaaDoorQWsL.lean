/-
  WindowSums: windows are as many as they overlap: the law's walk, over what package window gives. (Written by wip/gen_wsl.py.)
-/
import Derived.Test.YtogndffocijinaaDoorGrAa
import Derived.Test.YtogndffocijinaaDoorGrAb
namespace Go.Proofs.YtogndffocijinaaDoor
open Go.RowKit
set_option linter.unusedVariables false

theorem fact_sums : (if stE 0 5 1 = 0 then stP 0 5 1 else []) = [0] := by decide +kernel
theorem fact_sumsE : errV (stE 0 5 1) = .nilIface := by rw [show stE 0 5 1 = 0 by decide +kernel]; rfl
theorem wd_many {slide many : Int} (h1 : 1 ≤ many) (h2 : many ≤ 10) (h3 : 1 ≤ slide) (h4 : slide ≤ 100) : wdB (slide * many) slide := by
  have a1 := Int.mul_le_mul_of_nonneg_left h1 (show 0 ≤ slide by omega)
  have a2 := Int.mul_le_mul_of_nonneg_left h2 (show 0 ≤ slide by omega)
  exact ⟨by omega, by omega, h3, by omega, by omega⟩
set_option maxHeartbeats 2000000 in
theorem ws_no1 (hS : StC) (at_ slide many : Int) (w : World) (et : EtAt w) (m1 : inM at_) (r1 : many < 1) :
    Calls Tryd.prog 4 #[.int .i64 at_, .int .i64 slide, .int .i64 many] w fun e w' => e = .returned (.bool true) ∧ Below w.heap.size w w' := by
  have c0 := hS 0 5 1 w (by unfold inM; omega) (by unfold inM; omega) (by unfold inM; omega)
  rw [fact_sums, fact_sumsE] at c0
  go_enter Tryd.func4, Tryd.ntmps4
  go_wp2_with fail
  refine c0.mono ?_
  rintro e w1 ⟨⟨u1, rfl, i1⟩, b1⟩
  obtain ⟨q1, k1, rfl⟩ := ints_form i1
  obtain ⟨g1, o1, rfl, l1, h1⟩ := ints_some i1 (show 0 < ([0] : List Int).length by decide)
  have f0 : w1.cell? ⟨g1, o1, none⟩ = some (.int .i64 0) := h1 0 (by decide)
  have B1 : Aside (Below w.heap.size w w1) := b1
  rw [show ([0] : List Int).length = 1 from rfl]
  clear c0 i1 h1 b1
  go_wp2
  go_ret
  exact ⟨rfl, B1.out⟩
set_option maxHeartbeats 2000000 in
theorem ws_no2 (hS : StC) (at_ slide many : Int) (w : World) (et : EtAt w) (m1 : inM at_) (r1 : ¬ many < 1) (r2 : 10 < many) :
    Calls Tryd.prog 4 #[.int .i64 at_, .int .i64 slide, .int .i64 many] w fun e w' => e = .returned (.bool true) ∧ Below w.heap.size w w' := by
  have c0 := hS 0 5 1 w (by unfold inM; omega) (by unfold inM; omega) (by unfold inM; omega)
  rw [fact_sums, fact_sumsE] at c0
  go_enter Tryd.func4, Tryd.ntmps4
  go_wp2_with fail
  refine c0.mono ?_
  rintro e w1 ⟨⟨u1, rfl, i1⟩, b1⟩
  obtain ⟨q1, k1, rfl⟩ := ints_form i1
  obtain ⟨g1, o1, rfl, l1, h1⟩ := ints_some i1 (show 0 < ([0] : List Int).length by decide)
  have f0 : w1.cell? ⟨g1, o1, none⟩ = some (.int .i64 0) := h1 0 (by decide)
  have B1 : Aside (Below w.heap.size w w1) := b1
  rw [show ([0] : List Int).length = 1 from rfl]
  clear c0 i1 h1 b1
  go_wp2
  go_ret
  exact ⟨rfl, B1.out⟩
set_option maxHeartbeats 2000000 in
theorem ws_no3 (hS : StC) (at_ slide many : Int) (w : World) (et : EtAt w) (m1 : inM at_) (r1 : ¬ many < 1) (r2 : ¬ 10 < many) (r3 : slide < 1) :
    Calls Tryd.prog 4 #[.int .i64 at_, .int .i64 slide, .int .i64 many] w fun e w' => e = .returned (.bool true) ∧ Below w.heap.size w w' := by
  have c0 := hS 0 5 1 w (by unfold inM; omega) (by unfold inM; omega) (by unfold inM; omega)
  rw [fact_sums, fact_sumsE] at c0
  go_enter Tryd.func4, Tryd.ntmps4
  go_wp2_with fail
  refine c0.mono ?_
  rintro e w1 ⟨⟨u1, rfl, i1⟩, b1⟩
  obtain ⟨q1, k1, rfl⟩ := ints_form i1
  obtain ⟨g1, o1, rfl, l1, h1⟩ := ints_some i1 (show 0 < ([0] : List Int).length by decide)
  have f0 : w1.cell? ⟨g1, o1, none⟩ = some (.int .i64 0) := h1 0 (by decide)
  have B1 : Aside (Below w.heap.size w w1) := b1
  rw [show ([0] : List Int).length = 1 from rfl]
  clear c0 i1 h1 b1
  go_wp2
  go_ret
  exact ⟨rfl, B1.out⟩
set_option maxHeartbeats 2000000 in
theorem ws_no4 (hS : StC) (at_ slide many : Int) (w : World) (et : EtAt w) (m1 : inM at_) (r1 : ¬ many < 1) (r2 : ¬ 10 < many) (r3 : ¬ slide < 1) (r4 : 100 < slide) :
    Calls Tryd.prog 4 #[.int .i64 at_, .int .i64 slide, .int .i64 many] w fun e w' => e = .returned (.bool true) ∧ Below w.heap.size w w' := by
  have c0 := hS 0 5 1 w (by unfold inM; omega) (by unfold inM; omega) (by unfold inM; omega)
  rw [fact_sums, fact_sumsE] at c0
  go_enter Tryd.func4, Tryd.ntmps4
  go_wp2_with fail
  refine c0.mono ?_
  rintro e w1 ⟨⟨u1, rfl, i1⟩, b1⟩
  obtain ⟨q1, k1, rfl⟩ := ints_form i1
  obtain ⟨g1, o1, rfl, l1, h1⟩ := ints_some i1 (show 0 < ([0] : List Int).length by decide)
  have f0 : w1.cell? ⟨g1, o1, none⟩ = some (.int .i64 0) := h1 0 (by decide)
  have B1 : Aside (Below w.heap.size w w1) := b1
  rw [show ([0] : List Int).length = 1 from rfl]
  clear c0 i1 h1 b1
  go_wp2
  go_ret
  exact ⟨rfl, B1.out⟩
set_option maxHeartbeats 2000000 in
theorem ws_at1 (hS : StC) (at_ slide many : Int) (w : World) (et : EtAt w) (m1 : inM at_) (r1 : ¬ many < 1) (r2 : ¬ 10 < many) (r3 : ¬ slide < 1) (r4 : ¬ 100 < slide) (r5 : at_ < 0) :
    Calls Tryd.prog 4 #[.int .i64 at_, .int .i64 slide, .int .i64 many] w fun e w' => e = .returned (.bool true) ∧ Below w.heap.size w w' := by
  have c0 := hS 0 5 1 w (by unfold inM; omega) (by unfold inM; omega) (by unfold inM; omega)
  rw [fact_sums, fact_sumsE] at c0
  have hwd : wdB (slide * many) slide := wd_many (by omega) (by omega) (by omega) (by omega)
  obtain ⟨M, hM⟩ : ∃ M, slide * many = M := ⟨_, rfl⟩
  have HM : Hid (slide * many = M) := hM
  rw [hM] at hwd
  have hM1 : 1 ≤ M := hwd.1
  have hM2 : M ≤ 1000 := hwd.2.1
  have HWD : Hid (wdB M slide) := hwd
  have hwM : IntKind.i64.wrap M = M := by rw [IntKind.wrap_i64]; omega
  have hsl : ¬ slide = 0 := by omega
  have m1' := m1
  unfold inM at m1'
  obtain ⟨m11, m12⟩ := m1'
  clear hwd
  have c1 := fun W => hS at_ M slide W m1 (by unfold inM; omega) (by unfold inM; omega)
  rw [st_one (fun h => by omega), if_neg one_ne] at c1
  have ET : Aside (EtAt w) := et
  clear m1 et
  go_enter Tryd.func4, Tryd.ntmps4
  go_wp2_with fail
  refine c0.mono ?_
  rintro e w1 ⟨⟨u1, rfl, i1⟩, b1⟩
  obtain ⟨q1, k1, rfl⟩ := ints_form i1
  obtain ⟨g1, o1, rfl, l1, h1⟩ := ints_some i1 (show 0 < ([0] : List Int).length by decide)
  have f0 : w1.cell? ⟨g1, o1, none⟩ = some (.int .i64 0) := h1 0 (by decide)
  have B1 : Aside (Below w.heap.size w w1) := b1
  rw [show ([0] : List Int).length = 1 from rfl]
  clear c0 i1 h1 b1
  have c2 := c1 w1
  clear c1
  go_wp2_with fail
  refine c2.mono ?_
  rintro e w2 ⟨⟨u2, rfl, i2⟩, b2⟩
  obtain ⟨q2, k2, rfl⟩ := ints_form i2
  have B2 := B1.out.trans (b2.mono B1.out.size)
  have c3 := told_any 1 w2 (ET.out.on B2)
  clear c2 b2 i2
  go_wp2_with fail
  refine c3.mono ?_
  rintro e w3 ⟨rfl, b3⟩
  have B3 : Aside (Below w.heap.size w w3) := B2.trans (b3.mono B2.size)
  clear c3 b3 B2
  go_wp2
  go_ret
  exact ⟨rfl, B3.out⟩
set_option maxHeartbeats 2000000 in
theorem ws_at2 (hS : StC) (at_ slide many : Int) (w : World) (et : EtAt w) (m1 : inM at_) (r1 : ¬ many < 1) (r2 : ¬ 10 < many) (r3 : ¬ slide < 1) (r4 : ¬ 100 < slide) (r5 : ¬ at_ < 0) (r6 : 1000000 < at_) :
    Calls Tryd.prog 4 #[.int .i64 at_, .int .i64 slide, .int .i64 many] w fun e w' => e = .returned (.bool true) ∧ Below w.heap.size w w' := by
  have c0 := hS 0 5 1 w (by unfold inM; omega) (by unfold inM; omega) (by unfold inM; omega)
  rw [fact_sums, fact_sumsE] at c0
  have hwd : wdB (slide * many) slide := wd_many (by omega) (by omega) (by omega) (by omega)
  obtain ⟨M, hM⟩ : ∃ M, slide * many = M := ⟨_, rfl⟩
  have HM : Hid (slide * many = M) := hM
  rw [hM] at hwd
  have hM1 : 1 ≤ M := hwd.1
  have hM2 : M ≤ 1000 := hwd.2.1
  have HWD : Hid (wdB M slide) := hwd
  have hwM : IntKind.i64.wrap M = M := by rw [IntKind.wrap_i64]; omega
  have hsl : ¬ slide = 0 := by omega
  have m1' := m1
  unfold inM at m1'
  obtain ⟨m11, m12⟩ := m1'
  clear hwd
  have c1 := fun W => hS at_ M slide W m1 (by unfold inM; omega) (by unfold inM; omega)
  rw [st_one (fun h => by omega), if_neg one_ne] at c1
  have ET : Aside (EtAt w) := et
  clear m1 et
  go_enter Tryd.func4, Tryd.ntmps4
  go_wp2_with fail
  refine c0.mono ?_
  rintro e w1 ⟨⟨u1, rfl, i1⟩, b1⟩
  obtain ⟨q1, k1, rfl⟩ := ints_form i1
  obtain ⟨g1, o1, rfl, l1, h1⟩ := ints_some i1 (show 0 < ([0] : List Int).length by decide)
  have f0 : w1.cell? ⟨g1, o1, none⟩ = some (.int .i64 0) := h1 0 (by decide)
  have B1 : Aside (Below w.heap.size w w1) := b1
  rw [show ([0] : List Int).length = 1 from rfl]
  clear c0 i1 h1 b1
  have c2 := c1 w1
  clear c1
  go_wp2_with fail
  refine c2.mono ?_
  rintro e w2 ⟨⟨u2, rfl, i2⟩, b2⟩
  obtain ⟨q2, k2, rfl⟩ := ints_form i2
  have B2 := B1.out.trans (b2.mono B1.out.size)
  have c3 := told_any 1 w2 (ET.out.on B2)
  clear c2 b2 i2
  go_wp2_with fail
  refine c3.mono ?_
  rintro e w3 ⟨rfl, b3⟩
  have B3 : Aside (Below w.heap.size w w3) := B2.trans (b3.mono B2.size)
  clear c3 b3 B2
  go_wp2
  go_ret
  exact ⟨rfl, B3.out⟩
set_option maxHeartbeats 2000000 in
theorem ws_ok1 (hS : StC) (at_ slide many : Int) (w : World) (et : EtAt w) (m1 : inM at_) (r1 : ¬ many < 1) (r2 : ¬ 10 < many) (r3 : ¬ slide < 1) (r4 : ¬ 100 < slide) (r5 : ¬ at_ < 0) (r6 : ¬ 1000000 < at_) (r7 : at_ / slide + 1 < many) :
    Calls Tryd.prog 4 #[.int .i64 at_, .int .i64 slide, .int .i64 many] w fun e w' => e = .returned (.bool true) ∧ Below w.heap.size w w' := by
  have c0 := hS 0 5 1 w (by unfold inM; omega) (by unfold inM; omega) (by unfold inM; omega)
  rw [fact_sums, fact_sumsE] at c0
  have hwd : wdB (slide * many) slide := wd_many (by omega) (by omega) (by omega) (by omega)
  obtain ⟨M, hM⟩ : ∃ M, slide * many = M := ⟨_, rfl⟩
  have HM : Hid (slide * many = M) := hM
  rw [hM] at hwd
  have hM1 : 1 ≤ M := hwd.1
  have hM2 : M ≤ 1000 := hwd.2.1
  have HWD : Hid (wdB M slide) := hwd
  have hwM : IntKind.i64.wrap M = M := by rw [IntKind.wrap_i64]; omega
  have hsl : ¬ slide = 0 := by omega
  have m1' := m1
  unfold inM at m1'
  obtain ⟨m11, m12⟩ := m1'
  clear hwd
  have c1 := fun W => hS at_ M slide W m1 (by unfold inM; omega) (by unfold inM; omega)
  rw [st_zero HWD.out ⟨by omega, by omega⟩, if_pos rfl, show errV 0 = .nilIface from rfl] at c1
  obtain ⟨Q, hQ⟩ : ∃ Q, at_ / slide = Q := ⟨_, rfl⟩
  have htd : at_.tdiv slide = Q := by rw [Int.tdiv_eq_ediv_of_nonneg (by omega), hQ]
  have hQ0 : 0 ≤ Q := by rw [← hQ]; exact Int.ediv_nonneg (by omega) (by omega)
  have hQ1 : Q ≤ at_ := by rw [← hQ]; exact Int.ediv_le_self _ (by omega)
  have hlen : ((stP at_ M slide).length : Int) = Q + 1 := by
    rw [stP, prg_len, ← HM.out, st_many (by omega) (by omega) (by omega), hQ]
    rw [hQ] at r7
    omega
  rw [hQ] at r7
  have hwQ : IntKind.i64.wrap Q = Q := by rw [IntKind.wrap_i64]; omega
  have hwQ1 : IntKind.i64.wrap (Q + 1) = Q + 1 := by rw [IntKind.wrap_i64]; omega
  obtain ⟨LN, hLN⟩ : ∃ LN, (stP at_ M slide).length = LN := ⟨_, rfl⟩
  have HLN : Hid ((stP at_ M slide).length = LN) := hLN
  rw [hLN] at hlen
  have hq : ((LN : Int) == Q + 1) = true := by simpa using hlen
  clear hLN hlen hQ m1
  go_enter Tryd.func4, Tryd.ntmps4
  go_wp2_with fail
  refine c0.mono ?_
  rintro e w1 ⟨⟨u1, rfl, i1⟩, b1⟩
  obtain ⟨q1, k1, rfl⟩ := ints_form i1
  obtain ⟨g1, o1, rfl, l1, h1⟩ := ints_some i1 (show 0 < ([0] : List Int).length by decide)
  have f0 : w1.cell? ⟨g1, o1, none⟩ = some (.int .i64 0) := h1 0 (by decide)
  have B1 : Aside (Below w.heap.size w w1) := b1
  rw [show ([0] : List Int).length = 1 from rfl]
  clear c0 i1 h1 b1
  have c2 := c1 w1
  clear c1
  go_wp2_with fail
  refine c2.mono ?_
  rintro e w2 ⟨⟨u2, rfl, i2⟩, b2⟩
  obtain ⟨q2, k2, rfl⟩ := ints_form i2
  have B2 : Aside (Below w.heap.size w w2) := B1.out.trans (b2.mono B1.out.size)
  rw [HLN.out]
  clear c2 b2 i2
  go_wp2
  go_ret
  exact ⟨rfl, B2.out⟩
set_option maxHeartbeats 2000000 in
theorem ws_ok2 (hS : StC) (at_ slide many : Int) (w : World) (et : EtAt w) (m1 : inM at_) (r1 : ¬ many < 1) (r2 : ¬ 10 < many) (r3 : ¬ slide < 1) (r4 : ¬ 100 < slide) (r5 : ¬ at_ < 0) (r6 : ¬ 1000000 < at_) (r7 : ¬ at_ / slide + 1 < many) :
    Calls Tryd.prog 4 #[.int .i64 at_, .int .i64 slide, .int .i64 many] w fun e w' => e = .returned (.bool true) ∧ Below w.heap.size w w' := by
  have c0 := hS 0 5 1 w (by unfold inM; omega) (by unfold inM; omega) (by unfold inM; omega)
  rw [fact_sums, fact_sumsE] at c0
  have hwd : wdB (slide * many) slide := wd_many (by omega) (by omega) (by omega) (by omega)
  obtain ⟨M, hM⟩ : ∃ M, slide * many = M := ⟨_, rfl⟩
  have HM : Hid (slide * many = M) := hM
  rw [hM] at hwd
  have hM1 : 1 ≤ M := hwd.1
  have hM2 : M ≤ 1000 := hwd.2.1
  have HWD : Hid (wdB M slide) := hwd
  have hwM : IntKind.i64.wrap M = M := by rw [IntKind.wrap_i64]; omega
  have hsl : ¬ slide = 0 := by omega
  have m1' := m1
  unfold inM at m1'
  obtain ⟨m11, m12⟩ := m1'
  clear hwd
  have c1 := fun W => hS at_ M slide W m1 (by unfold inM; omega) (by unfold inM; omega)
  rw [st_zero HWD.out ⟨by omega, by omega⟩, if_pos rfl, show errV 0 = .nilIface from rfl] at c1
  obtain ⟨Q, hQ⟩ : ∃ Q, at_ / slide = Q := ⟨_, rfl⟩
  have htd : at_.tdiv slide = Q := by rw [Int.tdiv_eq_ediv_of_nonneg (by omega), hQ]
  have hQ0 : 0 ≤ Q := by rw [← hQ]; exact Int.ediv_nonneg (by omega) (by omega)
  have hQ1 : Q ≤ at_ := by rw [← hQ]; exact Int.ediv_le_self _ (by omega)
  have hlen : ((stP at_ M slide).length : Int) = many := by
    rw [stP, prg_len, ← HM.out, st_many (by omega) (by omega) (by omega), hQ]
    rw [hQ] at r7
    omega
  rw [hQ] at r7
  have hwQ : IntKind.i64.wrap Q = Q := by rw [IntKind.wrap_i64]; omega
  have hwQ1 : IntKind.i64.wrap (Q + 1) = Q + 1 := by rw [IntKind.wrap_i64]; omega
  obtain ⟨LN, hLN⟩ : ∃ LN, (stP at_ M slide).length = LN := ⟨_, rfl⟩
  have HLN : Hid ((stP at_ M slide).length = LN) := hLN
  rw [hLN] at hlen
  have hq : ((LN : Int) == many) = true := by simpa using hlen
  clear hLN hlen hQ m1
  go_enter Tryd.func4, Tryd.ntmps4
  go_wp2_with fail
  refine c0.mono ?_
  rintro e w1 ⟨⟨u1, rfl, i1⟩, b1⟩
  obtain ⟨q1, k1, rfl⟩ := ints_form i1
  obtain ⟨g1, o1, rfl, l1, h1⟩ := ints_some i1 (show 0 < ([0] : List Int).length by decide)
  have f0 : w1.cell? ⟨g1, o1, none⟩ = some (.int .i64 0) := h1 0 (by decide)
  have B1 : Aside (Below w.heap.size w w1) := b1
  rw [show ([0] : List Int).length = 1 from rfl]
  clear c0 i1 h1 b1
  have c2 := c1 w1
  clear c1
  go_wp2_with fail
  refine c2.mono ?_
  rintro e w2 ⟨⟨u2, rfl, i2⟩, b2⟩
  obtain ⟨q2, k2, rfl⟩ := ints_form i2
  have B2 : Aside (Below w.heap.size w w2) := B1.out.trans (b2.mono B1.out.size)
  rw [HLN.out]
  clear c2 b2 i2
  go_wp2
  go_ret
  exact ⟨rfl, B2.out⟩
theorem sums_window (hS : StC) (at_ slide many : Int) (w : World) (et : EtAt w) (m1 : inM at_) :
    Calls Tryd.prog 4 #[.int .i64 at_, .int .i64 slide, .int .i64 many] w fun e w' => e = .returned (.bool true) ∧ Below w.heap.size w w' := by
  by_cases r1 : many < 1
  · exact ws_no1 hS at_ slide many w et m1 r1
  by_cases r2 : 10 < many
  · exact ws_no2 hS at_ slide many w et m1 r1 r2
  by_cases r3 : slide < 1
  · exact ws_no3 hS at_ slide many w et m1 r1 r2 r3
  by_cases r4 : 100 < slide
  · exact ws_no4 hS at_ slide many w et m1 r1 r2 r3 r4
  by_cases r5 : at_ < 0
  · exact ws_at1 hS at_ slide many w et m1 r1 r2 r3 r4 r5
  by_cases r6 : 1000000 < at_
  · exact ws_at2 hS at_ slide many w et m1 r1 r2 r3 r4 r5 r6
  by_cases r7 : at_ / slide + 1 < many
  · exact ws_ok1 hS at_ slide many w et m1 r1 r2 r3 r4 r5 r6 r7
  · exact ws_ok2 hS at_ slide many w et m1 r1 r2 r3 r4 r5 r6 r7
theorem sums_cardX (hS : StC) (at_ slide many : Int) (w : World) (m1 : inM at_) (m2 : inM slide) (m3 : inM many) (et : EtAt w) :
    Calls Tryd.prog 4 #[.int .i64 at_, .int .i64 slide, .int .i64 many] w fun e w' => e = .returned (.bool true) ∧ Below w.heap.size w w' := sums_window hS at_ slide many w et m1
end Go.Proofs.YtogndffocijinaaDoor
