/-
  WdX, QuC3, BlkB, BtA, ValA, in one text.
-/
import Derived.Test.YticdcnbeemkapaaGreatDoorGrAq
import Derived.Deep.OwnRows
import Derived.Laws.OwnMore
import Derived.Test.YticdcnbeemkapaaGreatDoorGrAk
import Derived.Test.YticdcnbeemkapaaGreatDoorGrAd
import Derived.OneCell
import Derived.Lib.OthersKept
import Derived.Deep.MidRow
import Derived.Test.YticdcnbeemkapaaGreatDoorGrAp
import Derived.Laws.AppendOwn
namespace Go.Proofs.YticdcnbeemkapaaGreatDoor
open Go.RowKit
set_option linter.unusedVariables false

/-- Where the first window begins above a time; how many begin from one place to another one. -/
def fsP (above slide : Int) : Int := if above < 0 then 0 else (above / slide + 1) * slide
def cnP (begin_ last slide : Int) : Int := if last < begin_ then 0 else (last - begin_) / slide + 1
theorem dnK_nn {a size slide : Int} (hw : wdB size slide) : 0 ≤ dnK a size slide := by
  unfold dnK
  split
  · exact Int.le_refl _
  · have := Int.ediv_nonneg (show 0 ≤ a - size by omega) (show 0 ≤ slide by have := hw.2.2.1; omega)
    omega
theorem fs_dn {a size slide : Int} : fsP (a - size) slide = dnK a size slide * slide := by
  unfold fsP dnK
  by_cases h : a < size
  · rw [if_pos (by omega), if_pos h, Int.zero_mul]
  · rw [if_neg (by omega), if_neg h]
theorem sub_div {x k d : Int} (hd : 0 < d) : (x - k * d) / d = x / d - k := by
  rw [Int.sub_eq_add_neg, ← Int.neg_mul, Int.add_mul_ediv_right _ _ (by omega)]; omega
theorem div_ge {x k d : Int} (hd : 0 < d) : k * d ≤ x ↔ k ≤ x / d := (Int.le_ediv_iff_mul_le hd).symm
theorem cn_dn {a b size slide : Int} (hw : wdB size slide) : cnP (dnK a size slide * slide) (b - size) slide = (dnN a b size slide : Int) := by
  have hd : 0 < slide := by have := hw.2.2.1; omega
  have hk := dnK_nn (a := a) hw
  have hm := Int.mul_nonneg hk (show 0 ≤ slide by omega)
  unfold cnP dnN
  by_cases h : b < size
  · rw [if_pos h, if_pos (by omega)]; rfl
  · rw [if_neg h]
    by_cases h2 : b - size < dnK a size slide * slide
    · rw [if_pos h2]
      have := mt (div_ge (x := b - size) (k := dnK a size slide) hd).2 (by omega)
      omega
    · rw [if_neg h2, sub_div hd]
      have := (div_ge (x := b - size) (k := dnK a size slide) hd).1 (by omega)
      omega
theorem cn_st {at_ size slide : Int} (hw : wdB size slide) (h0 : 0 ≤ at_) : cnP (dnK at_ size slide * slide) at_ slide = (stN at_ size slide : Int) := by
  have hd : 0 < slide := by have := hw.2.2.1; omega
  have hk := stK_eq hw h0
  have hp := st_pos hw h0
  have := (div_ge (x := at_) (k := dnK at_ size slide) hd).2 (by omega)
  unfold cnP
  rw [if_neg (by omega), sub_div hd]
  omega
theorem stS_eq {at_ size slide : Int} (hw : wdB size slide) (h0 : 0 ≤ at_) : stP at_ size slide = prg (dnK at_ size slide * slide) slide (stN at_ size slide) := by
  unfold stP stS
  rw [stK_eq hw h0]
theorem dn_top {a size slide : Int} (hw : wdB size slide) (ha : a ≤ 1000000) : dnK a size slide * slide ≤ 1001000 := by
  have hd : 0 < slide := by have := hw.2.2.1; omega
  unfold dnK
  obtain ⟨s1, s2, s3, s4, s5⟩ := hw
  split
  · rw [Int.zero_mul]; omega
  · obtain ⟨h1, h2⟩ := div_mul_le (a := a - size) hd
    rw [Int.add_mul, Int.one_mul]; omega
/-- The numbers that are laid so far. -/
def fillC (s d : Int) (n k : Nat) : List Value := (List.range n).map fun (i : Nat) => if i < k then .int .i64 (s + (i : Int) * d) else .int .i64 0
theorem fill_zero (s d : Int) (n : Nat) : fillC s d n 0 = (madeCells #[.int .i64 0] n).toList := by
  simp [fillC, madeCells]
  intro a _
  have : a % 1 = 0 := Nat.mod_one a
  simp [this]
theorem fill_end (s d : Int) (n : Nat) : fillC s d n n = intC (prg s d n) := by
  unfold fillC intC prg
  rw [List.map_map]
  apply List.map_congr_left
  intro i hi
  rw [List.mem_range] at hi
  simp [hi]
theorem fill_set (s d : Int) (n k : Nat) (hk : k < n) : (fillC s d n k).set k (.int .i64 (s + (k : Int) * d)) = fillC s d n (k + 1) := by
  apply List.ext_getElem
  · simp [fillC]
  · intro i h1 h2
    simp only [fillC, List.length_map, List.length_range] at h2
    rw [List.getElem_set]
    simp only [fillC, List.getElem_map, List.getElem_range]
    by_cases h : k = i
    · subst h; simp
    · rw [if_neg h]
      by_cases h3 : i < k
      · rw [if_pos h3, if_pos (by omega)]
      · rw [if_neg h3, if_neg (by omega)]
theorem within_any (n l m : Int) (w : World) : Calls Tryz.prog 79 #[.int .i64 n, .int .i64 l, .int .i64 m] w fun e w' => e = .returned (.bool (decide (l ≤ n ∧ n ≤ m))) ∧ w' = w := by
  by_cases h1 : l ≤ n
  · by_cases h2 : n ≤ m
    · have hd : decide (l ≤ n ∧ n ≤ m) = true := decide_eq_true ⟨h1, h2⟩
      rw [hd]
      clear hd
      go_enter Tryz.func79, Tryz.ntmps79
      go_wp2
      go_ret
      exact ⟨rfl, rfl⟩
    · have hd : decide (l ≤ n ∧ n ≤ m) = false := decide_eq_false (fun h => h2 h.2)
      rw [hd]
      clear hd
      go_enter Tryz.func79, Tryz.ntmps79
      go_wp2
      go_ret
      exact ⟨rfl, rfl⟩
  · have hd : decide (l ≤ n ∧ n ≤ m) = false := decide_eq_false (fun h => h1 h.1)
    rw [hd]
    clear hd
    go_enter Tryz.func79, Tryz.ntmps79
    go_wp2
    go_ret
    exact ⟨rfl, rfl⟩
theorem first_any (x d : Int) (w : World) (h1 : 1 ≤ d) (h2 : d ≤ 1000) (h3 : x ≤ 1000000) : Calls Tryz.prog 81 #[.int .i64 x, .int .i64 d] w fun e w' => e = .returned (.int .i64 (fsP x d)) ∧ w' = w := by
  by_cases h : x < 0
  · rw [fsP, if_pos h]
    go_enter Tryz.func81, Tryz.ntmps81
    go_wp2
    go_ret
    exact ⟨rfl, rfl⟩
  · rw [fsP, if_neg h]
    have htd : x.tdiv d = x / d := Int.tdiv_eq_ediv_of_nonneg (by omega)
    have hq := Int.ediv_nonneg (show 0 ≤ x by omega) (show 0 ≤ d by omega)
    have hdd : 0 < d := by omega
    obtain ⟨m1, m2⟩ := div_mul_le (a := x) hdd
    have hl : x / d ≤ 1000000 := by
      have := Int.mul_le_mul_of_nonneg_left h1 hq
      omega
    generalize x / d = q at htd hq m1 m2 hl ⊢
    have hm : (q + 1) * d ≤ 1001000 := by rw [Int.add_mul, Int.one_mul]; omega
    have hm0 : 0 ≤ (q + 1) * d := Int.mul_nonneg (by omega) (by omega)
    have hwr : IntKind.i64.wrap ((q + 1) * d) = (q + 1) * d := by rw [IntKind.wrap_i64]; omega
    have hd0 : ¬ d = 0 := by omega
    go_enter Tryz.func81, Tryz.ntmps81
    go_wp2
    go_ret
    exact ⟨rfl, rfl⟩
theorem wcount_any (s l d : Int) (w : World) (h1 : 1 ≤ d) (h2 : d ≤ 1000) (h3 : 0 ≤ s) (h4 : s ≤ 1001000) (h5 : l ≤ 1001000) (h6 : -2000 ≤ l) : Calls Tryz.prog 106 #[.int .i64 s, .int .i64 l, .int .i64 d] w fun e w' => e = .returned (.int .i64 (cnP s l d)) ∧ w' = w := by
  by_cases h : l < s
  · rw [cnP, if_pos h]
    go_enter Tryz.func106, Tryz.ntmps106
    go_wp2
    go_ret
    exact ⟨rfl, rfl⟩
  · rw [cnP, if_neg h]
    have htd : (l - s).tdiv d = (l - s) / d := Int.tdiv_eq_ediv_of_nonneg (by omega)
    have hq := Int.ediv_nonneg (show 0 ≤ l - s by omega) (show 0 ≤ d by omega)
    have hdd : 0 < d := by omega
    obtain ⟨m1, m2⟩ := div_mul_le (a := l - s) hdd
    have hl : (l - s) / d ≤ 1001000 := by
      have := Int.mul_le_mul_of_nonneg_left h1 hq
      omega
    generalize (l - s) / d = q at htd hq m1 m2 hl ⊢
    have hd0 : ¬ d = 0 := by omega
    go_enter Tryz.func106, Tryz.ntmps106
    go_wp2
    go_ret
    exact ⟨rfl, rfl⟩
set_option maxHeartbeats 2000000 in
theorem list_any (s l d : Int) (n : Nat) (w : World) (h1 : 1 ≤ d) (h2 : d ≤ 1000) (h3 : 0 ≤ s) (h4 : s ≤ 1001000) (h5 : l ≤ 1001000) (h6 : -2000 ≤ l) (hn : cnP s l d = (n : Int)) (hn2 : n ≤ 300) :
    Calls Tryz.prog 80 #[.int .i64 s, .int .i64 l, .int .i64 d] w fun e w' => (∃ u, e = .returned u ∧ IntA w' u (prg s d n)) ∧ Below w.heap.size w w' := by
  have c := wcount_any s l d w h1 h2 h3 h4 h5 h6
  rw [hn] at c
  have hmk := run_make_row' (P := Tryz.prog) 77 3 (.int .i64 0) 8 Tryz.underlying77 info_intA rfl .i64 .i64 n (by omega) (by omega)
  clear hn
  go_enter Tryz.func80, Tryz.ntmps80
  go_wp2_with fail
  refine c.mono ?_
  rintro e w1 ⟨rfl, rfl⟩
  clear c
  go_wp2
  go_loopg [16] n (fun gg s16 wr => ∃ kk : Nat, kk ≤ n ∧ n - kk ≤ gg ∧ s16 = .int .i64 kk ∧ Aside (wr.ownsRow w1.heap.size 3 1 (.slice (some ⟨w1.heap.size, 0, none⟩) n n) n (fillC s d n kk)) ∧ Aside (Below w1.heap.size w1 wr))
  case atStart =>
    refine ⟨0, Nat.zero_le _, by omega, rfl, ?_, ?_⟩
    · show World.ownsRow _ _ _ _ _ _ _
      rw [fill_zero]
      have o1 := World.ownsRow_lit (base := w1.heap.size) (e := 3) (size := 1) w1 (madeCells #[.int .i64 0] n) n (Nat.le_refl _) (by unfold maxLen; omega) (by rw [size_madeCells, Nat.mul_one])
      exact o1
    · exact (Below.refl _ w1).alloc (Nat.le_refl _) _
  case round =>
    obtain ⟨kk, hkk, hg, rfl, OW, BW⟩ := hrel
    by_cases hlt : kk < n
    · have hltz : (kk : Int) < (n : Int) := by omega
      have h0z : (0 : Int) ≤ (kk : Int) := by omega
      have hmb : (kk : Int) * d ≤ 300000 := by
        have := Int.mul_le_mul_of_nonneg_left h2 h0z
        omega
      have hm0 : 0 ≤ (kk : Int) * d := Int.mul_nonneg h0z (by omega)
      have hw1 : IntKind.i64.wrap ((kk : Int) * d) = (kk : Int) * d := by rw [IntKind.wrap_i64]; omega
      have hw2 : IntKind.i64.wrap (s + (kk : Int) * d) = s + (kk : Int) * d := by rw [IntKind.wrap_i64]; omega
      have hfz : wr.frozen? ⟨w1.heap.size, kk, none⟩ = false := OW.out.frozenAt kk
      have hce : wr.cell? ⟨w1.heap.size, kk, none⟩ = some (.int .i64 0) := by
        rw [OW.out.cellAt kk (by omega)]
        simp [fillC, hlt]
      have hst := (OW.out.stored kk (.int .i64 (s + (kk : Int) * d)))
      rw [fill_set s d n kk hlt] at hst
      have OW2 : Aside ((wr.setCell ⟨w1.heap.size, kk, none⟩ (.int .i64 (s + (kk : Int) * d))).ownsRow w1.heap.size 3 1 (.slice (some ⟨w1.heap.size, 0, none⟩) n n) n (fillC s d n (kk + 1))) := hst.1
      have BW2 : Aside (Below w1.heap.size w1 (wr.setCell ⟨w1.heap.size, kk, none⟩ (.int .i64 (s + (kk : Int) * d)))) := BW.out.setCell (Nat.le_refl _) _
      clear hst OW BW
      go_wp2
      go_roundg (n - (kk + 1))
      case measure => omega
      case rel => exact ⟨kk + 1, by omega, by omega, by go_num, OW2, BW2⟩
    · have hltz : ¬ (kk : Int) < (n : Int) := by omega
      obtain rfl : kk = n := by omega
      have I2 : Aside (IntA wr (.slice (some ⟨w1.heap.size, 0, none⟩) kk kk) (prg s d kk)) := by
        refine ints_own (B := w1.heap.size) (prg_len _ _ _) (by omega) ?_
        rw [← fill_end]
        exact OW.out
      clear OW
      go_wp2
      go_ret
      exact ⟨⟨_, rfl, I2.out⟩, BW.out⟩
theorem chkX : ChkC := fun size slide w m1 m2 => by
  have c1 := within_any size 1 1000
  have c2 := within_any slide 1 size
  by_cases h1 : 1 ≤ size ∧ size ≤ 1000
  · rw [decide_eq_true h1] at c1
    by_cases h2 : 1 ≤ slide ∧ slide ≤ size
    · rw [decide_eq_true h2] at c2
      obtain ⟨a1, a2⟩ := h1
      obtain ⟨b1, b2⟩ := h2
      have hw : IntKind.i64.wrap (10 * slide) = 10 * slide := by rw [IntKind.wrap_i64]; omega
      by_cases h3 : size ≤ 10 * slide
      · rw [wd_zero ⟨a1, a2, b1, b2, h3⟩, show errV 0 = .nilIface from rfl]
        go_enter Tryz.func72, Tryz.ntmps72
        go_wp2_with fail
        refine (c1 _).mono ?_
        rintro e w1 ⟨rfl, rfl⟩
        clear c1
        go_wp2_with fail
        refine (c2 _).mono ?_
        rintro e w1 ⟨rfl, rfl⟩
        clear c2
        go_wp2
        go_ret
        exact ⟨rfl, Below.refl _ _⟩
      · rw [wd_one (fun h => h3 h.2.2.2.2), show errV 1 = .iface 42 (.int .i64 1) from rfl]
        go_enter Tryz.func72, Tryz.ntmps72
        go_wp2_with fail
        refine (c1 _).mono ?_
        rintro e w1 ⟨rfl, rfl⟩
        clear c1
        go_wp2_with fail
        refine (c2 _).mono ?_
        rintro e w1 ⟨rfl, rfl⟩
        clear c2
        go_wp2
        go_ret
        exact ⟨rfl, Below.refl _ _⟩
    · rw [decide_eq_false h2] at c2
      rw [wd_one (fun h => h2 ⟨h.2.2.1, h.2.2.2.1⟩), show errV 1 = .iface 42 (.int .i64 1) from rfl]
      clear h1 h2
      go_enter Tryz.func72, Tryz.ntmps72
      go_wp2_with fail
      refine (c1 _).mono ?_
      rintro e w1 ⟨rfl, rfl⟩
      clear c1
      go_wp2_with fail
      refine (c2 _).mono ?_
      rintro e w1 ⟨rfl, rfl⟩
      clear c2
      go_wp2
      go_ret
      exact ⟨rfl, Below.refl _ _⟩
  · rw [decide_eq_false h1] at c1
    rw [wd_one (fun h => h1 ⟨h.1, h.2.1⟩), show errV 1 = .iface 42 (.int .i64 1) from rfl]
    clear h1 c2
    go_enter Tryz.func72, Tryz.ntmps72
    go_wp2_with fail
    refine (c1 _).mono ?_
    rintro e w1 ⟨rfl, rfl⟩
    clear c1
    go_wp2
    go_ret
    exact ⟨rfl, Below.refl _ _⟩
set_option maxHeartbeats 2000000 in
theorem stX : StC := fun at_ size slide w m1 m2 m3 => by
  have c1 := chkX size slide w m2 m3
  by_cases h1 : wdB size slide
  · rw [wd_zero h1, show errV 0 = .nilIface from rfl] at c1
    by_cases h2 : 0 ≤ at_ ∧ at_ ≤ 1000000
    · rw [st_zero h1 h2, if_pos rfl, show errV 0 = .nilIface from rfl, stS_eq h1 h2.1]
      have f1 := dnK_nn (a := at_) h1
      have f2 := dn_top (a := at_) h1 h2.2
      have f3 := stN_le h1 h2.1
      have f4 := cn_st h1 h2.1
      have c2 := within_any at_ 0 1000000
      rw [decide_eq_true h2] at c2
      obtain ⟨s1, s2, s3, s4, s5⟩ := h1
      obtain ⟨a1, a2⟩ := h2
      have f5 := Int.mul_nonneg f1 (show 0 ≤ slide by omega)
      have c3 := fun W => first_any (at_ - size) slide W s3 (by omega) (by omega)
      rw [fs_dn] at c3
      have c4 := fun W => list_any (dnK at_ size slide * slide) at_ slide (stN at_ size slide) W s3 (by omega) f5 f2 (by omega) (by omega) f4 (by omega)
      generalize dnK at_ size slide * slide = K at *
      generalize stN at_ size slide = Z at *
      clear f1 f2 f3 f4 f5
      go_enter Tryz.func49, Tryz.ntmps49
      go_wp2_with fail
      refine c1.mono ?_
      rintro e w1 ⟨rfl, B1⟩
      clear c1
      have BB : Aside (Below w.heap.size w w1) := B1
      clear B1
      go_wp2_with fail
      refine (c2 _).mono ?_
      rintro e w2 ⟨rfl, rfl⟩
      clear c2
      go_wp2_with fail
      refine (c3 _).mono ?_
      rintro e w3 ⟨rfl, rfl⟩
      clear c3
      go_wp2_with fail
      refine (c4 _).mono ?_
      rintro e w4 ⟨⟨u, rfl, I4⟩, B4⟩
      clear c4
      have I5 : Aside (IntA w4 u (prg K slide Z)) := I4
      have B5 : Aside (Below w.heap.size w w4) := BB.out.trans (B4.mono BB.out.size)
      clear I4 B4 BB
      go_wp2
      go_ret2
      exact ⟨⟨_, rfl, I5.out⟩, B5.out⟩
    · rw [st_one (fun h => h2 h.2), if_neg one_ne, show errV 1 = .iface 42 (.int .i64 1) from rfl]
      have c2 := within_any at_ 0 1000000
      rw [decide_eq_false h2] at c2
      clear h1 h2
      go_enter Tryz.func49, Tryz.ntmps49
      go_wp2_with fail
      refine c1.mono ?_
      rintro e w1 ⟨rfl, B1⟩
      clear c1
      have BB : Aside (Below w.heap.size w w1) := B1
      clear B1
      go_wp2_with fail
      refine (c2 _).mono ?_
      rintro e w2 ⟨rfl, rfl⟩
      clear c2
      go_wp2
      go_ret2
      exact ⟨⟨_, rfl, IntA.nil _⟩, BB.out⟩
  · rw [wd_one h1, show errV 1 = .iface 42 (.int .i64 1) from rfl] at c1
    rw [st_one (fun h => h1 h.1), if_neg one_ne, show errV 1 = .iface 42 (.int .i64 1) from rfl]
    clear h1
    go_enter Tryz.func49, Tryz.ntmps49
    go_wp2_with fail
    refine c1.mono ?_
    rintro e w1 ⟨rfl, B1⟩
    clear c1
    have BB : Aside (Below w.heap.size w w1) := B1
    clear B1
    go_wp2
    go_ret2
    exact ⟨⟨_, rfl, IntA.nil _⟩, BB.out⟩
end Go.Proofs.YticdcnbeemkapaaGreatDoor
namespace Go.Proofs.YticdcnbeemkapaaGreatDoor
open Go.RowKit Go.BigFrame
set_option linter.unusedVariables false
set_option linter.unusedSimpArgs false

theorem size_qyU : (Tryz.prog.info? 39).map (·.size) = some 14 := by kernel_rfl
theorem size_exU : (Tryz.prog.info? 26).map (·.size) = some 7 := by kernel_rfl
theorem size_agU : (Tryz.prog.info? 101).map (·.size) = some 9 := by kernel_rfl
theorem box_blk (w : World) (cs : Array Value) (t : TypeId) : (w.alloc (.cells cs t)).heap[w.heap.size]? = some (.cells cs t (0, 0)) := by
  show (w.heap.push _)[_]? = _
  rw [Array.getElem?_push_size]
/-- A query's value: its cells, one by one. -/
structure QV (QC : Array Value) (q : Qy) (cp : Option Addr) (cc : Nat) (np : Option Addr) (nc : Nat) (gp : Option Addr) (gc : Nat) (ap : Option Addr) (ac : Nat) : Prop where
  size : QC.size = 14
  c8 : QC[8]? = some (.slice cp q.cols.length cc)
  c9 : QC[9]? = some (.slice np q.names.length nc)
  c10 : QC[10]? = some (.slice gp q.group.length gc)
  c11 : QC[11]? = some (.int .i64 q.size)
  c12 : QC[12]? = some (.int .i64 q.slide)
  c13 : QC[13]? = some (.slice ap q.aggs.length ac)
theorem qv_of (q : Qy) (wp : Option Addr) (wc : Nat) (cp : Option Addr) (cc : Nat) (np : Option Addr) (nc : Nat) (gp : Option Addr) (gc : Nat) (ap : Option Addr) (ac : Nat) : QV (qyC q wp wc cp cc np nc gp gc ap ac) q cp cc np nc gp gc ap ac := ⟨rfl, rfl, rfl, rfl, rfl, rfl, rfl⟩
set_option maxHeartbeats 2000000 in
set_option maxRecDepth 20000 in
theorem goTogether_q (QC : Array Value) (q : Qy) (cp : Option Addr) (cc : Nat) (np : Option Addr) (nc : Nat) (gp : Option Addr) (gc : Nat) (ap : Option Addr) (ac : Nat) (w : World) (h : QV QC q cp cc np nc gp gc ap ac) :
    Calls Tryz.prog 71 #[.agg QC] w fun e w' => e = .returned (.bool (togQ q)) ∧ Below w.heap.size w w' := by
  obtain ⟨hs, h8, h9, h10, h11, h12, h13⟩ := h
  clear hs
  obtain ⟨R, hR⟩ : ∃ R, togQ q = R := ⟨_, rfl⟩
  have hR2 := hR
  rw [togQ] at hR2
  rw [hR]
  clear hR
  obtain ⟨frm, whr, cols, names, group, size, slide, aggs⟩ := q
  simp only at h8 h9 h10 h11 h12 h13 hR2
  generalize cols.length = NC at h8 hR2
  generalize names.length = NN at h9 hR2
  generalize group.length = NG at h10 hR2
  generalize aggs.length = NA at h13 hR2
  by_cases hz : size = 0
  · subst hz
    rw [if_neg (by simp)] at hR2
    by_cases g1 : slide = 0
    · subst g1
      by_cases g2 : NA = 0
      · subst g2
        by_cases g3 : NG = 0
        · subst g3
          by_cases g4 : NN = NC
          · subst g4
            obtain rfl : true = R := by simpa using hR2
            go_enter Tryz.func71, Tryz.ntmps71
            go_wp2
            go_ret
            exact ⟨rfl, (Below.refl _ _).alloc (Nat.le_refl _) _⟩
          · obtain rfl : false = R := by simpa [g4] using hR2
            have hb : ((NN : Int) == (NC : Int)) = false := by simp; omega
            clear hR2 g4
            go_enter Tryz.func71, Tryz.ntmps71
            go_wp2
            go_ret
            exact ⟨rfl, (Below.refl _ _).alloc (Nat.le_refl _) _⟩
        · obtain rfl : false = R := by simpa [g3] using hR2
          have hb : ((NG : Int) == 0) = false := by simp; omega
          clear hR2 g3
          go_enter Tryz.func71, Tryz.ntmps71
          go_wp2
          go_ret
          exact ⟨rfl, (Below.refl _ _).alloc (Nat.le_refl _) _⟩
      · obtain rfl : false = R := by simpa [g2] using hR2
        have hb : ((NA : Int) == 0) = false := by simp; omega
        clear hR2 g2
        go_enter Tryz.func71, Tryz.ntmps71
        go_wp2
        go_ret
        exact ⟨rfl, (Below.refl _ _).alloc (Nat.le_refl _) _⟩
    · obtain rfl : false = R := by simpa [g1] using hR2
      have hb : (slide == 0) = false := by simpa using g1
      clear hR2 g1
      go_enter Tryz.func71, Tryz.ntmps71
      go_wp2
      go_ret
      exact ⟨rfl, (Below.refl _ _).alloc (Nat.le_refl _) _⟩
  · rw [if_pos hz] at hR2
    have hb : (size != 0) = true := by simpa using hz
    by_cases h1 : NC = 0
    · subst h1
      by_cases h2 : NN = 0
      · subst h2
        obtain rfl : true = R := by simpa using hR2
        clear hz hR2
        go_enter Tryz.func71, Tryz.ntmps71
        go_wp2
        go_ret
        exact ⟨rfl, (Below.refl _ _).alloc (Nat.le_refl _) _⟩
      · obtain rfl : false = R := by simpa [h2] using hR2
        have hb2 : ((NN : Int) == 0) = false := by simp; omega
        clear hz hR2 h2
        go_enter Tryz.func71, Tryz.ntmps71
        go_wp2
        go_ret
        exact ⟨rfl, (Below.refl _ _).alloc (Nat.le_refl _) _⟩
    · obtain rfl : false = R := by simpa [h1] using hR2
      have hb2 : ((NC : Int) == 0) = false := by simp; omega
      clear hz hR2 h1
      go_enter Tryz.func71, Tryz.ntmps71
      go_wp2
      go_ret
      exact ⟨rfl, (Below.refl _ _).alloc (Nat.le_refl _) _⟩
/-- How many columns come. -/
def manyQ (q : Qy) : Nat := q.cols.length + q.group.length + q.aggs.length
set_option maxHeartbeats 4000000 in
set_option maxRecDepth 20000 in
theorem checkForm_q (QC : Array Value) (q : Qy) (cp : Option Addr) (cc : Nat) (np : Option Addr) (nc : Nat) (gp : Option Addr) (gc : Nat) (ap : Option Addr) (ac : Nat) (w : World) (h : QV QC q cp cc np nc gp gc ap ac) (m1 : inM q.size) (m2 : inM q.slide) (l1 : q.cols.length ≤ 1048576) (l2 : q.group.length ≤ 1048576) (l3 : q.aggs.length ≤ 1048576) (E : Int) (hE : formQ q = E) :
    Calls Tryz.prog 41 #[.agg QC] w fun e w' => e = .returned (errV E) ∧ Below w.heap.size w w' := by
  have b1 := (Below.refl w.heap.size w).alloc (Nat.le_refl _) (.cells QC 39)
  have cG := goTogether_q QC q cp cc np nc gp gc ap ac (w.alloc (.cells QC 39)) h
  have cW := fun W => chkX q.size q.slide W m1 m2
  have hblk := box_blk w QC 39
  have hs14 : (Tryz.prog.info? 39).map (·.size) = some QC.size := by rw [h.size]; exact size_qyU
  obtain ⟨hs, h8, h9, h10, h11, h12, h13⟩ := h
  clear hs
  rw [formQ] at hE
  obtain ⟨frm, whr, cols, names, group, size, slide, aggs⟩ := q
  simp only at h8 h9 h10 h11 h12 h13 hE cW l1 l2 l3
  generalize togQ ⟨frm, whr, cols, names, group, size, slide, aggs⟩ = TG at cG hE
  generalize cols.length = NC at h8 hE l1
  generalize group.length = NG at h10 hE l2
  generalize aggs.length = NA at h13 hE l3
  generalize names.length = NN at h9
  clear m1 m2
  obtain ⟨CC, hCC⟩ : ∃ CC, CC = QC := ⟨_, rfl⟩
  have hld : ∀ {ops : Array Oper} {rest : List Oper} {op : Oper} {a : Act} {Q : Exit → Act → World → Prop} (hgd : op.guard = none) (x : Operand) (ho : op.op = .load 39 x) (hx : a.eval x = .pointer (some ⟨w.heap.size, 0, none⟩)), wpList Tryz.prog ops Q rest (a.put op.dst (.agg QC)) (w.alloc (.cells QC 39)) → wpList Tryz.prog ops Q (op :: rest) a (w.alloc (.cells QC 39)) := fun hgd x ho hx => wpList_load_row hgd 39 x ho w.heap.size hx _ QC _ _ hblk Tryz.underlying39 rfl hs14
  clear hblk hs14 hCC
  cases TG
  · rw [if_pos rfl] at hE
    subst hE
    rw [errV, if_neg (by decide)]
    go_enter Tryz.func41, Tryz.ntmps41
    go_wp2_with (refine hld rfl _ rfl rfl ?_)
    go_wp2_with fail
    refine cG.mono ?_
    rintro e w1 ⟨rfl, b2⟩
    clear hld cG cW
    go_wp2
    go_ret
    exact ⟨rfl, b1.trans (b2.mono (by simp))⟩
  · rw [if_neg (by decide)] at hE
    have KK : ∀ W, Below (w.alloc (.cells QC 39)).heap.size (w.alloc (.cells QC 39)) W → W.cell? ⟨w.heap.size, 8, none⟩ = some (.slice cp NC cc) ∧ W.cell? ⟨w.heap.size, 10, none⟩ = some (.slice gp NG gc) ∧ W.cell? ⟨w.heap.size, 11, none⟩ = some (.int .i64 size) ∧ W.cell? ⟨w.heap.size, 12, none⟩ = some (.int .i64 slide) ∧ W.cell? ⟨w.heap.size, 13, none⟩ = some (.slice ap NA ac) := fun W hb => by
      have kk := fun i => hb.cell (p := ⟨w.heap.size, i, none⟩) (by simp)
      refine ⟨?_, ?_, ?_, ?_, ?_⟩
      all_goals (rw [kk, World.cell?_alloc_at _ _ _ _ rfl]; assumption)
    by_cases hz : size = 0
    · subst hz
      rw [if_neg (by simp)] at hE
      by_cases h0 : NC + NG + NA = 0
      · rw [if_pos h0] at hE
        subst hE
        rw [errV, if_neg (by decide)]
        obtain ⟨rfl, rfl, rfl⟩ : NC = 0 ∧ NG = 0 ∧ NA = 0 := by omega
        go_enter Tryz.func41, Tryz.ntmps41
        go_wp2_with (refine hld rfl _ rfl rfl ?_)
        go_wp2_with fail
        refine cG.mono ?_
        rintro e w1 ⟨rfl, b2⟩
        have B1 : Below w.heap.size w w1 := b1.trans (b2.mono (by simp))
        have hl1 : w.heap.size < w1.heap.size := by have := b2.size; simp at this; omega
        obtain ⟨k8, k10, k11, k12, k13⟩ := KK _ b2
        clear hld cG
        clear cW
        go_wp2
        go_ret
        exact ⟨rfl, B1⟩
      · rw [if_neg h0] at hE
        by_cases h6 : 6 < NC + NG + NA
        · rw [if_pos h6] at hE
          subst hE
          rw [errV, if_neg (by decide)]
          have hn0 : ((NC : Int) + (NG : Int) + (NA : Int) == 0) = false := by simp; omega
          have hn6 : (6 : Int) < (NC : Int) + (NG : Int) + (NA : Int) := by omega
          go_enter Tryz.func41, Tryz.ntmps41
          go_wp2_with (refine hld rfl _ rfl rfl ?_)
          go_wp2_with fail
          refine cG.mono ?_
          rintro e w1 ⟨rfl, b2⟩
          have B1 : Below w.heap.size w w1 := b1.trans (b2.mono (by simp))
          have hl1 : w.heap.size < w1.heap.size := by have := b2.size; simp at this; omega
          obtain ⟨k8, k10, k11, k12, k13⟩ := KK _ b2
          clear hld cG
          clear cW
          go_wp2
          go_ret
          exact ⟨rfl, B1⟩
        · rw [if_neg h6] at hE
          subst hE
          rw [errV, if_pos rfl]
          have hn0 : ((NC : Int) + (NG : Int) + (NA : Int) == 0) = false := by simp; omega
          have hn6 : ¬ (6 : Int) < (NC : Int) + (NG : Int) + (NA : Int) := by omega
          go_enter Tryz.func41, Tryz.ntmps41
          go_wp2_with (refine hld rfl _ rfl rfl ?_)
          go_wp2_with fail
          refine cG.mono ?_
          rintro e w1 ⟨rfl, b2⟩
          have B1 : Below w.heap.size w w1 := b1.trans (b2.mono (by simp))
          have hl1 : w.heap.size < w1.heap.size := by have := b2.size; simp at this; omega
          obtain ⟨k8, k10, k11, k12, k13⟩ := KK _ b2
          clear hld cG
          clear cW
          go_wp2
          go_ret
          exact ⟨rfl, B1⟩
    · have hb : (size != 0) = true := by simpa using hz
      by_cases hw : wdB size slide
      · rw [if_neg (fun h => h.2 hw)] at hE
        rw [wd_zero hw, errV, if_pos rfl] at cW
        by_cases h0 : NC + NG + NA = 0
        · rw [if_pos h0] at hE
          subst hE
          rw [errV, if_neg (by decide)]
          obtain ⟨rfl, rfl, rfl⟩ : NC = 0 ∧ NG = 0 ∧ NA = 0 := by omega
          go_enter Tryz.func41, Tryz.ntmps41
          go_wp2_with (refine hld rfl _ rfl rfl ?_)
          go_wp2_with fail
          refine cG.mono ?_
          rintro e w1 ⟨rfl, b2⟩
          have B1 : Below w.heap.size w w1 := b1.trans (b2.mono (by simp))
          have hl1 : w.heap.size < w1.heap.size := by have := b2.size; simp at this; omega
          obtain ⟨k8, k10, k11, k12, k13⟩ := KK _ b2
          clear hld cG
          go_wp2_with fail
          refine (cW w1).mono ?_
          rintro e w2 ⟨rfl, b3⟩
          clear cW
          have B2 : Below w.heap.size w w2 := B1.trans (b3.mono (by omega))
          have hl2 : w.heap.size < w2.heap.size := by have := b3.size; omega
          rw [← b3.cell (p := ⟨w.heap.size, 8, none⟩) hl1] at k8
          rw [← b3.cell (p := ⟨w.heap.size, 10, none⟩) hl1] at k10
          rw [← b3.cell (p := ⟨w.heap.size, 13, none⟩) hl1] at k13
          go_wp2
          go_ret
          exact ⟨rfl, B2⟩
        · rw [if_neg h0] at hE
          by_cases h6 : 6 < NC + NG + NA
          · rw [if_pos h6] at hE
            subst hE
            rw [errV, if_neg (by decide)]
            have hn0 : ((NC : Int) + (NG : Int) + (NA : Int) == 0) = false := by simp; omega
            have hn6 : (6 : Int) < (NC : Int) + (NG : Int) + (NA : Int) := by omega
            go_enter Tryz.func41, Tryz.ntmps41
            go_wp2_with (refine hld rfl _ rfl rfl ?_)
            go_wp2_with fail
            refine cG.mono ?_
            rintro e w1 ⟨rfl, b2⟩
            have B1 : Below w.heap.size w w1 := b1.trans (b2.mono (by simp))
            have hl1 : w.heap.size < w1.heap.size := by have := b2.size; simp at this; omega
            obtain ⟨k8, k10, k11, k12, k13⟩ := KK _ b2
            clear hld cG
            go_wp2_with fail
            refine (cW w1).mono ?_
            rintro e w2 ⟨rfl, b3⟩
            clear cW
            have B2 : Below w.heap.size w w2 := B1.trans (b3.mono (by omega))
            have hl2 : w.heap.size < w2.heap.size := by have := b3.size; omega
            rw [← b3.cell (p := ⟨w.heap.size, 8, none⟩) hl1] at k8
            rw [← b3.cell (p := ⟨w.heap.size, 10, none⟩) hl1] at k10
            rw [← b3.cell (p := ⟨w.heap.size, 13, none⟩) hl1] at k13
            go_wp2
            go_ret
            exact ⟨rfl, B2⟩
          · rw [if_neg h6] at hE
            subst hE
            rw [errV, if_pos rfl]
            have hn0 : ((NC : Int) + (NG : Int) + (NA : Int) == 0) = false := by simp; omega
            have hn6 : ¬ (6 : Int) < (NC : Int) + (NG : Int) + (NA : Int) := by omega
            go_enter Tryz.func41, Tryz.ntmps41
            go_wp2_with (refine hld rfl _ rfl rfl ?_)
            go_wp2_with fail
            refine cG.mono ?_
            rintro e w1 ⟨rfl, b2⟩
            have B1 : Below w.heap.size w w1 := b1.trans (b2.mono (by simp))
            have hl1 : w.heap.size < w1.heap.size := by have := b2.size; simp at this; omega
            obtain ⟨k8, k10, k11, k12, k13⟩ := KK _ b2
            clear hld cG
            go_wp2_with fail
            refine (cW w1).mono ?_
            rintro e w2 ⟨rfl, b3⟩
            clear cW
            have B2 : Below w.heap.size w w2 := B1.trans (b3.mono (by omega))
            have hl2 : w.heap.size < w2.heap.size := by have := b3.size; omega
            rw [← b3.cell (p := ⟨w.heap.size, 8, none⟩) hl1] at k8
            rw [← b3.cell (p := ⟨w.heap.size, 10, none⟩) hl1] at k10
            rw [← b3.cell (p := ⟨w.heap.size, 13, none⟩) hl1] at k13
            go_wp2
            go_ret
            exact ⟨rfl, B2⟩
      · rw [if_pos ⟨hz, hw⟩] at hE
        subst hE
        rw [wd_one hw] at cW
        rw [errV, if_neg (by decide)] at cW ⊢
        go_enter Tryz.func41, Tryz.ntmps41
        go_wp2_with (refine hld rfl _ rfl rfl ?_)
        go_wp2_with fail
        refine cG.mono ?_
        rintro e w1 ⟨rfl, b2⟩
        have B1 : Below w.heap.size w w1 := b1.trans (b2.mono (by simp))
        have hl1 : w.heap.size < w1.heap.size := by have := b2.size; simp at this; omega
        obtain ⟨k8, k10, k11, k12, k13⟩ := KK _ b2
        clear hld cG
        go_wp2_with fail
        refine (cW w1).mono ?_
        rintro e w2 ⟨rfl, b3⟩
        clear cW
        go_wp2
        go_ret
        exact ⟨rfl, B1.trans (b3.mono (by omega))⟩
end Go.Proofs.YticdcnbeemkapaaGreatDoor
namespace Go.Proofs.YticdcnbeemkapaaGreatDoor
open Go.RowKit
set_option linter.unusedVariables false

/-- A block as a whole. -/
def Blk (w : World) (b : Nat) (cs : Array Value) (t : TypeId) : Prop := w.heap[b]? = some (.cells cs t (0, 0))
theorem Blk.lt {w : World} {b : Nat} {cs : Array Value} {t : TypeId} (h : Blk w b cs t) : b < w.heap.size := lt_of_block h
theorem Blk.cell {w : World} {b : Nat} {cs : Array Value} {t : TypeId} (h : Blk w b cs t) (i : Nat) : w.cell? ⟨b, i, none⟩ = cs[i]? := by unfold Blk at h; simp [World.cell?, h]
theorem Blk.frozen {w : World} {b : Nat} {cs : Array Value} {t : TypeId} (h : Blk w b cs t) (i : Nat) : w.frozen? ⟨b, i, none⟩ = false := frozen_of_row w b i cs t h
theorem Blk.keep {w w' : World} {b : Nat} {cs : Array Value} {t : TypeId} (h : Blk w b cs t) (hk : w'.heap[b]? = w.heap[b]?) : Blk w' b cs t := by unfold Blk at *; rw [hk]; exact h
theorem Blk.set {w : World} {b : Nat} {cs : Array Value} {t : TypeId} (h : Blk w b cs t) (i : Nat) (v : Value) : Blk (w.setCell ⟨b, i, none⟩ v) b (cs.setIfInBounds i v) t := heap_setCell_same w b i cs t v h
theorem Blk.far {w : World} {b z : Nat} {cs : Array Value} {t : TypeId} (h : Blk w b cs t) (hz : b ≠ z) (i : Nat) (v : Value) : Blk (w.setCell ⟨z, i, none⟩ v) b cs t := h.keep (heap_setCell_other w _ b v hz)
theorem Blk.but {w w' : World} {r b : Nat} {cs : Array Value} {t : TypeId} (h : Blk w b cs t) (hb : But r w w') (hr : b ≠ r) : Blk w' b cs t := h.keep (hb.kept b h.lt hr)
theorem Blk.on {w w' : World} {b : Nat} {cs : Array Value} {t : TypeId} (h : Blk w b cs t) (hb : Below w.heap.size w w') : Blk w' b cs t := h.keep (hb.block b h.lt)
theorem Blk.grown {w w' : World} {b : Nat} {cs : Array Value} {t : TypeId} {row : Option Nat} (h : Blk w b cs t) (hg : w.grownBy w' row) (hr : some b ≠ row) : Blk w' b cs t := h.keep (hg.block b h.lt hr)
theorem blk_alloc (w : World) (cs : Array Value) (t : TypeId) : Blk (w.alloc (.cells cs t)) w.heap.size cs t := by
  show (w.heap.push _)[_]? = _
  rw [Array.getElem?_push_size]
/-- All blocks from B on stay as they were. -/
def KeepB (B : Nat) (w w' : World) : Prop := w.heap.size ≤ w'.heap.size ∧ ∀ b, B ≤ b → b < w.heap.size → w'.heap[b]? = w.heap[b]?
theorem KeepB.refl (B : Nat) (w : World) : KeepB B w w := ⟨Nat.le_refl _, fun _ _ _ => rfl⟩
theorem KeepB.trans {B : Nat} {w w1 w2 : World} (h : KeepB B w w1) (k : KeepB B w1 w2) : KeepB B w w2 := ⟨Nat.le_trans h.1 k.1, fun b h1 h2 => by rw [k.2 b h1 (by have := h.1; omega), h.2 b h1 h2]⟩
theorem KeepB.but {B r : Nat} {w w' : World} (h : But r w w') (hr : r < B) : KeepB B w w' := ⟨h.size, fun b h1 h2 => h.kept b h2 (by omega)⟩
theorem KeepB.on {B : Nat} {w w' : World} (h : Below w.heap.size w w') : KeepB B w w' := ⟨h.size, fun b _ h2 => h.block b h2⟩
theorem KeepB.set {B z : Nat} (w : World) (i : Nat) (v : Value) (hz : z < B) : KeepB B w (w.setCell ⟨z, i, none⟩ v) := ⟨by simp [World.setCell], fun b h1 _ => heap_setCell_other w _ b v (by show b ≠ z; omega)⟩
theorem own_keep {w w' : World} {B B' : Nat} {e : TypeId} {size n : Nat} {v : Value} {xs : List Value} (h : w.ownsRow B e size v n xs) (hk : KeepB B' w w') (hB : B' ≤ B) : w'.ownsRow B e size v n xs := by
  refine ⟨h.1, ?_⟩
  rcases h.2 with hn | ⟨g, cap, cur, rfl, h1, hgg, rest⟩
  · exact .inl hn
  · exact .inr ⟨g, cap, cur, rfl, h1, by rw [hk.2 g (by omega) (Array.getElem?_eq_some_iff.1 hgg).1]; exact hgg, rest⟩
/-- All that was there is kept but the blocks of S. -/
structure Kp (S : Nat → Prop) (w w' : World) : Prop where
  low : Below 0 w w'
  kept : ∀ k, k < w.heap.size → ¬ S k → w'.heap[k]? = w.heap[k]?
theorem Kp.size {S : Nat → Prop} {w w' : World} (h : Kp S w w') : w.heap.size ≤ w'.heap.size := h.low.size
theorem Kp.refl (S : Nat → Prop) (w : World) : Kp S w w := ⟨Below.refl _ _, fun _ _ _ => rfl⟩
theorem Kp.trans {S : Nat → Prop} {w w1 w2 : World} (h : Kp S w w1) (k : Kp S w1 w2) : Kp S w w2 :=
  ⟨h.low.trans k.low, fun b hb hs => by rw [k.kept b (by have := h.size; omega) hs, h.kept b hb hs]⟩
theorem Kp.mono {S S' : Nat → Prop} {w w1 : World} (h : Kp S w w1) (hs : ∀ k, k < w.heap.size → S k → S' k) : Kp S' w w1 := ⟨h.low, fun b hb hn => h.kept b hb (fun e => hn (hs b hb e))⟩
theorem Kp.of_below {S : Nat → Prop} {w w1 : World} (h : Below w.heap.size w w1) : Kp S w w1 := ⟨h.mono (Nat.zero_le _), fun b hb _ => h.block b hb⟩
theorem Kp.below {S : Nat → Prop} {w w1 : World} {B : Nat} (h : Kp S w w1) (hB : B ≤ w.heap.size) (hs : ∀ k, k < B → ¬ S k) : Below B w w1 :=
  ⟨h.low.os, h.low.tape, h.low.output, h.low.size, fun k hk => h.kept k (by omega) (hs k hk)⟩
theorem Kp.on {S : Nat → Prop} {w w1 w2 : World} (h : Kp S w w1) (k : Below w1.heap.size w1 w2) : Kp S w w2 := h.trans (Kp.of_below k)
theorem Kp.set {S : Nat → Prop} {w w1 : World} (h : Kp S w w1) {b : Nat} (o : Nat) (v : Value) (hs : b < w.heap.size → S b) : Kp S w (w1.setCell ⟨b, o, none⟩ v) :=
  ⟨h.low.setCell (p := ⟨b, o, none⟩) (Nat.zero_le _) v, fun k hk hn => by rw [Below.heap_setCell _ _ _ _ (fun e => by simp at e; subst e; exact hn (hs hk))]; exact h.kept k hk hn⟩
theorem Kp.drew {S : Nat → Prop} {w w1 : World} (h : Kp S w w1) : Kp S w w1.drew := ⟨h.low.drew, h.kept⟩
theorem Kp.alloc {S : Nat → Prop} {w w1 : World} (h : Kp S w w1) (o : Obj) : Kp S w (w1.alloc o) := h.on ((Below.refl _ _).alloc (Nat.le_refl _) o)
theorem Kp.grown {S : Nat → Prop} {w w1 w2 : World} {row : Option Nat} (h : Kp S w w1) (hg : w1.grownBy w2 row) (hr : ∀ k, row = some k → k < w.heap.size → S k) : Kp S w w2 :=
  ⟨h.low.grown hg (Nat.zero_le _) (fun _ _ => Nat.zero_le _), fun k hk hn => by rw [hg.block k (by have := h.size; omega) (fun e => hn (hr k e.symm hk))]; exact h.kept k hk hn⟩
theorem Kp.cell {S : Nat → Prop} {w w1 : World} (h : Kp S w w1) {b : Nat} (o : Nat) (hb : b < w.heap.size) (hs : ¬ S b) : w1.cell? ⟨b, o, none⟩ = w.cell? ⟨b, o, none⟩ := by
  simp only [World.cell?, h.kept b hb hs]
theorem Blk.kp {S : Nat → Prop} {w w1 : World} {b : Nat} {cs : Array Value} {t : TypeId} (h : Blk w b cs t) (hf : Kp S w w1) (hs : ¬ S b) : Blk w1 b cs t := h.keep (hf.kept b h.lt hs)
theorem Blk.there {w : World} {b : Nat} {cs : Array Value} {t : TypeId} (h : Blk w b cs t) (o n : Nat) (hn : o + n ≤ cs.size) : w.there b o n := fun j hj => by
  refine ⟨?_, h.frozen _⟩
  rw [h.cell, Array.getElem?_eq_getElem (by omega)]
  rfl
def putA : Array Value → Nat → List Value → Array Value
  | cs, _, [] => cs
  | cs, o, v :: r => putA (cs.setIfInBounds o v) (o + 1) r
theorem Blk.cells {b : Nat} {t : TypeId} : ∀ (vs : List Value) (o : Nat) (w : World) (cs : Array Value), Blk w b cs t → Blk (w.setCells b o vs) b (putA cs o vs) t
  | [], _, _, _, h => h
  | v :: r, o, _, _, h => Blk.cells r (o + 1) _ _ (h.set o v)
theorem below_cells {B b : Nat} {a : World} (hb : B ≤ b) : ∀ (vs : List Value) (o : Nat) (w : World), Below B a w → Below B a (w.setCells b o vs)
  | [], _, _, h => h
  | v :: r, o, w, h => below_cells hb r (o + 1) _ (h.setCell (p := ⟨b, o, none⟩) hb v)
theorem keep_cells {B b : Nat} (hb : b < B) : ∀ (vs : List Value) (o : Nat) (w : World), KeepB B w (w.setCells b o vs)
  | [], _, w => KeepB.refl _ _
  | v :: r, o, w => (KeepB.set w o v hb).trans (keep_cells hb r (o + 1) _)
theorem cell_ne {w : World} {b o o' : Nat} {v : Value} (h : o ≠ o') : (w.setCell ⟨b, o, none⟩ v).cell? ⟨b, o', none⟩ = w.cell? ⟨b, o', none⟩ := by
  rw [World.cell?_setCell_other]
  intro e
  injection e with _ e
  exact h e
theorem cell_eq {w : World} {b o : Nat} {v u : Value} (h : w.cell? ⟨b, o, none⟩ = some u) : (w.setCell ⟨b, o, none⟩ v).cell? ⟨b, o, none⟩ = some v := by
  simp [World.cell?_setCell_same, h]
theorem Blk.drew {w : World} {b : Nat} {cs : Array Value} {t : TypeId} (h : Blk w b cs t) : Blk w.drew b cs t := h
theorem But.cells {r : Nat} {w : World} : ∀ (vs : List Value) (o : Nat) (w1 : World), But r w w1 → But r w (w1.setCells r o vs)
  | [], _, _, h => h
  | v :: vs, o, _, h => But.cells vs (o + 1) _ (h.set o v)
theorem Kp.of_but {r : Nat} {S : Nat → Prop} {w w1 : World} (h : But r w w1) (hS : S r) : Kp S w w1 := ⟨h.below.mono (Nat.zero_le _), fun k hk hn => h.kept k hk (fun e => by subst e; exact hn hS)⟩
/-- A whole struct is stored into a place of a block that is known as a whole. -/
theorem wpList_store_blk {P : Program} {ops : Array Oper} {rest : List Oper} {op : Oper} {a : Act} {W : World} {Q : Exit → Act → World → Prop} (hgd : op.guard = none) (ty : TypeId) (x y : Operand) (ho : op.op = .store ty x y)
    (b o : Nat) (cells : Array Value) (hx : a.eval x = .pointer (some ⟨b, o, none⟩)) (hy : a.eval y = .agg cells) (cs : Array Value) (T : TypeId) (hb : Blk W b cs T) (hn : o + cells.size ≤ cs.size)
    (hi : (P.info? ty).map (·.size) = some cells.size) (h1 : cells.all (·.oneCell') = true)
    (h : ∀ W', Blk W' b (putA cs o cells.toList) T → But b W W' → wpList P ops Q rest (a.put op.dst undef) W') : wpList P ops Q (op :: rest) a W :=
  wpList_store_mid hgd ty x y ho b o cells hx hy (hb.there o cells.size hn) hi h1 (h _ (Blk.cells _ _ _ _ hb) (But.cells _ _ _ (But.refl _ _)))
/-- A whole struct is read out of a place of a block that is known as a whole. -/
theorem wpList_load_blk {P : Program} {ops : Array Oper} {rest : List Oper} {op : Oper} {a : Act} {W : World} {Q : Exit → Act → World → Prop} (hgd : op.guard = none) (ty : TypeId) (x : Operand) (ho : op.op = .load ty x)
    (b o : Nat) (hx : a.eval x = .pointer (some ⟨b, o, none⟩)) (cs : Array Value) (T : TypeId) (hb : Blk W b cs T) (l : List Value) (hr : ∀ j v, l[j]? = some v → cs[o + j]? = some v) (d : TypeDesc)
    (hu : P.underlying ty = some d) (hd : d.isRow = true) (hi : (P.info? ty).map (·.size) = some l.length)
    (h : wpList P ops Q rest (a.put op.dst (.agg l.toArray)) W) : wpList P ops Q (op :: rest) a W :=
  wpList_load_mid hgd ty x ho b o hx l d (fun j v hv => by rw [hb.cell]; exact hr j v hv) hu hd hi h
end Go.Proofs.YticdcnbeemkapaaGreatDoor
namespace Go.Proofs.YticdcnbeemkapaaGreatDoor
open Go.RowKit Go.BigFrame
set_option linter.unusedVariables false
set_option linter.unusedSimpArgs false

theorem size_svU : (Tryz.prog.info? 92).map (·.size) = some 9 := by kernel_rfl
/-- A whole block is read. -/
theorem ld_row {W : World} {b : Nat} {cs : Array Value} {t : TypeId} {d : TypeDesc} (hb : Blk W b cs t) (hu : Tryz.prog.underlying t = some d) (hd : d.isRow = true) (hs : (Tryz.prog.info? t).map (·.size) = some cs.size) :
    ∀ {ops : Array Oper} {rest : List Oper} {op : Oper} {a : Act} {Q : Exit → Act → World → Prop} (hgd : op.guard = none) (x : Operand) (ho : op.op = .load t x) (hx : a.eval x = .pointer (some ⟨b, 0, none⟩)), wpList Tryz.prog ops Q rest (a.put op.dst (.agg cs)) W → wpList Tryz.prog ops Q (op :: rest) a W :=
  fun hgd x ho hx h => wpList_load_blk hgd t x ho b 0 hx cs t hb cs.toList (fun j v hv => by rw [Nat.zero_add]; simpa using hv) d hu hd (by rw [hs, Array.length_toList]) h
theorem ex_seven {w : World} {lo : Nat → Prop} {XC : Array Value} {x : Ex} (h : ExIn w lo (.agg XC) x) : XC.size = 7 := by
  obtain ⟨o1, n1, t1, k1, s1, p1, m1, c1, a1, e⟩ := h.agg
  injection e with e
  rw [e]
  rfl
/-- The three blocks that come makes. -/
theorem come3 (w : World) (SC XC : Array Value) : Below w.heap.size w (((w.alloc (.cells SC 92)).alloc (.cells XC 26)).alloc (.cells #[.int .i64 0, .int .i64 0, .string ⟨#[]⟩] 23)) ∧ ∀ W, Below (w.heap.size + 3) (((w.alloc (.cells SC 92)).alloc (.cells XC 26)).alloc (.cells #[.int .i64 0, .int .i64 0, .string ⟨#[]⟩] 23)) W → Blk W w.heap.size SC 92 ∧ Blk W (w.heap.size + 1) XC 26 ∧ Blk W (w.heap.size + 2) #[.int .i64 0, .int .i64 0, .string ⟨#[]⟩] 23 ∧ w.heap.size + 3 ≤ W.heap.size ∧ Below w.heap.size w W := by
  have b0 := (Below.refl w.heap.size w).alloc (Nat.le_refl _) (.cells SC 92)
  have b1 := b0.alloc (by simp) (.cells XC 26)
  have b2 := b1.alloc (by simp; omega) (.cells #[.int .i64 0, .int .i64 0, .string ⟨#[]⟩] 23)
  refine ⟨b2, fun W hb => ?_⟩
  have hz := hb.size
  simp at hz
  have k0 := blk_alloc w SC 92
  have k1 := blk_alloc (w.alloc (.cells SC 92)) XC 26
  have k2 := blk_alloc ((w.alloc (.cells SC 92)).alloc (.cells XC 26)) #[.int .i64 0, .int .i64 0, .string ⟨#[]⟩] 23
  rw [show (w.alloc (.cells SC 92)).heap.size = w.heap.size + 1 by simp] at k1
  rw [show ((w.alloc (.cells SC 92)).alloc (.cells XC 26)).heap.size = w.heap.size + 2 by simp] at k2
  have a1 : ∀ (X : World) o, Below X.heap.size X (X.alloc o) := fun X o => (Below.refl _ _).alloc (Nat.le_refl _) o
  refine ⟨(((k0.on (a1 _ _)).on (a1 _ _))).keep (hb.block _ (by omega)), (k1.on (a1 _ _)).keep (hb.block _ (by omega)), k2.keep (hb.block _ (by omega)), hz, b2.trans (hb.mono (by omega))⟩
set_option maxHeartbeats 2000000 in
set_option maxRecDepth 20000 in
theorem come_s (x : Ex) (lo : Nat → Prop) (XC SC : Array Value) (vl vr : Value) (zs : List Cl) (rs : List V3) (w : World) (henv : KEnv w) (hx : ExIn w lo (.agg XC) x) (hsz : (x.pre 1).length ≤ 1048576) (hxb : ExB x) (hS0 : SC[0]? = some vl) (hcv : ColsV w vl zs) (hrv : ValsV w vr rs) (hrs : SizedV rs) (t k : Int) (s : ByteArray) (E : Int) (hR : comP zs rs x = ((t, k, s), E)) :
    Calls Tryz.prog 78 #[.agg SC, .agg XC, vr] w fun e w' => e = .returned (.tuple #[.agg #[.int .i64 t, .int .i64 k, .string s], errV E]) ∧ Below w.heap.size w w' := by
  have hX7 := ex_seven hx
  obtain ⟨b1, box⟩ := come3 w SC XC
  have cN := fun W (hb : Below w.heap.size w W) => isNothing_any x lo (.agg XC) W (hx.on hb)
  have hs7 : (Tryz.prog.info? 26).map (·.size) = some XC.size := by rw [hX7]; kernel_rfl
  have hld := fun W (hb : Blk W (w.heap.size + 1) XC 26) => @ld_row W _ _ _ _ hb Tryz.underlying26 rfl hs7
  obtain ⟨z1, z2, rfl⟩ := cols_form hcv
  rw [comP] at hR
  by_cases hn : noOp x = true
  · rw [if_pos hn] at hR
    simp only [noV, Prod.mk.injEq] at hR
    obtain ⟨⟨rfl, rfl, rfl⟩, rfl⟩ := hR
    rw [errV, if_pos rfl]
    rw [hn] at cN
    clear hx hcv hrv hS0 henv hs7
    go_enter Tryz.func78, Tryz.ntmps78
    go_wp2_with (refine hld _ (box _ (Below.refl _ _)).2.1 rfl _ rfl rfl ?_)
    go_wp2_with fail
    refine (cN _ b1).mono ?_
    rintro e w1 ⟨rfl, b2⟩
    obtain ⟨k0, k1, k2, hl, B⟩ := box w1 (b2.mono (by simp))
    have f0 := k2.cell 0
    have f1 := k2.cell 1
    have f2 := k2.cell 2
    have ff := fun o => k2.frozen o
    have hl2 : w.heap.size + 2 < w1.heap.size := by omega
    simp at f0 f1 f2
    clear cN hld box k0 k1 k2 b2
    go_wp2
    refine bodyPost_ret (v := .tuple #[.agg #[.int .i64 0, .int .i64 0, .string ⟨#[]⟩], .nilIface]) (by simp [results, Tryz.results78, go_sem, World.cell?_setCell_other, World.cell?_setCell_same, f0, f1, f2]) rfl ⟨rfl, ?_⟩
    exact below3 B (by omega) _ _ _
  · have hnb : noOp x = false := by simpa using hn
    rw [if_neg hn] at hR
    rw [hnb] at cN
    have cE := fun W (hb : Below w.heap.size w W) => eval_any x lo (.agg XC) _ vr zs rs W (henv.on hb) (hx.on hb) hsz hxb (hcv.on hb) (hrv.on hb) hrs t k s E hR
    clear hx hcv hrv henv hs7 hR hsz hxb hrs hn hnb
    generalize errV E = RV at *
    go_enter Tryz.func78, Tryz.ntmps78
    go_wp2_with (refine hld _ (box _ (Below.refl _ _)).2.1 rfl _ rfl rfl ?_)
    go_wp2_with fail
    refine (cN _ b1).mono ?_
    rintro e w1 ⟨rfl, b2⟩
    have B3 := b2.mono (show w.heap.size + 3 ≤ _ by simp)
    obtain ⟨k0, k1, k2, hl, B⟩ := box w1 B3
    have hs0 := k0.cell 0
    rw [hS0] at hs0
    have hl0 : w.heap.size < w1.heap.size := by omega
    clear cN
    go_wp2_with (refine hld _ k1 rfl _ rfl rfl ?_)
    go_wp2_with fail
    refine (cE _ B).mono ?_
    rintro e w2 ⟨rfl, b4⟩
    obtain ⟨k0', k1', k2', hl', B'⟩ := box w2 (B3.trans (b4.mono hl))
    have f0 := k2'.cell 0
    have f1 := k2'.cell 1
    have f2 := k2'.cell 2
    have ff := fun o => k2'.frozen o
    have hl2 : w.heap.size + 2 < w2.heap.size := by omega
    simp at f0 f1 f2
    clear cE hld box k0 k1 k2 k0' k1' k2' b2 b4 B3 hs0 hS0
    go_wp2
    refine bodyPost_ret (v := .tuple #[.agg #[.int .i64 t, .int .i64 k, .string s], RV]) (by simp [results, Tryz.results78, go_sem, World.cell?_setCell_other, World.cell?_setCell_same, f0, f1, f2]) rfl ⟨rfl, ?_⟩
    exact below3 B' (by omega) _ _ _
end Go.Proofs.YticdcnbeemkapaaGreatDoor
namespace Go.Proofs.YticdcnbeemkapaaGreatDoor
open Go.RowKit
set_option linter.unusedVariables false

theorem one3v (t n : Int) (s : ByteArray) : ∀ u ∈ ([.int .i64 t, .int .i64 n, .string s] : List Value), u.oneCell' = true := by
  intro u hu
  simp at hu
  rcases hu with rfl | rfl | rfl <;> rfl
theorem news1 {w : World} {T : TypeId} {g : Nat} (hg : w.heap.size = g) (cs : List Value) : ∀ j u, cs[j]? = some u → (w.alloc (.cells cs.toArray T)).cell? ((⟨g, 0, none⟩ : Addr).add j) = some u := by
  intro j u hu
  rw [Go.WideShapes.add_plain, World.cell?_alloc_at _ _ _ _ (by simp [hg])]
  simpa using hu
/-- A value is appended to a list of one's own. -/
theorem wpList_append_val {w : World} {ops : Array Oper} {rest : List Oper} {o : Oper} {a : Act} {Q : Exit → Act → World → Prop} (hgd : o.guard = none) (s x : Operand)
    (ho : o.op = .call { callee := .builtin .append, args := #[s, x], argTypes := #[41, 41] })
    (base : Nat) (v : Value) (n : Nat) (vs : List V3) (hs : a.eval s = v) (hown : w.ownsRow base 23 3 v n (vcells vs))
    (g c : Nat) (t k : Int) (b : ByteArray) (hx : a.eval x = .slice (some ⟨g, 0, none⟩) 1 c) (hc : ∀ j u, ([.int .i64 t, .int .i64 k, .string b] : List Value)[j]? = some u → w.cell? ((⟨g, 0, none⟩ : Addr).add j) = some u)
    (hsm : n ≤ 1000000000) (hbase : base ≤ w.heap.size)
    (h : ∀ q' c' w', w'.ownsRow base 23 3 (.slice q' (n + 1) c') (n + 1) (vcells (vs ++ [(t, k, b)])) → w.grownBy w' v.ownBlock → wpList Tryz.prog ops Q rest (a.put o.dst (.slice q' (n + 1) c')) w') : wpList Tryz.prog ops Q (o :: rest) a w := by
  obtain ⟨i0, hi, hz0, hz1, hzz⟩ := info_parts info_val
  refine wpList_append_own w hgd s x 41 ho base 23 i0 _ 3 32 Tryz.underlying41 hi hz0 hz1 hzz rfl (by decide) v n (vcells vs) hs hown ⟨g, 0, none⟩ 1 c [.int .i64 t, .int .i64 k, .string b] hx rfl hc (one3v t k b) (by unfold maxLen; omega) (by omega) hbase (fun v' w' o1 o2 _ => ?_)
  obtain ⟨q', c', rfl⟩ : ∃ q' c', v' = .slice q' (n + 1) c' := by
    rcases o1.2 with ⟨_, h0⟩ | ⟨g', cap, cur, e, _⟩
    · omega
    · exact ⟨_, _, e⟩
  exact h q' c' w' (by rw [vcells_append]; exact o1) o2
end Go.Proofs.YticdcnbeemkapaaGreatDoor
