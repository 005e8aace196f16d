/-
  WdC, WdX, QuC3, QrB, QrC, in one text.
-/
import Derived.Test.YtkbhmghdonomnaaGreatDoorGzAm
import Derived.Test.YtkbhmghdonomnaaGreatDoorGzAt
import Derived.Deep.OwnRows
import Derived.Laws.OwnMore
namespace Go.Proofs.YtkbhmghdonomnaaGreatDoor
open Go.RowKit
set_option linter.unusedVariables false

/-- A machine's number. -/
def inM (x : Int) : Prop := -9223372036854775808 ≤ x ∧ x ≤ 9223372036854775807
def ChkC : Prop := ∀ (size slide : Int) (w : World), inM size → inM slide → Calls Tryz.prog 56 #[.int .i64 size, .int .i64 slide] w fun e w' => e = .returned (errV (wdE size slide)) ∧ Below w.heap.size w w'
theorem wd_zero {size slide : Int} (h : wdB size slide) : wdE size slide = 0 := by rw [wdE, if_pos h]
theorem wd_one {size slide : Int} (h : ¬ wdB size slide) : wdE size slide = 1 := by rw [wdE, if_neg h]
end Go.Proofs.YtkbhmghdonomnaaGreatDoor
namespace Go.Proofs.YtkbhmghdonomnaaGreatDoor
open Go.RowKit
set_option linter.unusedVariables false

theorem within_any (n l m : Int) (w : World) : Calls Tryz.prog 88 #[.int .i64 n, .int .i64 l, .int .i64 m] w fun e w' => e = .returned (.bool (decide (l ≤ n ∧ n ≤ m))) ∧ w' = w := by
  by_cases h1 : l ≤ n
  · by_cases h2 : n ≤ m
    · have hd : decide (l ≤ n ∧ n ≤ m) = true := decide_eq_true ⟨h1, h2⟩
      rw [hd]
      clear hd
      go_enter Tryz.func88, Tryz.ntmps88
      go_wp2
      go_ret
      exact ⟨rfl, rfl⟩
    · have hd : decide (l ≤ n ∧ n ≤ m) = false := decide_eq_false (fun h => h2 h.2)
      rw [hd]
      clear hd
      go_enter Tryz.func88, Tryz.ntmps88
      go_wp2
      go_ret
      exact ⟨rfl, rfl⟩
  · have hd : decide (l ≤ n ∧ n ≤ m) = false := decide_eq_false (fun h => h1 h.1)
    rw [hd]
    clear hd
    go_enter Tryz.func88, Tryz.ntmps88
    go_wp2
    go_ret
    exact ⟨rfl, rfl⟩
theorem chkX : ChkC := fun size slide w m1 m2 => by
  have c1 := within_any size 1 1000
  have c2 := within_any slide 1 size
  by_cases h1 : 1 ≤ size ∧ size ≤ 1000
  · rw [decide_eq_true h1] at c1
    by_cases h2 : 1 ≤ slide ∧ slide ≤ size
    · rw [decide_eq_true h2] at c2
      obtain ⟨a1, a2⟩ := h1
      obtain ⟨b1, b2⟩ := h2
      have hw : IntKind.i64.wrap (10 * slide) = 10 * slide := by rw [IntKind.wrap_i64]; omega
      by_cases h3 : size ≤ 10 * slide
      · rw [wd_zero ⟨a1, a2, b1, b2, h3⟩, show errV 0 = .nilIface from rfl]
        go_enter Tryz.func56, Tryz.ntmps56
        go_wp2_with fail
        refine (c1 _).mono ?_
        rintro e w1 ⟨rfl, rfl⟩
        clear c1
        go_wp2_with fail
        refine (c2 _).mono ?_
        rintro e w1 ⟨rfl, rfl⟩
        clear c2
        go_wp2
        go_ret
        exact ⟨rfl, Below.refl _ _⟩
      · rw [wd_one (fun h => h3 h.2.2.2.2), show errV 1 = .iface 32 (.int .i64 1) from rfl]
        go_enter Tryz.func56, Tryz.ntmps56
        go_wp2_with fail
        refine (c1 _).mono ?_
        rintro e w1 ⟨rfl, rfl⟩
        clear c1
        go_wp2_with fail
        refine (c2 _).mono ?_
        rintro e w1 ⟨rfl, rfl⟩
        clear c2
        go_wp2
        go_ret
        exact ⟨rfl, Below.refl _ _⟩
    · rw [decide_eq_false h2] at c2
      rw [wd_one (fun h => h2 ⟨h.2.2.1, h.2.2.2.1⟩), show errV 1 = .iface 32 (.int .i64 1) from rfl]
      clear h1 h2
      go_enter Tryz.func56, Tryz.ntmps56
      go_wp2_with fail
      refine (c1 _).mono ?_
      rintro e w1 ⟨rfl, rfl⟩
      clear c1
      go_wp2_with fail
      refine (c2 _).mono ?_
      rintro e w1 ⟨rfl, rfl⟩
      clear c2
      go_wp2
      go_ret
      exact ⟨rfl, Below.refl _ _⟩
  · rw [decide_eq_false h1] at c1
    rw [wd_one (fun h => h1 ⟨h.1, h.2.1⟩), show errV 1 = .iface 32 (.int .i64 1) from rfl]
    clear h1 c2
    go_enter Tryz.func56, Tryz.ntmps56
    go_wp2_with fail
    refine (c1 _).mono ?_
    rintro e w1 ⟨rfl, rfl⟩
    clear c1
    go_wp2
    go_ret
    exact ⟨rfl, Below.refl _ _⟩
end Go.Proofs.YtkbhmghdonomnaaGreatDoor
namespace Go.Proofs.YtkbhmghdonomnaaGreatDoor
open Go.RowKit Go.BigFrame
set_option linter.unusedVariables false
set_option linter.unusedSimpArgs false

theorem size_qyU : (Tryz.prog.info? 30).map (·.size) = some 14 := by kernel_rfl
theorem size_exU : (Tryz.prog.info? 26).map (·.size) = some 7 := by kernel_rfl
theorem size_agU : (Tryz.prog.info? 49).map (·.size) = some 9 := by kernel_rfl
theorem box_blk (w : World) (cs : Array Value) (t : TypeId) : (w.alloc (.cells cs t)).heap[w.heap.size]? = some (.cells cs t (0, 0)) := by
  show (w.heap.push _)[_]? = _
  rw [Array.getElem?_push_size]
/-- A query's value: its cells, one by one. -/
structure QV (QC : Array Value) (q : Qy) (cp : Option Addr) (cc : Nat) (np : Option Addr) (nc : Nat) (gp : Option Addr) (gc : Nat) (ap : Option Addr) (ac : Nat) : Prop where
  size : QC.size = 14
  c8 : QC[8]? = some (.slice cp q.cols.length cc)
  c9 : QC[9]? = some (.slice np q.names.length nc)
  c10 : QC[10]? = some (.slice gp q.group.length gc)
  c11 : QC[11]? = some (.int .i64 q.size)
  c12 : QC[12]? = some (.int .i64 q.slide)
  c13 : QC[13]? = some (.slice ap q.aggs.length ac)
theorem qv_of (q : Qy) (wp : Option Addr) (wc : Nat) (cp : Option Addr) (cc : Nat) (np : Option Addr) (nc : Nat) (gp : Option Addr) (gc : Nat) (ap : Option Addr) (ac : Nat) : QV (qyC q wp wc cp cc np nc gp gc ap ac) q cp cc np nc gp gc ap ac := ⟨rfl, rfl, rfl, rfl, rfl, rfl, rfl⟩
set_option maxHeartbeats 2000000 in
set_option maxRecDepth 20000 in
theorem goTogether_q (QC : Array Value) (q : Qy) (cp : Option Addr) (cc : Nat) (np : Option Addr) (nc : Nat) (gp : Option Addr) (gc : Nat) (ap : Option Addr) (ac : Nat) (w : World) (h : QV QC q cp cc np nc gp gc ap ac) :
    Calls Tryz.prog 55 #[.agg QC] w fun e w' => e = .returned (.bool (togQ q)) ∧ Below w.heap.size w w' := by
  obtain ⟨hs, h8, h9, h10, h11, h12, h13⟩ := h
  clear hs
  obtain ⟨R, hR⟩ : ∃ R, togQ q = R := ⟨_, rfl⟩
  have hR2 := hR
  rw [togQ] at hR2
  rw [hR]
  clear hR
  obtain ⟨frm, whr, cols, names, group, size, slide, aggs⟩ := q
  simp only at h8 h9 h10 h11 h12 h13 hR2
  generalize cols.length = NC at h8 hR2
  generalize names.length = NN at h9 hR2
  generalize group.length = NG at h10 hR2
  generalize aggs.length = NA at h13 hR2
  by_cases hz : size = 0
  · subst hz
    rw [if_neg (by simp)] at hR2
    by_cases g1 : slide = 0
    · subst g1
      by_cases g2 : NA = 0
      · subst g2
        by_cases g3 : NG = 0
        · subst g3
          by_cases g4 : NN = NC
          · subst g4
            obtain rfl : true = R := by simpa using hR2
            go_enter Tryz.func55, Tryz.ntmps55
            go_wp2
            go_ret
            exact ⟨rfl, (Below.refl _ _).alloc (Nat.le_refl _) _⟩
          · obtain rfl : false = R := by simpa [g4] using hR2
            have hb : ((NN : Int) == (NC : Int)) = false := by simp; omega
            clear hR2 g4
            go_enter Tryz.func55, Tryz.ntmps55
            go_wp2
            go_ret
            exact ⟨rfl, (Below.refl _ _).alloc (Nat.le_refl _) _⟩
        · obtain rfl : false = R := by simpa [g3] using hR2
          have hb : ((NG : Int) == 0) = false := by simp; omega
          clear hR2 g3
          go_enter Tryz.func55, Tryz.ntmps55
          go_wp2
          go_ret
          exact ⟨rfl, (Below.refl _ _).alloc (Nat.le_refl _) _⟩
      · obtain rfl : false = R := by simpa [g2] using hR2
        have hb : ((NA : Int) == 0) = false := by simp; omega
        clear hR2 g2
        go_enter Tryz.func55, Tryz.ntmps55
        go_wp2
        go_ret
        exact ⟨rfl, (Below.refl _ _).alloc (Nat.le_refl _) _⟩
    · obtain rfl : false = R := by simpa [g1] using hR2
      have hb : (slide == 0) = false := by simpa using g1
      clear hR2 g1
      go_enter Tryz.func55, Tryz.ntmps55
      go_wp2
      go_ret
      exact ⟨rfl, (Below.refl _ _).alloc (Nat.le_refl _) _⟩
  · rw [if_pos hz] at hR2
    have hb : (size != 0) = true := by simpa using hz
    by_cases h1 : NC = 0
    · subst h1
      by_cases h2 : NN = 0
      · subst h2
        obtain rfl : true = R := by simpa using hR2
        clear hz hR2
        go_enter Tryz.func55, Tryz.ntmps55
        go_wp2
        go_ret
        exact ⟨rfl, (Below.refl _ _).alloc (Nat.le_refl _) _⟩
      · obtain rfl : false = R := by simpa [h2] using hR2
        have hb2 : ((NN : Int) == 0) = false := by simp; omega
        clear hz hR2 h2
        go_enter Tryz.func55, Tryz.ntmps55
        go_wp2
        go_ret
        exact ⟨rfl, (Below.refl _ _).alloc (Nat.le_refl _) _⟩
    · obtain rfl : false = R := by simpa [h1] using hR2
      have hb2 : ((NC : Int) == 0) = false := by simp; omega
      clear hz hR2 h1
      go_enter Tryz.func55, Tryz.ntmps55
      go_wp2
      go_ret
      exact ⟨rfl, (Below.refl _ _).alloc (Nat.le_refl _) _⟩
set_option maxHeartbeats 4000000 in
set_option maxRecDepth 20000 in
theorem checkForm_q (QC : Array Value) (q : Qy) (cp : Option Addr) (cc : Nat) (np : Option Addr) (nc : Nat) (gp : Option Addr) (gc : Nat) (ap : Option Addr) (ac : Nat) (w : World) (h : QV QC q cp cc np nc gp gc ap ac) (m1 : inM q.size) (m2 : inM q.slide) (l1 : q.cols.length ≤ 1048576) (l2 : q.group.length ≤ 1048576) (l3 : q.aggs.length ≤ 1048576) (E : Int) (hE : formQ q = E) :
    Calls Tryz.prog 23 #[.agg QC] w fun e w' => e = .returned (errV E) ∧ Below w.heap.size w w' := by
  have b1 := (Below.refl w.heap.size w).alloc (Nat.le_refl _) (.cells QC 30)
  have cG := goTogether_q QC q cp cc np nc gp gc ap ac (w.alloc (.cells QC 30)) h
  have cW := fun W => chkX q.size q.slide W m1 m2
  have hblk := box_blk w QC 30
  have hs14 : (Tryz.prog.info? 30).map (·.size) = some QC.size := by rw [h.size]; exact size_qyU
  obtain ⟨hs, h8, h9, h10, h11, h12, h13⟩ := h
  clear hs
  rw [formQ] at hE
  obtain ⟨frm, whr, cols, names, group, size, slide, aggs⟩ := q
  simp only at h8 h9 h10 h11 h12 h13 hE cW l1 l2 l3
  generalize togQ ⟨frm, whr, cols, names, group, size, slide, aggs⟩ = TG at cG hE
  generalize cols.length = NC at h8 hE l1
  generalize group.length = NG at h10 hE l2
  generalize aggs.length = NA at h13 hE l3
  generalize names.length = NN at h9
  clear m1 m2
  obtain ⟨CC, hCC⟩ : ∃ CC, CC = QC := ⟨_, rfl⟩
  have hld : ∀ {ops : Array Oper} {rest : List Oper} {op : Oper} {a : Act} {Q : Exit → Act → World → Prop} (hgd : op.guard = none) (x : Operand) (ho : op.op = .load 30 x) (hx : a.eval x = .pointer (some ⟨w.heap.size, 0, none⟩)), wpList Tryz.prog ops Q rest (a.put op.dst (.agg QC)) (w.alloc (.cells QC 30)) → wpList Tryz.prog ops Q (op :: rest) a (w.alloc (.cells QC 30)) := fun hgd x ho hx => wpList_load_row hgd 30 x ho w.heap.size hx _ QC _ _ hblk Tryz.underlying30 rfl hs14
  clear hblk hs14 hCC
  cases TG
  · rw [if_pos rfl] at hE
    subst hE
    rw [errV, if_neg (by decide)]
    go_enter Tryz.func23, Tryz.ntmps23
    go_wp2_with (refine hld rfl _ rfl rfl ?_)
    go_wp2_with fail
    refine cG.mono ?_
    rintro e w1 ⟨rfl, b2⟩
    clear hld cG cW
    go_wp2
    go_ret
    exact ⟨rfl, b1.trans (b2.mono (by simp))⟩
  · rw [if_neg (by decide)] at hE
    have KK : ∀ W, Below (w.alloc (.cells QC 30)).heap.size (w.alloc (.cells QC 30)) W → W.cell? ⟨w.heap.size, 8, none⟩ = some (.slice cp NC cc) ∧ W.cell? ⟨w.heap.size, 10, none⟩ = some (.slice gp NG gc) ∧ W.cell? ⟨w.heap.size, 11, none⟩ = some (.int .i64 size) ∧ W.cell? ⟨w.heap.size, 12, none⟩ = some (.int .i64 slide) ∧ W.cell? ⟨w.heap.size, 13, none⟩ = some (.slice ap NA ac) := fun W hb => by
      have kk := fun i => hb.cell (p := ⟨w.heap.size, i, none⟩) (by simp)
      refine ⟨?_, ?_, ?_, ?_, ?_⟩
      all_goals (rw [kk, World.cell?_alloc_at _ _ _ _ rfl]; assumption)
    by_cases hz : size = 0
    · subst hz
      rw [if_neg (by simp)] at hE
      by_cases h0 : NC + NG + NA = 0
      · rw [if_pos h0] at hE
        subst hE
        rw [errV, if_neg (by decide)]
        obtain ⟨rfl, rfl, rfl⟩ : NC = 0 ∧ NG = 0 ∧ NA = 0 := by omega
        go_enter Tryz.func23, Tryz.ntmps23
        go_wp2_with (refine hld rfl _ rfl rfl ?_)
        go_wp2_with fail
        refine cG.mono ?_
        rintro e w1 ⟨rfl, b2⟩
        have B1 : Below w.heap.size w w1 := b1.trans (b2.mono (by simp))
        have hl1 : w.heap.size < w1.heap.size := by have := b2.size; simp at this; omega
        obtain ⟨k8, k10, k11, k12, k13⟩ := KK _ b2
        clear hld cG
        clear cW
        go_wp2
        go_ret
        exact ⟨rfl, B1⟩
      · rw [if_neg h0] at hE
        by_cases h6 : 6 < NC + NG + NA
        · rw [if_pos h6] at hE
          subst hE
          rw [errV, if_neg (by decide)]
          have hn0 : ((NC : Int) + (NG : Int) + (NA : Int) == 0) = false := by simp; omega
          have hn6 : (6 : Int) < (NC : Int) + (NG : Int) + (NA : Int) := by omega
          go_enter Tryz.func23, Tryz.ntmps23
          go_wp2_with (refine hld rfl _ rfl rfl ?_)
          go_wp2_with fail
          refine cG.mono ?_
          rintro e w1 ⟨rfl, b2⟩
          have B1 : Below w.heap.size w w1 := b1.trans (b2.mono (by simp))
          have hl1 : w.heap.size < w1.heap.size := by have := b2.size; simp at this; omega
          obtain ⟨k8, k10, k11, k12, k13⟩ := KK _ b2
          clear hld cG
          clear cW
          go_wp2
          go_ret
          exact ⟨rfl, B1⟩
        · rw [if_neg h6] at hE
          subst hE
          rw [errV, if_pos rfl]
          have hn0 : ((NC : Int) + (NG : Int) + (NA : Int) == 0) = false := by simp; omega
          have hn6 : ¬ (6 : Int) < (NC : Int) + (NG : Int) + (NA : Int) := by omega
          go_enter Tryz.func23, Tryz.ntmps23
          go_wp2_with (refine hld rfl _ rfl rfl ?_)
          go_wp2_with fail
          refine cG.mono ?_
          rintro e w1 ⟨rfl, b2⟩
          have B1 : Below w.heap.size w w1 := b1.trans (b2.mono (by simp))
          have hl1 : w.heap.size < w1.heap.size := by have := b2.size; simp at this; omega
          obtain ⟨k8, k10, k11, k12, k13⟩ := KK _ b2
          clear hld cG
          clear cW
          go_wp2
          go_ret
          exact ⟨rfl, B1⟩
    · have hb : (size != 0) = true := by simpa using hz
      by_cases hw : wdB size slide
      · rw [if_neg (fun h => h.2 hw)] at hE
        rw [wd_zero hw, errV, if_pos rfl] at cW
        by_cases h0 : NC + NG + NA = 0
        · rw [if_pos h0] at hE
          subst hE
          rw [errV, if_neg (by decide)]
          obtain ⟨rfl, rfl, rfl⟩ : NC = 0 ∧ NG = 0 ∧ NA = 0 := by omega
          go_enter Tryz.func23, Tryz.ntmps23
          go_wp2_with (refine hld rfl _ rfl rfl ?_)
          go_wp2_with fail
          refine cG.mono ?_
          rintro e w1 ⟨rfl, b2⟩
          have B1 : Below w.heap.size w w1 := b1.trans (b2.mono (by simp))
          have hl1 : w.heap.size < w1.heap.size := by have := b2.size; simp at this; omega
          obtain ⟨k8, k10, k11, k12, k13⟩ := KK _ b2
          clear hld cG
          go_wp2_with fail
          refine (cW w1).mono ?_
          rintro e w2 ⟨rfl, b3⟩
          clear cW
          have B2 : Below w.heap.size w w2 := B1.trans (b3.mono (by omega))
          have hl2 : w.heap.size < w2.heap.size := by have := b3.size; omega
          rw [← b3.cell (p := ⟨w.heap.size, 8, none⟩) hl1] at k8
          rw [← b3.cell (p := ⟨w.heap.size, 10, none⟩) hl1] at k10
          rw [← b3.cell (p := ⟨w.heap.size, 13, none⟩) hl1] at k13
          go_wp2
          go_ret
          exact ⟨rfl, B2⟩
        · rw [if_neg h0] at hE
          by_cases h6 : 6 < NC + NG + NA
          · rw [if_pos h6] at hE
            subst hE
            rw [errV, if_neg (by decide)]
            have hn0 : ((NC : Int) + (NG : Int) + (NA : Int) == 0) = false := by simp; omega
            have hn6 : (6 : Int) < (NC : Int) + (NG : Int) + (NA : Int) := by omega
            go_enter Tryz.func23, Tryz.ntmps23
            go_wp2_with (refine hld rfl _ rfl rfl ?_)
            go_wp2_with fail
            refine cG.mono ?_
            rintro e w1 ⟨rfl, b2⟩
            have B1 : Below w.heap.size w w1 := b1.trans (b2.mono (by simp))
            have hl1 : w.heap.size < w1.heap.size := by have := b2.size; simp at this; omega
            obtain ⟨k8, k10, k11, k12, k13⟩ := KK _ b2
            clear hld cG
            go_wp2_with fail
            refine (cW w1).mono ?_
            rintro e w2 ⟨rfl, b3⟩
            clear cW
            have B2 : Below w.heap.size w w2 := B1.trans (b3.mono (by omega))
            have hl2 : w.heap.size < w2.heap.size := by have := b3.size; omega
            rw [← b3.cell (p := ⟨w.heap.size, 8, none⟩) hl1] at k8
            rw [← b3.cell (p := ⟨w.heap.size, 10, none⟩) hl1] at k10
            rw [← b3.cell (p := ⟨w.heap.size, 13, none⟩) hl1] at k13
            go_wp2
            go_ret
            exact ⟨rfl, B2⟩
          · rw [if_neg h6] at hE
            subst hE
            rw [errV, if_pos rfl]
            have hn0 : ((NC : Int) + (NG : Int) + (NA : Int) == 0) = false := by simp; omega
            have hn6 : ¬ (6 : Int) < (NC : Int) + (NG : Int) + (NA : Int) := by omega
            go_enter Tryz.func23, Tryz.ntmps23
            go_wp2_with (refine hld rfl _ rfl rfl ?_)
            go_wp2_with fail
            refine cG.mono ?_
            rintro e w1 ⟨rfl, b2⟩
            have B1 : Below w.heap.size w w1 := b1.trans (b2.mono (by simp))
            have hl1 : w.heap.size < w1.heap.size := by have := b2.size; simp at this; omega
            obtain ⟨k8, k10, k11, k12, k13⟩ := KK _ b2
            clear hld cG
            go_wp2_with fail
            refine (cW w1).mono ?_
            rintro e w2 ⟨rfl, b3⟩
            clear cW
            have B2 : Below w.heap.size w w2 := B1.trans (b3.mono (by omega))
            have hl2 : w.heap.size < w2.heap.size := by have := b3.size; omega
            rw [← b3.cell (p := ⟨w.heap.size, 8, none⟩) hl1] at k8
            rw [← b3.cell (p := ⟨w.heap.size, 10, none⟩) hl1] at k10
            rw [← b3.cell (p := ⟨w.heap.size, 13, none⟩) hl1] at k13
            go_wp2
            go_ret
            exact ⟨rfl, B2⟩
      · rw [if_pos ⟨hz, hw⟩] at hE
        subst hE
        rw [wd_one hw] at cW
        rw [errV, if_neg (by decide)] at cW ⊢
        go_enter Tryz.func23, Tryz.ntmps23
        go_wp2_with (refine hld rfl _ rfl rfl ?_)
        go_wp2_with fail
        refine cG.mono ?_
        rintro e w1 ⟨rfl, b2⟩
        have B1 : Below w.heap.size w w1 := b1.trans (b2.mono (by simp))
        have hl1 : w.heap.size < w1.heap.size := by have := b2.size; simp at this; omega
        obtain ⟨k8, k10, k11, k12, k13⟩ := KK _ b2
        clear hld cG
        go_wp2_with fail
        refine (cW w1).mono ?_
        rintro e w2 ⟨rfl, b3⟩
        clear cW
        go_wp2
        go_ret
        exact ⟨rfl, B1.trans (b3.mono (by omega))⟩
end Go.Proofs.YtkbhmghdonomnaaGreatDoor
namespace Go.Proofs.YtkbhmghdonomnaaGreatDoor
open Go.RowKit Go.BigFrame
set_option linter.unusedVariables false
set_option linter.unusedSimpArgs false
variable {en : Nat} {WZ : World}

theorem name1_q (t : Tok) (w : World) (henv : TEnv w) (hs : t.2.1.size ≤ maxLen) :
    Calls Tryz.prog 74 #[tokV t] w fun e w' => e = .returned (.bool (nmT t)) ∧ Below w.heap.size w w' := by
  obtain ⟨tk, tx, ta⟩ := t
  rw [tokV, nmT]
  simp only at hs ⊢
  have cC := fun W (hb : Below w.heap.size w W) => isColumn_any tx W (henv.on hb) hs
  generalize nameT tx.data.toList = R at cC
  go_enter Tryz.func74, Tryz.ntmps74
  go_wp2_with fail
  refine (cC _ (al _ _)).mono ?_
  rintro e w1 ⟨rfl, b1⟩
  go_wp2
  go_ret
  exact ⟨rfl, (al _ _).trans (b1.mono (by simp))⟩
theorem begins_q (t : Tok) (w : World) (henv : AEnv w) :
    Calls Tryz.prog 70 #[tokV t] w fun e w' => e = .returned (.bool (agB t)) ∧ Below w.heap.size w w' := by
  obtain ⟨tk, tx, ta⟩ := t
  rw [tokV, agB]
  simp only
  have cC := fun W (hb : Below w.heap.size w W) => isAgg_any tx W (henv.on hb)
  generalize isAg tx.data.toList = R at cC
  go_enter Tryz.func70, Tryz.ntmps70
  go_wp2_with fail
  refine (cC _ (al _ _)).mono ?_
  rintro e w1 ⟨rfl, rfl⟩
  go_wp2
  go_ret
  exact ⟨rfl, al _ _⟩
theorem number1_q (t : Tok) (w : World) :
    Calls Tryz.prog 113 #[tokV t] w fun e w' => e = .returned (.bool (isNum t)) ∧ Below w.heap.size w w' := by
  obtain ⟨tk, tx, ta⟩ := t
  rw [tokV]
  have hd : isNum (tk, tx, ta) = (tk == 2) := by rw [isNum]; by_cases h : tk = 2 <;> simp [h]
  obtain ⟨R, hR⟩ : ∃ R, isNum (tk, tx, ta) = R := ⟨_, rfl⟩
  rw [hR]
  rw [hR] at hd
  have hd2 := hd.symm
  clear hR hd
  go_enter Tryz.func113, Tryz.ntmps113
  go_wp2
  go_ret
  exact ⟨rfl, al _ _⟩
theorem atoi_none (n : Int) : Lib.atoiAll (⟨#[]⟩ : ByteArray).data.toList ≠ .ok n := by
  intro h
  simp [Lib.atoiAll] at h
theorem ent_name (args : Array Value) (W : World) : Sem.run Tryz.prog (callFunc 74 args) W = .ok (.enter 74 args) W := by kernel_rfl
theorem ent_numb (args : Array Value) (W : World) : Sem.run Tryz.prog (callFunc 113 args) W = .ok (.enter 113 args) W := by kernel_rfl
theorem ent_begs (args : Array Value) (W : World) : Sem.run Tryz.prog (callFunc 70 args) W = .ok (.enter 70 args) W := by kernel_rfl
/-- The next word, if it is so: as three values. -/
theorem take_q (P : Tok → Bool) (f : FuncId) (hent : ∀ (args : Array Value) (W : World), Sem.run Tryz.prog (callFunc f args) W = .ok (.enter f args) W) (V : World) (tr : Nat) (ts : List Tok) (h : RdAt en V tr ts)
    (hf : ∀ t ∈ ts, ∀ W, Below V.heap.size V W → Calls Tryz.prog f #[tokV t] W fun e w' => e = .returned (.bool (P t)) ∧ Below W.heap.size W w') :
    Calls Tryz.prog 67 #[.pointer (some ⟨tr, 0, none⟩), .func (.func f) #[] #[]] V fun e w' => ∃ (R : Bool) (k : Int) (x : ByteArray) (a : Int) (rs : List Tok), e = .returned (.tuple #[.agg #[.int .i64 k, .string x, .int .i64 a], .bool R]) ∧ Aside (RdAt en w' tr rs) ∧ Aside (But tr V w') ∧ Hid ((R = false ∧ nxT P ts = none ∧ rs = ts ∧ x = ⟨#[]⟩) ∨ (R = true ∧ ∃ a', nxT P ts = some ((k, x, a'), rs))) := by
  cases hn : nxT P ts with
  | none =>
    exact (take_none' P f #[] hent V tr ts h (fun t ht W hb => hf t ht W hb) hn).mono fun e w' hh => ⟨false, 0, ⟨#[]⟩, 0, ts, hh.1, hh.2.1, hh.2.2, .inl ⟨rfl, rfl, rfl, rfl⟩⟩
  | some q =>
    obtain ⟨⟨k, x, a⟩, rs⟩ := q
    exact (take_some P f #[] hent V tr (k, x, a) ts rs h (fun t ht W hb => hf t ht W hb) hn).mono fun e w' hh => ⟨true, k, x, a, rs, hh.1, hh.2.1, hh.2.2, .inr ⟨rfl, a, rfl⟩⟩
set_option maxHeartbeats 4000000 in
set_option maxRecDepth 20000 in
theorem name_q (W : World) (tr rb : Nat) (ts : List Tok) (h : QH WZ en W tr rb ts) (b o : Nat) (cs : Array Value) (tt : TypeId) (hB : Blk W b cs tt) (hbr : tr < b) (ho : o < cs.size) (hro : b = rb → 1 ≤ o) :
    Calls Tryz.prog 30 #[.pointer (some ⟨rb, 0, none⟩), .pointer (some ⟨b, o, none⟩)] W fun e w' => ∃ (R : Bool) (x : ByteArray), e = .returned (.bool R) ∧ Aside (QH WZ en w' tr rb (nU ts).2) ∧ Aside (Fr tr (· = b) W w') ∧ Aside (Blk w' b (cs.setIfInBounds o (.string x)) tt) ∧ Hid ((nU ts).1 = if R = true then some x else none) := by
  have HH : Aside (QH WZ en W tr rb ts) := h
  have HB : Aside (Blk W b cs tt) := hB
  have hp0 := h.p0
  have hlt := h.lt
  have hne := h.ne
  have hrl := h.rd.lt
  have hbl := hB.lt
  have cT := take_q nmT _ ent_name W tr ts h.rd (fun t ht V hb => name1_q t V (h.env.on hb) (by have := h.fit t ht; unfold maxLen; omega))
  clear h hB
  go_enter Tryz.func30, Tryz.ntmps30
  go_wp2_with fail
  refine cT.mono ?_
  rintro e w1 ⟨R, k, x, a, rs, rfl, hr1, bt1, HR⟩
  have B1 : Blk w1 b cs tt := HB.out.but bt1.out (by omega)
  obtain ⟨v0, hv0⟩ : ∃ v0, cs[o]? = some v0 := ⟨_, Array.getElem?_eq_getElem ho⟩
  have hcell : w1.cell? ⟨b, o, none⟩ = some v0 := by rw [B1.cell]; exact hv0
  have hfz : w1.frozen? ⟨b, o, none⟩ = false := B1.frozen o
  have hbl1 : b < w1.heap.size := B1.lt
  have hne1 : b ≠ w1.heap.size := by omega
  have F1 : Fr tr (· = b) W (w1.setCell ⟨b, o, none⟩ (.string x)) := (Fr.of_but bt1.out).set o _ (by omega) (fun _ => rfl)
  have X1 := B1.set o (.string x)
  have R1 : RdAt en (w1.setCell ⟨b, o, none⟩ (.string x)) tr rs := hr1.out.onB ((Below.refl (tr + 1) w1).setCell (p := ⟨b, o, none⟩) hbr _) (by simp [World.setCell])
  have hnU : nU ts = (if R = true then some x else none, rs) := by
    rw [nU]
    rcases HR.out with ⟨rfl, h1, rfl, rfl⟩ | ⟨rfl, a', h1⟩
    · rw [h1]; rfl
    · rw [h1]; rfl
  have hsuf : rs <:+ ts := by have := nU_suf ts; rw [hnU] at this; exact this
  have Q1 : QH WZ en (w1.setCell ⟨b, o, none⟩ (.string x)) tr rb rs := HH.out.go F1 R1 hsuf (by
    by_cases e : b = rb
    · subst e
      have h1 := hro rfl
      rw [World.cell?_setCell_other _ _ _ _ (by first | (simp; done) | (simp; omega)), bt1.out.cell 0 hlt (by omega)]
      exact hp0
    · rw [F1.cell 0 hlt (by omega) (fun h => e h.symm)]; exact hp0)
  have HF : Hid ((nU ts).1 = if R = true then some x else none) := by show _ = _; rw [hnU]
  have hz : tr ≤ (w1.setCell ⟨b, o, none⟩ (.string x)).heap.size := by have := F1.size; omega
  have AQ : ∀ o', Aside (QH WZ en ((w1.setCell ⟨b, o, none⟩ (.string x)).alloc o') tr rb (nU ts).2) ∧ Aside (Fr tr (· = b) W ((w1.setCell ⟨b, o, none⟩ (.string x)).alloc o')) ∧ Aside (Blk ((w1.setCell ⟨b, o, none⟩ (.string x)).alloc o') b (cs.setIfInBounds o (.string x)) tt) := fun o' => by
    have F2 := F1.on (al _ o') hz
    refine ⟨?_, F2, X1.on (al _ _)⟩
    rw [hnU]
    exact Q1.fr (S := fun _ => False) (Fr.of_below (al _ _) hz) (R1.on (al _ _)) List.suffix_rfl (fun h => h)
  clear HH HB hr1 bt1 B1 F1 X1 R1 Q1 hnU hsuf cT hv0 HR
  go_wp2
  go_ret
  exact ⟨R, x, rfl, (AQ _).1, (AQ _).2.1, (AQ _).2.2, HF⟩
set_option maxHeartbeats 4000000 in
set_option maxRecDepth 20000 in
theorem number_q (W : World) (tr rb : Nat) (ts : List Tok) (h : QH WZ en W tr rb ts) (b o : Nat) (cs : Array Value) (tt : TypeId) (hB : Blk W b cs tt) (hbr : tr < b) (ho : o < cs.size) (hro : b = rb → 1 ≤ o) :
    Calls Tryz.prog 78 #[.pointer (some ⟨rb, 0, none⟩), .pointer (some ⟨b, o, none⟩)] W fun e w' => ∃ (R : Bool) (x : Int), e = .returned (.bool R) ∧ Aside (QH WZ en w' tr rb (iU ts).2) ∧ Aside (Fr tr (· = b) W w') ∧ Aside (Blk w' b (cs.setIfInBounds o (.int .i64 x)) tt) ∧ Hid ((iU ts).1 = if R = true then some x else none) := by
  have HH : Aside (QH WZ en W tr rb ts) := h
  have HB : Aside (Blk W b cs tt) := hB
  have hp0 := h.p0
  have hlt := h.lt
  have hne := h.ne
  have hrl := h.rd.lt
  have hbl := hB.lt
  have cT := take_q isNum _ ent_numb W tr ts h.rd (fun t ht V hb => number1_q t V)
  clear h hB
  go_enter Tryz.func78, Tryz.ntmps78
  go_wp2_with fail
  refine cT.mono ?_
  rintro e w1 ⟨R, k, tx, a, rs, rfl, hr1, bt1, HR⟩
  have hsz : tx.size ≤ 140737488355328 := by
    rcases HR.out with ⟨rfl, h1, rfl, rfl⟩ | ⟨rfl, a', h1⟩
    · decide
    · have := HH.out.fit _ (by rw [(nxT_len h1).1]; exact List.mem_cons_self ..)
      simp only at this
      omega
  have bA := al w1 (.cells #[.int .i64 k, .string tx, .int .i64 a] 80)
  have E1 : TEnv (w1.alloc (.cells #[.int .i64 k, .string tx, .int .i64 a] 80)) := (HH.out.env.but bt1.out HH.out.gt).on bA
  have cA : Calls Tryz.prog 114 #[.string tx] (w1.alloc (.cells #[.int .i64 k, .string tx, .int .i64 a] 80)) fun e w' => (∃ x v, e = .returned (.tuple #[.int .i64 x, v]) ∧ Hid (R = true → x = nuI tx.data.toList)) ∧ Below (w1.alloc (.cells #[.int .i64 k, .string tx, .int .i64 a] 80)).heap.size (w1.alloc (.cells #[.int .i64 k, .string tx, .int .i64 a] 80)) w' := by
    rcases HR.out with ⟨rfl, h1, rfl, rfl⟩ | ⟨rfl, a', h1⟩
    · refine (atoi_bad ⟨#[]⟩ _ (by decide) atoi_none E1.env).mono fun e w' hh => ?_
      obtain ⟨n, t, v, he, hb⟩ := hh
      exact ⟨⟨n, _, he, (show Hid _ from fun h => absurd h (by decide))⟩, hb⟩
    · have hn := HH.out.num _ (by rw [(nxT_len h1).1]; exact List.mem_cons_self ..) (nxT_len h1).2
      refine (atoi_ok tx _ _ hsz hn).mono fun e w' hh => ?_
      exact ⟨⟨_, _, hh.1, (show Hid _ from fun _ => rfl)⟩, hh.2⟩
  go_wp2_with fail
  refine cA.mono ?_
  rintro e w2 ⟨⟨x, v, rfl, HX⟩, b2⟩
  have bt2 : But tr W w2 := (bt1.out.on bA (by omega)).on b2 (by omega)
  have hr2 : RdAt en w2 tr rs := (hr1.out.on bA).on b2
  have B1 : Blk w2 b cs tt := HB.out.but bt2 (by omega)
  obtain ⟨v0, hv0⟩ : ∃ v0, cs[o]? = some v0 := ⟨_, Array.getElem?_eq_getElem ho⟩
  have hcell : w2.cell? ⟨b, o, none⟩ = some v0 := by rw [B1.cell]; exact hv0
  have hfz : w2.frozen? ⟨b, o, none⟩ = false := B1.frozen o
  have hbl1 : b < w2.heap.size := B1.lt
  have F1 : Fr tr (· = b) W (w2.setCell ⟨b, o, none⟩ (.int .i64 x)) := (Fr.of_but bt2).set o _ (by omega) (fun _ => rfl)
  have X1 := B1.set o (.int .i64 x)
  have R1 : RdAt en (w2.setCell ⟨b, o, none⟩ (.int .i64 x)) tr rs := hr2.onB ((Below.refl (tr + 1) w2).setCell (p := ⟨b, o, none⟩) hbr _) (by simp [World.setCell])
  have hiU : iU ts = (if R = true then some x else none, rs) := by
    rw [iU]
    rcases HR.out with ⟨rfl, h1, rfl, rfl⟩ | ⟨rfl, a', h1⟩
    · rw [h1]; rfl
    · rw [h1, HX.out rfl]; rfl
  have hsuf : rs <:+ ts := by have := iU_suf ts; rw [hiU] at this; exact this
  have Q1 : Aside (QH WZ en (w2.setCell ⟨b, o, none⟩ (.int .i64 x)) tr rb (iU ts).2) := by
    show QH _ _ _ _ _ _
    rw [hiU]
    exact HH.out.go F1 R1 hsuf (by
      by_cases e : b = rb
      · subst e
        have h1 := hro rfl
        rw [World.cell?_setCell_other _ _ _ _ (by first | (simp; done) | (simp; omega)), bt2.cell 0 hlt (by omega)]
        exact hp0
      · rw [F1.cell 0 hlt (by omega) (fun h => e h.symm)]; exact hp0)
  have HF : Hid ((iU ts).1 = if R = true then some x else none) := by show _ = _; rw [hiU]
  have F2 : Aside (Fr tr (· = b) W (w2.setCell ⟨b, o, none⟩ (.int .i64 x))) := F1
  have X2 : Aside (Blk (w2.setCell ⟨b, o, none⟩ (.int .i64 x)) b (cs.setIfInBounds o (.int .i64 x)) tt) := X1
  clear HH HB hr1 bt1 bt2 hr2 B1 F1 X1 R1 hiU hsuf cT hv0 HR HX E1 bA b2 cA
  go_wp2
  go_ret
  exact ⟨R, x, rfl, Q1, F2, X2, HF⟩
/-- An expression's seven cells, as a list. -/
abbrev exL (x : Ex) (xp : Option Addr) (xc : Nat) : List Value := [.string x.op, .string x.nm, .int .i64 x.vt, .int .i64 x.vn, .string x.vs, .slice xp x.args.length xc, .int .i64 x.pos]
theorem ex_one' (x : Ex) (xp : Option Addr) (xc : Nat) : (exL x xp xc).toArray.all (·.oneCell') = true := all_oneCell_toArray (fun v hv => by
  simp at hv
  rcases hv with rfl | rfl | rfl | rfl | rfl | rfl | rfl <;> rfl)
theorem there_blk {w : World} {b : Nat} {cs : Array Value} {t : TypeId} (h : Blk w b cs t) (o n : Nat) (hn : o + n ≤ cs.size) : w.there b o n := fun j hj => by
  refine ⟨?_, h.frozen _⟩
  rw [h.cell, Array.getElem?_eq_getElem (by omega)]
  rfl
def putB : Array Value → Nat → List Value → Array Value
  | cs, _, [] => cs
  | cs, o, v :: r => putB (cs.setIfInBounds o v) (o + 1) r
theorem Blk.cellsB {b : Nat} {t : TypeId} : ∀ (vs : List Value) (o : Nat) (w : World) (cs : Array Value), Blk w b cs t → Blk (w.setCells b o vs) b (putB cs o vs) t
  | [], _, _, _, h => h
  | v :: r, o, _, _, h => Blk.cellsB r (o + 1) _ _ (h.set o v)
theorem below_cellsB {B b : Nat} {a : World} (hb : B ≤ b) : ∀ (vs : List Value) (o : Nat) (w : World), Below B a w → Below B a (w.setCells b o vs)
  | [], _, _, h => h
  | v :: r, o, w, h => below_cellsB hb r (o + 1) _ (h.setCell (p := ⟨b, o, none⟩) hb v)
theorem putB_head : ∀ (vs : List Value) (o : Nat) (cs : Array Value), 1 ≤ o → (putB cs o vs)[0]? = cs[0]?
  | [], _, _, _ => rfl
  | v :: r, o, cs, h => by
    rw [putB, putB_head r (o + 1) _ (by omega), Array.getElem?_setIfInBounds, if_neg (by omega)]
theorem setCells_size {b : Nat} : ∀ (vs : List Value) (o : Nat) (w : World), (w.setCells b o vs).heap.size = w.heap.size
  | [], _, _ => rfl
  | v :: r, o, w => by
    show ((w.setCell ⟨b, o, none⟩ v).setCells b (o + 1) r).heap.size = _
    rw [setCells_size r (o + 1) _]; simp [World.setCell]
theorem exin_cells {lo : Nat → Prop} {b : Nat} (hb : ∀ k, lo k → k ≠ b) {x : Ex} {v : Value} : ∀ (vs : List Value) (o : Nat) (w : World), ExIn w lo v x → ExIn (w.setCells b o vs) lo v x
  | [], _, _, h => h
  | u :: r, o, w, h => exin_cells hb r (o + 1) _ (ExIn.keep (by simp [World.setCell]) (fun k p h1 h2 => by have := hb k h1; simp [World.cell?_setCell_other]) x v h)
set_option maxHeartbeats 4000000 in
set_option maxRecDepth 20000 in
theorem expression_q (W : World) (tr rb : Nat) (ts : List Tok) (h : QH WZ en W tr rb ts) (b o : Nat) (cs : Array Value) (tt : TypeId) (hB : Blk W b cs tt) (hbr : tr < b) (ho : o + 7 ≤ cs.size) (hro : b = rb → 1 ≤ o) :
    Calls Tryz.prog 76 #[.pointer (some ⟨rb, 0, none⟩), .pointer (some ⟨b, o, none⟩)] W fun e w' => ∃ (R : Bool) (x : Ex) (xp : Option Addr) (xc : Nat), e = .returned (.bool R) ∧ Aside (QH WZ en w' tr rb (readE ts).2) ∧ Aside (Fr tr (· = b) W w') ∧ Aside (Blk w' b (putB cs o (exL x xp xc)) tt) ∧ Aside (ExIn w' (W.heap.size ≤ ·) (exV x xp xc) x) ∧ Hid ((readE ts).1 = if R = true then some x else none) := by
  have HH : Aside (QH WZ en W tr rb ts) := h
  have HB : Aside (Blk W b cs tt) := hB
  have hp0 := h.p0
  have hlt := h.lt
  have hne := h.ne
  have hbl := hB.lt
  have cE := expression_reads ts h.fit W tr h.rd h.env h.gt
  clear h hB
  go_enter Tryz.func76, Tryz.ntmps76
  go_wp2_with fail
  refine cE.mono ?_
  rintro e w1 ⟨v, R, x, rfl, hx, hr1, bt1, HR⟩
  obtain ⟨xp, xc, rfl, -⟩ := hx.out.whole
  have B1 : Blk w1 b cs tt := HB.out.but bt1.out (by omega)
  have hst : ∀ {ops : Array Oper} {rest : List Oper} {op : Oper} {a : Act} {Q : Exit → Act → World → Prop} (hgd : op.guard = none) (p y : Operand) (ho : op.op = .store 26 p y) (hx : a.eval p = .pointer (some ⟨b, o, none⟩)) (hy : a.eval y = .agg (exL x xp xc).toArray), wpList Tryz.prog ops Q rest (a.put op.dst undef) (w1.setCells b o (exL x xp xc)) → wpList Tryz.prog ops Q (op :: rest) a w1 := fun hgd p y hop hx hy hh => wpList_store_mid hgd 26 p y hop b o (exL x xp xc).toArray hx hy (there_blk B1 o 7 ho) size_exU (ex_one' x xp xc) hh
  have hsz := setCells_size (b := b) (exL x xp xc) o w1
  have F1 : Aside (Fr tr (· = b) W (w1.setCells b o (exL x xp xc))) := Fr.cells (tr := tr) (S := (· = b)) (b := b) (Nat.le_of_lt hbr) (fun _ => rfl) (exL x xp xc) o w1 (Fr.of_but bt1.out)
  have X1 : Aside (Blk (w1.setCells b o (exL x xp xc)) b (putB cs o (exL x xp xc)) tt) := Blk.cellsB _ o w1 cs B1
  have R1 : RdAt en (w1.setCells b o (exL x xp xc)) tr (readE ts).2 := hr1.out.onB (below_cellsB hbr _ o w1 (Below.refl _ _)) (by omega)
  have E1 : Aside (ExIn (w1.setCells b o (exL x xp xc)) (W.heap.size ≤ ·) (exV x xp xc) x) := exin_cells (fun k hk => by omega) _ o w1 hx.out
  have Q1 : Aside (QH WZ en (w1.setCells b o (exL x xp xc)) tr rb (readE ts).2) := by
    refine HH.out.go F1.out R1 (readE_suf ts) ?_
    by_cases e : b = rb
    · subst e
      have h1 := hro rfl
      rw [X1.out.cell, putB_head _ _ _ h1, ← HB.out.cell 0]; exact hp0
    · rw [F1.out.cell 0 hlt (by omega) (fun h => e h.symm)]; exact hp0
  have HF : Hid ((readE ts).1 = if R = true then some x else none) := HR
  have hbl1 : b < w1.heap.size := B1.lt
  clear HH HB hr1 bt1 B1 R1 cE hsz HR hx
  generalize w1.setCells b o (exL x xp xc) = w2 at *
  go_wp2_with (refine hst rfl _ _ rfl rfl rfl ?_)
  go_ret
  exact ⟨R, x, xp, xc, rfl, Q1, F1, X1, E1, HF⟩
end Go.Proofs.YtkbhmghdonomnaaGreatDoor
namespace Go.Proofs.YtkbhmghdonomnaaGreatDoor
open Go.RowKit Go.BigFrame
set_option linter.unusedVariables false
set_option linter.unusedSimpArgs false
variable {en : Nat} {WZ : World}

theorem exin_fr {tr : Nat} {S lo : Nat → Prop} {w w' : World} {v : Value} {x : Ex} (h : ExIn w lo v x) (hf : Fr tr S w w') (hs : ∀ b, lo b → b < w.heap.size → b ≠ tr ∧ ¬ S b) : ExIn w' lo v x := by
  have h3 := ExIn.low (lo' := fun b => lo b ∧ b < w.heap.size) (fun b hb hb2 => ⟨hb2, hb⟩) _ _ h
  have h4 := ExIn.keep (w' := w') hf.size (fun b o hb _ => by
    obtain ⟨h1, h2⟩ := hs b hb.1 hb.2
    simp only [World.cell?, hf.kept b hb.2 h1 h2]) _ _ h3
  exact ExIn.low (fun b _ hb => hb.1) _ _ h4
theorem set_same {cs : Array Value} {o : Nat} {v : Value} (h : cs[o]? = some v) : cs.setIfInBounds o v = cs := by
  obtain ⟨ho, hv⟩ := Array.getElem?_eq_some_iff.1 h
  apply Array.ext
  · simp
  · intro i h1 h2
    rw [Array.getElem_setIfInBounds (by simpa using h1)]
    split
    · rename_i e; subst e; exact hv.symm
    · rfl
theorem thU_some {α β : Type} {x : α} {rs : List Tok} {f : α → List Tok → Option β × List Tok} {a : Option α × List Tok} (h : a = (some x, rs)) : thU a f = f x rs := by rw [h]; rfl
theorem thU_none {α β : Type} {rs : List Tok} {f : α → List Tok → Option β × List Tok} {a : Option α × List Tok} (h : a = (none, rs)) : thU a f = (none, rs) := by rw [h]; rfl
theorem jU_form (g : List UInt8) (ts : List Tok) : ∃ (R : Bool) (rs : List Tok), jU g ts = (if R = true then some () else none, rs) := by
  rw [jU]
  cases nxT (sgT [g]) ts with
  | none => exact ⟨false, ts, rfl⟩
  | some p => exact ⟨true, p.2, rfl⟩
theorem Fr.weak {tr : Nat} {S : Nat → Prop} {w w1 : World} (h : Fr tr (fun _ => False) w w1) : Fr tr S w w1 := h.mono (fun _ _ h => h.elim)
set_option maxHeartbeats 4000000 in
set_option maxRecDepth 20000 in
theorem as_q (W : World) (tr rb : Nat) (ts : List Tok) (h : QH WZ en W tr rb ts) (b o : Nat) (cs : Array Value) (tt : TypeId) (hB : Blk W b cs tt) (hbr : tr < b) (x0 : ByteArray) (ho : cs[o]? = some (.string x0)) (hro : b = rb → 1 ≤ o) :
    Calls Tryz.prog 110 #[.pointer (some ⟨rb, 0, none⟩), .pointer (some ⟨b, o, none⟩)] W fun e w' => ∃ (R : Bool) (x : ByteArray), e = .returned (.bool R) ∧ Aside (QH WZ en w' tr rb (asU ts).2) ∧ Aside (Fr tr (· = b) W w') ∧ Aside (Blk w' b (cs.setIfInBounds o (.string x)) tt) ∧ Hid ((asU ts).1 = if R = true then some x else none) := by
  obtain ⟨R1, rs1, hj⟩ := jU_form wAs ts
  have cJ := just_q wAs W tr rb ts h R1 rs1 hj
  have HB : Aside (Blk W b cs tt) := hB
  have hosz : o < cs.size := (Array.getElem?_eq_some_iff.1 ho).1
  have cN := fun W1 (h1 : QH WZ en W1 tr rb rs1) (B1 : Blk W1 b cs tt) => name_q W1 tr rb rs1 h1 b o cs tt B1 hbr hosz hro
  have hsame := set_same ho
  clear h hB
  cases R1
  · have HA : Hid (asU ts = (none, rs1)) := by show _ = _; rw [asU, thU_none hj]
    go_enter Tryz.func110, Tryz.ntmps110
    go_wp2_with fail
    refine cJ.mono ?_
    rintro e w1 ⟨rfl, Q1, F1⟩
    clear cN cJ
    go_wp2
    go_ret
    refine ⟨false, x0, rfl, ?_, F1.out.weak, ?_, ?_⟩
    · rw [HA.out]; exact Q1
    · rw [hsame]; exact HB.out.fr F1.out (by omega) (fun h => h)
    · show _ = _; rw [HA.out]; rfl
  · have HA : Hid (asU ts = nU rs1) := by show _ = _; rw [asU, thU_some hj]
    go_enter Tryz.func110, Tryz.ntmps110
    go_wp2_with fail
    refine cJ.mono ?_
    rintro e w1 ⟨rfl, Q1, F1⟩
    have c2 := cN w1 Q1.out (HB.out.fr F1.out (by omega) (fun h => h))
    clear cN cJ
    go_wp2_with fail
    refine c2.mono ?_
    rintro e w2 ⟨R, x, rfl, Q2, F2, B2, HR⟩
    clear c2
    go_wp2
    go_ret
    refine ⟨R, x, rfl, ?_, F1.out.weak.trans (F2.out.mono (fun _ _ h => h)), B2, ?_⟩
    · rw [HA.out]; exact Q2
    · show _ = _; rw [HA.out]; exact HR.out
set_option maxHeartbeats 4000000 in
set_option maxRecDepth 20000 in
theorem bracketed_q (W : World) (tr rb : Nat) (ts : List Tok) (h : QH WZ en W tr rb ts) (b o : Nat) (cs : Array Value) (tt : TypeId) (hB : Blk W b cs tt) (hbr : tr < b) (ho : o + 7 ≤ cs.size) (h0 : putB cs o (exL ex0 none 0) = cs) (hro : b = rb → 1 ≤ o) :
    Calls Tryz.prog 109 #[.pointer (some ⟨rb, 0, none⟩), .pointer (some ⟨b, o, none⟩)] W fun e w' => ∃ (R : Bool) (x : Ex) (xp : Option Addr) (xc : Nat), e = .returned (.bool R) ∧ Aside (QH WZ en w' tr rb (brU ts).2) ∧ Aside (Fr tr (· = b) W w') ∧ Aside (Blk w' b (putB cs o (exL x xp xc)) tt) ∧ Aside (ExIn w' (W.heap.size ≤ ·) (exV x xp xc) x) ∧ Hid ((brU ts).1 = if R = true then some x else none) := by
  obtain ⟨R1, rs1, hj⟩ := jU_form [40] ts
  have cJ := just_q [40] W tr rb ts h R1 rs1 hj
  have HB : Aside (Blk W b cs tt) := hB
  have hbl := hB.lt
  have htr := h.rd.lt
  have cN := fun W1 (h1 : QH WZ en W1 tr rb rs1) (B1 : Blk W1 b cs tt) => expression_q W1 tr rb rs1 h1 b o cs tt B1 hbr ho hro
  have cJ2 := fun W2 rs2 (h2 : QH WZ en W2 tr rb rs2) R2 rs3 hj2 => just_q [41] W2 tr rb rs2 h2 R2 rs3 hj2
  clear h hB
  cases R1
  · have HA : Hid (brU ts = (none, rs1)) := by show _ = _; rw [brU, thU_none hj]
    go_enter Tryz.func109, Tryz.ntmps109
    go_wp2_with fail
    refine cJ.mono ?_
    rintro e w1 ⟨rfl, Q1, F1⟩
    clear cN cJ cJ2
    go_wp2
    go_ret
    refine ⟨false, ex0, none, 0, rfl, ?_, F1.out.weak, ?_, ex_zero _ _, ?_⟩
    · rw [HA.out]; exact Q1
    · rw [h0]; exact HB.out.fr F1.out (by omega) (fun h => h)
    · show _ = _; rw [HA.out]; rfl
  · go_enter Tryz.func109, Tryz.ntmps109
    go_wp2_with fail
    refine cJ.mono ?_
    rintro e w1 ⟨rfl, Q1, F1⟩
    have c2 := cN w1 Q1.out (HB.out.fr F1.out (by omega) (fun h => h))
    clear cN cJ
    go_wp2_with fail
    refine c2.mono ?_
    rintro e w2 ⟨R, x, xp, xc, rfl, Q2, F2, B2, E2, HR⟩
    clear c2
    have hs1 := F1.out.size
    have F02 : Fr tr (· = b) W w2 := F1.out.weak.trans F2.out
    have E02 : ExIn w2 (W.heap.size ≤ ·) (exV x xp xc) x := ExIn.low (fun k _ (hk : w1.heap.size ≤ k) => (show W.heap.size ≤ k by omega)) _ _ E2.out
    cases R
    · have HA : Hid (brU ts = (none, (readE rs1).2)) := by
        show _ = _
        rw [brU, thU_some hj, thU_none (rs := (readE rs1).2) (Prod.ext HR.out rfl)]
      clear cJ2
      go_wp2
      go_ret
      refine ⟨false, x, xp, xc, rfl, ?_, F02, B2, E02, ?_⟩
      · rw [HA.out]; exact Q2
      · show _ = _; rw [HA.out]; rfl
    · obtain ⟨R3, rs3, hj3⟩ := jU_form [41] (readE rs1).2
      have c3 := cJ2 w2 _ Q2.out R3 rs3 hj3
      have HA : Hid (brU ts = (if R3 = true then some x else none, rs3)) := by
        show _ = _
        rw [brU, thU_some hj, thU_some (x := x) (rs := (readE rs1).2) (Prod.ext HR.out rfl)]
        cases R3
        · rw [thU_none hj3]; rfl
        · rw [thU_some hj3]; rfl
      clear cJ2
      go_wp2_with fail
      refine c3.mono ?_
      rintro e w3 ⟨rfl, Q3, F3⟩
      clear c3
      have hs2 := F02.size
      have E3 : ExIn w3 (W.heap.size ≤ ·) (exV x xp xc) x := exin_fr E02 F3.out (fun k (hk : W.heap.size ≤ k) _ => ⟨by omega, fun h => h⟩)
      go_wp2
      go_ret
      refine ⟨R3, x, xp, xc, rfl, ?_, F02.trans F3.out.weak, B2.out.fr F3.out (by omega) (fun h => h), E3, ?_⟩
      · rw [HA.out]; exact Q3
      · show _ = _; rw [HA.out]
end Go.Proofs.YtkbhmghdonomnaaGreatDoor
