/-
  The walk of sluicelaw1.ValTells, for all values, texts and numbers.
-/
import Derived.Test.YtggabncpedcmdaaGreatDoorRef7
import Derived.Deep.DeepCutAuto
namespace Go.Proofs.YtggabncpedcmdaaGreatDoor
open Go.RowKit
set_option linter.unusedVariables false

theorem check_as (t n : Int) (s : ByteArray) (w : World) (k : Int) (hs : s.size ≤ maxLen) (h : chk t n s.data.toList = k) :
    Calls Tryz.prog 8 #[.agg #[.int .i64 t, .int .i64 n, .string s]] w fun e w' => e = .returned (errV k) ∧ Below w.heap.size w w' :=
  (check_any t n s w hs).mono fun e w' hh => ⟨by rw [hh.1, h], hh.2⟩
theorem refVal_as (t n : Int) (s : ByteArray) (w : World) (k : Int) (hs : s.size ≤ maxLen) (h : chk t n s.data.toList = k) :
    Calls Tryz.prog 6 #[.agg #[.int .i64 t, .int .i64 n, .string s]] w fun e w' => e = .returned (.int .i64 k) ∧ Below w.heap.size w w' :=
  (refVal_any t n s w hs).mono fun e w' hh => ⟨by rw [hh.1, h], hh.2⟩
theorem show_as (t n : Int) (s : ByteArray) (w : World) (x : ByteArray) (hn : -9223372036854775808 ≤ n ∧ n ≤ 9223372036854775807) (h : chk t n s.data.toList = 0) (hx : x.data.toList = shown t n s.data.toList) :
    Calls Tryz.prog 9 #[.agg #[.int .i64 t, .int .i64 n, .string s]] w fun e w' => e = .returned (.string x) ∧ Below w.heap.size w w' :=
  (show_any t n s w hn h).mono fun e w' hh => ⟨by rw [hh.1, ← hx, data_of], hh.2⟩
theorem print_as (t n : Int) (s : ByteArray) (w : World) (x : ByteArray) (k : Int) (hs : s.size ≤ maxLen) (hn : -9223372036854775808 ≤ n ∧ n ≤ 9223372036854775807) (henv : Env w) (h : chk t n s.data.toList = k) (hx : x.data.toList = prS t n s.data.toList) :
    Calls Tryz.prog 10 #[.agg #[.int .i64 t, .int .i64 n, .string s]] w fun e w' => e = .returned (.tuple #[.string x, errV k]) ∧ Below w.heap.size w w' :=
  (print_any t n s w hs hn henv).mono fun e w' hh => ⟨by rw [hh.1, ← hx, data_of, h], hh.2⟩
theorem compare_as (t n : Int) (s : ByteArray) (t' n' : Int) (s' : ByteArray) (w : World) (i k : Int) (hs : s.size ≤ maxLen) (hs' : s'.size ≤ maxLen) (hi : cmpN t n s.data.toList t' n' s'.data.toList = i) (hk : cmpE t n s.data.toList t' n' s'.data.toList = k) :
    Calls Tryz.prog 12 #[.agg #[.int .i64 t, .int .i64 n, .string s], .agg #[.int .i64 t', .int .i64 n', .string s']] w fun e w' => e = .returned (.tuple #[.int .i64 i, errV k]) ∧ Below w.heap.size w w' :=
  (compare_any t n s t' n' s' w hs hs').mono fun e w' hh => ⟨by rw [hh.1, hi, hk], hh.2⟩
theorem order_as (t n : Int) (s : ByteArray) (t' n' : Int) (s' : ByteArray) (w : World) (i : Int) (hi : cmpN t n s.data.toList t' n' s'.data.toList = i) (hk : cmpE t n s.data.toList t' n' s'.data.toList = 0) :
    Calls Tryz.prog 11 #[.agg #[.int .i64 t, .int .i64 n, .string s], .agg #[.int .i64 t', .int .i64 n', .string s']] w fun e w' => e = .returned (.int .i64 i) ∧ Below w.heap.size w w' :=
  (order_any t n s t' n' s' w hk).mono fun e w' hh => ⟨by rw [hh.1, hi], hh.2⟩
theorem read_as (s : ByteArray) (w : World) (t n : Int) (x : ByteArray) (k : Int) (hs : s.size ≤ 140737488355328) (h : readV s = (t, n, x.data.toList, k)) :
    Calls Tryz.prog 13 #[.string s] w fun e w' => e = .returned (.tuple #[.agg #[.int .i64 t, .int .i64 n, .string x], .int .i64 k]) ∧ Below w.heap.size w w' :=
  (read_any s w hs).mono fun e w' hh => ⟨by rw [hh.1, h, refR], hh.2⟩
theorem parse_as (s : ByteArray) (w : World) (t n : Int) (x : ByteArray) (k : Int) (hs : s.size ≤ 140737488355328) (henv : Env w) (h : readV s = (t, n, x.data.toList, k)) :
    Calls Tryz.prog 14 #[.string s] w fun e w' => e = .returned (.tuple #[.agg #[.int .i64 t, .int .i64 n, .string x], errV k]) ∧ Below w.heap.size w w' :=
  (parse_any s w hs henv).mono fun e w' hh => ⟨by rw [hh.1, h, readR], hh.2⟩
theorem refRk_as (op : ByteArray) (a b : Int) (w : World) (n k : Int) (ha : -9223372036854775808 ≤ a ∧ a ≤ 9223372036854775807) (hb : -9223372036854775808 ≤ b ∧ b ≤ 9223372036854775807) (h : rkQ op.data.toList a b = (n, k)) :
    Calls Tryz.prog 15 #[.string op, .int .i64 a, .int .i64 b] w fun e w' => e = .returned (.tuple #[.int .i64 n, .int .i64 k]) ∧ w' = w :=
  (refReckon_any op a b ha hb w).mono fun e w' hh => ⟨by rw [hh.1, h], hh.2⟩
theorem rk_as (op : ByteArray) (a b : Int) (w : World) (n k : Int) (ha : -9223372036854775808 ≤ a ∧ a ≤ 9223372036854775807) (hb : -9223372036854775808 ≤ b ∧ b ≤ 9223372036854775807) (h : rkQ op.data.toList a b = (n, k)) :
    Calls Tryz.prog 16 #[.string op, .int .i64 a, .int .i64 b] w fun e w' => e = .returned (.tuple #[.int .i64 n, errV k]) ∧ w' = w :=
  (show Calls _ _ _ _ _ from reckon_any op a b w ha hb).mono fun e w' hh => ⟨by rw [hh.1, h], hh.2⟩
/-- A value's box in memory. -/
def Box3 (w : World) (b : Nat) (t n : Int) (s : ByteArray) : Prop :=
  b < w.heap.size ∧ w.cell? ⟨b, 0, none⟩ = some (.int .i64 t) ∧ w.cell? ⟨b, 1, none⟩ = some (.int .i64 n) ∧ w.cell? ⟨b, 2, none⟩ = some (.string s)
theorem Box3.new (w : World) (t n : Int) (s : ByteArray) : Box3 (w.alloc (.cells #[.int .i64 t, .int .i64 n, .string s] 23)) w.heap.size t n s :=
  ⟨by simp, by rw [World.cell?_alloc_at _ _ _ _ rfl]; rfl, by rw [World.cell?_alloc_at _ _ _ _ rfl]; rfl, by rw [World.cell?_alloc_at _ _ _ _ rfl]; rfl⟩
theorem Box3.on {w w' : World} {b : Nat} {t n : Int} {s : ByteArray} (h : Box3 w b t n s) (hb : Below w.heap.size w w') : Box3 w' b t n s := by
  obtain ⟨hl, h0, h1, h2⟩ := h
  obtain ⟨hc, _⟩ := bcell hb
  have hz := hb.size
  exact ⟨by omega, by rw [hc _ _ hl]; exact h0, by rw [hc _ _ hl]; exact h1, by rw [hc _ _ hl]; exact h2⟩
theorem Box3.alloc {w : World} {b : Nat} {t n : Int} {s : ByteArray} (h : Box3 w b t n s) (o : Obj) : Box3 (w.alloc o) b t n s := h.on ((Below.refl _ _).alloc (Nat.le_refl _) o)
theorem list_eta (l : List UInt8) : ∃ x : ByteArray, x.data.toList = l := ⟨⟨l.toArray⟩, by simp⟩
theorem cmpE_bad {t n : Int} {l : List UInt8} {t' n' : Int} {l' : List UInt8} (h : chk t n l ≠ 0) : cmpE t n l t' n' l' = chk t n l := by rw [cmpE, if_pos h]
theorem cmpE_bad2 {t n : Int} {l : List UInt8} {t' n' : Int} {l' : List UInt8} (h : chk t n l = 0) (h' : chk t' n' l' ≠ 0) : cmpE t n l t' n' l' = chk t' n' l' := by rw [cmpE, if_neg (by simp [h]), if_pos h']
theorem cmpE_type {t n : Int} {l : List UInt8} {t' n' : Int} {l' : List UInt8} (h : chk t n l = 0) (h' : chk t' n' l' = 0) (ht : t ≠ t') : cmpE t n l t' n' l' = 8 := by rw [cmpE, if_neg (by simp [h]), if_neg (by simp [h']), if_pos ht]
theorem cmpE_fine {t n : Int} {l : List UInt8} {t' n' : Int} {l' : List UInt8} (h : chk t n l = 0) (h' : chk t' n' l' = 0) (ht : t = t') : cmpE t n l t' n' l' = 0 := by rw [cmpE, if_neg (by simp [h]), if_neg (by simp [h']), if_neg (by simp [ht])]
theorem cmpN_none {t n : Int} {l : List UInt8} {t' n' : Int} {l' : List UInt8} (h : cmpE t n l t' n' l' ≠ 0) : cmpN t n l t' n' l' = 0 := by rw [cmpN, if_pos h]
theorem boxes2 {ta na : Int} {sa : ByteArray} {tb nb : Int} {sb : ByteArray} {w wk : World}
    (h : Below ((w.alloc (.cells #[.int .i64 ta, .int .i64 na, .string sa] 23)).alloc (.cells #[.int .i64 tb, .int .i64 nb, .string sb] 23)).heap.size ((w.alloc (.cells #[.int .i64 ta, .int .i64 na, .string sa] 23)).alloc (.cells #[.int .i64 tb, .int .i64 nb, .string sb] 23)) wk) :
    w.heap.size < wk.heap.size ∧ w.heap.size + 1 < wk.heap.size ∧ wk.cell? ⟨w.heap.size, 0, none⟩ = some (.int .i64 ta) ∧ wk.cell? ⟨w.heap.size, 1, none⟩ = some (.int .i64 na) ∧ wk.cell? ⟨w.heap.size, 2, none⟩ = some (.string sa) ∧ wk.cell? ⟨w.heap.size + 1, 0, none⟩ = some (.int .i64 tb) ∧ wk.cell? ⟨w.heap.size + 1, 1, none⟩ = some (.int .i64 nb) ∧ wk.cell? ⟨w.heap.size + 1, 2, none⟩ = some (.string sb) := by
  have hz := h.size
  simp at hz
  refine ⟨by omega, by omega, ?_, ?_, ?_, ?_, ?_, ?_⟩
  all_goals rw [h.cell (by first | (simp; done) | (simp; omega))]
  · rw [World.cell?_alloc_lt _ _ _ (by simp), World.cell?_alloc_at _ _ _ _ rfl]; rfl
  · rw [World.cell?_alloc_lt _ _ _ (by simp), World.cell?_alloc_at _ _ _ _ rfl]; rfl
  · rw [World.cell?_alloc_lt _ _ _ (by simp), World.cell?_alloc_at _ _ _ _ rfl]; rfl
  · rw [World.cell?_alloc_at _ _ _ _ (by simp)]; rfl
  · rw [World.cell?_alloc_at _ _ _ _ (by simp)]; rfl
  · rw [World.cell?_alloc_at _ _ _ _ (by simp)]; rfl

set_option maxHeartbeats 4000000 in
set_option maxRecDepth 100000 in
theorem tells_a (ta na : Int) (sa : ByteArray) (tb nb : Int) (sb s op : ByteArray) (x y : Int) (rt rn : Int) (rx : ByteArray) (rk kn kk : Int) (ea : Int) (w : World) (hsa : sa.size ≤ maxLen) (hsb : sb.size ≤ maxLen) (hs : s.size ≤ 140737488355328) (hna : -9223372036854775808 ≤ na ∧ na ≤ 9223372036854775807) (hx : -9223372036854775808 ≤ x ∧ x ≤ 9223372036854775807) (hy : -9223372036854775808 ≤ y ∧ y ≤ 9223372036854775807) (henv : EnvT w)
    (HR : Hid (readV s = (rt, rn, rx.data.toList, rk))) (HK : Hid (rkQ op.data.toList x y = (kn, kk))) (HA : Hid (chk ta na sa.data.toList = ea)) (h0 : (ea == 0) = false) (HP : Hid (prS ta na sa.data.toList = [])) (HE : Hid (cmpE ta na sa.data.toList tb nb sb.data.toList = ea)) (HN : Hid (cmpN ta na sa.data.toList tb nb sb.data.toList = 0)) :
    Calls Tryz.prog 3 #[.agg #[.int .i64 ta, .int .i64 na, .string sa], .agg #[.int .i64 tb, .int .i64 nb, .string sb], .string s, .string op, .int .i64 x, .int .i64 y] w fun e w' => e = .returned (.bool true) ∧ Below w.heap.size w w' := by
  go_enter Tryz.func3, Tryz.ntmps3
  go_wp2_with fail
  have henv2 : EnvT ((w.alloc (.cells #[.int .i64 ta, .int .i64 na, .string sa] 23)).alloc (.cells #[.int .i64 tb, .int .i64 nb, .string sb] 23)) := (henv.alloc _).alloc _
  have hB : Below w.heap.size w ((w.alloc (.cells #[.int .i64 ta, .int .i64 na, .string sa] 23)).alloc (.cells #[.int .i64 tb, .int .i64 nb, .string sb] 23)) := ((Below.refl _ _).alloc (Nat.le_refl _) _).alloc (by simp) _
  refine (refVal_as ta na sa _ ea hsa HA.out).mono ?_
  rintro e w1 ⟨rfl, b1⟩
  have B1 := b1
  obtain ⟨l0, l1, a0, a1, a2, c0, c1, c2⟩ := boxes2 B1
  go_wp2_with fail
  refine (check_as ta na sa _ ea hsa HA.out).mono ?_
  rintro e w2 ⟨rfl, b2⟩
  have B2 := B1.trans (b2.mono B1.size)
  clear b2 B1 l0 l1 a0 a1 a2 c0 c1 c2
  obtain ⟨l0, l1, a0, a1, a2, c0, c1, c2⟩ := boxes2 B2
  go_wp2_with fail
  refine (same_any ea _ (henv2.on B2)).mono ?_
  rintro e w3 ⟨rfl, b3⟩
  have B3 := B2.trans (b3.mono B2.size)
  clear b3 B2 l0 l1 a0 a1 a2 c0 c1 c2
  obtain ⟨l0, l1, a0, a1, a2, c0, c1, c2⟩ := boxes2 B3
  go_wp2_with fail
  refine (print_as ta na sa _ ⟨#[]⟩ ea hsa hna (henv2.on B3).env HA.out HP.out.symm).mono ?_
  rintro e w4 ⟨rfl, b4⟩
  have B4 := B3.trans (b4.mono B3.size)
  clear b4 B3 l0 l1 a0 a1 a2 c0 c1 c2
  obtain ⟨l0, l1, a0, a1, a2, c0, c1, c2⟩ := boxes2 B4
  go_wp2_with fail
  refine (same_any ea _ (henv2.on B4)).mono ?_
  rintro e w5 ⟨rfl, b5⟩
  have B5 := B4.trans (b5.mono B4.size)
  clear b5 B4 l0 l1 a0 a1 a2 c0 c1 c2
  obtain ⟨l0, l1, a0, a1, a2, c0, c1, c2⟩ := boxes2 B5
  go_wp2_with fail
  refine (compare_as ta na sa tb nb sb _ 0 ea hsa hsb HN.out HE.out).mono ?_
  rintro e w6 ⟨rfl, b6⟩
  have B6 := B5.trans (b6.mono B5.size)
  clear b6 B5 l0 l1 a0 a1 a2 c0 c1 c2
  obtain ⟨l0, l1, a0, a1, a2, c0, c1, c2⟩ := boxes2 B6
  go_wp2_with fail
  refine (same_any ea _ (henv2.on B6)).mono ?_
  rintro e w7 ⟨rfl, b7⟩
  have B7 := B6.trans (b7.mono B6.size)
  clear b7 B6 l0 l1 a0 a1 a2 c0 c1 c2
  obtain ⟨l0, l1, a0, a1, a2, c0, c1, c2⟩ := boxes2 B7
  go_wp2_with fail
  refine (read_as s _ rt rn rx rk hs HR.out).mono ?_
  rintro e w8 ⟨rfl, b8⟩
  have B8 := B7.trans (b8.mono B7.size)
  clear b8 B7 l0 l1 a0 a1 a2 c0 c1 c2
  obtain ⟨l0, l1, a0, a1, a2, c0, c1, c2⟩ := boxes2 B8
  go_wp2_with fail
  have V0 := Box3.new w8 rt rn rx
  have A1 := B8.alloc B8.size (.cells #[.int .i64 rt, .int .i64 rn, .string rx] 23)
  refine (parse_as s _ rt rn rx rk hs (henv2.on A1).env HR.out).mono ?_
  rintro e p1 ⟨rfl, d1⟩
  have V1 := V0.on d1
  have D1 := A1.trans (d1.mono A1.size)
  clear d1 A1 V0 B8 l0 l1 a0 a1 a2 c0 c1 c2
  go_wp2_with fail
  have U0 := Box3.new p1 rt rn rx
  have V2 := V1.alloc (.cells #[.int .i64 rt, .int .i64 rn, .string rx] 23)
  have A2 := D1.alloc D1.size (.cells #[.int .i64 rt, .int .i64 rn, .string rx] 23)
  refine (same_any rk _ (henv2.on A2)).mono ?_
  rintro e p2 ⟨rfl, d2⟩
  have V3 := V2.on d2
  have U1 := U0.on d2
  have D2 := A2.trans (d2.mono A2.size)
  clear d2 A2 D1 V1 V2 U0
  go_wp2_with fail
  refine (refRk_as op x y _ kn kk hx hy HK.out).mono ?_
  rintro e w' ⟨rfl, rfl⟩
  go_wp2_with fail
  refine (rk_as op x y _ kn kk hx hy HK.out).mono ?_
  rintro e w' ⟨rfl, rfl⟩
  go_wp2_with fail
  refine (same_any kk _ (henv2.on D2)).mono ?_
  rintro e p3 ⟨rfl, d3⟩
  obtain ⟨vl, v0, v1, v2⟩ := V3.on d3
  obtain ⟨ul, u0, u1, u2⟩ := U1.on d3
  have D3 := D2.trans (d3.mono D2.size)
  clear d3 D2 V3 U1
  go_wp2
  go_ret
  exact ⟨rfl, hB.trans (D3.mono (by have := hB.size; omega))⟩
set_option maxHeartbeats 4000000 in
set_option maxRecDepth 100000 in
theorem tells_b (ta na : Int) (sa : ByteArray) (tb nb : Int) (sb s op : ByteArray) (x y : Int) (rt rn : Int) (rx : ByteArray) (rk kn kk : Int) (px : ByteArray) (eb : Int) (w : World) (hsa : sa.size ≤ maxLen) (hsb : sb.size ≤ maxLen) (hs : s.size ≤ 140737488355328) (hna : -9223372036854775808 ≤ na ∧ na ≤ 9223372036854775807) (hx : -9223372036854775808 ≤ x ∧ x ≤ 9223372036854775807) (hy : -9223372036854775808 ≤ y ∧ y ≤ 9223372036854775807) (henv : EnvT w)
    (HR : Hid (readV s = (rt, rn, rx.data.toList, rk))) (HK : Hid (rkQ op.data.toList x y = (kn, kk))) (HA : Hid (chk ta na sa.data.toList = 0)) (HS : Hid (px.data.toList = shown ta na sa.data.toList)) (HP : Hid (prS ta na sa.data.toList = px.data.toList)) (HB : Hid (chk tb nb sb.data.toList = eb)) (h0 : (eb == 0) = false) (HE : Hid (cmpE ta na sa.data.toList tb nb sb.data.toList = eb)) (HN : Hid (cmpN ta na sa.data.toList tb nb sb.data.toList = 0)) :
    Calls Tryz.prog 3 #[.agg #[.int .i64 ta, .int .i64 na, .string sa], .agg #[.int .i64 tb, .int .i64 nb, .string sb], .string s, .string op, .int .i64 x, .int .i64 y] w fun e w' => e = .returned (.bool true) ∧ Below w.heap.size w w' := by
  go_enter Tryz.func3, Tryz.ntmps3
  go_wp2_with fail
  have henv2 : EnvT ((w.alloc (.cells #[.int .i64 ta, .int .i64 na, .string sa] 23)).alloc (.cells #[.int .i64 tb, .int .i64 nb, .string sb] 23)) := (henv.alloc _).alloc _
  have hB : Below w.heap.size w ((w.alloc (.cells #[.int .i64 ta, .int .i64 na, .string sa] 23)).alloc (.cells #[.int .i64 tb, .int .i64 nb, .string sb] 23)) := ((Below.refl _ _).alloc (Nat.le_refl _) _).alloc (by simp) _
  refine (refVal_as ta na sa _ 0 hsa HA.out).mono ?_
  rintro e w1 ⟨rfl, b1⟩
  have B1 := b1
  obtain ⟨l0, l1, a0, a1, a2, c0, c1, c2⟩ := boxes2 B1
  go_wp2_with fail
  refine (check_as ta na sa _ 0 hsa HA.out).mono ?_
  rintro e w2 ⟨rfl, b2⟩
  have B2 := B1.trans (b2.mono B1.size)
  clear b2 B1 l0 l1 a0 a1 a2 c0 c1 c2
  obtain ⟨l0, l1, a0, a1, a2, c0, c1, c2⟩ := boxes2 B2
  go_wp2_with fail
  refine (same_any 0 _ (henv2.on B2)).mono ?_
  rintro e w3 ⟨rfl, b3⟩
  have B3 := B2.trans (b3.mono B2.size)
  clear b3 B2 l0 l1 a0 a1 a2 c0 c1 c2
  obtain ⟨l0, l1, a0, a1, a2, c0, c1, c2⟩ := boxes2 B3
  go_wp2_with fail
  refine (show_as ta na sa _ px hna HA.out HS.out).mono ?_
  rintro e w4 ⟨rfl, b4⟩
  have B4 := B3.trans (b4.mono B3.size)
  clear b4 B3 l0 l1 a0 a1 a2 c0 c1 c2
  obtain ⟨l0, l1, a0, a1, a2, c0, c1, c2⟩ := boxes2 B4
  go_wp2_with fail
  refine (print_as ta na sa _ px 0 hsa hna (henv2.on B4).env HA.out HP.out.symm).mono ?_
  rintro e w5 ⟨rfl, b5⟩
  have B5 := B4.trans (b5.mono B4.size)
  clear b5 B4 l0 l1 a0 a1 a2 c0 c1 c2
  obtain ⟨l0, l1, a0, a1, a2, c0, c1, c2⟩ := boxes2 B5
  go_wp2_with fail
  refine (same_any 0 _ (henv2.on B5)).mono ?_
  rintro e w6 ⟨rfl, b6⟩
  have B6 := B5.trans (b6.mono B5.size)
  clear b6 B5 l0 l1 a0 a1 a2 c0 c1 c2
  obtain ⟨l0, l1, a0, a1, a2, c0, c1, c2⟩ := boxes2 B6
  go_wp2_with fail
  refine (refVal_as tb nb sb _ eb hsb HB.out).mono ?_
  rintro e w7 ⟨rfl, b7⟩
  have B7 := B6.trans (b7.mono B6.size)
  clear b7 B6 l0 l1 a0 a1 a2 c0 c1 c2
  obtain ⟨l0, l1, a0, a1, a2, c0, c1, c2⟩ := boxes2 B7
  go_wp2_with fail
  refine (compare_as ta na sa tb nb sb _ 0 eb hsa hsb HN.out HE.out).mono ?_
  rintro e w8 ⟨rfl, b8⟩
  have B8 := B7.trans (b8.mono B7.size)
  clear b8 B7 l0 l1 a0 a1 a2 c0 c1 c2
  obtain ⟨l0, l1, a0, a1, a2, c0, c1, c2⟩ := boxes2 B8
  go_wp2_with fail
  refine (same_any eb _ (henv2.on B8)).mono ?_
  rintro e w9 ⟨rfl, b9⟩
  have B9 := B8.trans (b9.mono B8.size)
  clear b9 B8 l0 l1 a0 a1 a2 c0 c1 c2
  obtain ⟨l0, l1, a0, a1, a2, c0, c1, c2⟩ := boxes2 B9
  go_wp2_with fail
  refine (read_as s _ rt rn rx rk hs HR.out).mono ?_
  rintro e w10 ⟨rfl, b10⟩
  have B10 := B9.trans (b10.mono B9.size)
  clear b10 B9 l0 l1 a0 a1 a2 c0 c1 c2
  obtain ⟨l0, l1, a0, a1, a2, c0, c1, c2⟩ := boxes2 B10
  go_wp2_with fail
  have V0 := Box3.new w10 rt rn rx
  have A1 := B10.alloc B10.size (.cells #[.int .i64 rt, .int .i64 rn, .string rx] 23)
  refine (parse_as s _ rt rn rx rk hs (henv2.on A1).env HR.out).mono ?_
  rintro e p1 ⟨rfl, d1⟩
  have V1 := V0.on d1
  have D1 := A1.trans (d1.mono A1.size)
  clear d1 A1 V0 B10 l0 l1 a0 a1 a2 c0 c1 c2
  go_wp2_with fail
  have U0 := Box3.new p1 rt rn rx
  have V2 := V1.alloc (.cells #[.int .i64 rt, .int .i64 rn, .string rx] 23)
  have A2 := D1.alloc D1.size (.cells #[.int .i64 rt, .int .i64 rn, .string rx] 23)
  refine (same_any rk _ (henv2.on A2)).mono ?_
  rintro e p2 ⟨rfl, d2⟩
  have V3 := V2.on d2
  have U1 := U0.on d2
  have D2 := A2.trans (d2.mono A2.size)
  clear d2 A2 D1 V1 V2 U0
  go_wp2_with fail
  refine (refRk_as op x y _ kn kk hx hy HK.out).mono ?_
  rintro e w' ⟨rfl, rfl⟩
  go_wp2_with fail
  refine (rk_as op x y _ kn kk hx hy HK.out).mono ?_
  rintro e w' ⟨rfl, rfl⟩
  go_wp2_with fail
  refine (same_any kk _ (henv2.on D2)).mono ?_
  rintro e p3 ⟨rfl, d3⟩
  obtain ⟨vl, v0, v1, v2⟩ := V3.on d3
  obtain ⟨ul, u0, u1, u2⟩ := U1.on d3
  have D3 := D2.trans (d3.mono D2.size)
  clear d3 D2 V3 U1
  go_wp2
  go_ret
  exact ⟨rfl, hB.trans (D3.mono (by have := hB.size; omega))⟩
set_option maxHeartbeats 4000000 in
set_option maxRecDepth 100000 in
theorem tells_c (ta na : Int) (sa : ByteArray) (tb nb : Int) (sb s op : ByteArray) (x y : Int) (rt rn : Int) (rx : ByteArray) (rk kn kk : Int) (px : ByteArray) (w : World) (hsa : sa.size ≤ maxLen) (hsb : sb.size ≤ maxLen) (hs : s.size ≤ 140737488355328) (hna : -9223372036854775808 ≤ na ∧ na ≤ 9223372036854775807) (hx : -9223372036854775808 ≤ x ∧ x ≤ 9223372036854775807) (hy : -9223372036854775808 ≤ y ∧ y ≤ 9223372036854775807) (henv : EnvT w)
    (HR : Hid (readV s = (rt, rn, rx.data.toList, rk))) (HK : Hid (rkQ op.data.toList x y = (kn, kk))) (HA : Hid (chk ta na sa.data.toList = 0)) (HS : Hid (px.data.toList = shown ta na sa.data.toList)) (HP : Hid (prS ta na sa.data.toList = px.data.toList)) (HB : Hid (chk tb nb sb.data.toList = 0)) (ht : (ta != tb) = true) (HE : Hid (cmpE ta na sa.data.toList tb nb sb.data.toList = 8)) (HN : Hid (cmpN ta na sa.data.toList tb nb sb.data.toList = 0)) :
    Calls Tryz.prog 3 #[.agg #[.int .i64 ta, .int .i64 na, .string sa], .agg #[.int .i64 tb, .int .i64 nb, .string sb], .string s, .string op, .int .i64 x, .int .i64 y] w fun e w' => e = .returned (.bool true) ∧ Below w.heap.size w w' := by
  go_enter Tryz.func3, Tryz.ntmps3
  go_wp2_with fail
  have henv2 : EnvT ((w.alloc (.cells #[.int .i64 ta, .int .i64 na, .string sa] 23)).alloc (.cells #[.int .i64 tb, .int .i64 nb, .string sb] 23)) := (henv.alloc _).alloc _
  have hB : Below w.heap.size w ((w.alloc (.cells #[.int .i64 ta, .int .i64 na, .string sa] 23)).alloc (.cells #[.int .i64 tb, .int .i64 nb, .string sb] 23)) := ((Below.refl _ _).alloc (Nat.le_refl _) _).alloc (by simp) _
  refine (refVal_as ta na sa _ 0 hsa HA.out).mono ?_
  rintro e w1 ⟨rfl, b1⟩
  have B1 := b1
  obtain ⟨l0, l1, a0, a1, a2, c0, c1, c2⟩ := boxes2 B1
  go_wp2_with fail
  refine (check_as ta na sa _ 0 hsa HA.out).mono ?_
  rintro e w2 ⟨rfl, b2⟩
  have B2 := B1.trans (b2.mono B1.size)
  clear b2 B1 l0 l1 a0 a1 a2 c0 c1 c2
  obtain ⟨l0, l1, a0, a1, a2, c0, c1, c2⟩ := boxes2 B2
  go_wp2_with fail
  refine (same_any 0 _ (henv2.on B2)).mono ?_
  rintro e w3 ⟨rfl, b3⟩
  have B3 := B2.trans (b3.mono B2.size)
  clear b3 B2 l0 l1 a0 a1 a2 c0 c1 c2
  obtain ⟨l0, l1, a0, a1, a2, c0, c1, c2⟩ := boxes2 B3
  go_wp2_with fail
  refine (show_as ta na sa _ px hna HA.out HS.out).mono ?_
  rintro e w4 ⟨rfl, b4⟩
  have B4 := B3.trans (b4.mono B3.size)
  clear b4 B3 l0 l1 a0 a1 a2 c0 c1 c2
  obtain ⟨l0, l1, a0, a1, a2, c0, c1, c2⟩ := boxes2 B4
  go_wp2_with fail
  refine (print_as ta na sa _ px 0 hsa hna (henv2.on B4).env HA.out HP.out.symm).mono ?_
  rintro e w5 ⟨rfl, b5⟩
  have B5 := B4.trans (b5.mono B4.size)
  clear b5 B4 l0 l1 a0 a1 a2 c0 c1 c2
  obtain ⟨l0, l1, a0, a1, a2, c0, c1, c2⟩ := boxes2 B5
  go_wp2_with fail
  refine (same_any 0 _ (henv2.on B5)).mono ?_
  rintro e w6 ⟨rfl, b6⟩
  have B6 := B5.trans (b6.mono B5.size)
  clear b6 B5 l0 l1 a0 a1 a2 c0 c1 c2
  obtain ⟨l0, l1, a0, a1, a2, c0, c1, c2⟩ := boxes2 B6
  go_wp2_with fail
  refine (refVal_as tb nb sb _ 0 hsb HB.out).mono ?_
  rintro e w7 ⟨rfl, b7⟩
  have B7 := B6.trans (b7.mono B6.size)
  clear b7 B6 l0 l1 a0 a1 a2 c0 c1 c2
  obtain ⟨l0, l1, a0, a1, a2, c0, c1, c2⟩ := boxes2 B7
  go_wp2_with fail
  refine (compare_as ta na sa tb nb sb _ 0 8 hsa hsb HN.out HE.out).mono ?_
  rintro e w8 ⟨rfl, b8⟩
  have B8 := B7.trans (b8.mono B7.size)
  clear b8 B7 l0 l1 a0 a1 a2 c0 c1 c2
  obtain ⟨l0, l1, a0, a1, a2, c0, c1, c2⟩ := boxes2 B8
  go_wp2_with fail
  refine (same_any 8 _ (henv2.on B8)).mono ?_
  rintro e w9 ⟨rfl, b9⟩
  have B9 := B8.trans (b9.mono B8.size)
  clear b9 B8 l0 l1 a0 a1 a2 c0 c1 c2
  obtain ⟨l0, l1, a0, a1, a2, c0, c1, c2⟩ := boxes2 B9
  go_wp2_with fail
  refine (read_as s _ rt rn rx rk hs HR.out).mono ?_
  rintro e w10 ⟨rfl, b10⟩
  have B10 := B9.trans (b10.mono B9.size)
  clear b10 B9 l0 l1 a0 a1 a2 c0 c1 c2
  obtain ⟨l0, l1, a0, a1, a2, c0, c1, c2⟩ := boxes2 B10
  go_wp2_with fail
  have V0 := Box3.new w10 rt rn rx
  have A1 := B10.alloc B10.size (.cells #[.int .i64 rt, .int .i64 rn, .string rx] 23)
  refine (parse_as s _ rt rn rx rk hs (henv2.on A1).env HR.out).mono ?_
  rintro e p1 ⟨rfl, d1⟩
  have V1 := V0.on d1
  have D1 := A1.trans (d1.mono A1.size)
  clear d1 A1 V0 B10 l0 l1 a0 a1 a2 c0 c1 c2
  go_wp2_with fail
  have U0 := Box3.new p1 rt rn rx
  have V2 := V1.alloc (.cells #[.int .i64 rt, .int .i64 rn, .string rx] 23)
  have A2 := D1.alloc D1.size (.cells #[.int .i64 rt, .int .i64 rn, .string rx] 23)
  refine (same_any rk _ (henv2.on A2)).mono ?_
  rintro e p2 ⟨rfl, d2⟩
  have V3 := V2.on d2
  have U1 := U0.on d2
  have D2 := A2.trans (d2.mono A2.size)
  clear d2 A2 D1 V1 V2 U0
  go_wp2_with fail
  refine (refRk_as op x y _ kn kk hx hy HK.out).mono ?_
  rintro e w' ⟨rfl, rfl⟩
  go_wp2_with fail
  refine (rk_as op x y _ kn kk hx hy HK.out).mono ?_
  rintro e w' ⟨rfl, rfl⟩
  go_wp2_with fail
  refine (same_any kk _ (henv2.on D2)).mono ?_
  rintro e p3 ⟨rfl, d3⟩
  obtain ⟨vl, v0, v1, v2⟩ := V3.on d3
  obtain ⟨ul, u0, u1, u2⟩ := U1.on d3
  have D3 := D2.trans (d3.mono D2.size)
  clear d3 D2 V3 U1
  go_wp2
  go_ret
  exact ⟨rfl, hB.trans (D3.mono (by have := hB.size; omega))⟩
set_option maxHeartbeats 4000000 in
set_option maxRecDepth 100000 in
theorem tells_d (ta na : Int) (sa : ByteArray) (tb nb : Int) (sb s op : ByteArray) (x y : Int) (rt rn : Int) (rx : ByteArray) (rk kn kk : Int) (px : ByteArray) (ci : Int) (w : World) (hsa : sa.size ≤ maxLen) (hsb : sb.size ≤ maxLen) (hs : s.size ≤ 140737488355328) (hna : -9223372036854775808 ≤ na ∧ na ≤ 9223372036854775807) (hx : -9223372036854775808 ≤ x ∧ x ≤ 9223372036854775807) (hy : -9223372036854775808 ≤ y ∧ y ≤ 9223372036854775807) (henv : EnvT w)
    (HR : Hid (readV s = (rt, rn, rx.data.toList, rk))) (HK : Hid (rkQ op.data.toList x y = (kn, kk))) (HA : Hid (chk ta na sa.data.toList = 0)) (HS : Hid (px.data.toList = shown ta na sa.data.toList)) (HP : Hid (prS ta na sa.data.toList = px.data.toList)) (HB : Hid (chk tb nb sb.data.toList = 0)) (ht : (ta != tb) = false) (HE : Hid (cmpE ta na sa.data.toList tb nb sb.data.toList = 0)) (HN : Hid (cmpN ta na sa.data.toList tb nb sb.data.toList = ci)) :
    Calls Tryz.prog 3 #[.agg #[.int .i64 ta, .int .i64 na, .string sa], .agg #[.int .i64 tb, .int .i64 nb, .string sb], .string s, .string op, .int .i64 x, .int .i64 y] w fun e w' => e = .returned (.bool true) ∧ Below w.heap.size w w' := by
  go_enter Tryz.func3, Tryz.ntmps3
  go_wp2_with fail
  have henv2 : EnvT ((w.alloc (.cells #[.int .i64 ta, .int .i64 na, .string sa] 23)).alloc (.cells #[.int .i64 tb, .int .i64 nb, .string sb] 23)) := (henv.alloc _).alloc _
  have hB : Below w.heap.size w ((w.alloc (.cells #[.int .i64 ta, .int .i64 na, .string sa] 23)).alloc (.cells #[.int .i64 tb, .int .i64 nb, .string sb] 23)) := ((Below.refl _ _).alloc (Nat.le_refl _) _).alloc (by simp) _
  refine (refVal_as ta na sa _ 0 hsa HA.out).mono ?_
  rintro e w1 ⟨rfl, b1⟩
  have B1 := b1
  obtain ⟨l0, l1, a0, a1, a2, c0, c1, c2⟩ := boxes2 B1
  go_wp2_with fail
  refine (check_as ta na sa _ 0 hsa HA.out).mono ?_
  rintro e w2 ⟨rfl, b2⟩
  have B2 := B1.trans (b2.mono B1.size)
  clear b2 B1 l0 l1 a0 a1 a2 c0 c1 c2
  obtain ⟨l0, l1, a0, a1, a2, c0, c1, c2⟩ := boxes2 B2
  go_wp2_with fail
  refine (same_any 0 _ (henv2.on B2)).mono ?_
  rintro e w3 ⟨rfl, b3⟩
  have B3 := B2.trans (b3.mono B2.size)
  clear b3 B2 l0 l1 a0 a1 a2 c0 c1 c2
  obtain ⟨l0, l1, a0, a1, a2, c0, c1, c2⟩ := boxes2 B3
  go_wp2_with fail
  refine (show_as ta na sa _ px hna HA.out HS.out).mono ?_
  rintro e w4 ⟨rfl, b4⟩
  have B4 := B3.trans (b4.mono B3.size)
  clear b4 B3 l0 l1 a0 a1 a2 c0 c1 c2
  obtain ⟨l0, l1, a0, a1, a2, c0, c1, c2⟩ := boxes2 B4
  go_wp2_with fail
  refine (print_as ta na sa _ px 0 hsa hna (henv2.on B4).env HA.out HP.out.symm).mono ?_
  rintro e w5 ⟨rfl, b5⟩
  have B5 := B4.trans (b5.mono B4.size)
  clear b5 B4 l0 l1 a0 a1 a2 c0 c1 c2
  obtain ⟨l0, l1, a0, a1, a2, c0, c1, c2⟩ := boxes2 B5
  go_wp2_with fail
  refine (same_any 0 _ (henv2.on B5)).mono ?_
  rintro e w6 ⟨rfl, b6⟩
  have B6 := B5.trans (b6.mono B5.size)
  clear b6 B5 l0 l1 a0 a1 a2 c0 c1 c2
  obtain ⟨l0, l1, a0, a1, a2, c0, c1, c2⟩ := boxes2 B6
  go_wp2_with fail
  refine (refVal_as tb nb sb _ 0 hsb HB.out).mono ?_
  rintro e w7 ⟨rfl, b7⟩
  have B7 := B6.trans (b7.mono B6.size)
  clear b7 B6 l0 l1 a0 a1 a2 c0 c1 c2
  obtain ⟨l0, l1, a0, a1, a2, c0, c1, c2⟩ := boxes2 B7
  go_wp2_with fail
  refine (order_as ta na sa tb nb sb _ ci HN.out HE.out).mono ?_
  rintro e w8 ⟨rfl, b8⟩
  have B8 := B7.trans (b8.mono B7.size)
  clear b8 B7 l0 l1 a0 a1 a2 c0 c1 c2
  obtain ⟨l0, l1, a0, a1, a2, c0, c1, c2⟩ := boxes2 B8
  go_wp2_with fail
  refine (compare_as ta na sa tb nb sb _ ci 0 hsa hsb HN.out HE.out).mono ?_
  rintro e w9 ⟨rfl, b9⟩
  have B9 := B8.trans (b9.mono B8.size)
  clear b9 B8 l0 l1 a0 a1 a2 c0 c1 c2
  obtain ⟨l0, l1, a0, a1, a2, c0, c1, c2⟩ := boxes2 B9
  go_wp2_with fail
  refine (same_any 0 _ (henv2.on B9)).mono ?_
  rintro e w10 ⟨rfl, b10⟩
  have B10 := B9.trans (b10.mono B9.size)
  clear b10 B9 l0 l1 a0 a1 a2 c0 c1 c2
  obtain ⟨l0, l1, a0, a1, a2, c0, c1, c2⟩ := boxes2 B10
  go_wp2_with fail
  refine (read_as s _ rt rn rx rk hs HR.out).mono ?_
  rintro e w11 ⟨rfl, b11⟩
  have B11 := B10.trans (b11.mono B10.size)
  clear b11 B10 l0 l1 a0 a1 a2 c0 c1 c2
  obtain ⟨l0, l1, a0, a1, a2, c0, c1, c2⟩ := boxes2 B11
  go_wp2_with fail
  have V0 := Box3.new w11 rt rn rx
  have A1 := B11.alloc B11.size (.cells #[.int .i64 rt, .int .i64 rn, .string rx] 23)
  refine (parse_as s _ rt rn rx rk hs (henv2.on A1).env HR.out).mono ?_
  rintro e p1 ⟨rfl, d1⟩
  have V1 := V0.on d1
  have D1 := A1.trans (d1.mono A1.size)
  clear d1 A1 V0 B11 l0 l1 a0 a1 a2 c0 c1 c2
  go_wp2_with fail
  have U0 := Box3.new p1 rt rn rx
  have V2 := V1.alloc (.cells #[.int .i64 rt, .int .i64 rn, .string rx] 23)
  have A2 := D1.alloc D1.size (.cells #[.int .i64 rt, .int .i64 rn, .string rx] 23)
  refine (same_any rk _ (henv2.on A2)).mono ?_
  rintro e p2 ⟨rfl, d2⟩
  have V3 := V2.on d2
  have U1 := U0.on d2
  have D2 := A2.trans (d2.mono A2.size)
  clear d2 A2 D1 V1 V2 U0
  go_wp2_with fail
  refine (refRk_as op x y _ kn kk hx hy HK.out).mono ?_
  rintro e w' ⟨rfl, rfl⟩
  go_wp2_with fail
  refine (rk_as op x y _ kn kk hx hy HK.out).mono ?_
  rintro e w' ⟨rfl, rfl⟩
  go_wp2_with fail
  refine (same_any kk _ (henv2.on D2)).mono ?_
  rintro e p3 ⟨rfl, d3⟩
  obtain ⟨vl, v0, v1, v2⟩ := V3.on d3
  obtain ⟨ul, u0, u1, u2⟩ := U1.on d3
  have D3 := D2.trans (d3.mono D2.size)
  clear d3 D2 V3 U1
  go_wp2
  go_ret
  exact ⟨rfl, hB.trans (D3.mono (by have := hB.size; omega))⟩
theorem tells (ta na : Int) (sa : ByteArray) (tb nb : Int) (sb s op : ByteArray) (x y : Int) (w : World) (hsa : sa.size ≤ maxLen) (hsb : sb.size ≤ maxLen) (hs : s.size ≤ 140737488355328) (hna : -9223372036854775808 ≤ na ∧ na ≤ 9223372036854775807) (hx : -9223372036854775808 ≤ x ∧ x ≤ 9223372036854775807) (hy : -9223372036854775808 ≤ y ∧ y ≤ 9223372036854775807) (henv : EnvT w) :
    Calls Tryz.prog 3 #[.agg #[.int .i64 ta, .int .i64 na, .string sa], .agg #[.int .i64 tb, .int .i64 nb, .string sb], .string s, .string op, .int .i64 x, .int .i64 y] w fun e w' => e = .returned (.bool true) ∧ Below w.heap.size w w' := by
  obtain ⟨rx, hrx⟩ := list_eta (readV s).2.2.1
  have HR : Hid (readV s = ((readV s).1, (readV s).2.1, rx.data.toList, (readV s).2.2.2)) := by rw [hrx]; exact rfl
  have HK : Hid (rkQ op.data.toList x y = ((rkQ op.data.toList x y).1, (rkQ op.data.toList x y).2)) := rfl
  by_cases h1 : chk ta na sa.data.toList = 0
  · obtain ⟨px, hpx⟩ := list_eta (shown ta na sa.data.toList)
    have hp : prS ta na sa.data.toList = px.data.toList := by rw [prS, if_pos h1, hpx]
    by_cases h2 : chk tb nb sb.data.toList = 0
    · by_cases h3 : ta = tb
      · exact tells_d ta na sa tb nb sb s op x y _ _ rx _ _ _ px _ w hsa hsb hs hna hx hy henv HR HK h1 hpx hp h2 (by simpa using h3) (cmpE_fine h1 h2 h3) rfl
      · exact tells_c ta na sa tb nb sb s op x y _ _ rx _ _ _ px w hsa hsb hs hna hx hy henv HR HK h1 hpx hp h2 (by simpa using h3) (cmpE_type h1 h2 h3) (cmpN_none (by rw [cmpE_type h1 h2 h3]; decide))
    · exact tells_b ta na sa tb nb sb s op x y _ _ rx _ _ _ px _ w hsa hsb hs hna hx hy henv HR HK h1 hpx hp rfl (by simpa using h2) (cmpE_bad2 h1 h2) (cmpN_none (by rw [cmpE_bad2 h1 h2]; exact h2))
  · exact tells_a ta na sa tb nb sb s op x y _ _ rx _ _ _ _ w hsa hsb hs hna hx hy henv HR HK rfl (by simpa using h1) (by rw [prS, if_neg h1]; exact rfl) (cmpE_bad h1) (cmpN_none (by rw [cmpE_bad h1]; exact h1))
end Go.Proofs.YtggabncpedcmdaaGreatDoor
