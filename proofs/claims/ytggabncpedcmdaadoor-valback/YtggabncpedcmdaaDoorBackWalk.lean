/-
  The walk of sluicelaw1.ValBack, for all values, texts and numbers.
-/
import Derived.Test.YtggabncpedcmdaaDoorBack
import Derived.Test.YtggabncpedcmdaaDoorReckon
import Derived.Deep.DeepCutAuto
import Derived.Lib.ItoaLen
namespace Go.Proofs.YtggabncpedcmdaaDoor
open Go.RowKit
set_option linter.unusedVariables false

theorem cmpE_zero {t n : Int} {l : List UInt8} {t' n' : Int} {l' : List UInt8} (h : cmpE t n l t' n' l' = 0) : chk t n l = 0 ∧ chk t' n' l' = 0 ∧ t = t' := by
  rw [cmpE] at h
  split at h
  · rename_i h1; exact absurd h h1
  · rename_i h1
    split at h
    · rename_i h2; exact absurd h h2
    · rename_i h2
      split at h
      · exact absurd h (by decide)
      · rename_i h3
        exact ⟨Classical.not_not.1 h1, Classical.not_not.1 h2, Classical.not_not.1 h3⟩
theorem cmpE_swap {t n : Int} {l : List UInt8} {t' n' : Int} {l' : List UInt8} (h : cmpE t n l t' n' l' = 0) : cmpE t' n' l' t n l = 0 := by
  obtain ⟨h1, h2, h3⟩ := cmpE_zero h
  rw [cmpE, if_neg (by simp [h2]), if_neg (by simp [h1]), if_neg (by simp [h3])]
theorem cmpN_eq {t n : Int} {l : List UInt8} {t' n' : Int} {l' : List UInt8} (h : cmpE t n l t' n' l' = 0) : cmpN t n l t' n' l' = if t = 3 then cmpS l l' else cmpI n n' := by
  rw [cmpN, if_neg (by simp [h])]
theorem cmpN_neg {t n : Int} {l : List UInt8} {t' n' : Int} {l' : List UInt8} (h : cmpE t n l t' n' l' = 0) : cmpN t n l t' n' l' = -cmpN t' n' l' t n l := by
  obtain ⟨h1, h2, rfl⟩ := cmpE_zero h
  rw [cmpN_eq h, cmpN_eq (cmpE_swap h)]
  split
  · exact cmpS_neg _ _
  · exact cmpI_neg _ _
theorem cmpN_zero {t n : Int} {l : List UInt8} {t' n' : Int} {l' : List UInt8} (h : cmpE t n l t' n' l' = 0) : cmpN t n l t' n' l' = 0 ↔ n = n' ∧ l = l' := by
  obtain ⟨h1, h2, rfl⟩ := cmpE_zero h
  rw [cmpN_eq h]
  split
  · rename_i h3
    subst h3
    rcases chk_type h1 with ⟨e, _⟩ | ⟨e, _⟩ | ⟨_, e1, _⟩
    · exact absurd e (by decide)
    · exact absurd e (by decide)
    · rcases chk_type h2 with ⟨e, _⟩ | ⟨e, _⟩ | ⟨_, e2, _⟩
      · exact absurd e (by decide)
      · exact absurd e (by decide)
      · rw [cmpS_zero]; exact ⟨fun e => ⟨by omega, e⟩, fun e => e.2⟩
  · rename_i h3
    have e1 : l = [] := by rcases chk_type h1 with ⟨_, e⟩ | ⟨_, e, _⟩ | ⟨e, _⟩ <;> first | exact e | exact absurd e h3
    have e2 : l' = [] := by rcases chk_type h2 with ⟨_, e⟩ | ⟨_, e, _⟩ | ⟨e, _⟩ <;> first | exact e | exact absurd e h3
    rw [cmpI_zero]; exact ⟨fun e => ⟨e, by rw [e1, e2]⟩, fun e => e.1⟩
theorem cmpN_bd (t n : Int) (l : List UInt8) (t' n' : Int) (l' : List UInt8) : -1 ≤ cmpN t n l t' n' l' ∧ cmpN t n l t' n' l' ≤ 1 := by
  rw [cmpN]
  split
  · omega
  · split
    · rcases cmpS_cases l l' with ⟨_, _, c⟩ | ⟨_, c⟩ | ⟨_, _, c⟩ <;> rw [c] <;> decide
    · unfold cmpI; split <;> (try split) <;> omega
theorem cmpN_trans {t n : Int} {l : List UInt8} {t' n' : Int} {l' : List UInt8} {t'' n'' : Int} {l'' : List UInt8} (h : cmpE t n l t' n' l' = 0) (h' : cmpE t' n' l' t'' n'' l'' = 0) (h'' : cmpE t n l t'' n'' l'' = 0)
    (a : cmpN t n l t' n' l' ≤ 0) (b : cmpN t' n' l' t'' n'' l'' ≤ 0) : cmpN t n l t'' n'' l'' ≤ 0 := by
  obtain ⟨_, _, rfl⟩ := cmpE_zero h
  rw [cmpN_eq h] at a
  rw [cmpN_eq h'] at b
  rw [cmpN_eq h'']
  split
  · rename_i h3; rw [if_pos h3] at a b; exact cmpS_trans a b
  · rename_i h3; rw [if_neg h3] at a b; exact cmpI_trans a b

theorem compare_ok (t n : Int) (s : ByteArray) (t' n' : Int) (s' : ByteArray) (w : World) (hs : s.size ≤ maxLen) (hs' : s'.size ≤ maxLen) (i : Int) (hi : cmpN t n s.data.toList t' n' s'.data.toList = i) (h : cmpE t n s.data.toList t' n' s'.data.toList = 0) :
    Calls Tryd.prog 8 #[.agg #[.int .i64 t, .int .i64 n, .string s], .agg #[.int .i64 t', .int .i64 n', .string s']] w fun e w' => e = .returned (.tuple #[.int .i64 i, .nilIface]) ∧ Below w.heap.size w w' :=
  (compare_any t n s t' n' s' w hs hs').mono fun e w' hh => ⟨by rw [hh.1, h, errV, if_pos rfl, hi], hh.2⟩
theorem compare_bad (t n : Int) (s : ByteArray) (t' n' : Int) (s' : ByteArray) (w : World) (hs : s.size ≤ maxLen) (hs' : s'.size ≤ maxLen) (h : cmpE t n s.data.toList t' n' s'.data.toList ≠ 0) :
    Calls Tryd.prog 8 #[.agg #[.int .i64 t, .int .i64 n, .string s], .agg #[.int .i64 t', .int .i64 n', .string s']] w fun e w' => (∃ i x, e = .returned (.tuple #[.int .i64 i, .iface 46 x])) ∧ Below w.heap.size w w' :=
  (compare_any t n s t' n' s' w hs hs').mono fun e w' hh => ⟨⟨_, _, hh.1.trans (by rw [errV, if_neg h])⟩, hh.2⟩
theorem compare_some (t n : Int) (s : ByteArray) (t' n' : Int) (s' : ByteArray) (w : World) (hs : s.size ≤ maxLen) (hs' : s'.size ≤ maxLen) :
    Calls Tryd.prog 8 #[.agg #[.int .i64 t, .int .i64 n, .string s], .agg #[.int .i64 t', .int .i64 n', .string s']] w fun e w' => (∃ i x, e = .returned (.tuple #[.int .i64 i, x])) ∧ Below w.heap.size w w' :=
  (compare_any t n s t' n' s' w hs hs').mono fun e w' hh => ⟨⟨_, _, hh.1⟩, hh.2⟩
theorem print_ok (t n : Int) (s x : ByteArray) (w : World) (hs : s.size ≤ maxLen) (hn : -9223372036854775808 ≤ n ∧ n ≤ 9223372036854775807) (henv : Env w) (h : chk t n s.data.toList = 0) (hx : x = ⟨(shown t n s.data.toList).toArray⟩) :
    Calls Tryd.prog 5 #[.agg #[.int .i64 t, .int .i64 n, .string s]] w fun e w' => e = .returned (.tuple #[.string x, .nilIface]) ∧ Below w.heap.size w w' :=
  (print_any t n s w hs hn henv).mono fun e w' hh => ⟨by rw [hh.1, h, errV, if_pos rfl, prS, if_pos h, hx], hh.2⟩
theorem print_bad (t n : Int) (s : ByteArray) (w : World) (hs : s.size ≤ maxLen) (hn : -9223372036854775808 ≤ n ∧ n ≤ 9223372036854775807) (henv : Env w) (h : chk t n s.data.toList ≠ 0) :
    Calls Tryd.prog 5 #[.agg #[.int .i64 t, .int .i64 n, .string s]] w fun e w' => (∃ x y, e = .returned (.tuple #[.string x, .iface 46 y])) ∧ Below w.heap.size w w' :=
  (print_any t n s w hs hn henv).mono fun e w' hh => ⟨⟨_, _, hh.1.trans (by rw [errV, if_neg h])⟩, hh.2⟩
theorem parse_ok (s x : ByteArray) (t n : Int) (w : World) (hs : s.size ≤ 140737488355328) (henv : Env w) (h : readV s = (t, n, x.data.toList, 0)) :
    Calls Tryd.prog 6 #[.string s] w fun e w' => e = .returned (.tuple #[.agg #[.int .i64 t, .int .i64 n, .string x], .nilIface]) ∧ Below w.heap.size w w' :=
  (parse_any s w hs henv).mono fun e w' hh => ⟨by rw [hh.1, h]; simp [readR, errV], hh.2⟩
theorem parse_bad (s : ByteArray) (w : World) (hs : s.size ≤ 140737488355328) (henv : Env w) (h : (readV s).2.2.2 ≠ 0) :
    Calls Tryd.prog 6 #[.string s] w fun e w' => (∃ t n x y, e = .returned (.tuple #[.agg #[.int .i64 t, .int .i64 n, .string x], .iface 46 y])) ∧ Below w.heap.size w w' :=
  (parse_any s w hs henv).mono fun e w' hh => ⟨⟨_, _, _, _, hh.1.trans (by rw [readR, errV, if_neg h])⟩, hh.2⟩

theorem shown_size {t n : Int} {l : List UInt8} {x : ByteArray} (hk : chk t n l = 0) (hn : -9223372036854775808 ≤ n ∧ n ≤ 9223372036854775807) (hx : x.data.toList = shown t n l) : x.size ≤ 140737488355328 := by
  have hl : x.data.toList.length = x.size := by simp
  rw [hx] at hl
  rcases chk_type hk with ⟨rfl, _⟩ | ⟨rfl, _, _⟩ | ⟨rfl, _, h40, _⟩
  · have := Lib.itoa_length_le n hn.1 hn.2
    rw [shown, if_pos rfl] at hl
    omega
  · rw [shown, if_neg (by decide), if_pos rfl] at hl
    split at hl <;> simp at hl <;> omega
  · rw [shown, if_neg (by decide), if_neg (by decide)] at hl
    have := esc_len l
    simp at hl
    omega
/-- Is an error nil? -/
structure IsErr (er : Value) (b : Bool) : Prop where
  eql : ∀ W : World, Sem.run Tryd.prog (binOp .eql 25 er .nilIface) W = .ok (.bool b) W
  neq : ∀ W : World, Sem.run Tryd.prog (binOp .neq 25 er .nilIface) W = .ok (.bool !b) W
  geql : ∀ (W : World) (k : Nat), Sem.run Tryd.prog (eqGuard .eql 25 (.tmp k) (.const .nilIface) er .nilIface) W = .ok () W
  gneq : ∀ (W : World) (k : Nat), Sem.run Tryd.prog (eqGuard .neq 25 (.tmp k) (.const .nilIface) er .nilIface) W = .ok () W
theorem isErr_nil : IsErr .nilIface true := ⟨fun W => by kernel_rfl, fun W => by kernel_rfl, fun W k => by kernel_rfl, fun W k => by kernel_rfl⟩
theorem isErr_some (t : TypeId) (v : Value) : IsErr (.iface t v) false := ⟨fun W => by kernel_rfl, fun W => by kernel_rfl, fun W k => by kernel_rfl, fun W k => by kernel_rfl⟩
theorem isErr_errV (k : Int) : IsErr (errV k) (decide (k = 0)) := by
  rw [errV]
  by_cases h : k = 0
  · rw [if_pos h, decide_eq_true h]; exact isErr_nil
  · rw [if_neg h, decide_eq_false h]; exact isErr_some _ _
theorem print_gen (t n : Int) (s : ByteArray) (w : World) (hs : s.size ≤ maxLen) (hn : -9223372036854775808 ≤ n ∧ n ≤ 9223372036854775807) (henv : Env w) :
    Calls Tryd.prog 5 #[.agg #[.int .i64 t, .int .i64 n, .string s]] w fun e w' => (∃ (x : ByteArray) (er : Value) (b : Bool), e = .returned (.tuple #[.string x, er]) ∧ IsErr er b ∧ Hid (b = true → er = .nilIface ∧ chk t n s.data.toList = 0 ∧ x.data.toList = shown t n s.data.toList)) ∧ Below w.heap.size w w' :=
  (print_any t n s w hs hn henv).mono fun e w' hh => ⟨⟨_, _, _, hh.1, isErr_errV _, fun h => by
    have h0 := of_decide_eq_true h
    exact ⟨by rw [errV, if_pos h0], h0, by rw [prS, if_pos h0]⟩⟩, hh.2⟩
theorem parse_gen (s : ByteArray) (w : World) (hs : s.size ≤ 140737488355328) (henv : Env w) :
    Calls Tryd.prog 6 #[.string s] w fun e w' => (∃ (t n : Int) (x : ByteArray) (er : Value) (b : Bool), e = .returned (.tuple #[.agg #[.int .i64 t, .int .i64 n, .string x], er]) ∧ IsErr er b ∧ Hid (b = true → er = .nilIface ∧ readV s = (t, n, x.data.toList, 0))) ∧ Below w.heap.size w w' :=
  (parse_any s w hs henv).mono fun e w' hh => ⟨⟨_, _, _, _, _, hh.1, isErr_errV _, fun h => by
    have h0 := of_decide_eq_true h
    refine ⟨by rw [errV, if_pos h0], ?_⟩
    rw [← h0]⟩, hh.2⟩

theorem rk_add2 (a b n : Int) (w : World) (ha : -9223372036854775808 ≤ a ∧ a ≤ 9223372036854775807) (hb : -9223372036854775808 ≤ b ∧ b ≤ 9223372036854775807) (h : a + b = n)
    (hn : -9223372036854775808 ≤ n ∧ n ≤ 9223372036854775807) :
    Calls Tryd.prog 7 #[.string { data := #[43] }, .int .i64 a, .int .i64 b] w fun e w' => e = .returned (.tuple #[.int .i64 n, .nilIface]) ∧ w' = w := by
  subst h; exact rk_add a b w ha hb hn
theorem rk_sub2 (a b n : Int) (w : World) (ha : -9223372036854775808 ≤ a ∧ a ≤ 9223372036854775807) (hb : -9223372036854775808 ≤ b ∧ b ≤ 9223372036854775807) (h : a - b = n)
    (hn : -9223372036854775808 ≤ n ∧ n ≤ 9223372036854775807) :
    Calls Tryd.prog 7 #[.string { data := #[45] }, .int .i64 a, .int .i64 b] w fun e w' => e = .returned (.tuple #[.int .i64 n, .nilIface]) ∧ w' = w := by
  subst h; exact rk_sub a b w ha hb hn
theorem rk_mul2 (a b n : Int) (w : World) (ha : -9223372036854775808 ≤ a ∧ a ≤ 9223372036854775807) (hb : -9223372036854775808 ≤ b ∧ b ≤ 9223372036854775807) (h : a * b = n)
    (hn : -9223372036854775808 ≤ n ∧ n ≤ 9223372036854775807) :
    Calls Tryd.prog 7 #[.string { data := #[42] }, .int .i64 a, .int .i64 b] w fun e w' => e = .returned (.tuple #[.int .i64 n, .nilIface]) ∧ w' = w := by
  subst h; exact rk_mul a b w ha hb hn
theorem add_gen (x y : Int) (w : World) (hx : -9223372036854775808 ≤ x ∧ x ≤ 9223372036854775807) (hy : -9223372036854775808 ≤ y ∧ y ≤ 9223372036854775807) :
    Calls Tryd.prog 7 #[.string { data := #[43] }, .int .i64 x, .int .i64 y] w fun e w' => (∃ (n : Int) (er : Value) (b : Bool), e = .returned (.tuple #[.int .i64 n, er]) ∧ IsErr er b ∧ Hid (b = true → er = .nilIface ∧ n - y = x ∧ -9223372036854775808 ≤ n ∧ n ≤ 9223372036854775807)) ∧ w' = w := by
  by_cases h : -9223372036854775808 ≤ x + y ∧ x + y ≤ 9223372036854775807
  · exact (rk_add x y w hx hy h).mono fun e w' hh => ⟨⟨_, _, _, hh.1, isErr_nil, fun _ => ⟨rfl, by omega, h.1, h.2⟩⟩, hh.2⟩
  · exact (rk_addx x y w hx hy h).mono fun e w' hh => ⟨⟨_, _, _, hh.1, isErr_some _ _, fun e => by cases e⟩, hh.2⟩
theorem div_gen (x y : Int) (w : World) (hx : -9223372036854775808 ≤ x ∧ x ≤ 9223372036854775807) (hy : -9223372036854775808 ≤ y ∧ y ≤ 9223372036854775807) :
    Calls Tryd.prog 7 #[.string { data := #[47] }, .int .i64 x, .int .i64 y] w fun e w' => (∃ (q : Int) (er : Value) (b : Bool), e = .returned (.tuple #[.int .i64 q, er]) ∧ IsErr er b ∧ Hid (b = true → er = .nilIface ∧ q = x.tdiv y ∧ y ≠ 0 ∧ ¬ (x = -9223372036854775808 ∧ y = -1))) ∧ w' = w := by
  by_cases h0 : y = 0
  · exact (rk_divx x y w hx hy (Or.inl h0)).mono fun e w' hh => ⟨⟨_, _, _, hh.1, isErr_some _ _, fun e => by cases e⟩, hh.2⟩
  · by_cases hm : x = -9223372036854775808 ∧ y = -1
    · exact (rk_divx x y w hx hy (Or.inr hm)).mono fun e w' hh => ⟨⟨_, _, _, hh.1, isErr_some _ _, fun e => by cases e⟩, hh.2⟩
    · exact (rk_div x y w hx hy h0 hm).mono fun e w' hh => ⟨⟨_, _, _, hh.1, isErr_nil, fun _ => ⟨rfl, rfl, h0, hm⟩⟩, hh.2⟩
theorem rem_gen (x y : Int) (w : World) (hx : -9223372036854775808 ≤ x ∧ x ≤ 9223372036854775807) (hy : -9223372036854775808 ≤ y ∧ y ≤ 9223372036854775807) :
    Calls Tryd.prog 7 #[.string { data := #[37] }, .int .i64 x, .int .i64 y] w fun e w' => (∃ (r : Int) (er : Value), e = .returned (.tuple #[.int .i64 r, er]) ∧ Hid (y ≠ 0 → er = .nilIface ∧ r = x.tmod y)) ∧ w' = w := by
  by_cases h0 : y = 0
  · subst h0
    exact (rk_remx x w hx).mono fun e w' hh => ⟨⟨_, _, hh.1, fun e => absurd rfl e⟩, hh.2⟩
  · exact (rk_rem x y w hx hy h0).mono fun e w' hh => ⟨⟨_, _, hh.1, fun _ => ⟨rfl, rfl⟩⟩, hh.2⟩
theorem quo_bd (x y : Int) (hx : -9223372036854775808 ≤ x ∧ x ≤ 9223372036854775807) : (-9223372036854775808 ≤ x.tdiv y * y ∧ x.tdiv y * y ≤ 9223372036854775807) ∧ x.tdiv y * y + x.tmod y = x ∧ (-9223372036854775808 ≤ x.tmod y ∧ x.tmod y ≤ 9223372036854775807) := by
  have h1 := Int.mul_tdiv_add_tmod x y
  rw [Int.mul_comm] at h1
  have h2 : (x.tmod y).natAbs ≤ x.natAbs := by rw [Int.natAbs_tmod]; exact Nat.mod_le _ _
  have h3 : 0 ≤ x → 0 ≤ x.tmod y := fun h => Int.tmod_nonneg y h
  have h4 : x ≤ 0 → x.tmod y ≤ 0 := fun h => by
    have := Int.tmod_nonneg y (a := -x) (by omega)
    rw [Int.neg_tmod] at this
    omega
  omega
theorem compare_gen (t n : Int) (s : ByteArray) (t' n' : Int) (s' : ByteArray) (w : World) (hs : s.size ≤ maxLen) (hs' : s'.size ≤ maxLen) :
    Calls Tryd.prog 8 #[.agg #[.int .i64 t, .int .i64 n, .string s], .agg #[.int .i64 t', .int .i64 n', .string s']] w fun e w' => (∃ (i : Int) (er : Value) (b : Bool), e = .returned (.tuple #[.int .i64 i, er]) ∧ IsErr er b ∧ -1 ≤ i ∧ i ≤ 1 ∧ Hid (b = true → er = .nilIface ∧ cmpE t n s.data.toList t' n' s'.data.toList = 0 ∧ i = cmpN t n s.data.toList t' n' s'.data.toList)) ∧ Below w.heap.size w w' :=
  (compare_any t n s t' n' s' w hs hs').mono fun e w' hh => ⟨⟨_, _, _, hh.1, isErr_errV _, (cmpN_bd _ _ _ _ _ _).1, (cmpN_bd _ _ _ _ _ _).2, fun h => by
    have h0 := of_decide_eq_true h
    exact ⟨by rw [errV, if_pos h0], h0, rfl⟩⟩, hh.2⟩
theorem boxes {ta na : Int} {sa : ByteArray} {tb nb : Int} {sb : ByteArray} {tc nc : Int} {sc : ByteArray} {w wk : World}
    (h : Below (((w.alloc (.cells #[.int .i64 ta, .int .i64 na, .string sa] 23)).alloc (.cells #[.int .i64 tb, .int .i64 nb, .string sb] 23)).alloc (.cells #[.int .i64 tc, .int .i64 nc, .string sc] 23)).heap.size (((w.alloc (.cells #[.int .i64 ta, .int .i64 na, .string sa] 23)).alloc (.cells #[.int .i64 tb, .int .i64 nb, .string sb] 23)).alloc (.cells #[.int .i64 tc, .int .i64 nc, .string sc] 23)) wk) :
    w.heap.size < wk.heap.size ∧ w.heap.size + 1 < wk.heap.size ∧ w.heap.size + 1 + 1 < wk.heap.size ∧ wk.cell? ⟨w.heap.size, 0, none⟩ = some (.int .i64 ta) ∧ wk.cell? ⟨w.heap.size, 1, none⟩ = some (.int .i64 na) ∧ wk.cell? ⟨w.heap.size, 2, none⟩ = some (.string sa) ∧ wk.cell? ⟨w.heap.size + 1, 0, none⟩ = some (.int .i64 tb) ∧ wk.cell? ⟨w.heap.size + 1, 1, none⟩ = some (.int .i64 nb) ∧ wk.cell? ⟨w.heap.size + 1, 2, none⟩ = some (.string sb) ∧ wk.cell? ⟨w.heap.size + 1 + 1, 0, none⟩ = some (.int .i64 tc) ∧ wk.cell? ⟨w.heap.size + 1 + 1, 1, none⟩ = some (.int .i64 nc) ∧ wk.cell? ⟨w.heap.size + 1 + 1, 2, none⟩ = some (.string sc) := by
  have hz := h.size
  simp at hz
  refine ⟨by omega, by omega, by omega, ?_, ?_, ?_, ?_, ?_, ?_, ?_, ?_, ?_⟩
  all_goals rw [h.cell (by first | (simp; done) | (simp; omega))]
  · rw [World.cell?_alloc_lt _ _ _ (by first | (simp; done) | (simp; omega)), World.cell?_alloc_lt _ _ _ (by simp), World.cell?_alloc_at _ _ _ _ rfl]; rfl
  · rw [World.cell?_alloc_lt _ _ _ (by first | (simp; done) | (simp; omega)), World.cell?_alloc_lt _ _ _ (by simp), World.cell?_alloc_at _ _ _ _ rfl]; rfl
  · rw [World.cell?_alloc_lt _ _ _ (by first | (simp; done) | (simp; omega)), World.cell?_alloc_lt _ _ _ (by simp), World.cell?_alloc_at _ _ _ _ rfl]; rfl
  · rw [World.cell?_alloc_lt _ _ _ (by simp), World.cell?_alloc_at _ _ _ _ (by simp)]; rfl
  · rw [World.cell?_alloc_lt _ _ _ (by simp), World.cell?_alloc_at _ _ _ _ (by simp)]; rfl
  · rw [World.cell?_alloc_lt _ _ _ (by simp), World.cell?_alloc_at _ _ _ _ (by simp)]; rfl
  · rw [World.cell?_alloc_at _ _ _ _ (by simp)]; rfl
  · rw [World.cell?_alloc_at _ _ _ _ (by simp)]; rfl
  · rw [World.cell?_alloc_at _ _ _ _ (by simp)]; rfl
set_option maxHeartbeats 4000000 in
set_option maxRecDepth 100000 in
theorem back (ta na : Int) (sa : ByteArray) (tb nb : Int) (sb : ByteArray) (tc nc : Int) (sc : ByteArray) (s : ByteArray) (x y : Int) (w : World)
    (hsa : sa.size ≤ maxLen) (hsb : sb.size ≤ maxLen) (hsc : sc.size ≤ maxLen) (hs : s.size ≤ 140737488355328)
    (hna : -9223372036854775808 ≤ na ∧ na ≤ 9223372036854775807) (hx : -9223372036854775808 ≤ x ∧ x ≤ 9223372036854775807) (hy : -9223372036854775808 ≤ y ∧ y ≤ 9223372036854775807) (henv : Env w) :
    Calls Tryd.prog 3 #[.agg #[.int .i64 ta, .int .i64 na, .string sa], .agg #[.int .i64 tb, .int .i64 nb, .string sb], .agg #[.int .i64 tc, .int .i64 nc, .string sc], .string s, .int .i64 x, .int .i64 y] w
      fun e w' => e = .returned (.bool true) ∧ Below w.heap.size w w' := by
  go_enter Tryd.func3, Tryd.ntmps3
  go_wp2_with fail
  have henv3 : Env (((w.alloc (.cells #[.int .i64 ta, .int .i64 na, .string sa] 23)).alloc (.cells #[.int .i64 tb, .int .i64 nb, .string sb] 23)).alloc (.cells #[.int .i64 tc, .int .i64 nc, .string sc] 23)) := ((henv.alloc _).alloc _).alloc _
  have hB3 : Below w.heap.size w (((w.alloc (.cells #[.int .i64 ta, .int .i64 na, .string sa] 23)).alloc (.cells #[.int .i64 tb, .int .i64 nb, .string sb] 23)).alloc (.cells #[.int .i64 tc, .int .i64 nc, .string sc] 23)) :=
    (((Below.refl _ _).alloc (Nat.le_refl _) _).alloc (by simp) _).alloc (by simp; omega) _
  refine (print_ok 3 0 ⟨#[105, 116, 39, 115]⟩ ⟨#[39, 105, 116, 39, 39, 115, 39]⟩ _ (by decide) (by decide) henv3 (by decide) (by decide)).mono ?_
  rintro e w1 ⟨rfl, b1⟩
  obtain ⟨hc1, hf1⟩ := bcell b1
  have hz1 := b1.size
  go_wp2_with fail
  refine (print_gen ta na sa _ hsa hna (henv3.on b1)).mono ?_
  rintro e w2 ⟨⟨tx, er, bb, rfl, hE, HX⟩, b2⟩
  have B2 := b1.trans (b2.mono hz1)
  have he1 := hE.eql
  have he2 := hE.geql
  clear hc1 hf1 b1 b2
  go_upto_if 58 with fail
  go_cut [15, 16, 17, 18] (fun _ _ _ _ wc => Below (((w.alloc (.cells #[.int .i64 ta, .int .i64 na, .string sa] 23)).alloc (.cells #[.int .i64 tb, .int .i64 nb, .string sb] 23)).alloc (.cells #[.int .i64 tc, .int .i64 nc, .string sc] 23)).heap.size (((w.alloc (.cells #[.int .i64 ta, .int .i64 na, .string sa] 23)).alloc (.cells #[.int .i64 tb, .int .i64 nb, .string sb] 23)).alloc (.cells #[.int .i64 tc, .int .i64 nc, .string sc] 23)) wc)
  case first => as_aux_lemma =>
    cases bb
    · go_wp2
      go_meet
      exact B2
    · obtain ⟨hn1, hk, hx1⟩ := HX.out rfl
      have HR : Hid (readV tx = (ta, na, sa.data.toList, 0)) := read_shown ta na sa.data.toList tx hna hk hx1
      have htx : tx.size ≤ 140737488355328 := shown_size hk hna hx1
      clear HX hk hx1
      go_wp2_with fail
      refine (parse_ok tx sa ta na _ htx (henv3.on B2) HR.out).mono ?_
      rintro e w3 ⟨rfl, b3⟩
      have B3 := B2.trans (b3.mono B2.size)
      obtain ⟨l0, l1, l2, a0, a1, a2, b0, b1, b2, c0, c1, c2⟩ := boxes B3
      go_wp2
      go_meet
      exact B3.alloc B3.size _
  case rest => as_aux_lemma =>
    clear HX he1 he2 hE B2
    have A1 : Below (((w.alloc (.cells #[.int .i64 ta, .int .i64 na, .string sa] 23)).alloc (.cells #[.int .i64 tb, .int .i64 nb, .string sb] 23)).alloc (.cells #[.int .i64 tc, .int .i64 nc, .string sc] 23)).heap.size (((w.alloc (.cells #[.int .i64 ta, .int .i64 na, .string sa] 23)).alloc (.cells #[.int .i64 tb, .int .i64 nb, .string sb] 23)).alloc (.cells #[.int .i64 tc, .int .i64 nc, .string sc] 23)) wc := hcut
    clear hcut
    go_wp2_with fail
    refine (parse_gen s _ hs (henv3.on A1)).mono ?_
    rintro e w3 ⟨⟨tv, nv, sv, er, bb, rfl, hE, HX⟩, b3⟩
    have B3 := A1.trans (b3.mono A1.size)
    have he1 := hE.eql
    have he2 := hE.geql
    have A2 := B3.alloc B3.size (.cells #[.int .i64 tv, .int .i64 nv, .string sv] 23)
    go_upto_if 77 with fail
    go_cut [16, 19, 20, 21] (fun _ _ _ _ wc => Below (((w.alloc (.cells #[.int .i64 ta, .int .i64 na, .string sa] 23)).alloc (.cells #[.int .i64 tb, .int .i64 nb, .string sb] 23)).alloc (.cells #[.int .i64 tc, .int .i64 nc, .string sc] 23)).heap.size (((w.alloc (.cells #[.int .i64 ta, .int .i64 na, .string sa] 23)).alloc (.cells #[.int .i64 tb, .int .i64 nb, .string sb] 23)).alloc (.cells #[.int .i64 tc, .int .i64 nc, .string sc] 23)) wc)
    case first => as_aux_lemma =>
      cases bb
      · go_wp2
        go_meet
        exact A2
      · obtain ⟨hn1, hr⟩ := HX.out rfl
        obtain ⟨hk, hsh, hl40, hnv1, hnv2⟩ := shown_read tv nv sv.data.toList s hr
        have HK : Hid (chk tv nv sv.data.toList = 0) := hk
        have hs2 : s = ⟨(shown tv nv sv.data.toList).toArray⟩ := by rw [hsh]
        have HS : Hid (s = ⟨(shown tv nv sv.data.toList).toArray⟩) := hs2
        clear hs2
        have hsv : sv.size ≤ maxLen := by unfold maxLen; simp at hl40; omega
        clear HX hk hsh hr hl40
        go_wp2_with fail
        refine (print_ok tv nv sv s _ hsv ⟨hnv1, hnv2⟩ (henv3.on A2) HK.out HS.out).mono ?_
        rintro e w4 ⟨rfl, b4⟩
        have B4 := A2.trans (b4.mono A2.size)
        go_wp2
        go_meet
        exact B4
    case rest => as_aux_lemma =>
      clear HX he1 he2 hE A1 A2 B3 b3
      have A3 : Below (((w.alloc (.cells #[.int .i64 ta, .int .i64 na, .string sa] 23)).alloc (.cells #[.int .i64 tb, .int .i64 nb, .string sb] 23)).alloc (.cells #[.int .i64 tc, .int .i64 nc, .string sc] 23)).heap.size (((w.alloc (.cells #[.int .i64 ta, .int .i64 na, .string sa] 23)).alloc (.cells #[.int .i64 tb, .int .i64 nb, .string sb] 23)).alloc (.cells #[.int .i64 tc, .int .i64 nc, .string sc] 23)) wc := hcut
      clear hcut
      go_wp2_with fail
      refine (add_gen x y _ hx hy).mono ?_
      rintro e w5 ⟨⟨n, er, bb, rfl, hE, HX⟩, rfl⟩
      have he1 := hE.eql
      have he2 := hE.geql
      go_upto_if 97 with fail
      go_cut [22, 23, 24, 25] (fun _ _ _ _ wc => Below (((w.alloc (.cells #[.int .i64 ta, .int .i64 na, .string sa] 23)).alloc (.cells #[.int .i64 tb, .int .i64 nb, .string sb] 23)).alloc (.cells #[.int .i64 tc, .int .i64 nc, .string sc] 23)).heap.size (((w.alloc (.cells #[.int .i64 ta, .int .i64 na, .string sa] 23)).alloc (.cells #[.int .i64 tb, .int .i64 nb, .string sb] 23)).alloc (.cells #[.int .i64 tc, .int .i64 nc, .string sc] 23)) wc)
      case first => as_aux_lemma =>
        cases bb
        · go_wp2
          go_meet
          exact A3
        · obtain ⟨hn1, hn2, hn3, hn4⟩ := HX.out rfl
          have HN : Hid (n - y = x) := hn2
          clear HX hn2
          go_wp2_with fail
          refine (rk_sub2 n y x _ ⟨hn3, hn4⟩ hy HN.out hx).mono ?_
          rintro e w4 ⟨rfl, rfl⟩
          go_wp2
          go_meet
          exact A3
      case rest => as_aux_lemma =>
        clear HX he1 he2 hE A3
        have A4 : Below (((w.alloc (.cells #[.int .i64 ta, .int .i64 na, .string sa] 23)).alloc (.cells #[.int .i64 tb, .int .i64 nb, .string sb] 23)).alloc (.cells #[.int .i64 tc, .int .i64 nc, .string sc] 23)).heap.size (((w.alloc (.cells #[.int .i64 ta, .int .i64 na, .string sa] 23)).alloc (.cells #[.int .i64 tb, .int .i64 nb, .string sb] 23)).alloc (.cells #[.int .i64 tc, .int .i64 nc, .string sc] 23)) wc := hcut
        clear hcut
        go_wp2_with fail
        refine (div_gen x y _ hx hy).mono ?_
        rintro e w5 ⟨⟨q, er, bb, rfl, hE, HX⟩, rfl⟩
        go_wp2_with fail
        refine (rem_gen x y _ hx hy).mono ?_
        rintro e w5 ⟨⟨r, er2, rfl, HR⟩, rfl⟩
        have he1 := hE.eql
        have he2 := hE.geql
        go_upto_if 124 with fail
        go_cut [23, 26, 27, 28, 29, 30, 31, 32] (fun _ _ _ _ _ _ _ _ wc => Below (((w.alloc (.cells #[.int .i64 ta, .int .i64 na, .string sa] 23)).alloc (.cells #[.int .i64 tb, .int .i64 nb, .string sb] 23)).alloc (.cells #[.int .i64 tc, .int .i64 nc, .string sc] 23)).heap.size (((w.alloc (.cells #[.int .i64 ta, .int .i64 na, .string sa] 23)).alloc (.cells #[.int .i64 tb, .int .i64 nb, .string sb] 23)).alloc (.cells #[.int .i64 tc, .int .i64 nc, .string sc] 23)) wc)
        case first => as_aux_lemma =>
          cases bb
          · go_wp2
            go_meet
            exact A4
          · obtain ⟨hn1, hn2, hn3, hn4⟩ := HX.out rfl
            obtain ⟨hr1, hr2⟩ := HR.out hn3
            obtain ⟨hq1, hq2, hq3⟩ := quo_bd x y hx
            have hq4 := tdiv_bd x y hx hn4
            rw [← hn2] at hq1 hq2 hq4
            rw [← hr2] at hq2 hq3
            have HQ : Hid (q * y + r = x) := hq2
            obtain ⟨m, hm⟩ : ∃ m, q * y = m := ⟨_, rfl⟩
            rw [hm] at hq1
            have HM : Hid (q * y = m) := hm
            clear HX HR hn2 hr2 hq2 hm
            subst hr1
            go_wp2_with fail
            refine (rk_mul2 q y m _ hq4 hy HM.out hq1).mono ?_
            rintro e w4 ⟨rfl, rfl⟩
            go_wp2_with fail
            refine (rk_add2 m r x _ hq1 hq3 (by rw [← HM.out]; exact HQ.out) hx).mono ?_
            rintro e w4 ⟨rfl, rfl⟩
            go_wp2
            go_meet
            exact A4
        case rest => as_aux_lemma =>
          clear HX he1 he2 hE A4 HR
          have A5 : Below (((w.alloc (.cells #[.int .i64 ta, .int .i64 na, .string sa] 23)).alloc (.cells #[.int .i64 tb, .int .i64 nb, .string sb] 23)).alloc (.cells #[.int .i64 tc, .int .i64 nc, .string sc] 23)).heap.size (((w.alloc (.cells #[.int .i64 ta, .int .i64 na, .string sa] 23)).alloc (.cells #[.int .i64 tb, .int .i64 nb, .string sb] 23)).alloc (.cells #[.int .i64 tc, .int .i64 nc, .string sc] 23)) wc := hcut
          clear hcut
          obtain ⟨l0, l1, l2, a0, a1, a2, b0, b1, b2, c0, c1, c2⟩ := boxes A5
          by_cases eab : cmpE ta na sa.data.toList tb nb sb.data.toList = 0
          · obtain ⟨hka, hkb, htt⟩ := cmpE_zero eab
            subst htt
            have eba := cmpE_swap eab
            obtain ⟨i, hi⟩ : ∃ i, cmpN ta na sa.data.toList ta nb sb.data.toList = i := ⟨_, rfl⟩
            obtain ⟨j, hj⟩ : ∃ j, cmpN ta nb sb.data.toList ta na sa.data.toList = j := ⟨_, rfl⟩
            have hneg := cmpN_neg eab
            have hzero := cmpN_zero eab
            have hbd := cmpN_bd ta nb sb.data.toList ta na sa.data.toList
            rw [hi] at hzero hneg
            rw [hj] at hneg hbd
            have hji : -j = i := hneg.symm
            have Hi : Hid (cmpN ta na sa.data.toList ta nb sb.data.toList = i) := hi
            have Hj : Hid (cmpN ta nb sb.data.toList ta na sa.data.toList = j) := hj
            have Eab : Hid (cmpE ta na sa.data.toList ta nb sb.data.toList = 0) := eab
            have Eba : Hid (cmpE ta nb sb.data.toList ta na sa.data.toList = 0) := eba
            have HZ : Hid (i = 0 ↔ na = nb ∧ sa.data.toList = sb.data.toList) := hzero
            have HJ : Hid (-j = i) := hji
            clear hi hj eab eba hneg hzero hka hkb hji
            go_wp2_with fail
            refine (compare_ok ta na sa ta nb sb _ hsa hsb i Hi.out Eab.out).mono ?_
            rintro e v1 ⟨rfl, d1⟩
            have D1 := A5.trans (d1.mono A5.size)
            clear d1 l0 l1 l2 a0 a1 a2 b0 b1 b2 c0 c1 c2
            obtain ⟨l0, l1, l2, a0, a1, a2, b0, b1, b2, c0, c1, c2⟩ := boxes D1
            go_wp2_with fail
            refine (compare_ok ta nb sb ta na sa _ hsb hsa j Hj.out Eba.out).mono ?_
            rintro e v2 ⟨rfl, d2⟩
            have D2 := D1.trans (d2.mono D1.size)
            clear d2 l0 l1 l2 a0 a1 a2 b0 b1 b2 c0 c1 c2
            obtain ⟨l0, l1, l2, a0, a1, a2, b0, b1, b2, c0, c1, c2⟩ := boxes D2
            go_wp2_with fail
            refine (compare_gen ta nb sb tc nc sc _ hsb hsc).mono ?_
            rintro e v3 ⟨⟨i3, x3, bb3, rfl, hE3, hl3, hu3, HX3⟩, d3⟩
            have D3 := D2.trans (d3.mono D2.size)
            clear d3 l0 l1 l2 a0 a1 a2 b0 b1 b2 c0 c1 c2
            obtain ⟨l0, l1, l2, a0, a1, a2, b0, b1, b2, c0, c1, c2⟩ := boxes D3
            go_wp2_with fail
            refine (compare_gen ta na sa tc nc sc _ hsa hsc).mono ?_
            rintro e v4 ⟨⟨i4, x4, bb4, rfl, hE4, hl4, hu4, HX4⟩, d4⟩
            have D4 := D3.trans (d4.mono D3.size)
            clear d4 l0 l1 l2 a0 a1 a2 b0 b1 b2 c0 c1 c2
            obtain ⟨l0, l1, l2, a0, a1, a2, b0, b1, b2, c0, c1, c2⟩ := boxes D4
            go_upto_region 30 with fail
            go_cut [195] (fun b wc => b = .bool false ∧ Below (((w.alloc (.cells #[.int .i64 ta, .int .i64 na, .string sa] 23)).alloc (.cells #[.int .i64 ta, .int .i64 nb, .string sb] 23)).alloc (.cells #[.int .i64 tc, .int .i64 nc, .string sc] 23)).heap.size (((w.alloc (.cells #[.int .i64 ta, .int .i64 na, .string sa] 23)).alloc (.cells #[.int .i64 ta, .int .i64 nb, .string sb] 23)).alloc (.cells #[.int .i64 tc, .int .i64 nc, .string sc] 23)) wc)
            case first => as_aux_lemma =>
              have hji := HJ.out
              by_cases hq : na = nb ∧ sa = sb
              · obtain ⟨rfl, rfl⟩ := hq
                have h0 : i = 0 := HZ.out.2 ⟨rfl, rfl⟩
                subst h0
                have hj0 : j = 0 := by omega
                subst hj0
                clear hji
                go_wp2
                go_meet
                exact ⟨rfl, D4⟩
              · have hne : i ≠ 0 := fun e => hq (by
                  obtain ⟨e1, e2⟩ := HZ.out.1 e
                  exact ⟨e1, by rw [eq_of_list e2]⟩)
                have hi0 : (i == 0) = false := by simpa using hne
                by_cases hn : na = nb
                · have hsn : ¬ sa.toList = sb.toList := by
                    rw [Lib.toList_data, Lib.toList_data]
                    exact fun e => hq ⟨hn, by rw [eq_of_list e]⟩
                  clear hq hne
                  subst hn
                  go_wp2
                  go_meet
                  exact ⟨rfl, D4⟩
                · clear hq hne
                  go_wp2
                  go_meet
                  exact ⟨rfl, D4⟩
            case rest => as_aux_lemma =>
              obtain ⟨rfl, A6⟩ := hcut
              have hfin := hB3.trans (A6.mono (by have := hB3.size; omega))
              cases bb3
              · have q1 := hE3.neq
                have q2 := hE3.gneq
                go_wp2
                go_ret
                exact ⟨rfl, hfin⟩
              · obtain ⟨rfl, e3, k3⟩ := HX3.out rfl
                cases bb4
                · have q1 := hE4.neq
                  have q2 := hE4.gneq
                  clear e3 k3
                  go_wp2
                  go_ret
                  exact ⟨rfl, hfin⟩
                · obtain ⟨rfl, e4, k4⟩ := HX4.out rfl
                  by_cases hi : 0 < i
                  · clear e3 k3 e4 k4
                    go_wp2
                    go_ret
                    exact ⟨rfl, hfin⟩
                  · by_cases hk : 0 < i3
                    · clear e3 k3 e4 k4
                      go_wp2
                      go_ret
                      exact ⟨rfl, hfin⟩
                    · have hl : i4 ≤ 0 := by
                        rw [k4]
                        exact cmpN_trans Eab.out e3 e4 (by rw [Hi.out]; omega) (by rw [← k3]; omega)
                      clear e3 k3 e4 k4
                      go_wp2
                      go_ret
                      exact ⟨rfl, hfin⟩
          · have Eab : Hid (cmpE ta na sa.data.toList tb nb sb.data.toList ≠ 0) := eab
            clear eab
            go_wp2_with fail
            refine (compare_bad ta na sa tb nb sb _ hsa hsb Eab.out).mono ?_
            rintro e v1 ⟨⟨i1, x1, rfl⟩, d1⟩
            have D1 := A5.trans (d1.mono A5.size)
            clear d1 l0 l1 l2 a0 a1 a2 b0 b1 b2 c0 c1 c2
            obtain ⟨l0, l1, l2, a0, a1, a2, b0, b1, b2, c0, c1, c2⟩ := boxes D1
            go_wp2_with fail
            refine (compare_some tb nb sb ta na sa _ hsb hsa).mono ?_
            rintro e v2 ⟨⟨i2, x2, rfl⟩, d2⟩
            have D2 := D1.trans (d2.mono D1.size)
            clear d2 l0 l1 l2 a0 a1 a2 b0 b1 b2 c0 c1 c2
            obtain ⟨l0, l1, l2, a0, a1, a2, b0, b1, b2, c0, c1, c2⟩ := boxes D2
            go_wp2_with fail
            refine (compare_some tb nb sb tc nc sc _ hsb hsc).mono ?_
            rintro e v3 ⟨⟨i3, x3, rfl⟩, d3⟩
            have D3 := D2.trans (d3.mono D2.size)
            clear d3 l0 l1 l2 a0 a1 a2 b0 b1 b2 c0 c1 c2
            obtain ⟨l0, l1, l2, a0, a1, a2, b0, b1, b2, c0, c1, c2⟩ := boxes D3
            go_wp2_with fail
            refine (compare_some ta na sa tc nc sc _ hsa hsc).mono ?_
            rintro e v4 ⟨⟨i4, x4, rfl⟩, d4⟩
            have D4 := D3.trans (d4.mono D3.size)
            clear d4 l0 l1 l2 a0 a1 a2 b0 b1 b2 c0 c1 c2
            obtain ⟨l0, l1, l2, a0, a1, a2, b0, b1, b2, c0, c1, c2⟩ := boxes D4
            go_wp2
            go_ret
            exact ⟨rfl, hB3.trans (D4.mono (by have := hB3.size; omega))⟩
end Go.Proofs.YtggabncpedcmdaaDoor
