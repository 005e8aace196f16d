/-
  What Compare of package val says of any two values: the first fault, or which is ahead; what was in memory stays.
-/
import Derived.Test.YtpgadbpkednjkaaGreatDoorVal1
namespace Go.Proofs.YtpgadbpkednjkaaGreatDoor
open Go.RowKit

theorem bytesLess_lt : ∀ (x y : List UInt8), Op.bytesLess x y = decide (x < y)
  | [], [] => by simp [Op.bytesLess]
  | _ :: _, [] => by simp [Op.bytesLess]
  | [], _ :: _ => by simp [Op.bytesLess]
  | a :: x, b :: y => by
    rw [Op.bytesLess, bytesLess_lt x y]
    simp only [List.cons_lt_cons_iff]
    by_cases h1 : a < b <;> by_cases h2 : a = b <;> by_cases h3 : x < y <;> simp [h1, h2, h3]

def cmpI (x y : Int) : Int := if x < y then -1 else if y < x then 1 else 0
def cmpS (x y : List UInt8) : Int := if x < y then -1 else if y < x then 1 else 0

theorem cmp_int (x y : Int) (w : World) : Calls Tryz.prog 162 #[.int .i64 x, .int .i64 y] w fun e w' => e = .returned (.int .i64 (cmpI x y)) ∧ w' = w := by
  have hx : (x != x) = false := by simp
  by_cases h1 : x < y
  · have hc : cmpI x y = -1 := by rw [cmpI, if_pos h1]
    rw [hc]
    go_enter Tryz.func162, Tryz.ntmps162
    go_wp2
    go_ret
    exact ⟨rfl, rfl⟩
  · by_cases h2 : y < x
    · have hc : cmpI x y = 1 := by rw [cmpI, if_neg h1, if_pos h2]
      rw [hc]
      go_enter Tryz.func162, Tryz.ntmps162
      go_wp2
      go_ret
      exact ⟨rfl, rfl⟩
    · have hc : cmpI x y = 0 := by rw [cmpI, if_neg h1, if_neg h2]
      rw [hc]
      go_enter Tryz.func162, Tryz.ntmps162
      go_wp2
      go_ret
      exact ⟨rfl, rfl⟩
theorem run_gtr_str (x y : ByteArray) (w : World) : Sem.run Tryz.prog (binOp .gtr 9 (.string x) (.string y)) w = .ok (.bool !(Op.bytesLess x.toList y.toList || x.toList == y.toList)) w := by
  simp [binOp, Op.stringOp]
theorem cmp_str (x y : ByteArray) (w : World) : Calls Tryz.prog 161 #[.string x, .string y] w fun e w' => e = .returned (.int .i64 (cmpS x.data.toList y.data.toList)) ∧ w' = w := by
  by_cases h1 : x.data.toList < y.data.toList
  · have hc : cmpS x.data.toList y.data.toList = -1 := by rw [cmpS, if_pos h1]
    have hl : Op.bytesLess x.toList y.toList = true := by rw [bytesLess_lt, Lib.toList_data, Lib.toList_data]; simpa using h1
    rw [hc]
    clear h1 hc
    go_enter Tryz.func161, Tryz.ntmps161
    go_wp2
    go_ret
    exact ⟨rfl, rfl⟩
  · have hl : Op.bytesLess x.toList y.toList = false := by rw [bytesLess_lt, Lib.toList_data, Lib.toList_data]; simpa using h1
    by_cases h2 : y.data.toList < x.data.toList
    · have hc : cmpS x.data.toList y.data.toList = 1 := by rw [cmpS, if_neg h1, if_pos h2]
      have hm : ¬ x.toList = y.toList := by rw [Lib.toList_data, Lib.toList_data]; intro e; rw [e] at h2; exact List.lt_irrefl _ h2
      have hq : (x.toList == y.toList) = false := by simpa using hm
      have hr := run_gtr_str x y w
      rw [hl, hq] at hr
      clear hm hq
      rw [hc]
      clear h1 h2 hc
      go_enter Tryz.func161, Tryz.ntmps161
      go_wp2
      go_ret
      exact ⟨rfl, rfl⟩
    · have hc : cmpS x.data.toList y.data.toList = 0 := by rw [cmpS, if_neg h1, if_neg h2]
      have hm : x.data.toList = y.data.toList := List.le_antisymm (List.not_lt.1 h2) (List.not_lt.1 h1)
      obtain rfl : x = y := by cases x; cases y; simp_all
      have hr := run_gtr_str x x w
      rw [hl, beq_self_eq_true] at hr
      rw [hc]
      clear h1 h2 hc
      go_enter Tryz.func161, Tryz.ntmps161
      go_wp2
      go_ret
      exact ⟨rfl, rfl⟩

theorem bcell {W w1 : World} (hb : Below W.heap.size W w1) : (∀ b o, b < W.heap.size → w1.cell? ⟨b, o, none⟩ = W.cell? ⟨b, o, none⟩) ∧ (∀ b o, b < W.heap.size → w1.frozen? ⟨b, o, none⟩ = W.frozen? ⟨b, o, none⟩) :=
  ⟨fun b o h => hb.cell (p := ⟨b, o, none⟩) h, fun b o h => hb.frozen (p := ⟨b, o, none⟩) h⟩
theorem check_ok (t n : Int) (s : ByteArray) (w : World) (hs : s.size ≤ maxLen) (h : chk t n s.data.toList = 0) :
    Calls Tryz.prog 47 #[.agg #[.int .i64 t, .int .i64 n, .string s]] w fun e w' => e = .returned .nilIface ∧ Below w.heap.size w w' :=
  (check_any t n s w hs).mono fun e w' hh => ⟨by rw [hh.1, h, errV, if_pos rfl], hh.2⟩
theorem check_bad (t n : Int) (s : ByteArray) (w : World) (hs : s.size ≤ maxLen) (h : chk t n s.data.toList ≠ 0) :
    Calls Tryz.prog 47 #[.agg #[.int .i64 t, .int .i64 n, .string s]] w fun e w' => e = .returned (.iface 29 (.int .i64 (chk t n s.data.toList))) ∧ Below w.heap.size w w' :=
  (check_any t n s w hs).mono fun e w' hh => ⟨by rw [hh.1, errV, if_neg h], hh.2⟩

def cmpE (t n : Int) (l : List UInt8) (t' n' : Int) (l' : List UInt8) : Int :=
  if chk t n l ≠ 0 then chk t n l else if chk t' n' l' ≠ 0 then chk t' n' l' else if t ≠ t' then 8 else 0
def cmpN (t n : Int) (l : List UInt8) (t' n' : Int) (l' : List UInt8) : Int :=
  if cmpE t n l t' n' l' ≠ 0 then 0 else if t = 3 then cmpS l l' else cmpI n n'
theorem cmp_ret {a b j : Int} {x : Value} (ha : a = b) (hx : x = errV j) : Ending.returned (.tuple #[.int .i64 a, x]) = .returned (.tuple #[.int .i64 b, errV j]) := by rw [ha, hx]

set_option maxHeartbeats 1000000 in
theorem compare_any (t n : Int) (s : ByteArray) (t' n' : Int) (s' : ByteArray) (w : World) (hs : s.size ≤ maxLen) (hs' : s'.size ≤ maxLen) :
    Calls Tryz.prog 134 #[.agg #[.int .i64 t, .int .i64 n, .string s], .agg #[.int .i64 t', .int .i64 n', .string s']] w fun e w' => e = .returned (.tuple #[.int .i64 (cmpN t n s.data.toList t' n' s'.data.toList), errV (cmpE t n s.data.toList t' n' s'.data.toList)]) ∧ Below w.heap.size w w' := by
  by_cases h1 : chk t n s.data.toList = 0
  · by_cases h2 : chk t' n' s'.data.toList = 0
    · have H1 : Hid (chk t n s.data.toList = 0) := h1
      have H2 : Hid (chk t' n' s'.data.toList = 0) := h2
      have HE : Hid (cmpE t n s.data.toList t' n' s'.data.toList = if t ≠ t' then 8 else 0) := by rw [cmpE, if_neg (by simp [h1]), if_neg (by simp [h2])]; exact rfl
      clear h1 h2
      go_enter Tryz.func134, Tryz.ntmps134
      go_wp2_with fail
      refine (check_ok _ _ _ _ hs H1.out).mono ?_
      rintro e w1 ⟨rfl, b1⟩
      obtain ⟨hc, hf⟩ := bcell b1
      have hz : w.heap.size + 1 < w1.heap.size := by have := b1.size; simp at this; omega
      have hy : w.heap.size < w1.heap.size := by omega
      go_wp2_with fail
      refine (check_ok _ _ _ _ hs' H2.out).mono ?_
      rintro e w2 ⟨rfl, b2⟩
      obtain ⟨hc2, hf2⟩ := bcell b2
      have hz2 : w.heap.size + 1 < w2.heap.size := by have := b2.size; omega
      by_cases ht : t = t'
      · subst ht
        have hE : cmpE t n s.data.toList t n' s'.data.toList = 0 := by rw [HE.out, if_neg (by simp)]
        by_cases h3 : t = 3
        · subst h3
          have HN : Hid (cmpN 3 n s.data.toList 3 n' s'.data.toList = cmpS s.data.toList s'.data.toList) := by rw [cmpN, if_neg (by simp [hE]), if_pos rfl]; exact rfl
          have HE2 : Hid (cmpE 3 n s.data.toList 3 n' s'.data.toList = 0) := hE
          clear hE HE
          go_wp2_with fail
          refine (cmp_str s s' _).mono ?_
          rintro e w3 ⟨rfl, rfl⟩
          go_wp2
          go_ret2
          refine ⟨cmp_ret HN.out.symm (by rw [HE2.out, errV, if_pos rfl]; rfl), ?_⟩
          exact (((Below.refl _ _).alloc (Nat.le_refl _) _).alloc (by simp) _).trans ((b1.mono (by simp; omega)).trans (b2.mono (by omega)))
        · have HN : Hid (cmpN t n s.data.toList t n' s'.data.toList = cmpI n n') := by rw [cmpN, if_neg (by simp [hE]), if_neg h3]; exact rfl
          have HE2 : Hid (cmpE t n s.data.toList t n' s'.data.toList = 0) := hE
          clear hE HE
          have e3 : (t == 3) = false := by simpa using h3
          go_wp2_with fail
          refine (cmp_int n n' _).mono ?_
          rintro e w3 ⟨rfl, rfl⟩
          go_wp2
          go_ret2
          refine ⟨cmp_ret HN.out.symm (by rw [HE2.out, errV, if_pos rfl]; rfl), ?_⟩
          exact (((Below.refl _ _).alloc (Nat.le_refl _) _).alloc (by simp) _).trans ((b1.mono (by simp; omega)).trans (b2.mono (by omega)))
      · have hE : cmpE t n s.data.toList t' n' s'.data.toList = 8 := by rw [HE.out, if_pos ht]
        have HN : Hid (cmpN t n s.data.toList t' n' s'.data.toList = 0) := by rw [cmpN, if_pos (by rw [hE]; decide)]; exact rfl
        have HE2 : Hid (cmpE t n s.data.toList t' n' s'.data.toList = 8) := hE
        clear hE HE
        have et : (t != t') = true := by simpa using ht
        go_wp2
        go_ret2
        refine ⟨cmp_ret HN.out.symm (by rw [HE2.out, errV, if_neg (by decide)]; rfl), ?_⟩
        exact (((Below.refl _ _).alloc (Nat.le_refl _) _).alloc (by simp) _).trans ((b1.mono (by simp; omega)).trans (b2.mono (by omega)))
    · have H1 : Hid (chk t n s.data.toList = 0) := h1
      have H2 : Hid (chk t' n' s'.data.toList ≠ 0) := h2
      have HE : Hid (cmpE t n s.data.toList t' n' s'.data.toList = chk t' n' s'.data.toList) := by rw [cmpE, if_neg (by simp [h1]), if_pos h2]; exact rfl
      clear h1 h2
      go_enter Tryz.func134, Tryz.ntmps134
      go_wp2_with fail
      refine (check_ok _ _ _ _ hs H1.out).mono ?_
      rintro e w1 ⟨rfl, b1⟩
      obtain ⟨hc, hf⟩ := bcell b1
      have hz : w.heap.size + 1 < w1.heap.size := by have := b1.size; simp at this; omega
      have hy : w.heap.size < w1.heap.size := by omega
      go_wp2_with fail
      refine (check_bad _ _ _ _ hs' H2.out).mono ?_
      rintro e w2 ⟨rfl, b2⟩
      go_wp2
      go_ret2
      refine ⟨?_, ?_⟩
      · have hE := HE.out
        refine cmp_ret ?_ ?_
        · rw [cmpN, if_pos (by rw [hE]; exact H2.out)]
        · rw [hE, errV, if_neg H2.out]; rfl
      · exact (((Below.refl _ _).alloc (Nat.le_refl _) _).alloc (by simp) _).trans ((b1.mono (by simp; omega)).trans (b2.mono (by omega)))
  · have H1 : Hid (chk t n s.data.toList ≠ 0) := h1
    have HE : Hid (cmpE t n s.data.toList t' n' s'.data.toList = chk t n s.data.toList) := by rw [cmpE, if_pos h1]; exact rfl
    clear h1
    go_enter Tryz.func134, Tryz.ntmps134
    go_wp2_with fail
    refine (check_bad _ _ _ _ hs H1.out).mono ?_
    rintro e w1 ⟨rfl, b1⟩
    go_wp2
    go_ret2
    refine ⟨?_, ?_⟩
    · have hE := HE.out
      refine cmp_ret ?_ ?_
      · rw [cmpN, if_pos (by rw [hE]; exact H1.out)]
      · rw [hE, errV, if_neg H1.out]; rfl
    · exact (((Below.refl _ _).alloc (Nat.le_refl _) _).alloc (by simp) _).trans (b1.mono (by simp; omega))
end Go.Proofs.YtpgadbpkednjkaaGreatDoor
