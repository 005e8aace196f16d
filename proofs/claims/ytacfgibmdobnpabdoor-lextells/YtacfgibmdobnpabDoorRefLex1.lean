/-
  Plain facts behind the document's Tokens (package sluiceref1), and its letter and digit.
-/
import Derived.Test.YtacfgibmdobnpabDoorLex5
import Derived.Test.YtacfgibmdobnpabDoorRef4
namespace Go.Proofs.YtacfgibmdobnpabDoor
open Go.RowKit
set_option linter.unusedVariables false

theorem refLetter_any (c : UInt8) (w : World) : Calls Tryd.prog 15 #[.int .u8 (c.toNat : Int)] w fun e w' => e = .returned (.bool (letB c)) ∧ w' = w := by
  obtain ⟨B, hB⟩ : ∃ B, letB c = B := ⟨_, rfl⟩
  have HB : Hid (letB c = B) := hB
  rw [hB]
  clear hB
  go_enter Tryd.func15, Tryd.ntmps15
  go_wp2
  all_goals
    go_ret
    refine ⟨ret_bool ?_, rfl⟩
    rw [← HB.out, letB]
    simp
    try omega
theorem refDigit_any (c : UInt8) (w : World) : Calls Tryd.prog 16 #[.int .u8 (c.toNat : Int)] w fun e w' => e = .returned (.bool (digB c)) ∧ w' = w := by
  obtain ⟨B, hB⟩ : ∃ B, digB c = B := ⟨_, rfl⟩
  have HB : Hid (digB c = B) := hB
  rw [hB]
  clear hB
  go_enter Tryd.func16, Tryd.ntmps16
  go_wp2
  all_goals
    go_ret
    refine ⟨ret_bool ?_, rfl⟩
    rw [← HB.out, digB]
    simp
    try omega
/-- A text of digits without a needless 0 ahead is a number just if it is not too great. -/
theorem numL_dig {t : List UInt8} (hne : t ≠ []) (ha : t.all digB = true) (hz : ¬ (1 < t.length ∧ t.head? = some 48)) : numL t = if 9223372036854775807 < val10 t then none else some (val10 t) := by
  have hl0 : t.length ≠ 0 := fun e => hne (List.length_eq_zero_iff.1 e)
  by_cases h19 : 19 < t.length
  · have hd := dec_val (t.length - 1) t (by omega) ha (fun r e => Classical.byContradiction fun hr => hz ⟨by rw [e]; cases r with | nil => exact absurd rfl hr | cons _ _ => simp, by rw [e]; rfl⟩)
    have hbig : 9223372036854775807 < val10 t := by
      rcases Nat.lt_or_ge (val10 t) (10 ^ (18 + 1)) with h | h
      · have h2 := nd_le 18 (val10 t) h
        have h3 : (Lib.decDigits (val10 t)).length = t.length := by rw [hd]
        rw [Lib.decDigits_length] at h3
        omega
      · omega
    rw [numL, if_pos (Or.inr (Or.inr h19)), if_pos hbig]
  · rw [numL, if_neg, if_pos ha]
    rintro (e | e | e)
    · exact hne e
    · exact hz ⟨e.2, e.1⟩
    · exact h19 e
theorem tok_word {s : ByteArray} {a : Nat} (h : a < s.size) (hl : letB s[a] = true) : tokAt (s.data.toList.drop a) = (1, goN ldB (s.data.toList.drop a), 0) := by
  rw [drop_cons s a h, tokAt, if_pos hl]
theorem tok_num {s : ByteArray} {a : Nat} (h : a < s.size) (hl : letB s[a] = false) (hd : digB s[a] = true) : tokAt (s.data.toList.drop a) = (2, numTok (s.data.toList.drop a)) := by
  rw [drop_cons s a h, tokAt, if_neg (by rw [hl]; decide), if_pos hd]
theorem tok_quo {s : ByteArray} {a : Nat} (h : a < s.size) (hq : s[a] = 39) : tokAt (s.data.toList.drop a) = (3, quoTok (s.data.toList.drop (a + 1))) := by
  rw [drop_cons s a h, tokAt, hq, if_neg (by decide), if_neg (by decide), if_pos rfl]
theorem tok_sig {s : ByteArray} {a : Nat} (h : a < s.size) (hl : letB s[a] = false) (hd : digB s[a] = false) (hq : s[a] ≠ 39) : tokAt (s.data.toList.drop a) = (4, sgN signsL (s.data.toList.drop a), if sgN signsL (s.data.toList.drop a) = 0 then 2 else 0) := by
  rw [drop_cons s a h, tokAt, if_neg (by rw [hl]; decide), if_neg (by rw [hd]; decide), if_neg hq]
theorem goD_step {p : UInt8 → Bool} {s : ByteArray} {a m N : Nat} (h : a + m < s.size) (hp : p s[a + m] = true) (hE : N = m + goN p (s.data.toList.drop (a + m))) : N = m + 1 + goN p (s.data.toList.drop (a + (m + 1))) := by
  rw [hE, drop_cons s (a + m) h, goN_yes _ hp, Nat.add_assoc a m 1]; omega
theorem goD_here {p : UInt8 → Bool} {s : ByteArray} {a m N : Nat} (h : a + m < s.size) (hp : p s[a + m] = false) (hE : N = m + goN p (s.data.toList.drop (a + m))) : N = m := by
  rw [hE, drop_cons s (a + m) h, goN_no _ hp]; rfl
theorem goD_out {p : UInt8 → Bool} {s : ByteArray} {a m N : Nat} (h : s.size ≤ a + m) (hE : N = m + goN p (s.data.toList.drop (a + m))) : N = m := by
  rw [hE, List.drop_eq_nil_of_le (by simp; omega)]; rfl
theorem opt_map_map (o : Option Nat) (x y : Nat) : (o.map (· + x)).map (· + y) = o.map (· + (y + x)) := by
  cases o
  · rfl
  · simp; omega
theorem q_in {s : ByteArray} {b m : Nat} {o : Option Nat} (h : b + m < s.size) (hc : s[b + m] ≠ 39) (ho : o = (qscan (s.data.toList.drop (b + m))).map (· + m)) : o = (qscan (s.data.toList.drop (b + (m + 1)))).map (· + (m + 1)) := by
  rw [ho, drop_cons s (b + m) h, qscan_ne _ _ hc, opt_map_map]; rfl
theorem q_two {s : ByteArray} {b m : Nat} {o : Option Nat} (h : b + m + 1 < s.size) (hc : s[b + m] = 39) (hd : s[b + m + 1] = 39) (ho : o = (qscan (s.data.toList.drop (b + m))).map (· + m)) : o = (qscan (s.data.toList.drop (b + (m + 2)))).map (· + (m + 2)) := by
  rw [ho, drop_cons s (b + m) (by omega), drop_cons s (b + m + 1) h, hc, hd, qscan_two, opt_map_map]; rfl
theorem q_end {s : ByteArray} {b m : Nat} {o : Option Nat} (h : b + m < s.size) (hc : s[b + m] = 39) (hd : ∀ h2 : b + m + 1 < s.size, s[b + m + 1] ≠ 39) (ho : o = (qscan (s.data.toList.drop (b + m))).map (· + m)) : o = some (m + 1) := by
  rw [ho, drop_cons s (b + m) h, hc, qscan_end]
  · simp; omega
  · by_cases h2 : b + m + 1 < s.size
    · rw [drop_cons s (b + m + 1) h2]; simpa using hd h2
    · rw [List.drop_eq_nil_of_le (by simp; omega)]; simp
theorem q_out {s : ByteArray} {b m : Nat} {o : Option Nat} (h : s.size ≤ b + m) (ho : o = (qscan (s.data.toList.drop (b + m))).map (· + m)) : o = none := by
  rw [ho, List.drop_eq_nil_of_le (by simp; omega)]; rfl
/-- The bytes that are signs by themselves. -/
def oneS : List UInt8 := [40, 41, 44, 43, 45, 42, 47, 37, 61, 60, 62]
theorem sg_lt_gt (r : List UInt8) : sgN signsL (60 :: 62 :: r) = 2 := by simp [signsL, sgN, Lib.hasPrefix, List.isPrefixOf]
theorem sg_lt_eq (r : List UInt8) : sgN signsL (60 :: 61 :: r) = 2 := by simp [signsL, sgN, Lib.hasPrefix, List.isPrefixOf]
theorem sg_gt_eq (r : List UInt8) : sgN signsL (62 :: 61 :: r) = 2 := by simp [signsL, sgN, Lib.hasPrefix, List.isPrefixOf]
/-- Does a sign of two bytes begin so? -/
def twoB (c : UInt8) (r : List UInt8) : Bool := (c == 60 && (hdB (· == 62) r || hdB (· == 61) r)) || (c == 62 && hdB (· == 61) r)
theorem sg_two {c : UInt8} {r : List UInt8} (h : twoB c r = true) : sgN signsL (c :: r) = 2 := by
  cases r with
  | nil => simp [twoB, hdB] at h
  | cons d r =>
    simp [twoB, hdB] at h
    rcases h with ⟨rfl, rfl | rfl⟩ | ⟨rfl, rfl⟩
    · exact sg_lt_gt r
    · exact sg_lt_eq r
    · exact sg_gt_eq r
theorem sg_one {c : UInt8} {r : List UInt8} (h : twoB c r = false) (hm : oneS.any (· == c) = true) : sgN signsL (c :: r) = 1 := by
  simp [oneS] at hm
  cases r with
  | nil => rcases hm with rfl | rfl | rfl | rfl | rfl | rfl | rfl | rfl | rfl | rfl | rfl <;> simp [signsL, sgN, Lib.hasPrefix, List.isPrefixOf]
  | cons d r =>
    have h60 : c = 60 → d ≠ 62 ∧ d ≠ 61 := fun e => by
      subst e
      constructor
      · rintro rfl; simp [twoB, hdB] at h
      · rintro rfl; simp [twoB, hdB] at h
    have h62 : c = 62 → d ≠ 61 := fun e => by
      subst e
      rintro rfl; simp [twoB, hdB] at h
    clear h
    rcases hm with rfl | rfl | rfl | rfl | rfl | rfl | rfl | rfl | rfl | rfl | rfl
    case inr.inr.inr.inr.inr.inr.inr.inr.inr.inl =>
      obtain ⟨e1, e2⟩ := h60 rfl
      have f1 : ¬ (62 : UInt8) = d := fun e => e1 e.symm
      have f2 : ¬ (61 : UInt8) = d := fun e => e2 e.symm
      simp [signsL, sgN, Lib.hasPrefix, List.isPrefixOf, f1, f2]
    case inr.inr.inr.inr.inr.inr.inr.inr.inr.inr =>
      have f2 : ¬ (61 : UInt8) = d := fun e => h62 rfl e.symm
      simp [signsL, sgN, Lib.hasPrefix, List.isPrefixOf, f2]
    all_goals simp [signsL, sgN, Lib.hasPrefix, List.isPrefixOf]
theorem sg_none {c : UInt8} {r : List UInt8} (hm : oneS.any (· == c) = false) : sgN signsL (c :: r) = 0 := by
  simp [oneS] at hm
  obtain ⟨h1, h2, h3, h4, h5, h6, h7, h8, h9, h10, h11⟩ := hm
  simp [signsL, sgN, Lib.hasPrefix, List.isPrefixOf, h1, h2, h3, h4, h5, h6, h7, h8, h9, h10, h11]
theorem any_take {c : UInt8} {k : Nat} (h : k < oneS.length) : (oneS.take (k + 1)).any (· == c) = ((oneS.take k).any (· == c) || oneS[k] == c) := by
  rw [List.take_succ_eq_append_getElem h, List.any_append]
  simp only [List.any_cons, List.any_nil, Bool.or_false]
theorem one_at (k : Nat) (hk : k < 11) : ∃ V : UInt8, (∀ W : World, Sem.run Tryd.prog (Instr.index 9 (.string ⟨#[40, 41, 44, 43, 45, 42, 47, 37, 61, 60, 62]⟩) (.int .i64 (k : Int))) W = .ok (.int .u8 (V.toNat : Int)) W) ∧ oneS[k]'hk = V := by
  have h : k = 0 ∨ k = 1 ∨ k = 2 ∨ k = 3 ∨ k = 4 ∨ k = 5 ∨ k = 6 ∨ k = 7 ∨ k = 8 ∨ k = 9 ∨ k = 10 := by omega
  rcases h with rfl | rfl | rfl | rfl | rfl | rfl | rfl | rfl | rfl | rfl | rfl
  · exact ⟨40, fun W => by kernel_rfl, rfl⟩
  · exact ⟨41, fun W => by kernel_rfl, rfl⟩
  · exact ⟨44, fun W => by kernel_rfl, rfl⟩
  · exact ⟨43, fun W => by kernel_rfl, rfl⟩
  · exact ⟨45, fun W => by kernel_rfl, rfl⟩
  · exact ⟨42, fun W => by kernel_rfl, rfl⟩
  · exact ⟨47, fun W => by kernel_rfl, rfl⟩
  · exact ⟨37, fun W => by kernel_rfl, rfl⟩
  · exact ⟨61, fun W => by kernel_rfl, rfl⟩
  · exact ⟨60, fun W => by kernel_rfl, rfl⟩
  · exact ⟨62, fun W => by kernel_rfl, rfl⟩
theorem u8_eq {c d : UInt8} : ((c.toNat : Int) == (d.toNat : Int)) = (d == c) := by
  by_cases h : c = d
  · subst h; simp
  · have h1 : ((c.toNat : Int) == (d.toNat : Int)) = false := by
      rw [beq_eq_false_iff_ne]
      intro e
      exact h (UInt8.toNat_inj.1 (by omega))
    have h2 : (d == c) = false := by rw [beq_eq_false_iff_ne]; exact fun e => h e.symm
    rw [h1, h2]
theorem u8_num {c : UInt8} (n : Nat) (hn : n < 256) : ((c.toNat : Int) == (n : Int)) = (c == UInt8.ofNat n) := by
  have e : (UInt8.ofNat n).toNat = n := by simp; omega
  have := u8_eq (c := c) (d := UInt8.ofNat n)
  rw [e] at this
  rw [this, BEq.comm]
end Go.Proofs.YtacfgibmdobnpabDoor
