/-
  RefLex1, RefLex2, in one text.
-/
import Derived.Test.YtnpinbpjfngknaaGreatDoorLoL
import Derived.Test.YtnpinbpjfngknaaGreatDoorRef4
import Derived.Deep.DeepCutAuto
namespace Go.Proofs.YtnpinbpjfngknaaGreatDoor
open Go.RowKit
set_option linter.unusedVariables false

theorem refLetter_any (c : UInt8) (w : World) : Calls Tryz.prog 32 #[.int .u8 (c.toNat : Int)] w fun e w' => e = .returned (.bool (letB c)) ∧ w' = w := by
  obtain ⟨B, hB⟩ : ∃ B, letB c = B := ⟨_, rfl⟩
  have HB : Hid (letB c = B) := hB
  rw [hB]
  clear hB
  go_enter Tryz.func32, Tryz.ntmps32
  go_wp2
  all_goals
    go_ret
    refine ⟨ret_bool ?_, rfl⟩
    rw [← HB.out, letB]
    simp
    try omega
theorem refDigit_any (c : UInt8) (w : World) : Calls Tryz.prog 33 #[.int .u8 (c.toNat : Int)] w fun e w' => e = .returned (.bool (digB c)) ∧ w' = w := by
  obtain ⟨B, hB⟩ : ∃ B, digB c = B := ⟨_, rfl⟩
  have HB : Hid (digB c = B) := hB
  rw [hB]
  clear hB
  go_enter Tryz.func33, Tryz.ntmps33
  go_wp2
  all_goals
    go_ret
    refine ⟨ret_bool ?_, rfl⟩
    rw [← HB.out, digB]
    simp
    try omega
/-- A text of digits without a needless 0 ahead is a number just if it is not too great. -/
theorem numL_dig {t : List UInt8} (hne : t ≠ []) (ha : t.all digB = true) (hz : ¬ (1 < t.length ∧ t.head? = some 48)) : numL t = if 9223372036854775807 < val10 t then none else some (val10 t) := by
  have hl0 : t.length ≠ 0 := fun e => hne (List.length_eq_zero_iff.1 e)
  by_cases h19 : 19 < t.length
  · have hd := dec_val (t.length - 1) t (by omega) ha (fun r e => Classical.byContradiction fun hr => hz ⟨by rw [e]; cases r with | nil => exact absurd rfl hr | cons _ _ => simp, by rw [e]; rfl⟩)
    have hbig : 9223372036854775807 < val10 t := by
      rcases Nat.lt_or_ge (val10 t) (10 ^ (18 + 1)) with h | h
      · have h2 := nd_le 18 (val10 t) h
        have h3 : (Lib.decDigits (val10 t)).length = t.length := by rw [hd]
        rw [Lib.decDigits_length] at h3
        omega
      · omega
    rw [numL, if_pos (Or.inr (Or.inr h19)), if_pos hbig]
  · rw [numL, if_neg, if_pos ha]
    rintro (e | e | e)
    · exact hne e
    · exact hz ⟨e.2, e.1⟩
    · exact h19 e
theorem tok_word {s : ByteArray} {a : Nat} (h : a < s.size) (hl : letB s[a] = true) : tokAt (s.data.toList.drop a) = (1, goN ldB (s.data.toList.drop a), 0) := by
  rw [drop_cons s a h, tokAt, if_pos hl]
theorem tok_num {s : ByteArray} {a : Nat} (h : a < s.size) (hl : letB s[a] = false) (hd : digB s[a] = true) : tokAt (s.data.toList.drop a) = (2, numTok (s.data.toList.drop a)) := by
  rw [drop_cons s a h, tokAt, if_neg (by rw [hl]; decide), if_pos hd]
theorem tok_quo {s : ByteArray} {a : Nat} (h : a < s.size) (hq : s[a] = 39) : tokAt (s.data.toList.drop a) = (3, quoTok (s.data.toList.drop (a + 1))) := by
  rw [drop_cons s a h, tokAt, hq, if_neg (by decide), if_neg (by decide), if_pos rfl]
theorem tok_sig {s : ByteArray} {a : Nat} (h : a < s.size) (hl : letB s[a] = false) (hd : digB s[a] = false) (hq : s[a] ≠ 39) : tokAt (s.data.toList.drop a) = (4, sgN signsL (s.data.toList.drop a), if sgN signsL (s.data.toList.drop a) = 0 then 2 else 0) := by
  rw [drop_cons s a h, tokAt, if_neg (by rw [hl]; decide), if_neg (by rw [hd]; decide), if_neg hq]
theorem goD_step {p : UInt8 → Bool} {s : ByteArray} {a m N : Nat} (h : a + m < s.size) (hp : p s[a + m] = true) (hE : N = m + goN p (s.data.toList.drop (a + m))) : N = m + 1 + goN p (s.data.toList.drop (a + (m + 1))) := by
  rw [hE, drop_cons s (a + m) h, goN_yes _ hp, Nat.add_assoc a m 1]; omega
theorem goD_here {p : UInt8 → Bool} {s : ByteArray} {a m N : Nat} (h : a + m < s.size) (hp : p s[a + m] = false) (hE : N = m + goN p (s.data.toList.drop (a + m))) : N = m := by
  rw [hE, drop_cons s (a + m) h, goN_no _ hp]; rfl
theorem goD_out {p : UInt8 → Bool} {s : ByteArray} {a m N : Nat} (h : s.size ≤ a + m) (hE : N = m + goN p (s.data.toList.drop (a + m))) : N = m := by
  rw [hE, List.drop_eq_nil_of_le (by simp; omega)]; rfl
theorem opt_map_map (o : Option Nat) (x y : Nat) : (o.map (· + x)).map (· + y) = o.map (· + (y + x)) := by
  cases o
  · rfl
  · simp; omega
theorem q_in {s : ByteArray} {b m : Nat} {o : Option Nat} (h : b + m < s.size) (hc : s[b + m] ≠ 39) (ho : o = (qscan (s.data.toList.drop (b + m))).map (· + m)) : o = (qscan (s.data.toList.drop (b + (m + 1)))).map (· + (m + 1)) := by
  rw [ho, drop_cons s (b + m) h, qscan_ne _ _ hc, opt_map_map]; rfl
theorem q_two {s : ByteArray} {b m : Nat} {o : Option Nat} (h : b + m + 1 < s.size) (hc : s[b + m] = 39) (hd : s[b + m + 1] = 39) (ho : o = (qscan (s.data.toList.drop (b + m))).map (· + m)) : o = (qscan (s.data.toList.drop (b + (m + 2)))).map (· + (m + 2)) := by
  rw [ho, drop_cons s (b + m) (by omega), drop_cons s (b + m + 1) h, hc, hd, qscan_two, opt_map_map]; rfl
theorem q_end {s : ByteArray} {b m : Nat} {o : Option Nat} (h : b + m < s.size) (hc : s[b + m] = 39) (hd : ∀ h2 : b + m + 1 < s.size, s[b + m + 1] ≠ 39) (ho : o = (qscan (s.data.toList.drop (b + m))).map (· + m)) : o = some (m + 1) := by
  rw [ho, drop_cons s (b + m) h, hc, qscan_end]
  · simp; omega
  · by_cases h2 : b + m + 1 < s.size
    · rw [drop_cons s (b + m + 1) h2]; simpa using hd h2
    · rw [List.drop_eq_nil_of_le (by simp; omega)]; simp
theorem q_out {s : ByteArray} {b m : Nat} {o : Option Nat} (h : s.size ≤ b + m) (ho : o = (qscan (s.data.toList.drop (b + m))).map (· + m)) : o = none := by
  rw [ho, List.drop_eq_nil_of_le (by simp; omega)]; rfl
/-- The bytes that are signs by themselves. -/
def oneS : List UInt8 := [40, 41, 44, 43, 45, 42, 47, 37, 61, 60, 62]
theorem sg_lt_gt (r : List UInt8) : sgN signsL (60 :: 62 :: r) = 2 := by simp [signsL, sgN, Lib.hasPrefix, List.isPrefixOf]
theorem sg_lt_eq (r : List UInt8) : sgN signsL (60 :: 61 :: r) = 2 := by simp [signsL, sgN, Lib.hasPrefix, List.isPrefixOf]
theorem sg_gt_eq (r : List UInt8) : sgN signsL (62 :: 61 :: r) = 2 := by simp [signsL, sgN, Lib.hasPrefix, List.isPrefixOf]
/-- Does a sign of two bytes begin so? -/
def twoB (c : UInt8) (r : List UInt8) : Bool := (c == 60 && (hdB (· == 62) r || hdB (· == 61) r)) || (c == 62 && hdB (· == 61) r)
theorem sg_two {c : UInt8} {r : List UInt8} (h : twoB c r = true) : sgN signsL (c :: r) = 2 := by
  cases r with
  | nil => simp [twoB, hdB] at h
  | cons d r =>
    simp [twoB, hdB] at h
    rcases h with ⟨rfl, rfl | rfl⟩ | ⟨rfl, rfl⟩
    · exact sg_lt_gt r
    · exact sg_lt_eq r
    · exact sg_gt_eq r
theorem sg_one {c : UInt8} {r : List UInt8} (h : twoB c r = false) (hm : oneS.any (· == c) = true) : sgN signsL (c :: r) = 1 := by
  simp [oneS] at hm
  cases r with
  | nil => rcases hm with rfl | rfl | rfl | rfl | rfl | rfl | rfl | rfl | rfl | rfl | rfl <;> simp [signsL, sgN, Lib.hasPrefix, List.isPrefixOf]
  | cons d r =>
    have h60 : c = 60 → d ≠ 62 ∧ d ≠ 61 := fun e => by
      subst e
      constructor
      · rintro rfl; simp [twoB, hdB] at h
      · rintro rfl; simp [twoB, hdB] at h
    have h62 : c = 62 → d ≠ 61 := fun e => by
      subst e
      rintro rfl; simp [twoB, hdB] at h
    clear h
    rcases hm with rfl | rfl | rfl | rfl | rfl | rfl | rfl | rfl | rfl | rfl | rfl
    case inr.inr.inr.inr.inr.inr.inr.inr.inr.inl =>
      obtain ⟨e1, e2⟩ := h60 rfl
      have f1 : ¬ (62 : UInt8) = d := fun e => e1 e.symm
      have f2 : ¬ (61 : UInt8) = d := fun e => e2 e.symm
      simp [signsL, sgN, Lib.hasPrefix, List.isPrefixOf, f1, f2]
    case inr.inr.inr.inr.inr.inr.inr.inr.inr.inr =>
      have f2 : ¬ (61 : UInt8) = d := fun e => h62 rfl e.symm
      simp [signsL, sgN, Lib.hasPrefix, List.isPrefixOf, f2]
    all_goals simp [signsL, sgN, Lib.hasPrefix, List.isPrefixOf]
theorem sg_none {c : UInt8} {r : List UInt8} (hm : oneS.any (· == c) = false) : sgN signsL (c :: r) = 0 := by
  simp [oneS] at hm
  obtain ⟨h1, h2, h3, h4, h5, h6, h7, h8, h9, h10, h11⟩ := hm
  simp [signsL, sgN, Lib.hasPrefix, List.isPrefixOf, h1, h2, h3, h4, h5, h6, h7, h8, h9, h10, h11]
theorem any_take {c : UInt8} {k : Nat} (h : k < oneS.length) : (oneS.take (k + 1)).any (· == c) = ((oneS.take k).any (· == c) || oneS[k] == c) := by
  rw [List.take_succ_eq_append_getElem h, List.any_append]
  simp only [List.any_cons, List.any_nil, Bool.or_false]
theorem one_at (k : Nat) (hk : k < 11) : ∃ V : UInt8, (∀ W : World, Sem.run Tryz.prog (Instr.index 9 (.string ⟨#[40, 41, 44, 43, 45, 42, 47, 37, 61, 60, 62]⟩) (.int .i64 (k : Int))) W = .ok (.int .u8 (V.toNat : Int)) W) ∧ oneS[k]'hk = V := by
  have h : k = 0 ∨ k = 1 ∨ k = 2 ∨ k = 3 ∨ k = 4 ∨ k = 5 ∨ k = 6 ∨ k = 7 ∨ k = 8 ∨ k = 9 ∨ k = 10 := by omega
  rcases h with rfl | rfl | rfl | rfl | rfl | rfl | rfl | rfl | rfl | rfl | rfl
  · exact ⟨40, fun W => by kernel_rfl, rfl⟩
  · exact ⟨41, fun W => by kernel_rfl, rfl⟩
  · exact ⟨44, fun W => by kernel_rfl, rfl⟩
  · exact ⟨43, fun W => by kernel_rfl, rfl⟩
  · exact ⟨45, fun W => by kernel_rfl, rfl⟩
  · exact ⟨42, fun W => by kernel_rfl, rfl⟩
  · exact ⟨47, fun W => by kernel_rfl, rfl⟩
  · exact ⟨37, fun W => by kernel_rfl, rfl⟩
  · exact ⟨61, fun W => by kernel_rfl, rfl⟩
  · exact ⟨60, fun W => by kernel_rfl, rfl⟩
  · exact ⟨62, fun W => by kernel_rfl, rfl⟩
theorem u8_eq {c d : UInt8} : ((c.toNat : Int) == (d.toNat : Int)) = (d == c) := by
  by_cases h : c = d
  · subst h; simp
  · have h1 : ((c.toNat : Int) == (d.toNat : Int)) = false := by
      rw [beq_eq_false_iff_ne]
      intro e
      exact h (UInt8.toNat_inj.1 (by omega))
    have h2 : (d == c) = false := by rw [beq_eq_false_iff_ne]; exact fun e => h e.symm
    rw [h1, h2]
theorem u8_num {c : UInt8} (n : Nat) (hn : n < 256) : ((c.toNat : Int) == (n : Int)) = (c == UInt8.ofNat n) := by
  have e : (UInt8.ofNat n).toNat = n := by simp; omega
  have := u8_eq (c := c) (d := UInt8.ofNat n)
  rw [e] at this
  rw [this, BEq.comm]
end Go.Proofs.YtnpinbpjfngknaaGreatDoor
namespace Go.Proofs.YtnpinbpjfngknaaGreatDoor
open Go.RowKit
set_option linter.unusedVariables false

theorem qk_in {s : ByteArray} {b k : Nat} {o : Option Nat} (hb : b ≤ k) (h : k < s.size) (hc : s[k] ≠ 39) (ho : o = (qscan (s.data.toList.drop k)).map (· + (k - b))) : o = (qscan (s.data.toList.drop (k + 1))).map (· + (k + 1 - b)) := by
  rw [ho, drop_cons s k h, qscan_ne _ _ hc, opt_map_map, show k + 1 - b = k - b + 1 from by omega]
theorem qk_two {s : ByteArray} {b k : Nat} {o : Option Nat} (hb : b ≤ k) (h : k + 1 < s.size) (hc : s[k] = 39) (hd : s[k + 1] = 39) (ho : o = (qscan (s.data.toList.drop k)).map (· + (k - b))) : o = (qscan (s.data.toList.drop (k + 2))).map (· + (k + 2 - b)) := by
  rw [ho, drop_cons s k (by omega), drop_cons s (k + 1) h, hc, hd, qscan_two, opt_map_map, show k + 2 - b = k - b + 2 from by omega]
theorem qk_end {s : ByteArray} {b k : Nat} {o : Option Nat} (hb : b ≤ k) (h : k < s.size) (hc : s[k] = 39) (hd : ∀ h2 : k + 1 < s.size, s[k + 1] ≠ 39) (ho : o = (qscan (s.data.toList.drop k)).map (· + (k - b))) : o = some (k + 1 - b) := by
  rw [ho, drop_cons s k h, hc, qscan_end]
  · simp; omega
  · by_cases h2 : k + 1 < s.size
    · rw [drop_cons s (k + 1) h2]; simpa using hd h2
    · rw [List.drop_eq_nil_of_le (by simp; omega)]; simp
theorem qk_out {s : ByteArray} {b k : Nat} {o : Option Nat} (h : s.size ≤ k) (ho : o = (qscan (s.data.toList.drop k)).map (· + (k - b))) : o = none := by
  rw [ho, List.drop_eq_nil_of_le (by simp; omega)]; rfl
theorem goN_le' (p : UInt8 → Bool) (s : ByteArray) (a : Nat) (h : a ≤ s.size) : a + goN p (s.data.toList.drop a) ≤ s.size := by
  have := goN_le p (s.data.toList.drop a)
  rw [List.length_drop] at this
  simp at this
  omega
theorem read_lex (s : ByteArray) (w : World) (hs : s.size ≤ 140737488355328) :
    Calls Tryz.prog 35 #[.string s] w fun e w' => (∃ (t n : Int) (x : ByteArray) (k : Int), e = .returned (.tuple #[.agg #[.int .i64 t, .int .i64 n, .string x], .int .i64 k]) ∧ Hid ((readV s).2.2.2 = k)) ∧ Below w.heap.size w w' :=
  (read_any s w hs).mono fun e w' hh => ⟨⟨_, _, ⟨(readV s).2.2.1.toArray⟩, _, hh.1, rfl⟩, hh.2⟩
set_option maxRecDepth 20000 in
theorem refTok_full (s : ByteArray) (w : World) (h : 400 < s.size) :
    Calls Tryz.prog 15 #[.string s] w fun e w' => e = .returned (.tuple #[.slice none 0 0, .int .i64 4, .int .i64 0]) ∧ w' = w := by
  have hz : (400 : Int) < (s.size : Int) := by omega
  go_enter Tryz.func15, Tryz.ntmps15
  go_wp2
  go_ret3
  exact ⟨rfl, rfl⟩
set_option maxHeartbeats 64000000 in
set_option maxRecDepth 20000 in
theorem refTok_loop (s : ByteArray) (w : World) (h400 : s.size ≤ 400) :
    Calls Tryz.prog 15 #[.string s] w fun e w' => (∃ v, e = .returned (.tuple #[v, .int .i64 (lexS (s.size + 1) 0 s.data.toList []).2.1, .int .i64 ((lexS (s.size + 1) 0 s.data.toList []).2.2 : Nat)]) ∧ IsToks w' v (lexS (s.size + 1) 0 s.data.toList []).1) ∧ Below w.heap.size w w' := by
  obtain ⟨R, E, P, hR⟩ : ∃ R E P, lexS (s.size + 1) 0 s.data.toList [] = (R, E, P) := ⟨_, _, _, rfl⟩
  rw [hR]
  simp only
  obtain ⟨i0, hi, hz0, hz1, hz2⟩ := info_parts info_tok
  have hz : ¬ (400 : Int) < (s.size : Int) := by omega
  have HR0 : Hid ((R, E, P) = lexS (s.size + 1) 0 (s.data.toList.drop 0) []) := by
    show _ = _
    rw [← hR, List.drop_zero]
  clear hR
  go_enter Tryz.func15, Tryz.ntmps15
  go_wp2
  go_loopg [5, 6, 7, 8, 9, 10, 11, 12, 13, 14, 15, 16, 17] (s.size + 1) (fun gg s5 s6 _ _ _ _ _ _ _ _ _ _ _ wr => ∃ (a f : Nat) (acc : List Tok), s6 = .int .i64 a ∧ a ≤ s.size ∧ s.size - a < gg ∧ s.size - a < f ∧ wr.ownsRow w.heap.size 79 3 s5 acc.length (tokCells acc) ∧ Aside (Below w.heap.size w wr) ∧ Hid ((R, E, P) = lexS f a (s.data.toList.drop a) acc) ∧ acc.length ≤ a)
  case atStart => exact ⟨0, s.size + 1, [], rfl, Nat.zero_le _, by omega, by omega, World.ownsRow_nil _ _ _ _, Below.refl _ _, HR0, Nat.le_refl _⟩
  case round =>
    obtain ⟨a, f, acc, rfl, ha, hg, hf, hown, BW, HR, hacc⟩ := hrel
    obtain ⟨vp, vc, rfl⟩ := lown_slice hown
    obtain ⟨f', rfl⟩ : ∃ f', f = f' + 1 := ⟨f - 1, by omega⟩
    clear HR0
    by_cases hlt : a < s.size
    · have hltz : (a : Int) < (s.size : Int) := by omega
      have hcons := drop_cons s a hlt
      have HCO : Hid (s.data.toList.drop a = s[a] :: s.data.toList.drop (a + 1)) := hcons
      clear hcons
      cases hb : blB s[a]
      · have hn32 : ((s[a].toNat : Int) == 32) = false := by
          rw [beq_eq_false_iff_ne]; intro e; simp [blB, e] at hb
        have hn10 : ((s[a].toNat : Int) == 10) = false := by
          rw [beq_eq_false_iff_ne]; intro e; simp [blB, e] at hb
        have HR1 : Hid ((R, E, P) = lexA (f' + 1) a (s.data.toList.drop a) acc) := by
          show _ = _
          rw [HR.out, lexS_no _ _ _ _ (by rw [HCO.out]; exact hb)]
        have HNE : Hid (s.data.toList.drop a ≠ []) := by
          show _ ≠ _
          rw [HCO.out]; simp
        have cL := refLetter_any s[a]
        have cD := refDigit_any s[a]
        obtain ⟨L, hL⟩ : ∃ L, letB s[a] = L := ⟨_, rfl⟩
        obtain ⟨D, hD⟩ : ∃ D, digB s[a] = D := ⟨_, rfl⟩
        have HL : Hid (letB s[a] = L) := hL
        have HD : Hid (digB s[a] = D) := hD
        rw [hL] at cL
        rw [hD] at cD
        clear hL hD hb HR
        go_wp2_with fail
        refine (cL _).mono ?_
        rintro e w1 ⟨rfl, hq1⟩
        obtain rfl : wr = w1 := hq1.symm
        go_wp2_with fail
        refine (cD _).mono ?_
        rintro e w1 ⟨rfl, hq1⟩
        obtain rfl : wr = w1 := hq1.symm
        go_upto_if 41 with fail
        go_cut [10, 11, 12, 13, 14, 15, 16, 17] (fun s10 s11 _ _ _ _ _ _ wc => ∃ (k : Int) (n : Nat), s10 = .int .i64 ((a + n : Nat) : Int) ∧ s11 = .int .i64 k ∧ Hid (tokAt (s.data.toList.drop a) = (k, n, 0)) ∧ wc.ownsRow w.heap.size 79 3 (.slice vp acc.length vc) acc.length (tokCells acc) ∧ Below w.heap.size w wc)
        case first => as_aux_lemma =>
          cases L
          · cases D
            · by_cases hq : s[a] = 39
              · as_aux_lemma =>
                have hqz : ((s[a].toNat : Int) == 39) = true := by rw [hq]; rfl
                obtain ⟨Q, hQ⟩ : ∃ Q, qscan (s.data.toList.drop (a + 1)) = Q := ⟨_, rfl⟩
                have HQ : Hid (qscan (s.data.toList.drop (a + 1)) = Q) := hQ
                have HT : Hid (tokAt (s.data.toList.drop a) = (3, quoTok (s.data.toList.drop (a + 1)))) := tok_quo hlt hq
                have HQ0 : Hid (Q = (qscan (s.data.toList.drop (a + 1))).map (· + (a + 1 - (a + 1)))) := by
                  show _ = _
                  rw [hQ, Nat.sub_self]
                  cases Q <;> rfl
                have HA39 : Hid (s[a] = 39) := hq
                clear hQ hq
                go_wp2
                go_loopg [10] (s.size - a) (fun gg s10 wx => ∃ kx : Nat, a + 1 ≤ kx ∧ kx ≤ s.size + 1 ∧ s.size - kx ≤ gg ∧ s10 = .int .i64 kx ∧ wx = wr ∧ Hid (Q = (qscan (s.data.toList.drop kx)).map (· + (kx - (a + 1)))))
                case atStart => exact ⟨a + 1, Nat.le_refl _, by omega, by omega, by go_num, rfl, HQ0⟩
                case round =>
                  obtain ⟨kx, hak, hkx, hgx, rfl, rfl, HE⟩ := hrel
                  by_cases hm : kx < s.size
                  · have hmz : (kx : Int) < (s.size : Int) := by omega
                    by_cases hc : s[kx] = 39
                    · have hcz : ((s[kx].toNat : Int) != 39) = false := by rw [hc]; rfl
                      have hce : ((s[kx].toNat : Int) == 39) = true := by rw [hc]; rfl
                      by_cases hd : ∃ h2 : kx + 1 < s.size, s[kx + 1] = 39
                      · obtain ⟨hm2, hd2⟩ := hd
                        have hm2z : (kx : Int) + 1 < (s.size : Int) := by omega
                        have hdz : ((s[kx + 1].toNat : Int) == 39) = true := by rw [hd2]; rfl
                        have HE2 : Hid (Q = (qscan (s.data.toList.drop (kx + 2))).map (· + (kx + 2 - (a + 1)))) := qk_two hak hm2 hc hd2 HE.out
                        clear hc hd2 HE
                        go_wp2
                        go_roundg (s.size - (kx + 2))
                        case measure => omega
                        case rel => exact ⟨kx + 2, by omega, by omega, Nat.le_refl _, by go_num, rfl, HE2⟩
                      · as_aux_lemma =>
                        have hQs : Q = some (kx + 1 - (a + 1)) := qk_end hak hm hc (fun h2 e => hd ⟨h2, e⟩) HE.out
                        obtain ⟨Y, hY, hY1, hY2⟩ := slice_mid s a (kx + 1) (by omega) (by omega)
                        have HRD : Hid ((readV Y).2.2.2 = qE ((s.data.toList.drop (a + 1)).take (kx + 1 - (a + 1)))) := read_qE (by rw [hY1, HCO.out, HA39.out, show kx + 1 - a = kx + 1 - (a + 1) + 1 from by omega, List.take_succ_cons])
                        have HQT : Hid (quoTok (s.data.toList.drop (a + 1)) = if qE ((s.data.toList.drop (a + 1)).take (kx + 1 - (a + 1))) = 0 then (kx + 1 - (a + 1) + 1, 0) else (0, qE ((s.data.toList.drop (a + 1)).take (kx + 1 - (a + 1))))) := by
                          show _ = _
                          rw [quoTok, HQ.out, hQs]
                        have HQC : Hid (qE ((s.data.toList.drop (a + 1)).take (kx + 1 - (a + 1))) = 0 ∨ qE ((s.data.toList.drop (a + 1)).take (kx + 1 - (a + 1))) = 2 ∨ qE ((s.data.toList.drop (a + 1)).take (kx + 1 - (a + 1))) = 4) := qE_cases _
                        have hYz : ∀ W : World, Sem.run Tryz.prog (Instr.slice 9 (.string s) (some (.int .i64 (a : Int))) (some (.int .i64 ((kx : Int) + 1))) none) W = .ok (.string Y) W := hY
                        have hYs : Y.size ≤ 140737488355328 := by omega
                        have hmge : ¬ (s.size : Int) ≤ (kx : Int) := by omega
                        have hnx : Hid (¬ ∃ h2 : kx + 1 < s.size, s[kx + 1] = 39) := hd
                        clear hd hQs hc HE hY1 hY2 hY
                        by_cases h2 : kx + 1 < s.size
                        all_goals
                          first
                          | (have hm2z : (kx : Int) + 1 < (s.size : Int) := by omega
                             have hdz : ((s[kx + 1].toNat : Int) == 39) = false := by
                               rw [beq_eq_false_iff_ne]; exact u8_39n (fun e => hnx.out ⟨h2, e⟩))
                          | (have hm2z : ¬ (kx : Int) + 1 < (s.size : Int) := by omega)
                          clear hnx
                          go_wp2_with fail
                          refine (read_lex Y _ hYs).mono ?_
                          rintro e w2 ⟨⟨t, n, x, k, rfl, HK⟩, b2⟩
                          have hk : qE ((s.data.toList.drop (a + 1)).take (kx + 1 - (a + 1))) = k := by rw [← HRD.out]; exact HK.out
                          rw [hk] at HQT HQC
                          have B2 := BW.out.trans (b2.mono BW.out.size)
                          have o2 := lown_below hown b2
                          have hkc := HQC.out
                          clear hk HK HRD HQC
                          by_cases hk0 : k = 0
                          · subst hk0
                            have HT2 : Hid (tokAt (s.data.toList.drop a) = (3, kx + 1 - (a + 1) + 1, 0)) := by
                              show _ = _
                              rw [HT.out, HQT.out, if_pos rfl]
                            clear HQT hkc
                            go_wp2
                            go_meet
                            exact ⟨3, kx + 1 - (a + 1) + 1, by rw [show a + (kx + 1 - (a + 1) + 1) = kx + 1 from by omega]; go_num, rfl, HT2, o2.alloc _, B2.alloc B2.size _⟩
                          · have hkz : (k != 0) = true := by simpa using hk0
                            have HT2 : Hid (tokAt (s.data.toList.drop a) = (3, 0, k)) := by
                              show _ = _
                              rw [HT.out, HQT.out, if_neg hk0]
                            have hF : (R, E, P) = ([], k, a) := by rw [HR1.out, lexA_bad f' a _ acc HNE.out HT2.out hk0]
                            obtain ⟨rfl, hF2⟩ := Prod.mk.inj hF
                            obtain ⟨rfl, rfl⟩ := Prod.mk.inj hF2
                            clear hF hF2 HR1
                            clear HQT hkc hk0
                            go_wp2
                            go_ret3
                            exact ⟨⟨_, rfl, isToks_nil _⟩, B2.alloc B2.size _⟩
                    · have hcz : ((s[kx].toNat : Int) != 39) = true := by rw [bne_iff_ne]; exact u8_39n hc
                      have hce : ((s[kx].toNat : Int) == 39) = false := by rw [beq_eq_false_iff_ne]; exact u8_39n hc
                      have HE2 : Hid (Q = (qscan (s.data.toList.drop (kx + 1))).map (· + (kx + 1 - (a + 1)))) := qk_in hak hm hc HE.out
                      clear hc HE
                      go_wp2
                      go_roundg (s.size - (kx + 1))
                      case measure => omega
                      case rel => exact ⟨kx + 1, by omega, by omega, Nat.le_refl _, by go_num, rfl, HE2⟩
                  · have hmz : ¬ (kx : Int) < (s.size : Int) := by omega
                    have hge : (s.size : Int) ≤ (kx : Int) := by omega
                    have hQn : Q = none := qk_out (by omega) HE.out
                    have HT2 : Hid (tokAt (s.data.toList.drop a) = (3, 0, 2)) := by
                      show _ = _
                      rw [HT.out, quoTok, HQ.out, hQn]
                    have hF : (R, E, P) = ([], 2, a) := by rw [HR1.out, lexA_bad f' a _ acc HNE.out HT2.out (by decide)]
                    obtain ⟨rfl, hF2⟩ := Prod.mk.inj hF
                    obtain ⟨rfl, rfl⟩ := Prod.mk.inj hF2
                    clear hF hF2 HR1
                    clear hQn HE
                    go_wp2
                    go_ret3
                    exact ⟨⟨_, rfl, isToks_nil _⟩, BW.out⟩
              · as_aux_lemma =>
                have hqz : ((s[a].toNat : Int) == 39) = false := by rw [beq_eq_false_iff_ne]; exact u8_39n hq
                have HT : Hid (tokAt (s.data.toList.drop a) = (4, sgN signsL (s.data.toList.drop a), if sgN signsL (s.data.toList.drop a) = 0 then 2 else 0)) := tok_sig hlt HL.out HD.out hq
                obtain ⟨T, hT⟩ : ∃ T, twoB s[a] (s.data.toList.drop (a + 1)) = T := ⟨_, rfl⟩
                have HTW : Hid (twoB s[a] (s.data.toList.drop (a + 1)) = T) := hT
                clear hT hq
                go_upto_region 40 with fail
                go_cut [191] (fun b wc => b = .bool T ∧ wc = wr)
                case first => as_aux_lemma =>
                  by_cases h1 : a + 1 < s.size
                  · have h1z : (a : Int) + 1 < (s.size : Int) := by omega
                    have hD1 : s.data.toList.drop (a + 1) = s[a + 1] :: s.data.toList.drop (a + 1 + 1) := drop_cons s (a + 1) h1
                    have hTT : T = ((s[a] == 60 && (s[a + 1] == 62 || s[a + 1] == 61)) || (s[a] == 62 && s[a + 1] == 61)) := by
                      rw [← HTW.out, hD1]; rfl
                    clear hD1
                    by_cases c60 : s[a] = 60
                    · by_cases d62 : s[a + 1] = 62
                      · have hTv : Hid (T = true) := by
                          show _ = _
                          rw [hTT, c60, d62]; rfl
                        have b1 : ((s[a].toNat : Int) == 60) = true := by rw [c60]; rfl
                        have b2 : ((s[a + 1].toNat : Int) == 62) = true := by rw [d62]; rfl
                        clear hTT c60 d62
                        go_wp2
                        go_meet
                        exact ⟨by rw [hTv.out], rfl⟩
                      · by_cases d61 : s[a + 1] = 61
                        · have hTv : Hid (T = true) := by
                            show _ = _
                            rw [hTT, c60, d61]; rfl
                          have b1 : ((s[a].toNat : Int) == 60) = true := by rw [c60]; rfl
                          have b2 : ((s[a + 1].toNat : Int) == 62) = false := by rw [beq_eq_false_iff_ne]; intro e; exact d62 (UInt8.toNat_inj.1 (by rw [show (62 : UInt8).toNat = 62 from rfl]; omega))
                          have b3 : ((s[a + 1].toNat : Int) == 61) = true := by rw [d61]; rfl
                          clear hTT c60 d62 d61
                          go_wp2
                          go_meet
                          exact ⟨by rw [hTv.out], rfl⟩
                        · have hTv : Hid (T = false) := by
                            show _ = _
                            rw [hTT, c60]
                            simp [d62, d61]
                          have b1 : ((s[a].toNat : Int) == 60) = true := by rw [c60]; rfl
                          have b2 : ((s[a + 1].toNat : Int) == 62) = false := by rw [beq_eq_false_iff_ne]; intro e; exact d62 (UInt8.toNat_inj.1 (by rw [show (62 : UInt8).toNat = 62 from rfl]; omega))
                          have b3 : ((s[a + 1].toNat : Int) == 61) = false := by rw [beq_eq_false_iff_ne]; intro e; exact d61 (UInt8.toNat_inj.1 (by rw [show (61 : UInt8).toNat = 61 from rfl]; omega))
                          have b4 : ((s[a].toNat : Int) == 62) = false := by rw [c60]; rfl
                          clear hTT c60 d62 d61
                          go_wp2
                          go_meet
                          exact ⟨by rw [hTv.out], rfl⟩
                    · by_cases c62 : s[a] = 62
                      · by_cases d61 : s[a + 1] = 61
                        · have hTv : Hid (T = true) := by
                            show _ = _
                            rw [hTT, c62, d61]; rfl
                          have b1 : ((s[a].toNat : Int) == 60) = false := by rw [beq_eq_false_iff_ne]; intro e; exact c60 (UInt8.toNat_inj.1 (by rw [show (60 : UInt8).toNat = 60 from rfl]; omega))
                          have b4 : ((s[a].toNat : Int) == 62) = true := by rw [c62]; rfl
                          have b3 : ((s[a + 1].toNat : Int) == 61) = true := by rw [d61]; rfl
                          clear hTT c60 c62 d61
                          go_wp2
                          go_meet
                          exact ⟨by rw [hTv.out], rfl⟩
                        · have hTv : Hid (T = false) := by
                            show _ = _
                            rw [hTT, c62]
                            simp [d61]
                          have b1 : ((s[a].toNat : Int) == 60) = false := by rw [beq_eq_false_iff_ne]; intro e; exact c60 (UInt8.toNat_inj.1 (by rw [show (60 : UInt8).toNat = 60 from rfl]; omega))
                          have b4 : ((s[a].toNat : Int) == 62) = true := by rw [c62]; rfl
                          have b3 : ((s[a + 1].toNat : Int) == 61) = false := by rw [beq_eq_false_iff_ne]; intro e; exact d61 (UInt8.toNat_inj.1 (by rw [show (61 : UInt8).toNat = 61 from rfl]; omega))
                          clear hTT c60 c62 d61
                          go_wp2
                          go_meet
                          exact ⟨by rw [hTv.out], rfl⟩
                      · have hTv : Hid (T = false) := by
                          show _ = _
                          rw [hTT]
                          simp [c60, c62]
                        have b1 : ((s[a].toNat : Int) == 60) = false := by rw [beq_eq_false_iff_ne]; intro e; exact c60 (UInt8.toNat_inj.1 (by rw [show (60 : UInt8).toNat = 60 from rfl]; omega))
                        have b4 : ((s[a].toNat : Int) == 62) = false := by rw [beq_eq_false_iff_ne]; intro e; exact c62 (UInt8.toNat_inj.1 (by rw [show (62 : UInt8).toNat = 62 from rfl]; omega))
                        clear hTT c60 c62
                        go_wp2
                        go_meet
                        exact ⟨by rw [hTv.out], rfl⟩
                  · have h1z : ¬ (a : Int) + 1 < (s.size : Int) := by omega
                    have hTv : Hid (T = false) := by
                      show _ = _
                      rw [← HTW.out, List.drop_eq_nil_of_le (by simp; omega)]
                      simp [twoB, hdB]
                    go_wp2
                    go_meet
                    exact ⟨by rw [hTv.out], rfl⟩
                case rest => as_aux_lemma =>
                  obtain ⟨rfl, rfl⟩ := hcut
                  cases T
                  · obtain ⟨V, hV⟩ : ∃ V, oneS.any (· == s[a]) = V := ⟨_, rfl⟩
                    have HV : Hid (oneS.any (· == s[a]) = V) := hV
                    clear hV
                    go_wp2
                    go_loopg [16, 17] 11 (fun gg s16 s17 wx => ∃ (jj : Nat) (ok : Bool), jj ≤ 11 ∧ 11 - jj ≤ gg ∧ s17 = .int .i64 jj ∧ s16 = .bool ok ∧ wx = wc ∧ Hid (ok = (oneS.take jj).any (· == s[a])))
                    case atStart => exact ⟨0, false, Nat.zero_le _, by omega, rfl, rfl, rfl, rfl⟩
                    case round =>
                      obtain ⟨jj, ok, hjj, hgj, rfl, rfl, rfl, HO⟩ := hrel
                      by_cases hj : jj < 11
                      · have hjz : (jj : Int) < 11 := by omega
                        obtain ⟨U, hU, hU1⟩ := one_at jj hj
                        have HS : Hid ((oneS.take (jj + 1)).any (· == s[a]) = (ok || U == s[a])) := by
                          show _ = _
                          rw [any_take hj, hU1, HO.out]
                        cases ok
                        · cases hu : U == s[a]
                          · have hcu : ((s[a].toNat : Int) == (U.toNat : Int)) = false := by rw [u8_eq, hu]
                            have HS2 : Hid (false = (oneS.take (jj + 1)).any (· == s[a])) := by
                              show _ = _
                              rw [HS.out, hu]; rfl
                            clear HS HO hu hU1
                            go_wp2
                            go_roundg (11 - (jj + 1))
                            case measure => omega
                            case rel => exact ⟨jj + 1, false, by omega, by omega, by go_num, rfl, rfl, HS2⟩
                          · have hcu : ((s[a].toNat : Int) == (U.toNat : Int)) = true := by rw [u8_eq, hu]
                            have HS2 : Hid (true = (oneS.take (jj + 1)).any (· == s[a])) := by
                              show _ = _
                              rw [HS.out, hu]; rfl
                            clear HS HO hu hU1
                            go_wp2
                            go_roundg (11 - (jj + 1))
                            case measure => omega
                            case rel => exact ⟨jj + 1, true, by omega, by omega, by go_num, rfl, rfl, HS2⟩
                        · have HS2 : Hid (true = (oneS.take (jj + 1)).any (· == s[a])) := by
                            show _ = _
                            rw [HS.out]; rfl
                          clear HS HO hU1
                          go_wp2
                          go_roundg (11 - (jj + 1))
                          case measure => omega
                          case rel => exact ⟨jj + 1, true, by omega, by omega, by go_num, rfl, rfl, HS2⟩
                      · have hjz : ¬ (jj : Int) < 11 := by omega
                        have hok : ok = V := by
                          rw [HO.out, ← HV.out, List.take_of_length_le (by show 11 ≤ jj; omega)]
                        subst hok
                        cases ok
                        · have HT2 : Hid (tokAt (s.data.toList.drop a) = (4, 0, 2)) := by
                            show _ = _
                            rw [HT.out, HCO.out, sg_none HV.out]; rfl
                          have hF : (R, E, P) = ([], 2, a) := by rw [HR1.out, lexA_bad f' a _ acc HNE.out HT2.out (by decide)]
                          obtain ⟨rfl, hF2⟩ := Prod.mk.inj hF
                          obtain ⟨rfl, rfl⟩ := Prod.mk.inj hF2
                          clear hF hF2 HR1
                          clear HO
                          go_wp2
                          go_ret3
                          exact ⟨⟨_, rfl, isToks_nil _⟩, BW.out⟩
                        · have HT2 : Hid (tokAt (s.data.toList.drop a) = (4, 1, 0)) := by
                            show _ = _
                            rw [HT.out, HCO.out, sg_one HTW.out HV.out]; rfl
                          clear HO
                          go_wp2
                          go_meet
                          exact ⟨4, 1, by go_num, rfl, HT2, hown, BW.out⟩
                  · have HT2 : Hid (tokAt (s.data.toList.drop a) = (4, 2, 0)) := by
                      show _ = _
                      rw [HT.out, HCO.out, sg_two HTW.out]; rfl
                    go_wp2
                    go_meet
                    exact ⟨4, 2, by go_num, rfl, HT2, hown, BW.out⟩
            · as_aux_lemma =>
              obtain ⟨N, hN⟩ : ∃ N, goN digB (s.data.toList.drop a) = N := ⟨_, rfl⟩
              have hNd : Hid (goN digB (s.data.toList.drop a) = N) := hN
              have hN1 : 0 < N := by rw [← hN, HCO.out, goN_yes _ HD.out]; omega
              have HT : Hid (tokAt (s.data.toList.drop a) = (2, numTok (s.data.toList.drop a))) := tok_num hlt HL.out HD.out
              have HN0 : Hid (a + N = a + goN digB (s.data.toList.drop a)) := by
                show _ = _
                rw [hN]
              clear hN
              go_wp2
              go_loopg [10] (s.size - a) (fun gg s10 wx => ∃ kx : Nat, kx ≤ s.size ∧ s.size - kx ≤ gg ∧ s10 = .int .i64 kx ∧ wx = wr ∧ Hid (a + N = kx + goN digB (s.data.toList.drop kx)))
              case atStart => exact ⟨a, ha, Nat.le_refl _, rfl, rfl, HN0⟩
              case round =>
                obtain ⟨kx, hkx, hgx, rfl, rfl, HE⟩ := hrel
                by_cases hm : kx < s.size
                · have hmz : (kx : Int) < (s.size : Int) := by omega
                  have cDk := refDigit_any s[kx]
                  have cLk := refLetter_any s[kx]
                  cases hdk : digB s[kx]
                  · rw [hdk] at cDk
                    have HF : Hid (a + N = kx) := goN_here hm hdk HE.out
                    clear hdk
                    cases hlk : letB s[kx]
                    · rw [hlk] at cLk
                      as_aux_lemma =>
                        have HHD : Hid (hdB letB ((s.data.toList.drop a).drop N) = false) := (by rw [List.drop_drop, HF.out, hd_at hm]; exact hlk)
                        by_cases hzz : s[a] = 48 ∧ 1 < N
                        · have HT2 : Hid (tokAt (s.data.toList.drop a) = (2, 0, 2)) := by
                            show _ = _
                            rw [HT.out, numTok, hNd.out, if_pos (Or.inr ⟨hzz.2, by rw [HCO.out, hzz.1]; rfl⟩)]
                          have e48 : ((s[a].toNat : Int) == 48) = true := by rw [hzz.1]; rfl
                          have egt : (a : Int) + 1 < (kx : Int) := by have := HF.out; have := hzz.2; omega
                          have hF : (R, E, P) = ([], 2, a) := by rw [HR1.out, lexA_bad f' a _ acc HNE.out HT2.out (by decide)]
                          obtain ⟨rfl, hF2⟩ := Prod.mk.inj hF
                          obtain ⟨rfl, rfl⟩ := Prod.mk.inj hF2
                          clear hF hF2 HR1
                          clear hlk HE hzz
                          go_wp2_with (first | (go_at_call 33; refine (cDk _).mono ?_; rintro e w' ⟨rfl, rfl⟩) | (go_at_call 32; refine (cLk _).mono ?_; rintro e w' ⟨rfl, rfl⟩))
                          go_ret3
                          exact ⟨⟨_, rfl, isToks_nil _⟩, BW.out⟩
                        · have HNZ : Hid (¬ (1 < N ∧ (s.data.toList.drop a).head? = some 48)) := fun e => hzz ⟨by have h2 := e.2; rw [HCO.out] at h2; exact Option.some.inj h2, e.1⟩
                          obtain ⟨X, hX, hX1, hX2⟩ := slice_mid s a kx (by have := HF.out; omega) hkx
                          have hXN : X.data.toList = (s.data.toList.drop a).take N := by rw [hX1, show kx - a = N from by have := HF.out; omega]
                          have hlen : X.data.toList.length = N := by rw [hXN, List.length_take, List.length_drop]; have := HF.out; simp; omega
                          have HXL : Hid (numL X.data.toList = if 9223372036854775807 < val10 X.data.toList then none else some (val10 X.data.toList)) := by
                            refine numL_dig (fun e => by rw [e] at hlen; simp at hlen; omega) (by rw [hXN, ← hNd.out]; exact goN_all _ _) ?_
                            rintro ⟨e1, e2⟩
                            refine HNZ.out ⟨by omega, ?_⟩
                            rw [hXN, List.head?_take, if_neg (by omega)] at e2
                            exact e2
                          have cN := fun W => number_any X W (by unfold maxLen; omega)
                          have hgt : Hid (((s[a].toNat : Int) == 48) = false ∨ (((s[a].toNat : Int) == 48) = true ∧ ¬ ((a : Int) + 1 < (kx : Int)))) := by
                            by_cases h48 : s[a] = 48
                            · exact .inr ⟨by rw [h48]; rfl, by have := HF.out; have : ¬ 1 < N := fun e => hzz ⟨h48, e⟩; omega⟩
                            · exact .inl (by rw [beq_eq_false_iff_ne]; exact fun e => h48 (u8_48.1 e))
                          by_cases hv : 9223372036854775807 < val10 X.data.toList
                          · have HT2 : Hid (tokAt (s.data.toList.drop a) = (2, 0, 1)) := by
                              show _ = _
                              rw [HT.out, numTok, hNd.out, if_neg (fun e => e.elim (fun e => by rw [HHD.out] at e; cases e) HNZ.out), ← hXN, if_pos hv]
                            have hn : numL X.data.toList = none := by rw [HXL.out, if_pos hv]
                            rw [hn, numV] at cN
                            have hF : (R, E, P) = ([], 1, a) := by rw [HR1.out, lexA_bad f' a _ acc HNE.out HT2.out (by decide)]
                            obtain ⟨rfl, hF2⟩ := Prod.mk.inj hF
                            obtain ⟨rfl, rfl⟩ := Prod.mk.inj hF2
                            clear hF hF2 HR1
                            clear hlk HE hzz hn hv HXL hXN hlen hX1 hX2
                            rcases hgt.out with e48 | ⟨e48, egt⟩
                            all_goals
                              clear hgt
                              go_wp2_with (first | (go_at_call 33; refine (cDk _).mono ?_; rintro e w' ⟨rfl, rfl⟩) | (go_at_call 32; refine (cLk _).mono ?_; rintro e w' ⟨rfl, rfl⟩) | (go_at_call 34; refine (cN _).mono ?_; rintro e w' ⟨rfl, rfl⟩))
                              go_ret3
                              exact ⟨⟨_, rfl, isToks_nil _⟩, BW.out⟩
                          · have HT2 : Hid (tokAt (s.data.toList.drop a) = (2, N, 0)) := by
                              show _ = _
                              rw [HT.out, numTok, hNd.out, if_neg (fun e => e.elim (fun e => by rw [HHD.out] at e; cases e) HNZ.out), ← hXN, if_neg hv]
                            have hn : numL X.data.toList = some (val10 X.data.toList) := by rw [HXL.out, if_neg hv]
                            rw [hn, numV] at cN
                            clear hlk HE hzz hn hv HXL hXN hlen hX1 hX2
                            rcases hgt.out with e48 | ⟨e48, egt⟩
                            all_goals
                              clear hgt
                              go_wp2_with (first | (go_at_call 33; refine (cDk _).mono ?_; rintro e w' ⟨rfl, rfl⟩) | (go_at_call 32; refine (cLk _).mono ?_; rintro e w' ⟨rfl, rfl⟩) | (go_at_call 34; refine (cN _).mono ?_; rintro e w' ⟨rfl, rfl⟩))
                              go_meet
                              exact ⟨2, N, by rw [HF.out], rfl, HT2, hown, BW.out⟩
                    · rw [hlk] at cLk
                      have HT2 : Hid (tokAt (s.data.toList.drop a) = (2, 0, 2)) := by
                        show _ = _
                        rw [HT.out, numTok, hNd.out, if_pos (Or.inl (by rw [List.drop_drop, HF.out, hd_at hm]; exact hlk))]
                      have hF : (R, E, P) = ([], 2, a) := by rw [HR1.out, lexA_bad f' a _ acc HNE.out HT2.out (by decide)]
                      obtain ⟨rfl, hF2⟩ := Prod.mk.inj hF
                      obtain ⟨rfl, rfl⟩ := Prod.mk.inj hF2
                      clear hF hF2 HR1
                      clear hlk HE
                      go_wp2_with (first | (go_at_call 33; refine (cDk _).mono ?_; rintro e w' ⟨rfl, rfl⟩) | (go_at_call 32; refine (cLk _).mono ?_; rintro e w' ⟨rfl, rfl⟩))
                      go_ret3
                      exact ⟨⟨_, rfl, isToks_nil _⟩, BW.out⟩
                  · rw [hdk] at cDk
                    have HE2 : Hid (a + N = kx + 1 + goN digB (s.data.toList.drop (kx + 1))) := goN_step hm hdk HE.out
                    clear hdk HE
                    go_wp2_with (first | (go_at_call 33; refine (cDk _).mono ?_; rintro e w' ⟨rfl, rfl⟩))
                    go_roundg (s.size - (kx + 1))
                    case measure => omega
                    case rel => exact ⟨kx + 1, by omega, Nat.le_refl _, by go_num, rfl, HE2⟩
                · have hmz : ¬ (kx : Int) < (s.size : Int) := by omega
                  have HF : Hid (a + N = kx) := by
                    have h := goN_out (by omega) hkx HE.out
                    show _ = _
                    omega
                  as_aux_lemma =>
                    have HHD : Hid (hdB letB ((s.data.toList.drop a).drop N) = false) := (by rw [List.drop_drop, HF.out]; exact hd_out (by omega))
                    by_cases hzz : s[a] = 48 ∧ 1 < N
                    · have HT2 : Hid (tokAt (s.data.toList.drop a) = (2, 0, 2)) := by
                        show _ = _
                        rw [HT.out, numTok, hNd.out, if_pos (Or.inr ⟨hzz.2, by rw [HCO.out, hzz.1]; rfl⟩)]
                      have e48 : ((s[a].toNat : Int) == 48) = true := by rw [hzz.1]; rfl
                      have egt : (a : Int) + 1 < (kx : Int) := by have := HF.out; have := hzz.2; omega
                      have hF : (R, E, P) = ([], 2, a) := by rw [HR1.out, lexA_bad f' a _ acc HNE.out HT2.out (by decide)]
                      obtain ⟨rfl, hF2⟩ := Prod.mk.inj hF
                      obtain ⟨rfl, rfl⟩ := Prod.mk.inj hF2
                      clear hF hF2 HR1
                      clear HE hzz
                      go_wp2
                      go_ret3
                      exact ⟨⟨_, rfl, isToks_nil _⟩, BW.out⟩
                    · have HNZ : Hid (¬ (1 < N ∧ (s.data.toList.drop a).head? = some 48)) := fun e => hzz ⟨by have h2 := e.2; rw [HCO.out] at h2; exact Option.some.inj h2, e.1⟩
                      obtain ⟨X, hX, hX1, hX2⟩ := slice_mid s a kx (by have := HF.out; omega) hkx
                      have hXN : X.data.toList = (s.data.toList.drop a).take N := by rw [hX1, show kx - a = N from by have := HF.out; omega]
                      have hlen : X.data.toList.length = N := by rw [hXN, List.length_take, List.length_drop]; have := HF.out; simp; omega
                      have HXL : Hid (numL X.data.toList = if 9223372036854775807 < val10 X.data.toList then none else some (val10 X.data.toList)) := by
                        refine numL_dig (fun e => by rw [e] at hlen; simp at hlen; omega) (by rw [hXN, ← hNd.out]; exact goN_all _ _) ?_
                        rintro ⟨e1, e2⟩
                        refine HNZ.out ⟨by omega, ?_⟩
                        rw [hXN, List.head?_take, if_neg (by omega)] at e2
                        exact e2
                      have cN := fun W => number_any X W (by unfold maxLen; omega)
                      have hgt : Hid (((s[a].toNat : Int) == 48) = false ∨ (((s[a].toNat : Int) == 48) = true ∧ ¬ ((a : Int) + 1 < (kx : Int)))) := by
                        by_cases h48 : s[a] = 48
                        · exact .inr ⟨by rw [h48]; rfl, by have := HF.out; have : ¬ 1 < N := fun e => hzz ⟨h48, e⟩; omega⟩
                        · exact .inl (by rw [beq_eq_false_iff_ne]; exact fun e => h48 (u8_48.1 e))
                      by_cases hv : 9223372036854775807 < val10 X.data.toList
                      · have HT2 : Hid (tokAt (s.data.toList.drop a) = (2, 0, 1)) := by
                          show _ = _
                          rw [HT.out, numTok, hNd.out, if_neg (fun e => e.elim (fun e => by rw [HHD.out] at e; cases e) HNZ.out), ← hXN, if_pos hv]
                        have hn : numL X.data.toList = none := by rw [HXL.out, if_pos hv]
                        rw [hn, numV] at cN
                        have hF : (R, E, P) = ([], 1, a) := by rw [HR1.out, lexA_bad f' a _ acc HNE.out HT2.out (by decide)]
                        obtain ⟨rfl, hF2⟩ := Prod.mk.inj hF
                        obtain ⟨rfl, rfl⟩ := Prod.mk.inj hF2
                        clear hF hF2 HR1
                        clear HE hzz hn hv HXL hXN hlen hX1 hX2
                        rcases hgt.out with e48 | ⟨e48, egt⟩
                        all_goals
                          clear hgt
                          go_wp2_with (first | (go_at_call 34; refine (cN _).mono ?_; rintro e w' ⟨rfl, rfl⟩))
                          go_ret3
                          exact ⟨⟨_, rfl, isToks_nil _⟩, BW.out⟩
                      · have HT2 : Hid (tokAt (s.data.toList.drop a) = (2, N, 0)) := by
                          show _ = _
                          rw [HT.out, numTok, hNd.out, if_neg (fun e => e.elim (fun e => by rw [HHD.out] at e; cases e) HNZ.out), ← hXN, if_neg hv]
                        have hn : numL X.data.toList = some (val10 X.data.toList) := by rw [HXL.out, if_neg hv]
                        rw [hn, numV] at cN
                        clear HE hzz hn hv HXL hXN hlen hX1 hX2
                        rcases hgt.out with e48 | ⟨e48, egt⟩
                        all_goals
                          clear hgt
                          go_wp2_with (first | (go_at_call 34; refine (cN _).mono ?_; rintro e w' ⟨rfl, rfl⟩))
                          go_meet
                          exact ⟨2, N, by rw [HF.out], rfl, HT2, hown, BW.out⟩
          · as_aux_lemma =>
            obtain ⟨N, hN⟩ : ∃ N, goN ldB (s.data.toList.drop a) = N := ⟨_, rfl⟩
            have HT : Hid (tokAt (s.data.toList.drop a) = (1, N, 0)) := by
              show _ = _
              rw [tok_word hlt HL.out, hN]
            have HN0 : Hid (a + N = a + goN ldB (s.data.toList.drop a)) := by
              show _ = _
              rw [hN]
            clear hN
            go_wp2
            go_loopg [10] (s.size - a) (fun gg s10 wx => ∃ kx : Nat, kx ≤ s.size ∧ s.size - kx ≤ gg ∧ s10 = .int .i64 kx ∧ wx = wr ∧ Hid (a + N = kx + goN ldB (s.data.toList.drop kx)))
            case atStart => exact ⟨a, ha, Nat.le_refl _, rfl, rfl, HN0⟩
            case round =>
              obtain ⟨kx, hkx, hgx, rfl, rfl, HE⟩ := hrel
              by_cases hm : kx < s.size
              · have hmz : (kx : Int) < (s.size : Int) := by omega
                have cLk := refLetter_any s[kx]
                have cDk := refDigit_any s[kx]
                cases hlk : letB s[kx]
                · rw [hlk] at cLk
                  cases hdk : digB s[kx]
                  · rw [hdk] at cDk
                    have HF : Hid (a + N = kx) := goN_here hm (by rw [ldB, hlk, hdk]; rfl) HE.out
                    clear hlk hdk HE
                    go_wp2_with (first | (go_at_call 32; refine (cLk _).mono ?_; rintro e w' ⟨rfl, rfl⟩) | (go_at_call 33; refine (cDk _).mono ?_; rintro e w' ⟨rfl, rfl⟩))
                    go_meet
                    exact ⟨1, N, by rw [HF.out], rfl, HT, hown, BW.out⟩
                  · rw [hdk] at cDk
                    have HE2 : Hid (a + N = kx + 1 + goN ldB (s.data.toList.drop (kx + 1))) := goN_step hm (by rw [ldB, hlk, hdk]; rfl) HE.out
                    clear hlk hdk HE
                    go_wp2_with (first | (go_at_call 32; refine (cLk _).mono ?_; rintro e w' ⟨rfl, rfl⟩) | (go_at_call 33; refine (cDk _).mono ?_; rintro e w' ⟨rfl, rfl⟩))
                    go_roundg (s.size - (kx + 1))
                    case measure => omega
                    case rel => exact ⟨kx + 1, by omega, Nat.le_refl _, by go_num, rfl, HE2⟩
                · rw [hlk] at cLk
                  have HE2 : Hid (a + N = kx + 1 + goN ldB (s.data.toList.drop (kx + 1))) := goN_step hm (by rw [ldB, hlk]; rfl) HE.out
                  clear hlk HE
                  go_wp2_with (first | (go_at_call 32; refine (cLk _).mono ?_; rintro e w' ⟨rfl, rfl⟩))
                  go_roundg (s.size - (kx + 1))
                  case measure => omega
                  case rel => exact ⟨kx + 1, by omega, Nat.le_refl _, by go_num, rfl, HE2⟩
              · have hmz : ¬ (kx : Int) < (s.size : Int) := by omega
                have HF : Hid (a + N = kx) := by
                  have h := goN_out (by omega) hkx HE.out
                  show _ = _
                  omega
                clear HE
                go_wp2
                go_meet
                exact ⟨1, N, by rw [HF.out], rfl, HT, hown, BW.out⟩
        case rest => as_aux_lemma =>
          obtain ⟨k, n, rfl, rfl, HT, o1, B1⟩ := hcut
          obtain ⟨hn1, hn2⟩ := tokAt_len HT.out
          have hn3 : a + n ≤ s.size := by rw [List.length_drop] at hn2; simp at hn2; omega
          obtain ⟨Y, hY, hY1, hY2⟩ := slice_mid s a (a + n) (by omega) hn3
          have hYe : Y = ⟨((s.data.toList.drop a).take n).toArray⟩ := eq_of_list (by rw [hY1, show a + n - a = n from by omega])
          have HR2 : Hid ((R, E, P) = lexS f' (a + n) (s.data.toList.drop (a + n)) (acc ++ [(k, Y, a)])) := by
            show _ = _
            rw [HR1.out, lexA_tok f' a _ acc HNE.out HT.out, ← hYe, List.drop_drop]
          have hYz : ∀ W : World, Sem.run Tryz.prog (Instr.slice 9 (.string s) (some (.int .i64 (a : Int))) (some (.int .i64 ((a : Int) + (n : Int)))) none) W = .ok (.string Y) W := by
            have e : ((a + n : Nat) : Int) = (a : Int) + (n : Int) := by omega
            rw [e] at hY; exact hY
          clear HR1 hY1 hYe HT hn2 hY2 hown BW cL cD
          go_wp2_with (at_builtin; refine wpList_append_own _ rfl _ _ 45 rfl w.heap.size 79 i0 (.agg #[.int .i64 0, .string ⟨#[]⟩, .int .i64 0]) 3 32 Tryz.underlying45 hi hz0 hz1 hz2 rfl (by decide) _ _ _ rfl (o1.alloc _) ⟨wc.heap.size, 0, none⟩ 1 1 [.int .i64 k, .string Y, .int .i64 (a : Int)] rfl rfl ?c1 ?c2 ?c3 ?c4 ?c5 ?_)
          case c1 =>
            intro i u hu
            rw [Go.WideShapes.add_plain]
            match i, hu with
            | 0, hu => simp at hu; subst hu; rw [World.cell?_alloc_at _ _ _ _ (by simp)]; rfl
            | 1, hu => simp at hu; subst hu; rw [World.cell?_alloc_at _ _ _ _ (by simp)]; rfl
            | 2, hu => simp at hu; subst hu; rw [World.cell?_alloc_at _ _ _ _ (by simp)]; rfl
          case c2 =>
            intro u hu
            simp at hu
            rcases hu with rfl | rfl | rfl <;> rfl
          case c3 => unfold maxLen; omega
          case c4 => omega
          case c5 => have := B1.size; simp; omega
          · intro v' w3 hown' hgrow _
            have RR := rel_tok o1 B1 (by have := B1.size; omega) hown' hgrow
            clear hown' hgrow o1
            go_wp2
            go_roundg (s.size - (a + n) + 1)
            case measure => omega
            case rel => exact ⟨a + n, f', acc ++ [(k, Y, a)], by go_num, by omega, by omega, by omega, RR.1, RR.2, HR2, by rw [List.length_append, List.length_singleton]; omega⟩
      · have HR1 : Hid ((R, E, P) = lexS (f' + 1) (a + 1) (s.data.toList.drop (a + 1)) acc) := by
          show _ = _
          rw [HR.out, HCO.out, lexS_blank _ _ _ _ _ hb]
        rcases bl_cases hb with h1 | h1
        · have e1 : ((s[a].toNat : Int) == 32) = true := by rw [h1]; rfl
          clear hb h1 HR HCO
          go_wp2
          go_roundg (s.size - (a + 1) + 1)
          case measure => omega
          case rel => exact ⟨a + 1, f' + 1, acc, by go_num, by omega, by omega, by omega, hown, BW, HR1, by omega⟩
        · have e1 : ((s[a].toNat : Int) == 32) = false := by rw [h1]; rfl
          have e2 : ((s[a].toNat : Int) == 10) = true := by rw [h1]; rfl
          clear hb h1 HR HCO
          go_wp2
          go_roundg (s.size - (a + 1) + 1)
          case measure => omega
          case rel => exact ⟨a + 1, f' + 1, acc, by go_num, by omega, by omega, by omega, hown, BW, HR1, by omega⟩
    · have hltz : ¬ (a : Int) < (s.size : Int) := by omega
      have hF : (R, E, P) = (acc, 0, 0) := by
        have h := HR.out
        rw [List.drop_eq_nil_of_le (by simp; omega), lexS_nil] at h
        exact h
      obtain ⟨rfl, he⟩ := Prod.mk.inj hF
      obtain ⟨rfl, rfl⟩ := Prod.mk.inj he
      clear HR hF he
      go_wp2
      go_ret3
      exact ⟨⟨_, rfl, own_toks hown⟩, BW.out⟩
theorem refTok_any (s : ByteArray) (R : List Tok) (E : Int) (P : Nat) (w : World) (h : lexAll s.data.toList = (R, E, P)) :
    Calls Tryz.prog 15 #[.string s] w fun e w' => (∃ v, e = .returned (.tuple #[v, .int .i64 E, .int .i64 (P : Nat)]) ∧ IsToks w' v R) ∧ Below w.heap.size w w' := by
  have hl : s.data.toList.length = s.size := by simp
  rw [lexAll] at h
  by_cases h4 : 400 < s.size
  · rw [if_pos (by omega)] at h
    obtain ⟨rfl, he⟩ := Prod.mk.inj h
    obtain ⟨rfl, rfl⟩ := Prod.mk.inj he
    exact (refTok_full s w h4).mono fun e w' hh => ⟨⟨_, hh.1, isToks_nil _⟩, by rw [hh.2]; exact Below.refl _ _⟩
  · rw [if_neg (by omega), hl] at h
    have := refTok_loop s w (by omega)
    rw [h] at this
    exact this
end Go.Proofs.YtnpinbpjfngknaaGreatDoor
