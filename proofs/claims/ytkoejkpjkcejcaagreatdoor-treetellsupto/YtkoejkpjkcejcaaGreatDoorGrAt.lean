/-
  TreeIs, TreeNm, TreeTk, TreeP2, TreeOe, in one text.
-/
import Derived.Test.YtkoejkpjkcejcaaGreatDoorGrAe
import Derived.BigQuiet
import Derived.Test.YtkoejkpjkcejcaaGreatDoorGrAd
import Derived.WalkSmall
import Derived.Test.YtkoejkpjkcejcaaGreatDoorGrAf
namespace Go.Proofs.YtkoejkpjkcejcaaGreatDoor
open Go.RowKit Go.BigFrame
set_option linter.unusedVariables false

set_option maxHeartbeats 1000000 in
set_option maxRecDepth 20000 in
theorem in_is (w : World) (r : Nat) (tp : Option Addr) (tc : Nat) (ts : List Tok) (en : Nat) (st : St) (s : ByteArray) (h : InAt w r tp tc ts en st) (hn : ts.length ≤ 400) (hi : st.i ≤ 1000000) :
    Calls Tryz.prog 62 #[.pointer (some ⟨r, 0, none⟩), .string s] w fun e w' => e = .returned (.bool (isT ts st s.data.toList)) ∧ ∃ q, w' = w.drewN q := by
  obtain ⟨c0, c1, c2, c3, f1, f3, lt, ht⟩ := h
  obtain ⟨i, bad⟩ := st
  simp only at c1 c3 hi ⊢
  by_cases hb : bad < 0
  · have hbd : decide (bad < 0) = true := decide_eq_true hb
    by_cases hlt : i < ts.length
    · have hltz : (i : Int) < (ts.length : Int) := by omega
      have hltd : decide ((i : Int) < (ts.length : Int)) = true := decide_eq_true hltz
      have i0 : (0 : Int) ≤ (i : Int) := by omega
      rcases ht with h0 | ⟨b, off, rfl, hbr, hin⟩
      · exact absurd h0 (by omega)
      obtain ⟨d0, d1, d2⟩ := hin.2 i hlt
      have hbl := hin.1
      rw [isT_in hb hlt]
      generalize ts[i] = y at d0 d1 d2
      obtain ⟨yk, yx, ya⟩ := y
      simp only at d0 d1 d2 ⊢
      clear hin
      obtain ⟨B, hB⟩ : ∃ B, (yx.data.toList == s.data.toList) = B := ⟨_, rfl⟩
      have hBt : (yx.toList == s.toList) = B := by rw [Lib.toList_data, Lib.toList_data]; exact hB
      rw [hB]
      clear hB
      by_cases k1 : yk = 1
      · have k1b : (yk == 1) = true := by simpa using k1
        have hR : ((decide (yk = 1) || decide (yk = 4)) && B) = B := by simp [k1]
        rw [hR]
        clear hR k1
        go_enter Tryz.func62, Tryz.ntmps62
        go_wp2
        go_big_quiet (fail)
        go_wp2
        go_ret
        exact ⟨rfl, _, rfl⟩
      · have k1b : (yk == 1) = false := by simpa using k1
        by_cases k4 : yk = 4
        · have k4b : (yk == 4) = true := by simpa using k4
          have hR : ((decide (yk = 1) || decide (yk = 4)) && B) = B := by simp [k4]
          rw [hR]
          clear hR k1 k4
          go_enter Tryz.func62, Tryz.ntmps62
          go_wp2
          go_big_quiet (fail)
          go_wp2
          go_ret
          exact ⟨rfl, _, rfl⟩
        · have k4b : (yk == 4) = false := by simpa using k4
          have hR : ((decide (yk = 1) || decide (yk = 4)) && B) = false := by simp [k1, k4]
          rw [hR]
          clear hR k1 k4 hBt
          go_enter Tryz.func62, Tryz.ntmps62
          go_wp2
          go_big_quiet (fail)
          go_wp2
          go_ret
          exact ⟨rfl, _, rfl⟩
    · have hltz : ¬ (i : Int) < (ts.length : Int) := by omega
      have hltd : decide ((i : Int) < (ts.length : Int)) = false := decide_eq_false hltz
      rw [isT_out (by omega)]
      clear ht
      go_enter Tryz.func62, Tryz.ntmps62
      go_wp2
      go_big_quiet (fail)
      go_wp2
      go_ret
      exact ⟨rfl, _, rfl⟩
  · have hbd : decide (bad < 0) = false := decide_eq_false hb
    rw [isT_bad hb]
    clear ht
    go_enter Tryz.func62, Tryz.ntmps62
    go_wp2
    go_big_quiet (fail)
    go_wp2
    go_ret
    exact ⟨rfl, _, rfl⟩
theorem hasT_yes {ts : List Tok} {st : St} {s : List UInt8} (h : isT ts st s = true) : hasT ts st s = adv st := by rw [hasT, if_pos h]
theorem hasT_no {ts : List Tok} {st : St} {s : List UInt8} (h : isT ts st s = false) : hasT ts st s = st := by rw [hasT, if_neg (by rw [h]; decide)]
set_option maxHeartbeats 4000000 in
theorem in_has (w : World) (r : Nat) (tp : Option Addr) (tc : Nat) (ts : List Tok) (en : Nat) (st : St) (s : ByteArray) (h : InAt w r tp tc ts en st) (hn : ts.length ≤ 400) (hi : st.i ≤ 1000) :
    Calls Tryz.prog 40 #[.pointer (some ⟨r, 0, none⟩), .string s] w fun e w' => e = .returned (.bool (isT ts st s.data.toList)) ∧ InAt w' r tp tc ts en (hasT ts st s.data.toList) ∧ But r w w' := by
  have cI := in_is w r tp tc ts en st s h hn (by omega)
  obtain ⟨c0, c1, c2, c3, f1, f3, lt, ht⟩ := h
  have h := InAt.mk c0 c1 c2 c3 f1 f3 lt ht
  cases hb : isT ts st s.data.toList
  · rw [hb] at cI
    rw [hasT_no hb]
    clear hb
    go_enter Tryz.func40, Tryz.ntmps40
    go_wp2_with fail
    refine cI.mono ?_
    rintro e w1 ⟨rfl, q, rfl⟩
    go_wp2
    go_ret
    exact ⟨rfl, h.same (w' := w.drewN q) rfl, (But.refl r w).drewN q⟩
  · rw [hb] at cI
    rw [hasT_yes hb]
    clear hb
    go_enter Tryz.func40, Tryz.ntmps40
    go_wp2_with fail
    refine cI.mono ?_
    rintro e w1 ⟨rfl, q, rfl⟩
    go_wp2
    go_ret
    exact ⟨rfl, (h.same (w' := w.drewN q) rfl).next, ((But.refl r w).drewN q).set 1 _⟩
set_option maxHeartbeats 4000000 in
theorem in_need (w : World) (r : Nat) (tp : Option Addr) (tc : Nat) (ts : List Tok) (en : Nat) (st : St) (s : ByteArray) (h : InAt w r tp tc ts en st) (hn : ts.length ≤ 400) (hi : st.i ≤ 1000) :
    Calls Tryz.prog 63 #[.pointer (some ⟨r, 0, none⟩), .string s] w fun e w' => e = .returned (.tuple #[]) ∧ InAt w' r tp tc ts en (needT ts en st s.data.toList) ∧ But r w w' := by
  have cI := in_has w r tp tc ts en st s h hn hi
  cases hb : isT ts st s.data.toList
  · rw [hb, hasT_no hb] at cI
    have hN : needT ts en st s.data.toList = failT ts en st := by rw [needT, if_neg (by rw [hb]; decide)]
    rw [hN]
    clear hb hN
    go_enter Tryz.func63, Tryz.ntmps63
    go_wp2_with fail
    refine cI.mono ?_
    rintro e w1 ⟨rfl, h1, b1⟩
    go_wp2_with fail
    refine (in_fail _ r tp tc ts en st h1 hn (by omega)).mono ?_
    rintro e w2 ⟨rfl, h2, b2⟩
    go_wp2
    go_end0
    exact ⟨rfl, h2, b1.trans b2⟩
  · rw [hb, hasT_yes hb] at cI
    have hN : needT ts en st s.data.toList = adv st := by rw [needT, if_pos hb]
    rw [hN]
    clear hb hN
    go_enter Tryz.func63, Tryz.ntmps63
    go_wp2_with fail
    refine cI.mono ?_
    rintro e w1 ⟨rfl, h1, b1⟩
    go_wp2
    go_end0
    exact ⟨rfl, h1, b1⟩
end Go.Proofs.YtkoejkpjkcejcaaGreatDoor
namespace Go.Proofs.YtkoejkpjkcejcaaGreatDoor
open Go.RowKit
set_option linter.unusedVariables false

def wordsA : Array Value := #[.string ⟨#[111, 114]⟩, .string ⟨#[97, 110, 100]⟩, .string ⟨#[110, 111, 116]⟩, .string ⟨#[116, 114, 117, 101]⟩, .string ⟨#[102, 97, 108, 115, 101]⟩, .string ⟨#[108, 101, 110]⟩, .string ⟨#[105, 102]⟩, .string ⟨#[115, 101, 108, 101, 99, 116]⟩, .string ⟨#[97, 115]⟩, .string ⟨#[102, 114, 111, 109]⟩, .string ⟨#[119, 104, 101, 114, 101]⟩, .string ⟨#[103, 114, 111, 117, 112]⟩, .string ⟨#[98, 121]⟩, .string ⟨#[119, 105, 110, 100, 111, 119]⟩, .string ⟨#[115, 108, 105, 100, 101]⟩, .string ⟨#[99, 111, 117, 110, 116]⟩, .string ⟨#[115, 117, 109]⟩, .string ⟨#[108, 101, 97, 115, 116]⟩, .string ⟨#[109, 111, 115, 116]⟩]
theorem words_at (k : Nat) (h : k < 19) : ∃ S : ByteArray, wordsA[k]? = some (.string S) ∧ wordsL[k]'h = S.data.toList := by
  have h : k = 0 ∨ k = 1 ∨ k = 2 ∨ k = 3 ∨ k = 4 ∨ k = 5 ∨ k = 6 ∨ k = 7 ∨ k = 8 ∨ k = 9 ∨ k = 10 ∨ k = 11 ∨ k = 12 ∨ k = 13 ∨ k = 14 ∨ k = 15 ∨ k = 16 ∨ k = 17 ∨ k = 18 := by omega
  rcases h with rfl | rfl | rfl | rfl | rfl | rfl | rfl | rfl | rfl | rfl | rfl | rfl | rfl | rfl | rfl | rfl | rfl | rfl | rfl
  · exact ⟨⟨#[111, 114]⟩, rfl, rfl⟩
  · exact ⟨⟨#[97, 110, 100]⟩, rfl, rfl⟩
  · exact ⟨⟨#[110, 111, 116]⟩, rfl, rfl⟩
  · exact ⟨⟨#[116, 114, 117, 101]⟩, rfl, rfl⟩
  · exact ⟨⟨#[102, 97, 108, 115, 101]⟩, rfl, rfl⟩
  · exact ⟨⟨#[108, 101, 110]⟩, rfl, rfl⟩
  · exact ⟨⟨#[105, 102]⟩, rfl, rfl⟩
  · exact ⟨⟨#[115, 101, 108, 101, 99, 116]⟩, rfl, rfl⟩
  · exact ⟨⟨#[97, 115]⟩, rfl, rfl⟩
  · exact ⟨⟨#[102, 114, 111, 109]⟩, rfl, rfl⟩
  · exact ⟨⟨#[119, 104, 101, 114, 101]⟩, rfl, rfl⟩
  · exact ⟨⟨#[103, 114, 111, 117, 112]⟩, rfl, rfl⟩
  · exact ⟨⟨#[98, 121]⟩, rfl, rfl⟩
  · exact ⟨⟨#[119, 105, 110, 100, 111, 119]⟩, rfl, rfl⟩
  · exact ⟨⟨#[115, 108, 105, 100, 101]⟩, rfl, rfl⟩
  · exact ⟨⟨#[99, 111, 117, 110, 116]⟩, rfl, rfl⟩
  · exact ⟨⟨#[115, 117, 109]⟩, rfl, rfl⟩
  · exact ⟨⟨#[108, 101, 97, 115, 116]⟩, rfl, rfl⟩
  · exact ⟨⟨#[109, 111, 115, 116]⟩, rfl, rfl⟩
theorem wany_take {l : List UInt8} {k : Nat} (h : k < wordsL.length) : (wordsL.take (k + 1)).any (· == l) = ((wordsL.take k).any (· == l) || wordsL[k] == l) := by
  rw [List.take_succ_eq_append_getElem h, List.any_append]
  simp only [List.any_cons, List.any_nil, Bool.or_false]
theorem wany_hit {l : List UInt8} {k : Nat} (h : k < wordsL.length) (he : (wordsL[k] == l) = true) : wordsL.any (· == l) = true := by
  rw [List.any_eq_true]
  exact ⟨_, List.getElem_mem h, he⟩
set_option maxHeartbeats 4000000 in
set_option maxRecDepth 20000 in
theorem refWord_any (s : ByteArray) (w : World) :
    Calls Tryz.prog 75 #[.string s] w fun e w' => e = .returned (.bool (wordsL.any (· == s.data.toList))) ∧ Below w.heap.size w w' := by
  obtain ⟨R, hR⟩ : ∃ R, wordsL.any (· == s.data.toList) = R := ⟨_, rfl⟩
  have HR : Hid (wordsL.any (· == s.data.toList) = R) := hR
  rw [hR]
  clear hR
  go_enter Tryz.func75, Tryz.ntmps75
  go_wp2
  go_loopg [4] 19 (fun gg s4 wr => ∃ kk : Nat, kk ≤ 19 ∧ 19 - kk ≤ gg ∧ s4 = .int .i64 kk ∧ wr = w.alloc (.cells #[.string ⟨#[111, 114]⟩, .string ⟨#[97, 110, 100]⟩, .string ⟨#[110, 111, 116]⟩, .string ⟨#[116, 114, 117, 101]⟩, .string ⟨#[102, 97, 108, 115, 101]⟩, .string ⟨#[108, 101, 110]⟩, .string ⟨#[105, 102]⟩, .string ⟨#[115, 101, 108, 101, 99, 116]⟩, .string ⟨#[97, 115]⟩, .string ⟨#[102, 114, 111, 109]⟩, .string ⟨#[119, 104, 101, 114, 101]⟩, .string ⟨#[103, 114, 111, 117, 112]⟩, .string ⟨#[98, 121]⟩, .string ⟨#[119, 105, 110, 100, 111, 119]⟩, .string ⟨#[115, 108, 105, 100, 101]⟩, .string ⟨#[99, 111, 117, 110, 116]⟩, .string ⟨#[115, 117, 109]⟩, .string ⟨#[108, 101, 97, 115, 116]⟩, .string ⟨#[109, 111, 115, 116]⟩] 9) ∧ Hid ((wordsL.take kk).any (· == s.data.toList) = false))
  case atStart => exact ⟨0, Nat.zero_le _, by omega, rfl, rfl, rfl⟩
  case round =>
    obtain ⟨kk, hkk, hg, rfl, rfl, HO⟩ := hrel
    by_cases hlt : kk < 19
    · have hltz : (kk : Int) < 19 := by omega
      have k0 : (0 : Int) ≤ (kk : Int) := by omega
      obtain ⟨S, hS, hS1⟩ := words_at kk hlt
      have hc : (w.alloc (.cells #[.string ⟨#[111, 114]⟩, .string ⟨#[97, 110, 100]⟩, .string ⟨#[110, 111, 116]⟩, .string ⟨#[116, 114, 117, 101]⟩, .string ⟨#[102, 97, 108, 115, 101]⟩, .string ⟨#[108, 101, 110]⟩, .string ⟨#[105, 102]⟩, .string ⟨#[115, 101, 108, 101, 99, 116]⟩, .string ⟨#[97, 115]⟩, .string ⟨#[102, 114, 111, 109]⟩, .string ⟨#[119, 104, 101, 114, 101]⟩, .string ⟨#[103, 114, 111, 117, 112]⟩, .string ⟨#[98, 121]⟩, .string ⟨#[119, 105, 110, 100, 111, 119]⟩, .string ⟨#[115, 108, 105, 100, 101]⟩, .string ⟨#[99, 111, 117, 110, 116]⟩, .string ⟨#[115, 117, 109]⟩, .string ⟨#[108, 101, 97, 115, 116]⟩, .string ⟨#[109, 111, 115, 116]⟩] 9)).cell? ⟨w.heap.size, kk, none⟩ = some (.string S) := by
        rw [World.cell?_alloc_at _ _ _ _ rfl]; exact hS
      cases hb : wordsL[kk] == s.data.toList
      · have hbt : (S.toList == s.toList) = false := by rw [Lib.toList_data, Lib.toList_data, ← hS1]; exact hb
        have HO2 : Hid ((wordsL.take (kk + 1)).any (· == s.data.toList) = false) := by
          show _ = _
          rw [wany_take hlt, HO.out, hb]; rfl
        clear hb hS hS1 HO
        go_wp2
        go_roundg (19 - (kk + 1))
        case measure => omega
        case rel => exact ⟨kk + 1, by omega, by omega, by go_num, rfl, HO2⟩
      · have hbt : (S.toList == s.toList) = true := by rw [Lib.toList_data, Lib.toList_data, ← hS1]; exact hb
        have hR : R = true := by rw [← HR.out]; exact wany_hit hlt hb
        subst hR
        clear hb hS hS1 HO
        go_wp2
        go_ret
        exact ⟨rfl, (Below.refl _ _).alloc (Nat.le_refl _) _⟩
    · have hltz : ¬ (kk : Int) < 19 := by omega
      have hR : R = false := by
        have h := HO.out
        rw [List.take_of_length_le (by show 19 ≤ kk; omega)] at h
        rw [← HR.out]; exact h
      subst hR
      clear HO
      go_wp2
      go_ret
      exact ⟨rfl, (Below.refl _ _).alloc (Nat.le_refl _) _⟩
theorem letT_take (s : ByteArray) (k : Nat) (h : k < s.size) : (s.data.toList.take (k + 1)).all letB = ((s.data.toList.take k).all letB && letB s[k]) := by
  have e : s.data.toList.take (k + 1) = s.data.toList.take k ++ [s[k]] := by
    rw [List.take_succ_eq_append_getElem (by simpa using h)]; rfl
  rw [e]; simp [List.all_append]
theorem letT_not (s : ByteArray) (k : Nat) (h : k < s.size) (hc : letB s[k] = false) : s.data.toList.all letB = false := by
  rw [List.all_eq_false]
  exact ⟨s[k], by rw [show s[k] = s.data.toList[k]'(by simpa using h) from rfl]; exact List.getElem_mem _, by simp [hc]⟩
theorem letB_f {c : UInt8} (h : (c.toNat : Int) < 97 ∨ 122 < (c.toNat : Int)) : letB c = false := by
  rw [letB, Bool.and_eq_false_iff, decide_eq_false_iff_not, decide_eq_false_iff_not]; omega
theorem letB_t {c : UInt8} (h1 : 97 ≤ (c.toNat : Int)) (h2 : (c.toNat : Int) ≤ 122) : letB c = true := by
  rw [letB, Bool.and_eq_true, decide_eq_true_eq, decide_eq_true_eq]; exact ⟨h1, h2⟩
set_option maxHeartbeats 4000000 in
set_option maxRecDepth 20000 in
theorem refLetters_any (s : ByteArray) (w : World) (hs : s.size ≤ maxLen) :
    Calls Tryz.prog 74 #[.string s] w fun e w' => e = .returned (.bool (lettersB s.data.toList)) ∧ w' = w := by
  unfold maxLen at hs
  have hl : s.data.toList.length = s.size := by simp
  by_cases h0 : s.size = 0
  · have he : s.data.toList = [] := List.length_eq_zero_iff.1 (by omega)
    have het : s.toList.isEmpty = true := by rw [Lib.toList_data, he]; rfl
    have hL : lettersB s.data.toList = false := by rw [he]; rfl
    rw [hL]
    clear he hl hL
    go_enter Tryz.func74, Tryz.ntmps74
    go_wp2
    go_ret
    exact ⟨rfl, rfl⟩
  · have hne : s.data.toList ≠ [] := fun e => h0 (by rw [e] at hl; simpa using hl.symm)
    have het : s.toList.isEmpty = false := by rw [Lib.toList_data, List.isEmpty_eq_false_iff]; exact hne
    by_cases h8 : 8 < s.size
    · have h8z : (8 : Int) < (s.size : Int) := by omega
      have hL : lettersB s.data.toList = false := by simp [lettersB]; omega
      rw [hL]
      clear hne hl hL
      go_enter Tryz.func74, Tryz.ntmps74
      go_wp2
      go_ret
      exact ⟨rfl, rfl⟩
    · have h8z : ¬ (8 : Int) < (s.size : Int) := by omega
      have hL : lettersB s.data.toList = s.data.toList.all letB := by
        rw [lettersB]
        have h1 : decide (s.data.toList ≠ []) = true := decide_eq_true hne
        have h2 : decide (s.data.toList.length ≤ 8) = true := decide_eq_true (by omega)
        rw [h1, h2]; rfl
      rw [hL]
      obtain ⟨R, hR⟩ : ∃ R, s.data.toList.all letB = R := ⟨_, rfl⟩
      have HR : Hid (s.data.toList.all letB = R) := hR
      rw [hR]
      clear hR hL hne hl
      go_enter Tryz.func74, Tryz.ntmps74
      go_wp2
      go_loop [3] (fun i => ∃ k : Nat, k ≤ s.size ∧ i = .int .i64 k ∧ Hid ((s.data.toList.take k).all letB = true)) (fun i => s.size - (intOf i).toNat)
      case atStart => exact ⟨0, Nat.zero_le _, rfl, rfl⟩
      case round =>
        obtain ⟨k, hk, rfl, HP⟩ := hrel
        by_cases hlt : k < s.size
        · cases hc : letB s[k]
          · have hR : R = false := by rw [← HR.out]; exact letT_not s k hlt hc
            subst hR
            have HC : Hid (letB s[k] = false) := hc
            clear hc HP
            by_cases h1 : (s[k].toNat : Int) < 97
            · go_wp2
              go_ret
              exact ⟨rfl, rfl⟩
            · have h2 : 122 < (s[k].toNat : Int) := by
                rcases Int.lt_or_le 122 (s[k].toNat : Int) with h | h
                · exact h
                · have := letB_t (c := s[k]) (by omega) h
                  rw [HC.out] at this; cases this
              go_wp2
              go_ret
              exact ⟨rfl, rfl⟩
          · have HP2 : Hid ((s.data.toList.take (k + 1)).all letB = true) := by
              show _ = _
              rw [letT_take s k hlt, HP.out, hc]; rfl
            have hb : 97 ≤ (s[k].toNat : Int) ∧ (s[k].toNat : Int) ≤ 122 := by
              rw [letB, Bool.and_eq_true, decide_eq_true_eq, decide_eq_true_eq] at hc; exact hc
            have h1 : ¬ (s[k].toNat : Int) < 97 := by omega
            have h2 : ¬ 122 < (s[k].toNat : Int) := by omega
            clear hc HP hb
            go_wp2
            go_round
            case rel => exact ⟨k + 1, by omega, by go_num, HP2⟩
            case measure => simp [intOf]; omega
        · have hR : R = true := by
            have h := HP.out
            rw [List.take_of_length_le (by simp; omega)] at h
            rw [← HR.out]; exact h
          subst hR
          go_wp2
          go_ret
          exact ⟨rfl, rfl⟩
set_option maxHeartbeats 1000000 in
theorem refName_any (s : ByteArray) (w : World) (hs : s.size ≤ maxLen) :
    Calls Tryz.prog 50 #[.string s] w fun e w' => e = .returned (.bool (nameT s.data.toList)) ∧ Below w.heap.size w w' := by
  have cL := fun W => refLetters_any s W hs
  have cW := refWord_any s
  rw [nameT]
  generalize lettersB s.data.toList = A at cL ⊢
  generalize wordsL.any (· == s.data.toList) = B at cW ⊢
  go_enter Tryz.func50, Tryz.ntmps50
  go_wp2_with fail
  refine (cL _).mono ?_
  rintro e w1 ⟨rfl, hq⟩
  obtain rfl : w = w1 := hq.symm
  go_wp2_with fail
  refine (cW _).mono ?_
  rintro e w2 ⟨rfl, b2⟩
  cases A <;> cases B
  all_goals
    go_wp2
    go_ret
    exact ⟨rfl, b2⟩
end Go.Proofs.YtkoejkpjkcejcaaGreatDoor
namespace Go.Proofs.YtkoejkpjkcejcaaGreatDoor
open Go.RowKit Go.BigFrame
set_option linter.unusedVariables false

theorem But.of_below {r : Nat} {w w' : World} (h : Below w.heap.size w w') (hr : r ≤ w.heap.size) : But r w w' := ⟨h.mono hr, h.size, fun k hk _ => h.block k hk⟩
theorem InAt.on {w w' : World} {r : Nat} {tp : Option Addr} {tc : Nat} {ts : List Tok} {en : Nat} {st : St} (h : InAt w r tp tc ts en st) (hb : Below w.heap.size w w') : InAt w' r tp tc ts en st := by
  have hc : ∀ o : Nat, w'.cell? ⟨r, o, none⟩ = w.cell? ⟨r, o, none⟩ := fun o => hb.cell (p := ⟨r, o, none⟩) h.lt
  have hf : ∀ o : Nat, w'.frozen? ⟨r, o, none⟩ = w.frozen? ⟨r, o, none⟩ := fun o => hb.frozen (p := ⟨r, o, none⟩) h.lt
  refine ⟨by rw [hc]; exact h.c0, by rw [hc]; exact h.c1, by rw [hc]; exact h.c2, by rw [hc]; exact h.c3, by rw [hf]; exact h.f1, by rw [hf]; exact h.f3, by have := hb.size; have := h.lt; omega, ?_⟩
  rcases h.toks with h0 | ⟨b, off, e1, e2, h3⟩
  · exact .inl h0
  · exact .inr ⟨b, off, e1, e2, h3.on hb⟩
theorem takeT_bad {ts : List Tok} {en : Nat} {st : St} (h : ¬ st.bad < 0) : takeT ts en st = (⟨#[]⟩, failT ts en st) := by rw [takeT, if_neg h, failT, if_neg h]
theorem takeT_out {ts : List Tok} {en : Nat} {st : St} (h : ts.length ≤ st.i) : takeT ts en st = (⟨#[]⟩, failT ts en st) := by
  by_cases hb : st.bad < 0
  · rw [takeT, if_pos hb, List.getElem?_eq_none h]
  · exact takeT_bad hb
theorem takeT_in {ts : List Tok} {en : Nat} {st : St} (hb : st.bad < 0) (h : st.i < ts.length) : takeT ts en st = if ts[st.i].1 = 1 ∧ nameT ts[st.i].2.1.data.toList = true then (ts[st.i].2.1, adv st) else (⟨#[]⟩, failT ts en st) := by
  rw [takeT, if_pos hb, List.getElem?_eq_getElem h]
set_option maxHeartbeats 8000000 in
set_option maxRecDepth 20000 in
theorem in_take (w : World) (r : Nat) (tp : Option Addr) (tc : Nat) (ts : List Tok) (en : Nat) (st : St) (h : InAt w r tp tc ts en st) (hn : ts.length ≤ 400) (hi : st.i ≤ 1000) (hz : ∀ t ∈ ts, t.2.1.size ≤ 400) :
    Calls Tryz.prog 64 #[.pointer (some ⟨r, 0, none⟩)] w fun e w' => e = .returned (.string (takeT ts en st).1) ∧ InAt w' r tp tc ts en (takeT ts en st).2 ∧ But r w w' := by
  have cF := fun q => in_fail (w.drewN q) r tp tc ts en st (h.same (w' := w.drewN q) rfl) hn (by omega)
  have h0 := h
  obtain ⟨c0, c1, c2, c3, f1, f3, lt, ht⟩ := h0
  by_cases hb : st.bad < 0
  · have hbd : decide (0 ≤ st.bad) = false := decide_eq_false (by omega)
    by_cases hlt : st.i < ts.length
    · have hltz : ¬ (ts.length : Int) ≤ (st.i : Int) := by omega
      have hltd : decide ((ts.length : Int) ≤ (st.i : Int)) = false := decide_eq_false hltz
      have hltn : decide (ts.length ≤ st.i) = false := decide_eq_false (by omega)
      have hlty : (st.i : Int) < (ts.length : Int) := by omega
      have i0 : (0 : Int) ≤ (st.i : Int) := by omega
      rcases ht with h9 | ⟨b, off, rfl, hbr, hin⟩
      · exact absurd h9 (by omega)
      obtain ⟨d0, d1, d2⟩ := hin.2 st.i hlt
      have hbl := hin.1
      have hys := hz _ (List.getElem_mem hlt)
      have hT := takeT_in (en := en) hb hlt
      generalize ts[st.i] = y at d0 d1 d2 hT hys
      obtain ⟨yk, yx, ya⟩ := y
      simp only at d0 d1 d2 hT hys
      by_cases k1 : yk = 1
      · have k1b : (yk != 1) = false := by simpa using k1
        have cN : ∀ q, Calls Tryz.prog 50 #[.string yx] (w.drewN q) fun e w' => e = .returned (.bool (nameT yx.data.toList)) ∧ Below w.heap.size w w' := fun q => (refName_any yx (w.drewN q) (by unfold maxLen; omega)).mono fun e w' hh => ⟨hh.1, (below_drewN (Below.refl w.heap.size w) q).trans hh.2⟩
        cases hnm : nameT yx.data.toList
        · rw [hnm] at cN hT
          rw [if_neg (by simp)] at hT
          rw [hT]
          have HF : ∀ w1, Below w.heap.size w w1 → Calls Tryz.prog 19 #[.pointer (some ⟨r, 0, none⟩)] w1 fun e w' => e = .returned (.tuple #[]) ∧ InAt w' r (some ⟨b, off, none⟩) tc ts en (failT ts en st) ∧ But r w w' := fun w1 hb1 => (in_fail w1 r _ tc ts en st (h.on hb1) hn (by omega)).mono fun e w' hh => ⟨hh.1, hh.2.1, (But.of_below hb1 (by omega)).trans hh.2.2⟩
          clear hT hnm cF hin
          go_enter Tryz.func64, Tryz.ntmps64
          go_wp2
          go_big_quiet (fail)
          go_wp2
          go_region_with (go_at_call 50; refine (cN _).mono ?_; rintro e w' ⟨rfl, b2⟩)
          all_goals
            go_wp2_with fail
            refine (HF _ b2).mono ?_
            rintro e w3 ⟨rfl, h3, b3⟩
            go_wp2
            go_ret
            exact ⟨rfl, h3, b3⟩
        · rw [hnm] at cN hT
          rw [if_pos ⟨k1, rfl⟩] at hT
          rw [hT]
          have hin1 : ∀ w1, Below w.heap.size w w1 → InAt w1 r (some ⟨b, off, none⟩) tc ts en st := fun w1 hb1 => h.on hb1
          have hd1 : ∀ w1, Below w.heap.size w w1 → w1.cell? ⟨b, off + st.i * 3 + 1, none⟩ = some (.string yx) := fun w1 hb1 => by rw [hb1.cell (p := ⟨b, off + st.i * 3 + 1, none⟩) hbl]; exact d1
          clear hT hnm cF hin h
          go_enter Tryz.func64, Tryz.ntmps64
          go_wp2
          go_big_quiet (fail)
          go_wp2
          go_region_with (go_at_call 50; refine (cN _).mono ?_; rintro e w' ⟨rfl, b2⟩)
          all_goals
            have h1 := hin1 _ b2
            have h2 := h1.next
            have e1 := hd1 _ b2
            obtain ⟨g0, g1, g2, g3, gf1, gf3, gl, _⟩ := h1
            have hlb : b < w'.heap.size := by have := b2.size; omega
            have q1 : (w'.setCell ⟨r, 1, none⟩ (.int .i64 ((st.i : Int) + 1))).cell? ⟨r, 1, none⟩ = some (.int .i64 ((st.i : Int) + 1)) := World.cell?_setCell_same w' ⟨r, 1, none⟩ _ g1
            have q0 := h2.c0
            have e2 : (w'.setCell ⟨r, 1, none⟩ (.int .i64 ((st.i : Int) + 1))).cell? ⟨b, off + st.i * 3 + 1, none⟩ = some (.string yx) := by
              have hk : (w'.setCell ⟨r, 1, none⟩ (.int .i64 ((st.i : Int) + 1))).cell? ⟨b, off + st.i * 3 + 1, none⟩ = w'.cell? ⟨b, off + st.i * 3 + 1, none⟩ := by
                simp only [World.cell?]
                rw [Below.heap_setCell _ _ _ _ (fun e => hbr e)]
              rw [hk]; exact e1
            have BB := (But.of_below (r := r) b2 (by omega)).set 1 (.int .i64 ((st.i : Int) + 1))
            go_wp2
            go_big_quiet (fail)
            go_wp2
            go_ret
            exact ⟨rfl, h2.same rfl, BB.drewN _⟩
      · have k1b : (yk != 1) = true := by simpa using k1
        rw [if_neg (fun e => k1 e.1)] at hT
        rw [hT]
        clear hT hin k1
        go_enter Tryz.func64, Tryz.ntmps64
        go_wp2
        go_big_quiet (fail)
        go_wp2_with fail
        refine (cF _).mono ?_
        rintro e w1 ⟨rfl, h1, b1⟩
        go_wp2
        go_ret
        exact ⟨rfl, h1, ((But.refl r w).drewN _).trans b1⟩
    · have hltz : (ts.length : Int) ≤ (st.i : Int) := by omega
      have hltd : decide ((ts.length : Int) ≤ (st.i : Int)) = true := decide_eq_true hltz
      rw [takeT_out (by omega)]
      clear ht
      go_enter Tryz.func64, Tryz.ntmps64
      go_wp2
      go_big_quiet (fail)
      go_wp2_with fail
      refine (cF _).mono ?_
      rintro e w1 ⟨rfl, h1, b1⟩
      go_wp2
      go_ret
      exact ⟨rfl, h1, ((But.refl r w).drewN _).trans b1⟩
  · have hbd : decide (0 ≤ st.bad) = true := decide_eq_true (by omega)
    rw [takeT_bad hb]
    clear ht
    go_enter Tryz.func64, Tryz.ntmps64
    go_wp2
    go_big_quiet (fail)
    go_wp2_with fail
    refine (cF _).mono ?_
    rintro e w1 ⟨rfl, h1, b1⟩
    go_wp2
    go_ret
    exact ⟨rfl, h1, ((But.refl r w).drewN _).trans b1⟩
end Go.Proofs.YtkoejkpjkcejcaaGreatDoor
namespace Go.Proofs.YtkoejkpjkcejcaaGreatDoor
open Go.RowKit
set_option linter.unusedVariables false
--BEGIN
theorem isT_lt {ts : List Tok} {st : St} {s : List UInt8} (h : isT ts st s = true) : st.i < ts.length ∧ st.bad < 0 := by
  rw [isT, Bool.and_eq_true, decide_eq_true_eq] at h
  refine ⟨?_, h.1⟩
  rcases Nat.lt_or_ge st.i ts.length with h' | h'
  · exact h'
  · rw [List.getElem?_eq_none h'] at h
    exact absurd h.2 (by simp)
theorem failT_i (ts : List Tok) (en : Nat) (st : St) : (failT ts en st).i = st.i := by
  rw [failT]; split <;> rfl
theorem needT_i {ts : List Tok} (en : Nat) {st : St} (s : List UInt8) (h : st.i ≤ ts.length) : st.i ≤ (needT ts en st s).i ∧ (needT ts en st s).i ≤ ts.length := by
  rw [needT]
  split
  · rename_i h1
    have := isT_lt h1
    simp only [adv]; omega
  · rw [failT_i]; omega
theorem takeT_i {ts : List Tok} (en : Nat) {st : St} (h : st.i ≤ ts.length) : st.i ≤ (takeT ts en st).2.i ∧ (takeT ts en st).2.i ≤ ts.length := by
  rw [takeT]
  split
  · cases ht : ts[st.i]? with
    | none => simp only; rw [failT_i]; omega
    | some t =>
      have hlt := (List.getElem?_eq_some_iff.1 ht).1
      simp only
      split
      · simp only [adv]; omega
      · simp only; rw [failT_i]; omega
  · exact ⟨Nat.le_refl _, h⟩
/-- It never falls back, and is at most behind the last. -/
def Mono (ts : List Tok) (sub : St → Ex × St) : Prop := ∀ st, st.i ≤ ts.length → st.i ≤ (sub st).2.i ∧ (sub st).2.i ≤ ts.length
theorem firstT_is {ts : List Tok} {st : St} : ∀ {gs : List (List UInt8)} {g : List UInt8}, firstT ts st gs = some g → g ∈ gs ∧ isT ts st g = true
  | [], g, h => by simp [firstT] at h
  | a :: gs, g, h => by
    rw [firstT] at h
    split at h
    · rename_i h1
      cases h
      exact ⟨List.mem_cons_self, h1⟩
    · obtain ⟨h2, h3⟩ := firstT_is h
      exact ⟨List.mem_cons_of_mem _ h2, h3⟩
theorem pLoop_i {ts : List Tok} {en : Nat} {sub : St → Ex × St} (hs : Mono ts sub) (lv : Nat) : ∀ (k : Nat) (e : Ex) (st : St), st.i ≤ ts.length → st.i ≤ (pLoop ts en sub lv k e st).2.i ∧ (pLoop ts en sub lv k e st).2.i ≤ ts.length
  | 0, e, st, h => ⟨Nat.le_refl _, h⟩
  | k + 1, e, st, h => by
    rw [pLoop]
    cases hf : firstT ts st (sgl lv) with
    | none => exact ⟨Nat.le_refl _, h⟩
    | some g =>
      have h1 := isT_lt (firstT_is hf).2
      have h2 := hs (adv st) (by simp only [adv]; omega)
      simp only [adv] at h2
      simp only
      split
      · simp only [adv]; omega
      · have h3 := pLoop_i (en := en) hs lv k (op1 g (posAt ts en st.i) [e, (sub (adv st)).1]) (sub (adv st)).2 (by simp only [adv]; omega)
        simp only [adv] at h3 ⊢
        omega
theorem pArgs_i {ts : List Tok} {en : Nat} {sub : St → Ex × St} (hs : Mono ts sub) : ∀ (k : Nat) (l : List Ex) (st : St), st.i ≤ ts.length → st.i ≤ (pArgs ts en sub k l st).2.i ∧ (pArgs ts en sub k l st).2.i ≤ ts.length
  | 0, l, st, h => ⟨Nat.le_refl _, h⟩
  | k + 1, l, st, h => by
    rw [pArgs]
    have h1 : st.i ≤ (if l = [] then st else needT ts en st [44]).i ∧ (if l = [] then st else needT ts en st [44]).i ≤ ts.length := by
      split
      · exact ⟨Nat.le_refl _, h⟩
      · exact needT_i en _ h
    have h2 := hs _ h1.2
    have h3 := pArgs_i (en := en) hs k (l ++ [(sub (if l = [] then st else needT ts en st [44])).1]) (sub (if l = [] then st else needT ts en st [44])).2 h2.2
    omega
theorem pCall_i {ts : List Tok} {en : Nat} {sub : St → Ex × St} (hs : Mono ts sub) (op : List UInt8) (many : Nat) (pos : Int) (st : St) (h : st.i ≤ ts.length) : st.i ≤ (pCall ts en sub op many pos st).2.i ∧ (pCall ts en sub op many pos st).2.i ≤ ts.length := by
  rw [pCall]
  have h1 := needT_i en [40] h
  have h2 := pArgs_i (en := en) hs many [] (needT ts en st [40]) h1.2
  have h3 := needT_i en [41] h2.2
  simp only
  omega
theorem pOne_i {ts : List Tok} {en : Nat} {sub : St → Ex × St} {rv : ByteArray → Int × Int × List UInt8 × Int} (hs : Mono ts sub) : Mono ts (pOne ts en sub rv) := by
  intro st h
  rw [pOne]
  split
  · rename_i h1
    have h1 := isT_lt h1
    have h2 := hs (adv st) (by simp only [adv]; omega)
    have h3 := needT_i en [41] h2.2
    simp only [adv] at h2 h3 ⊢
    omega
  · split
    · rename_i h1
      have h1 := isT_lt h1
      have h2 := pCall_i (en := en) hs [108, 101, 110] 1 (posAt ts en st.i) (adv st) (by simp only [adv]; omega)
      simp only [adv] at h2 ⊢
      omega
    · split
      · rename_i h1
        have h1 := isT_lt h1
        have h2 := pCall_i (en := en) hs [105, 102] 3 (posAt ts en st.i) (adv st) (by simp only [adv]; omega)
        simp only [adv] at h2 ⊢
        omega
      · have hc : st.i ≤ (pCol ts en st).2.i ∧ (pCol ts en st).2.i ≤ ts.length := takeT_i en h
        cases ht : ts[st.i]? with
        | none => exact hc
        | some t =>
          have hlt := (List.getElem?_eq_some_iff.1 ht).1
          simp only
          split
          · simp only [adv]; omega
          · exact hc
theorem pE_i {ts : List Tok} {en : Nat} {rv : ByteArray → Int × Int × List UInt8 × Int} : ∀ (f lv : Nat), Mono ts (pE ts en rv f lv)
  | 0, lv => fun st h => ⟨Nat.le_refl _, h⟩
  | f + 1, lv => fun st h => by
    rw [pE]
    split
    · exact ⟨Nat.le_refl _, h⟩
    · split
      · rename_i h1
        have h1 := isT_lt h1.2
        have h2 := pE_i (ts := ts) (en := en) (rv := rv) f 2 (adv st) (by simp only [adv]; omega)
        simp only [adv] at h2 ⊢
        omega
      · split
        · split
          · rename_i h1
            have h1 := isT_lt h1
            have h2 := pE_i (ts := ts) (en := en) (rv := rv) f 5 (adv st) (by simp only [adv]; omega)
            simp only [adv] at h2 ⊢
            omega
          · exact pOne_i (pE_i f 0) st h
        · have h1 := pE_i (en := en) (rv := rv) f (lv + 1) st h
          have h2 := pLoop_i (en := en) (pE_i (ts := ts) (en := en) (rv := rv) f (lv + 1)) lv (ts.length + 1) (pE ts en rv f (lv + 1) st).1 (pE ts en rv f (lv + 1) st).2 h1.2
          omega
--END
end Go.Proofs.YtkoejkpjkcejcaaGreatDoor
namespace Go.Proofs.YtkoejkpjkcejcaaGreatDoor
open Go.RowKit
set_option linter.unusedVariables false
set_option linter.unusedSimpArgs false

/-- A call of Expr at a level gives this expression, and the reader stands so. -/
def GivesE (r : Nat) (tp : Option Addr) (tc : Nat) (ts : List Tok) (en : Nat) (lv : Int) (st : St) (x : Ex) (s1 : St) : Prop :=
  ∀ W, InAt W r tp tc ts en st → Calls Tryz.prog 18 #[.pointer (some ⟨r, 0, none⟩), .int .i64 lv] W fun e w' => ∃ v, e = .returned v ∧ ExIn w' (fun b => W.heap.size ≤ b) v x ∧ InAt w' r tp tc ts en s1 ∧ But r W w'
/-- The same of one. -/
def GivesO (r : Nat) (tp : Option Addr) (tc : Nat) (ts : List Tok) (en : Nat) (st : St) (x : Ex) (s1 : St) : Prop :=
  ∀ W, InAt W r tp tc ts en st → Calls Tryz.prog 41 #[.pointer (some ⟨r, 0, none⟩)] W fun e w' => ∃ v, e = .returned v ∧ ExIn w' (fun b => W.heap.size ≤ b) v x ∧ InAt w' r tp tc ts en s1 ∧ But r W w'
theorem ExIn.lowB {w : World} {a b : Nat} {v : Value} {x : Ex} (h : ExIn w (fun k => b ≤ k) v x) (hab : a ≤ b) : ExIn w (fun k => a ≤ k) v x := ExIn.low (fun k _ hk => Nat.le_trans hab hk) _ _ h
theorem has_yes (w : World) (r : Nat) (tp : Option Addr) (tc : Nat) (ts : List Tok) (en : Nat) (st : St) (s : ByteArray) (h : InAt w r tp tc ts en st) (hn : ts.length ≤ 400) (hi : st.i ≤ 1000) (hb : isT ts st s.data.toList = true) :
    Calls Tryz.prog 40 #[.pointer (some ⟨r, 0, none⟩), .string s] w fun e w' => e = .returned (.bool true) ∧ InAt w' r tp tc ts en (adv st) ∧ But r w w' := by
  have h := in_has w r tp tc ts en st s h hn hi
  rw [hasT_yes hb, hb] at h
  exact h
theorem has_no (w : World) (r : Nat) (tp : Option Addr) (tc : Nat) (ts : List Tok) (en : Nat) (st : St) (s : ByteArray) (h : InAt w r tp tc ts en st) (hn : ts.length ≤ 400) (hi : st.i ≤ 1000) (hb : isT ts st s.data.toList = false) :
    Calls Tryz.prog 40 #[.pointer (some ⟨r, 0, none⟩), .string s] w fun e w' => e = .returned (.bool false) ∧ InAt w' r tp tc ts en st ∧ But r w w' := by
  have h := in_has w r tp tc ts en st s h hn hi
  rw [hasT_no hb, hb] at h
  exact h
/-- Ahead of a call there is a place for what is returned. -/
def zE : Obj := .cells #[.string ⟨#[]⟩, .string ⟨#[]⟩, .int .i64 0, .int .i64 0, .string ⟨#[]⟩, .slice none 0 0, .int .i64 0] 26
theorem in_z {w : World} {r : Nat} {tp : Option Addr} {tc : Nat} {ts : List Tok} {en : Nat} {st : St} (h : InAt w r tp tc ts en st) : InAt (w.alloc zE) r tp tc ts en st ∧ But r w (w.alloc zE) ∧ r < w.heap.size := by
  have b := (Below.refl w.heap.size w).alloc (Nat.le_refl _) zE
  exact ⟨h.on b, But.of_below b (Nat.le_of_lt h.lt), h.lt⟩
theorem own_ne {r a : Nat} (h : r < a) : ∀ b, a ≤ b → b ≠ r := fun b hb => by omega
/-- The words lie elsewhere. -/
def TokNe (tp : Option Addr) (ts : List Tok) (z : Nat) : Prop := ts.length = 0 ∨ ∃ b off, tp = some ⟨b, off, none⟩ ∧ b ≠ z
theorem InAt.ne {w : World} {r : Nat} {tp : Option Addr} {tc : Nat} {ts : List Tok} {en : Nat} {st : St} (h : InAt w r tp tc ts en st) {z : Nat} (hz : w.heap.size ≤ z) : TokNe tp ts z := by
  rcases h.toks with h0 | ⟨b, off, e, _, h2⟩
  · exact .inl h0
  · exact .inr ⟨b, off, e, by have := h2.1; omega⟩
theorem InAt.set7 {w : World} {r : Nat} {tp : Option Addr} {tc : Nat} {ts : List Tok} {en : Nat} {st : St} (h : InAt w r tp tc ts en st) {z : Nat} (hz : r ≠ z) (ht : TokNe tp ts z) (v0 v1 v2 v3 v4 v5 v6 : Value) : InAt (((((((w.setCell ⟨z, 0, none⟩ v0).setCell ⟨z, 1, none⟩ v1).setCell ⟨z, 2, none⟩ v2).setCell ⟨z, 3, none⟩ v3).setCell ⟨z, 4, none⟩ v4).setCell ⟨z, 5, none⟩ v5).setCell ⟨z, 6, none⟩ v6) r tp tc ts en st := by
  obtain ⟨c0, c1, c2, c3, f1, f3, lt, tk⟩ := h
  refine ⟨by simp [World.cell?_setCell_other, hz, c0], by simp [World.cell?_setCell_other, hz, c1], by simp [World.cell?_setCell_other, hz, c2], by simp [World.cell?_setCell_other, hz, c3], by simpa using f1, by simpa using f3, by simpa [World.setCell] using lt, ?_⟩
  rcases tk with h0 | ⟨b, off, e, hb, h2⟩
  · exact .inl h0
  · rcases ht with h0 | ⟨b', off', e', hb'⟩
    · exact .inl h0
    · rw [e] at e'
      simp only [Option.some.injEq, Addr.mk.injEq] at e'
      have hbz : b ≠ z := by rw [e'.1]; exact hb'
      exact .inr ⟨b, off, e, hb, by simpa [World.setCell] using h2.1, fun j hj => by
        simpa [World.cell?_setCell_other] using h2.2 j hj⟩
set_option maxHeartbeats 4000000 in
theorem ref_one_br (r : Nat) (tp : Option Addr) (tc : Nat) (ts : List Tok) (en : Nat) (st : St) (x : Ex) (s1 : St) (hn : ts.length ≤ 400) (hi : st.i ≤ 1000) (hs1 : s1.i ≤ 1000) (hb : isT ts st [40] = true) (cE : GivesE r tp tc ts en 0 (adv st) x s1) : GivesO r tp tc ts en st x (needT ts en s1 [41]) := by
  intro w h
  obtain ⟨hz, bz, hrl⟩ := in_z h
  have hT : TokNe tp ts w.heap.size := h.ne (Nat.le_refl _)
  have cA := in_at _ r tp tc ts en st hz hn (by omega)
  have cH := fun q => has_yes ((w.alloc zE).drewN q) r tp tc ts en st ⟨#[40]⟩ (hz.same rfl) hn hi hb
  have X0 : Box7 (w.alloc zE) w.heap.size (.string ⟨#[]⟩) (.string ⟨#[]⟩) (.int .i64 0) (.int .i64 0) (.string ⟨#[]⟩) (.slice none 0 0) (.int .i64 0) := box7_alloc w _ _ _ _ _ _ _ _
  clear hb h hz
  go_enter Tryz.func41, Tryz.ntmps41
  go_wp2_with fail
  refine cA.mono ?_
  rintro e w1 ⟨rfl, q, rfl⟩
  go_wp2_with fail
  refine (cH q).mono ?_
  rintro e w2 ⟨rfl, h2, b2⟩
  have b2' : But r w w2 := (bz.drewN q).trans b2
  have b2z : But r (w.alloc zE) w2 := ((But.refl r _).drewN q).trans b2
  have hz2 : w.heap.size + 1 ≤ w2.heap.size := by have := b2z.size; simpa [zE] using this
  clear b2 cH cA bz
  go_wp2_with fail
  refine (cE w2 h2).mono ?_
  rintro e w3 ⟨v, rfl, hx, h3, b3⟩
  have b3' : But r w w3 := b2'.trans b3
  have X3 := X0.but (b2z.trans b3) (by omega)
  have hx3 := hx.lowB hz2
  obtain ⟨o1, n1, t1, k1, z1, p1, m1, c1, a1, rfl⟩ := hx.agg
  have L3 := box7_alloc w3 (.string o1) (.string n1) (.int .i64 t1) (.int .i64 k1) (.string z1) (.slice p1 m1 c1) (.int .i64 a1) 26
  have al3 := (Below.refl w3.heap.size w3).alloc (Nat.le_refl _) (.cells #[.string o1, .string n1, .int .i64 t1, .int .i64 k1, .string z1, .slice p1 m1 c1, .int .i64 a1] 26)
  have hr3 := h3.lt
  clear b3 h2 cE b2' hx X0 b2z
  go_wp2_with fail
  refine (in_need _ r tp tc ts en s1 ⟨#[41]⟩ (h3.on al3) hn hs1).mono ?_
  rintro e w4 ⟨rfl, h4, b4⟩
  have b5 : But r w3 w4 := (But.of_below al3 (Nat.le_of_lt hr3)).trans b4
  have hx4 := hx3.but b5 (own_ne (by omega))
  obtain ⟨c0, c1', c2, c3, c4, c5, c6, cf, cl⟩ := L3.but b4 (by omega)
  obtain ⟨d0, d1, d2, d3, d4, d5, d6, df, dl⟩ := X3.but b5 (by omega)
  have df0 := df 0
  have df1 := df 1
  have df2 := df 2
  have df3 := df 3
  have df4 := df 4
  have df5 := df 5
  have df6 := df 6
  clear b4 hx3 df cf L3 X3 al3 h3
  go_wp2
  refine bodyPost_ret (v := .agg #[.string o1, .string n1, .int .i64 t1, .int .i64 k1, .string z1, .slice p1 m1 c1, .int .i64 a1]) (by simp [results, Tryz.results41, go_sem, d0, d1, d2, d3, d4, d5, d6, dl]) rfl ⟨_, rfl, ?_, ?_, ?_⟩
  · exact ((hx4.set7 (own_ne (Nat.lt_succ_self _)) _ _ _ _ _ _ _)).lowB (Nat.le_succ _)
  · exact h4.set7 (by omega) hT _ _ _ _ _ _ _
  · exact (b3'.trans b5).set7 (Nat.le_refl _) (by omega) _ _ _ _ _ _ _
end Go.Proofs.YtkoejkpjkcejcaaGreatDoor
