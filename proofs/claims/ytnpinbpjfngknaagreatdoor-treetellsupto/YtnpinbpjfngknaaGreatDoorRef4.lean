/-
  What the document's reading of a text as a value comes to: sluiceref1's Read.
-/
import Derived.Test.YtnpinbpjfngknaaGreatDoorRef3
import Derived.Test.YtnpinbpjfngknaaGreatDoorLo1
namespace Go.Proofs.YtnpinbpjfngknaaGreatDoor
open Go.RowKit
set_option linter.unusedVariables false

def refR (r : Int × Int × List UInt8 × Int) : Value := .tuple #[.agg #[.int .i64 r.1, .int .i64 r.2.1, .string ⟨r.2.2.1.toArray⟩], .int .i64 r.2.2.2]
theorem not_empty (s : ByteArray) (hp : 0 < s.size) : s.toList.isEmpty = false := by
  rw [Lib.toList_data, List.isEmpty_eq_false_iff]
  intro e
  have : s.data.toList.length = s.size := by simp
  rw [e] at this; simp at this; omega
theorem drop_cons0 (s : ByteArray) (h : 0 < s.size) : s.data.toList = s[0] :: s.data.toList.drop 1 := by have := drop_cons s 0 h; simpa using this
theorem data_of (T : ByteArray) : (⟨T.data.toList.toArray⟩ : ByteArray) = T := by simp

set_option maxRecDepth 20000 in
set_option maxHeartbeats 2000000 in
theorem readT_any (s : ByteArray) (w : World) (hs : s.size ≤ 140737488355328) (h1 : s.data.toList ≠ [116, 114, 117, 101]) (h2 : s.data.toList ≠ [102, 97, 108, 115, 101]) (hp : 0 < s.size) (h0 : (s[0].toNat : Int) = 39) :
    Calls Tryz.prog 35 #[.string s] w fun e w' => e = .returned (refR (readV s)) ∧ Below w.heap.size w w' := by
  have RN : Hid (rd (s.data.toList.drop 1) = none → readV s = (0, 0, [], 2)) := read_rd_none h1 h2 hp h0
  have RS : Hid (∀ l, rd (s.data.toList.drop 1) = some l → readV s = if plainB l = false then (0, 0, [], 2) else if 40 < l.length then (0, 0, [], 4) else (3, 0, l, 0)) := fun l => read_rd_some h1 h2 hp h0
  have q1 : (s.toList == [116, 114, 117, 101]) = false := by rw [Lib.toList_data]; simpa using h1
  have q2 : (s.toList == [102, 97, 108, 115, 101]) = false := by rw [Lib.toList_data]; simpa using h2
  have q3 := not_empty s hp
  have q4 : ((s[0].toNat : Int) == 39) = true := by simpa using h0
  clear h1 h2 h0
  go_enter Tryz.func35, Tryz.ntmps35
  go_wp2
  go_loop [4, 5] (fun v i => ∃ (j : Nat) (T : ByteArray), 1 ≤ j ∧ j ≤ s.size ∧ i = .int .i64 (j : Nat) ∧ v = .string T ∧ Hid (Had s j T) ∧ T.size < j) (fun _ i => s.size - (intOf i).toNat)
  case atStart => exact ⟨1, ⟨#[]⟩, Nat.le_refl _, by omega, rfl, rfl, had_start s, by decide⟩
  case round =>
    obtain ⟨j, T, hj1, hj2, rfl, rfl, HG, hT⟩ := hrel
    have hTm : T.size ≤ maxLen := by unfold maxLen; omega
    by_cases hlt : j < s.size
    · by_cases hc : (s[j].toNat : Int) = 39
      · have HC : Hid (s[j] = 39) := u8_39.1 hc
        have hcb : ((s[j].toNat : Int) == 39) = true := by simpa using hc
        clear hc
        by_cases hl : j + 1 = s.size
        · have HE : Hid (readV s = if plainB T.data.toList = false then (0, 0, [], 2) else if 40 < T.data.toList.length then (0, 0, [], 4) else (3, 0, T.data.toList, 0)) := RS.out _ (had_end hl HC.out HG.out)
          have hle : ((j : Int) + 1 == (s.size : Int)) = true := by simp; omega
          have hji : (j : Int) < (s.size : Int) := by omega
          have hTl : T.data.toList.length = T.size := by simp
          cases hpl : plainB T.data.toList
          · have HF : Hid (readV s = (0, 0, [], 2)) := by have := HE.out; rw [if_pos hpl] at this; exact this
            have HPL : Hid (plainB T.data.toList = false) := hpl
            clear hpl hTl
            go_wp2_with fail
            refine (refPlain_any T _ hTm).mono ?_
            rintro e w1 ⟨rfl, rfl⟩
            rw [HPL.out]
            go_wp2
            exact bodyPost_ret (v := .tuple #[.agg #[.int .i64 0, .int .i64 0, .string ⟨#[]⟩], .int .i64 2]) (by simp [results, Tryz.results35, go_sem]) rfl ⟨by rw [HF.out]; rfl, (Below.refl _ _).alloc (Nat.le_refl _) _⟩
          · have HPL : Hid (plainB T.data.toList = true) := hpl
            by_cases h40 : (40 : Int) < T.size
            · have HF : Hid (readV s = (0, 0, [], 4)) := by have := HE.out; rw [if_neg (by rw [hpl]; decide), if_pos (by omega)] at this; exact this
              clear hpl hTl
              go_wp2_with fail
              refine (refPlain_any T _ hTm).mono ?_
              rintro e w1 ⟨rfl, rfl⟩
              rw [HPL.out]
              go_wp2
              exact bodyPost_ret (v := .tuple #[.agg #[.int .i64 0, .int .i64 0, .string ⟨#[]⟩], .int .i64 4]) (by simp [results, Tryz.results35, go_sem]) rfl ⟨by rw [HF.out]; rfl, (Below.refl _ _).alloc (Nat.le_refl _) _⟩
            · have HF : Hid (readV s = (3, 0, T.data.toList, 0)) := by have := HE.out; rw [if_neg (by rw [hpl]; decide), if_neg (by omega)] at this; exact this
              clear hpl hTl
              go_wp2_with fail
              refine (refPlain_any T _ hTm).mono ?_
              rintro e w1 ⟨rfl, rfl⟩
              rw [HPL.out]
              go_wp2
              exact bodyPost_ret (v := .tuple #[.agg #[.int .i64 3, .int .i64 0, .string T], .int .i64 0]) (by simp [results, Tryz.results35, go_sem]) rfl ⟨by rw [HF.out, refR, data_of], (Below.refl _ _).alloc (Nat.le_refl _) _⟩
        · have hle : ((j : Int) + 1 == (s.size : Int)) = false := by simp; omega
          have hj2s : j + 1 < s.size := by omega
          by_cases hd : (s[j + 1].toNat : Int) = 39
          · have HD : Hid (s[j + 1] = 39) := u8_39.1 hd
            have hdb : ((s[j + 1].toNat : Int) != 39) = false := by simpa using hd
            obtain ⟨X, hX, hX1, hX2⟩ := slice_one s (j + 1) hj2s
            have hX' : ∀ W : World, Sem.run Tryz.prog (Instr.slice 9 (.string s) (some (.int .i64 ((j : Int) + 1))) (some (.int .i64 ((j : Int) + 1 + 1))) none) W = .ok (.string X) W := hX
            have HX : Hid (X.data.toList = [s[j + 1]]) := hX1
            have hsz : (T ++ X).size < j + 2 := by rw [app_size]; omega
            have hXle : X.size ≤ 1 := by omega
            clear hd hX1 hX2 hX
            go_wp2
            go_round
            case rel => exact ⟨j + 2, _, by omega, by omega, by go_num, rfl, had_two hj2s HC.out HD.out HX.out HG.out, hsz⟩
            case measure => simp [intOf]; omega
          · have HD : Hid (¬ s[j + 1] = 39) := fun e => hd (u8_39.2 e)
            have hdb : ((s[j + 1].toNat : Int) != 39) = true := by simpa using hd
            have HF : Hid (readV s = (0, 0, [], 2)) := RN.out (had_bad hj2s HC.out HD.out HG.out)
            clear hd
            go_wp2
            exact bodyPost_ret (v := .tuple #[.agg #[.int .i64 0, .int .i64 0, .string ⟨#[]⟩], .int .i64 2]) (by simp [results, Tryz.results35, go_sem]) rfl ⟨by rw [HF.out]; rfl, (Below.refl _ _).alloc (Nat.le_refl _) _⟩
      · have HC : Hid (¬ s[j] = 39) := fun e => hc (u8_39.2 e)
        have hcb : ((s[j].toNat : Int) == 39) = false := by simpa using hc
        obtain ⟨X, hX, hX1, hX2⟩ := slice_one s j hlt
        have HX : Hid (X.data.toList = [s[j]]) := hX1
        have hsz : (T ++ X).size < j + 1 := by rw [app_size]; omega
        have hXle : X.size ≤ 1 := by omega
        clear hc hX1 hX2
        go_wp2
        go_round
        case rel => exact ⟨j + 1, _, by omega, by omega, by go_num, rfl, had_plain hlt HC.out HX.out HG.out, hsz⟩
        case measure => simp [intOf]; omega
    · have HF : Hid (readV s = (0, 0, [], 2)) := RN.out (had_out (by omega) HG.out)
      go_wp2_with fail
      refine (refPlain_any T _ hTm).mono ?_
      rintro e w1 ⟨rfl, rfl⟩
      generalize plainB T.data.toList = bb
      go_wp2
      all_goals
        exact bodyPost_ret (v := .tuple #[.agg #[.int .i64 0, .int .i64 0, .string ⟨#[]⟩], .int .i64 2]) (by simp [results, Tryz.results35, go_sem]) rfl ⟨by rw [HF.out]; rfl, (Below.refl _ _).alloc (Nat.le_refl _) _⟩
set_option maxHeartbeats 1000000 in
theorem read_true (s : ByteArray) (w : World) (h : s.data.toList = [116, 114, 117, 101]) :
    Calls Tryz.prog 35 #[.string s] w fun e w' => e = .returned (refR (2, 1, [], 0)) ∧ Below w.heap.size w w' := by
  obtain rfl : s = ⟨#[116, 114, 117, 101]⟩ := eq_of_list h
  clear h
  go_enter Tryz.func35, Tryz.ntmps35
  go_wp2
  exact bodyPost_ret (v := .tuple #[.agg #[.int .i64 2, .int .i64 1, .string ⟨#[]⟩], .int .i64 0]) (by simp [results, Tryz.results35, go_sem]) rfl ⟨rfl, (Below.refl _ _).alloc (Nat.le_refl _) _⟩
set_option maxHeartbeats 1000000 in
theorem read_false (s : ByteArray) (w : World) (h : s.data.toList = [102, 97, 108, 115, 101]) :
    Calls Tryz.prog 35 #[.string s] w fun e w' => e = .returned (refR (2, 0, [], 0)) ∧ Below w.heap.size w w' := by
  obtain rfl : s = ⟨#[102, 97, 108, 115, 101]⟩ := eq_of_list h
  clear h
  go_enter Tryz.func35, Tryz.ntmps35
  go_wp2
  exact bodyPost_ret (v := .tuple #[.agg #[.int .i64 2, .int .i64 0, .string ⟨#[]⟩], .int .i64 0]) (by simp [results, Tryz.results35, go_sem]) rfl ⟨rfl, (Below.refl _ _).alloc (Nat.le_refl _) _⟩
set_option maxHeartbeats 1000000 in
theorem read_none (w : World) :
    Calls Tryz.prog 35 #[.string ⟨#[]⟩] w fun e w' => e = .returned (refR (0, 0, [], 2)) ∧ Below w.heap.size w w' := by
  go_enter Tryz.func35, Tryz.ntmps35
  go_wp2
  exact bodyPost_ret (v := .tuple #[.agg #[.int .i64 0, .int .i64 0, .string ⟨#[]⟩], .int .i64 2]) (by simp [results, Tryz.results35, go_sem]) rfl ⟨rfl, (Below.refl _ _).alloc (Nat.le_refl _) _⟩
set_option maxHeartbeats 1000000 in
set_option maxRecDepth 20000 in
theorem read_min (w : World) :
    Calls Tryz.prog 35 #[.string ⟨#[45, 57, 50, 50, 51, 51, 55, 50, 48, 51, 54, 56, 53, 52, 55, 55, 53, 56, 48, 56]⟩] w fun e w' => e = .returned (refR (1, -9223372036854775808, [], 0)) ∧ Below w.heap.size w w' := by
  go_enter Tryz.func35, Tryz.ntmps35
  go_wp2
  exact bodyPost_ret (v := .tuple #[.agg #[.int .i64 1, .int .i64 (-9223372036854775808), .string ⟨#[]⟩], .int .i64 0]) (by simp [results, Tryz.results35, go_sem]) rfl ⟨rfl, (Below.refl _ _).alloc (Nat.le_refl _) _⟩
theorem slice_from (s : ByteArray) (h : 0 < s.size) : ∃ X : ByteArray, (∀ W : World, Sem.run Tryz.prog (Instr.slice 9 (.string s) (some (.int .i64 1)) none none) W = .ok (.string X) W) ∧ X.data.toList = s.data.toList.drop 1 ∧ X.size ≤ s.size := by
  refine ⟨s.extract 1 s.size, fun W => ?_, ?_, ?_⟩
  · exact run_slice_string_l (P := Tryz.prog) W 9 s Tryz.underlying9 .i64 1 (by decide) (by omega)
  · have : (s.extract 1 s.size).data.toList = (s.data.toList.drop 1).take (s.size - 1) := by simp
    rw [this, List.take_of_length_le (by simp)]
  · simp
set_option maxRecDepth 20000 in
set_option maxHeartbeats 1000000 in
theorem read_negC (s : ByteArray) (w : World) (hs : s.size ≤ maxLen) (h1 : s.data.toList ≠ [116, 114, 117, 101]) (h2 : s.data.toList ≠ [102, 97, 108, 115, 101]) (hp : 0 < s.size) (h0 : (s[0].toNat : Int) ≠ 39) (hm : s.data.toList ≠ minL) (h45 : (s[0].toNat : Int) = 45) :
    Calls Tryz.prog 35 #[.string s] w fun e w' => e = .returned (refR (match numL (s.data.toList.drop 1) with
      | some n => if n = 0 then (0, 0, [], 2) else (1, -(n : Int), [], 0)
      | none => (0, 0, [], 2))) ∧ Below w.heap.size w w' := by
  have q1 : (s.toList == [116, 114, 117, 101]) = false := by rw [Lib.toList_data]; simpa using h1
  have q2 : (s.toList == [102, 97, 108, 115, 101]) = false := by rw [Lib.toList_data]; simpa using h2
  have q3 := not_empty s hp
  have q4 : ((s[0].toNat : Int) == 39) = false := by simpa using h0
  have q5 : (s.toList == [45, 57, 50, 50, 51, 51, 55, 50, 48, 51, 54, 56, 53, 52, 55, 55, 53, 56, 48, 56]) = false := by rw [Lib.toList_data, beq_eq_false_iff_ne]; exact hm
  have q6 : ((s[0].toNat : Int) == 45) = true := by simpa using h45
  obtain ⟨X, hX, hX1, hX2⟩ := slice_from s hp
  have HX : Hid (X.data.toList = s.data.toList.drop 1) := hX1
  have hXm : X.size ≤ maxLen := by omega
  clear h1 h2 h0 hm h45 hX1 hX2
  cases hn : numL (s.data.toList.drop 1) with
  | none =>
    have HN : Hid (numL X.data.toList = none) := by rw [HX.out]; exact hn
    clear hn
    go_enter Tryz.func35, Tryz.ntmps35
    go_wp2_with fail
    refine (number_any X _ hXm).mono ?_
    rintro e w1 ⟨rfl, rfl⟩
    rw [HN.out, numV]
    go_wp2
    exact bodyPost_ret (v := .tuple #[.agg #[.int .i64 0, .int .i64 0, .string ⟨#[]⟩], .int .i64 2]) (by simp [results, Tryz.results35, go_sem]) rfl ⟨rfl, (Below.refl _ _).alloc (Nat.le_refl _) _⟩
  | some n =>
    have HN : Hid (numL X.data.toList = some n) := by rw [HX.out]; exact hn
    have hb := (numL_some hn).2
    clear hn
    by_cases h0 : n = 0
    · subst h0
      go_enter Tryz.func35, Tryz.ntmps35
      go_wp2_with fail
      refine (number_any X _ hXm).mono ?_
      rintro e w1 ⟨rfl, rfl⟩
      rw [HN.out, numV]
      go_wp2
      exact bodyPost_ret (v := .tuple #[.agg #[.int .i64 0, .int .i64 0, .string ⟨#[]⟩], .int .i64 2]) (by simp [results, Tryz.results35, go_sem]) rfl ⟨rfl, (Below.refl _ _).alloc (Nat.le_refl _) _⟩
    · obtain ⟨m, hm⟩ : ∃ m : Int, m = (n : Int) := ⟨_, rfl⟩
      have hm1 : 1 ≤ m := by omega
      have hm2 : m ≤ 9223372036854775807 := by omega
      have hm0 : (m == 0) = false := by simp; omega
      have HM : Hid (m = (n : Int)) := hm
      have HI : Hid (¬ n = 0) := h0
      clear hm h0 hb
      go_enter Tryz.func35, Tryz.ntmps35
      go_wp2_with fail
      refine (number_any X _ hXm).mono ?_
      rintro e w1 ⟨rfl, rfl⟩
      rw [HN.out, numV, ← HM.out]
      go_wp2
      exact bodyPost_ret (v := .tuple #[.agg #[.int .i64 1, .int .i64 (-m), .string ⟨#[]⟩], .int .i64 0]) (by simp [results, Tryz.results35, go_sem]) rfl ⟨by rw [← HM.out]; rfl, (Below.refl _ _).alloc (Nat.le_refl _) _⟩
set_option maxRecDepth 20000 in
set_option maxHeartbeats 1000000 in
theorem read_posC (s : ByteArray) (w : World) (hs : s.size ≤ maxLen) (h1 : s.data.toList ≠ [116, 114, 117, 101]) (h2 : s.data.toList ≠ [102, 97, 108, 115, 101]) (hp : 0 < s.size) (h0 : (s[0].toNat : Int) ≠ 39) (h45 : (s[0].toNat : Int) ≠ 45) :
    Calls Tryz.prog 35 #[.string s] w fun e w' => e = .returned (refR (match numL s.data.toList with
      | some n => (1, (n : Int), [], 0)
      | none => (0, 0, [], 2))) ∧ Below w.heap.size w w' := by
  have q1 : (s.toList == [116, 114, 117, 101]) = false := by rw [Lib.toList_data]; simpa using h1
  have q2 : (s.toList == [102, 97, 108, 115, 101]) = false := by rw [Lib.toList_data]; simpa using h2
  have q3 := not_empty s hp
  have q4 : ((s[0].toNat : Int) == 39) = false := by simpa using h0
  have q5 : (s.toList == [45, 57, 50, 50, 51, 51, 55, 50, 48, 51, 54, 56, 53, 52, 55, 55, 53, 56, 48, 56]) = false := by
    rw [Lib.toList_data, drop_cons0 s hp]
    rw [beq_eq_false_iff_ne]
    intro e
    injection e with e _
    exact h45 (by rw [e]; rfl)
  have q6 : ((s[0].toNat : Int) == 45) = false := by simpa using h45
  clear h1 h2 h0 h45
  cases hn : numL s.data.toList with
  | none =>
    have HN : Hid (numL s.data.toList = none) := hn
    clear hn
    go_enter Tryz.func35, Tryz.ntmps35
    go_wp2_with fail
    refine (number_any s _ hs).mono ?_
    rintro e w1 ⟨rfl, rfl⟩
    rw [HN.out, numV]
    go_wp2
    exact bodyPost_ret (v := .tuple #[.agg #[.int .i64 0, .int .i64 0, .string ⟨#[]⟩], .int .i64 2]) (by simp [results, Tryz.results35, go_sem]) rfl ⟨rfl, (Below.refl _ _).alloc (Nat.le_refl _) _⟩
  | some n =>
    have HN : Hid (numL s.data.toList = some n) := hn
    clear hn
    go_enter Tryz.func35, Tryz.ntmps35
    go_wp2_with fail
    refine (number_any s _ hs).mono ?_
    rintro e w1 ⟨rfl, rfl⟩
    rw [HN.out, numV]
    go_wp2
    exact bodyPost_ret (v := .tuple #[.agg #[.int .i64 1, .int .i64 (n : Int), .string ⟨#[]⟩], .int .i64 0]) (by simp [results, Tryz.results35, go_sem]) rfl ⟨rfl, (Below.refl _ _).alloc (Nat.le_refl _) _⟩

theorem read_any (s : ByteArray) (w : World) (hs : s.size ≤ 140737488355328) :
    Calls Tryz.prog 35 #[.string s] w fun e w' => e = .returned (refR (readV s)) ∧ Below w.heap.size w w' := by
  have hm : s.size ≤ maxLen := by unfold maxLen; omega
  by_cases h1 : s.data.toList = [116, 114, 117, 101]
  · rw [readV, if_pos h1]; exact read_true s w h1
  · by_cases h2 : s.data.toList = [102, 97, 108, 115, 101]
    · rw [readV, if_neg h1, if_pos h2]; exact read_false s w h2
    · by_cases hp : 0 < s.size
      · by_cases h0 : (s[0].toNat : Int) = 39
        · exact readT_any s w hs h1 h2 hp h0
        · have h3 : ¬ Lib.hasPrefix s.data.toList [39] = true := fun e => h0 ((pre_iff s hp).1 e)
          by_cases h45 : (s[0].toNat : Int) = 45
          · have e45 : s[0] = 45 := UInt8.toNat_inj.1 (by rw [show (45 : UInt8).toNat = 45 from rfl]; omega)
            by_cases hmn : s.data.toList = minL
            · rw [read_int_ok (n := -9223372036854775808) h1 h2 h3 (by decide) (by rw [hmn]; exact itoa_min)]
              obtain rfl : s = ⟨#[45, 57, 50, 50, 51, 51, 55, 50, 48, 51, 54, 56, 53, 52, 55, 55, 53, 56, 48, 56]⟩ := eq_of_list hmn
              exact read_min w
            · rw [read_neg h1 h2 h3 hmn (r := s.data.toList.drop 1) (by rw [← e45]; exact drop_cons0 s hp)]
              exact read_negC s w hm h1 h2 hp h0 hmn h45
          · rw [read_pos h1 h2 h3 (fun r e => h45 (by
              rw [drop_cons0 s hp] at e
              injection e with e _
              rw [e]; rfl))]
            exact read_posC s w hm h1 h2 hp h0 h45
      · obtain rfl : s = ⟨#[]⟩ := by
          have hl : s.data.toList.length = s.size := by simp
          exact eq_of_list (List.length_eq_zero_iff.1 (by omega))
        rw [read_int_bad h1 h2 (by decide) (fun n _ e => by
          obtain ⟨c, r, hr, _⟩ := itoa_head n
          rw [hr] at e; cases e)]
        exact read_none w
end Go.Proofs.YtnpinbpjfngknaaGreatDoor
