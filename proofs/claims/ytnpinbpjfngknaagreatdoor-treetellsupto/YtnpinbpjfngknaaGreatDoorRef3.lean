/-
  What the document's answers on how a value is shown and read come to: sluiceref1's Show and Read.
-/
import Derived.Test.YtnpinbpjfngknaaGreatDoorLoD
import Derived.Test.YtnpinbpjfngknaaGreatDoorLo1
namespace Go.Proofs.YtnpinbpjfngknaaGreatDoor
open Go.RowKit
set_option linter.unusedVariables false

theorem esc_take (s : ByteArray) (k : Nat) (h : k < s.size) : esc (s.data.toList.take (k + 1)) = esc (s.data.toList.take k) ++ (if s[k] = 39 then [39, 39] else [s[k]]) := by
  have e : s.data.toList.take (k + 1) = s.data.toList.take k ++ [s[k]] := by
    rw [List.take_succ_eq_append_getElem (by simpa using h)]; rfl
  rw [e]; simp [esc]

theorem slice_one (s : ByteArray) (k : Nat) (h : k < s.size) : ∃ X : ByteArray, (∀ W : World, Sem.run Tryz.prog (Instr.slice 9 (.string s) (some (.int .i64 (k : Int))) (some (.int .i64 ((k : Int) + 1))) none) W = .ok (.string X) W) ∧ X.data.toList = [s[k]] ∧ X.size = 1 := by
  refine ⟨s.extract k (k + 1), fun W => ?_, ?_, ?_⟩
  · have := run_slice_string (P := Tryz.prog) W 9 s .i64 .i64 (k : Int) ((k : Int) + 1) Tryz.underlying9 (by omega) (by omega) (by omega)
    rw [this]
    have e1 : ((k : Int)).toNat = k := by omega
    have e2 : ((k : Int) + 1).toNat = k + 1 := by omega
    rw [e1, e2]
  · have hl : k < s.data.toList.length := by simpa using h
    have : (s.extract k (k + 1)).data.toList = (s.data.toList.drop k).take 1 := by simp
    rw [this, List.drop_eq_getElem_cons hl]
    rfl
  · simp; omega
theorem app_list (a b : ByteArray) : (a ++ b).data.toList = a.data.toList ++ b.data.toList := by simp
theorem app_size (a b : ByteArray) : (a ++ b).size = a.size + b.size := by simp
theorem u8_39 {c : UInt8} : (c.toNat : Int) = 39 ↔ c = 39 :=
  ⟨fun h => UInt8.toNat_inj.1 (by rw [show (39 : UInt8).toNat = 39 from rfl]; omega), fun h => by rw [h]; rfl⟩

set_option maxRecDepth 20000 in
set_option maxHeartbeats 1000000 in
theorem show_text (s : ByteArray) (w : World) (hs : s.size ≤ 40) :
    Calls Tryz.prog 28 #[.agg #[.int .i64 3, .int .i64 0, .string s]] w fun e w' => e = .returned (.string ⟨(39 :: (esc s.data.toList ++ [39])).toArray⟩) ∧ Below w.heap.size w w' := by
  go_enter Tryz.func28, Tryz.ntmps28
  go_wp2
  go_loop [3, 4] (fun v i => ∃ (k : Nat) (T : ByteArray), k ≤ s.size ∧ i = .int .i64 k ∧ v = .string T ∧ Hid (T.data.toList = 39 :: esc (s.data.toList.take k)) ∧ T.size ≤ 2 * k + 1) (fun _ i => s.size - (intOf i).toNat)
  case atStart => exact ⟨0, ⟨#[39]⟩, Nat.zero_le _, rfl, rfl, rfl, by decide⟩
  case round =>
    obtain ⟨k, T, hk, rfl, rfl, HT, hT⟩ := hrel
    by_cases hlt : k < s.size
    · obtain ⟨X, hX, hX1, hX2⟩ := slice_one s k hlt
      have HX : Hid (X.data.toList = [s[k]]) := hX1
      have HS : Hid (esc (s.data.toList.take (k + 1)) = esc (s.data.toList.take k) ++ (if s[k] = 39 then [39, 39] else [s[k]])) := esc_take s k hlt
      have hXle : X.size ≤ 1 := by omega
      clear hX1 hX2
      by_cases hc : (s[k].toNat : Int) = 39
      · have hcb : ((s[k].toNat : Int) == 39) = true := by simpa using hc
        have HC : Hid (s[k] = 39) := u8_39.1 hc
        clear hc
        have hsz : (T ++ X).size ≤ 2 * k + 2 := by rw [app_size]; omega
        go_wp2
        go_round
        case rel =>
          refine ⟨k + 1, _, by omega, by go_num, rfl, ?_, ?_⟩
          · show _ = _
            rw [app_list, app_list, HT.out, HX.out, HS.out, if_pos HC.out, HC.out]; simp
          · rw [app_size]
            have : (⟨#[39]⟩ : ByteArray).size = 1 := rfl
            omega
        case measure => simp [intOf]; omega
      · have hcb : ((s[k].toNat : Int) == 39) = false := by simpa using hc
        have HC : Hid (¬ s[k] = 39) := fun e => hc (u8_39.2 e)
        clear hc
        have hsz : (T ++ X).size ≤ 2 * k + 2 := by rw [app_size]; omega
        go_wp2
        go_round
        case rel =>
          refine ⟨k + 1, _, by omega, by go_num, rfl, ?_, ?_⟩
          · show _ = _
            rw [app_list, HT.out, HX.out, HS.out, if_neg HC.out]; simp
          · omega
        case measure => simp [intOf]; omega
    · have hall : s.data.toList.take k = s.data.toList := List.take_of_length_le (by simp; omega)
      have HE : Hid (T ++ ⟨#[39]⟩ = ⟨(39 :: (esc s.data.toList ++ [39])).toArray⟩) := eq_of_list (by rw [app_list, HT.out, hall]; simp)
      clear hall
      go_wp2
      go_ret
      exact ⟨by rw [HE.out]; rfl, (Below.refl _ _).alloc (Nat.le_refl _) _⟩
theorem show_any (t n : Int) (s : ByteArray) (w : World) (hn : -9223372036854775808 ≤ n ∧ n ≤ 9223372036854775807) (h : chk t n s.data.toList = 0) :
    Calls Tryz.prog 28 #[.agg #[.int .i64 t, .int .i64 n, .string s]] w fun e w' => e = .returned (.string ⟨(shown t n s.data.toList).toArray⟩) ∧ Below w.heap.size w w' := by
  rcases chk_type h with ⟨rfl, _⟩ | ⟨rfl, _, hb⟩ | ⟨rfl, rfl, hl, _⟩
  · have hsh : shown 1 n s.data.toList = Lib.itoa n := by rw [shown, if_pos rfl]
    rw [hsh]
    clear h hsh
    go_enter Tryz.func28, Tryz.ntmps28
    go_wp2_with fail
    refine (Digits_any n _ hn).mono ?_
    rintro e w1 ⟨rfl, rfl⟩
    go_wp2
    go_ret
    exact ⟨rfl, (Below.refl _ _).alloc (Nat.le_refl _) _⟩
  · have hsh : shown 2 n s.data.toList = if n = 1 then [116, 114, 117, 101] else [102, 97, 108, 115, 101] := by rw [shown, if_neg (by decide), if_pos rfl]
    rw [hsh]
    clear h hsh
    rcases hb with rfl | rfl
    all_goals
      go_enter Tryz.func28, Tryz.ntmps28
      go_wp2
      go_ret
      exact ⟨rfl, (Below.refl _ _).alloc (Nat.le_refl _) _⟩
  · have hsh : shown 3 0 s.data.toList = 39 :: (esc s.data.toList ++ [39]) := by rw [shown, if_neg (by decide), if_neg (by decide)]
    rw [hsh]
    exact show_text s w (by simpa using hl)
end Go.Proofs.YtnpinbpjfngknaaGreatDoor
