/-
  What isBlank, isLetter, isDigit, isLetterOrDigit, goesOn and signAhead of package lex say.
-/
import Derived.Test.YtomakklbfjkdpaaGreatDoorLexPure
import Derived.Lib.OthersKept
import Derived.Laws.RangeAny
import Derived.Deep.DeepCutAuto
namespace Go.Proofs.YtomakklbfjkdpaaGreatDoor
open Go.RowKit
set_option linter.unusedVariables false

theorem isBlank_any (c : UInt8) (w : World) : Calls Tryz.prog 44 #[.int .u8 (c.toNat : Int)] w fun e w' => e = .returned (.bool (blB c)) ∧ w' = w := by
  obtain ⟨B, hB⟩ : ∃ B, blB c = B := ⟨_, rfl⟩
  rw [hB]
  rw [blB] at hB
  obtain ⟨n, hn⟩ : ∃ n : Int, (c.toNat : Int) = n := ⟨_, rfl⟩
  rw [hn] at hB ⊢
  clear hn
  by_cases h1 : n = 32
  · subst h1
    obtain rfl : true = B := hB
    go_enter Tryz.func44, Tryz.ntmps44
    go_wp2
    go_ret
    exact ⟨rfl, rfl⟩
  · have q1 : (n == 32) = false := by simpa using h1
    by_cases h2 : n = 10
    · subst h2
      obtain rfl : true = B := hB
      go_enter Tryz.func44, Tryz.ntmps44
      go_wp2
      go_ret
      exact ⟨rfl, rfl⟩
    · have q2 : (n == 10) = false := by simpa using h2
      have hB2 : false = B := by rw [← hB]; simp [h1, h2]
      subst hB2
      clear hB h1 h2
      go_enter Tryz.func44, Tryz.ntmps44
      go_wp2
      go_ret
      exact ⟨rfl, rfl⟩
theorem isLetter_any (c : UInt8) (w : World) : Calls Tryz.prog 67 #[.int .u8 (c.toNat : Int)] w fun e w' => e = .returned (.bool (letB c)) ∧ w' = w := by
  obtain ⟨B, hB⟩ : ∃ B, letB c = B := ⟨_, rfl⟩
  have HB : Hid (letB c = B) := hB
  rw [hB]
  clear hB
  go_enter Tryz.func67, Tryz.ntmps67
  go_wp2
  all_goals
    go_ret
    refine ⟨ret_bool ?_, rfl⟩
    rw [← HB.out, letB]
    simp
    try omega
theorem isDigit_any (c : UInt8) (w : World) : Calls Tryz.prog 69 #[.int .u8 (c.toNat : Int)] w fun e w' => e = .returned (.bool (digB c)) ∧ w' = w := by
  obtain ⟨B, hB⟩ : ∃ B, digB c = B := ⟨_, rfl⟩
  have HB : Hid (digB c = B) := hB
  rw [hB]
  clear hB
  go_enter Tryz.func69, Tryz.ntmps69
  go_wp2
  all_goals
    go_ret
    refine ⟨ret_bool ?_, rfl⟩
    rw [← HB.out, digB]
    simp
    try omega
theorem isLod_any (c : UInt8) (w : World) : Calls Tryz.prog 68 #[.int .u8 (c.toNat : Int)] w fun e w' => e = .returned (.bool (ldB c)) ∧ w' = w := by
  have cL := isLetter_any c
  have cD := isDigit_any c
  have HB : Hid (ldB c = (letB c || digB c)) := rfl
  cases h1 : letB c
  · rw [h1] at cL
    cases h2 : digB c
    · rw [h2] at cD
      have HC : ldB c = false := by rw [ldB, h1, h2]; rfl
      rw [HC]
      clear HC HB h1 h2
      go_enter Tryz.func68, Tryz.ntmps68
      go_wp2_with (first | (go_at_call 67; refine (cL _).mono ?_; rintro e w' ⟨rfl, rfl⟩) | (go_at_call 69; refine (cD _).mono ?_; rintro e w' ⟨rfl, rfl⟩))
      go_ret
      exact ⟨rfl, rfl⟩
    · rw [h2] at cD
      have HC : ldB c = true := by rw [ldB, h1, h2]; rfl
      rw [HC]
      clear HC HB h1 h2
      go_enter Tryz.func68, Tryz.ntmps68
      go_wp2_with (first | (go_at_call 67; refine (cL _).mono ?_; rintro e w' ⟨rfl, rfl⟩) | (go_at_call 69; refine (cD _).mono ?_; rintro e w' ⟨rfl, rfl⟩))
      go_ret
      exact ⟨rfl, rfl⟩
  · rw [h1] at cL
    have HC : ldB c = true := by rw [ldB, h1]; rfl
    rw [HC]
    clear HC HB h1
    go_enter Tryz.func68, Tryz.ntmps68
    go_wp2_with (first | (go_at_call 67; refine (cL _).mono ?_; rintro e w' ⟨rfl, rfl⟩))
    go_ret
    exact ⟨rfl, rfl⟩
theorem goN_step {p : UInt8 → Bool} {s : ByteArray} {k : Nat} (h : k < s.size) (hp : p s[k] = true) {E : Nat} (hE : E = k + goN p (s.data.toList.drop k)) : E = k + 1 + goN p (s.data.toList.drop (k + 1)) := by
  rw [hE, drop_cons s k h, goN_yes _ hp]; omega
theorem goN_here {p : UInt8 → Bool} {s : ByteArray} {k : Nat} (h : k < s.size) (hp : p s[k] = false) {E : Nat} (hE : E = k + goN p (s.data.toList.drop k)) : E = k := by
  rw [hE, drop_cons s k h, goN_no _ hp]; rfl
theorem goN_out {p : UInt8 → Bool} {s : ByteArray} {k : Nat} (h : s.size ≤ k) (hk : k ≤ s.size) {E : Nat} (hE : E = k + goN p (s.data.toList.drop k)) : E = s.size := by
  rw [hE, List.drop_eq_nil_of_le (by simp; omega)]; show k + 0 = _; omega
set_option maxHeartbeats 1000000 in
theorem goesOn_gen (f : FuncId) (p : UInt8 → Bool) (hent : ∀ (args : Array Value) (W : World), Sem.run Tryz.prog (callFunc f args) W = .ok (.enter f args) W) (hf : ∀ (c : UInt8) (W : World), Calls Tryz.prog f #[.int .u8 (c.toNat : Int)] W fun e w' => e = .returned (.bool (p c)) ∧ w' = W) (s : ByteArray) (w : World) (hs : s.size ≤ maxLen) :
    Calls Tryz.prog 43 #[.string s, .func (.func f) #[] #[]] w fun e w' => e = .returned (.int .i64 (goN p s.data.toList : Nat)) ∧ w' = w := by
  unfold maxLen at hs
  obtain ⟨E, hE⟩ : ∃ E, goN p s.data.toList = E := ⟨_, rfl⟩
  rw [hE]
  go_enter Tryz.func43, Tryz.ntmps43
  go_wp2
  go_loopg [5, 8] s.size (fun gg _ s8 wr => ∃ kk : Nat, kk ≤ s.size ∧ s.size - kk ≤ gg ∧ s8 = .int .i64 kk ∧ wr = w ∧ Hid (E = kk + goN p (s.data.toList.drop kk)))
  case atStart => exact ⟨0, Nat.zero_le _, by omega, rfl, rfl, (show Hid _ by simp [Hid, hE])⟩
  case round =>
    obtain ⟨kk, hkk, hg, rfl, rfl, HE⟩ := hrel
    by_cases hlt : kk < s.size
    · have hltz : (kk : Int) < (s.size : Int) := by omega
      have hcall := hf s[kk]
      cases hp : p s[kk]
      · rw [hp] at hcall
        obtain rfl : kk = E := (goN_here hlt hp HE.out).symm
        clear hp HE
        go_wp2_with fail
        refine (hcall _).mono ?_
        rintro e w' ⟨rfl, rfl⟩
        go_wp2
        go_ret
        exact ⟨rfl, rfl⟩
      · rw [hp] at hcall
        have HE2 : Hid (E = kk + 1 + goN p (s.data.toList.drop (kk + 1))) := goN_step hlt hp HE.out
        clear hp HE
        go_wp2_with fail
        refine (hcall _).mono ?_
        rintro e w' ⟨rfl, rfl⟩
        go_wp2
        go_roundg (s.size - (kk + 1))
        case measure => omega
        case rel => exact ⟨kk + 1, by omega, by omega, by go_num, rfl, HE2⟩
    · have hltz : ¬ (kk : Int) < (s.size : Int) := by omega
      obtain rfl : s.size = E := (goN_out (by omega) hkk HE.out).symm
      go_wp2
      go_ret
      exact ⟨rfl, rfl⟩
theorem goesOn_blank (s : ByteArray) (w : World) (hs : s.size ≤ maxLen) :
    Calls Tryz.prog 43 #[.string s, .func (.func 44) #[] #[]] w fun e w' => e = .returned (.int .i64 (goN blB s.data.toList : Nat)) ∧ w' = w :=
  goesOn_gen _ blB (fun args W => by kernel_rfl) isBlank_any s w hs
theorem goesOn_digit (s : ByteArray) (w : World) (hs : s.size ≤ maxLen) :
    Calls Tryz.prog 43 #[.string s, .func (.func 69) #[] #[]] w fun e w' => e = .returned (.int .i64 (goN digB s.data.toList : Nat)) ∧ w' = w :=
  goesOn_gen _ digB (fun args W => by kernel_rfl) isDigit_any s w hs
theorem goesOn_lod (s : ByteArray) (w : World) (hs : s.size ≤ maxLen) :
    Calls Tryz.prog 43 #[.string s, .func (.func 68) #[] #[]] w fun e w' => e = .returned (.int .i64 (goN ldB s.data.toList : Nat)) ∧ w' = w :=
  goesOn_gen _ ldB (fun args W => by kernel_rfl) isLod_any s w hs
end Go.Proofs.YtomakklbfjkdpaaGreatDoor
