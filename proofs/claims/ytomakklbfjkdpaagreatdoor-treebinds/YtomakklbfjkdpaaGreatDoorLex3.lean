/-
  What numberAhead, quoteAhead and tokenAhead of package lex say of any text.
-/
import Derived.Test.YtomakklbfjkdpaaGreatDoorLex2
import Derived.Test.YtomakklbfjkdpaaGreatDoorErrIs
namespace Go.Proofs.YtomakklbfjkdpaaGreatDoor
open Go.RowKit
set_option linter.unusedVariables false

theorem hd_at {p : UInt8 → Bool} {s : ByteArray} {k : Nat} (h : k < s.size) : hdB p (s.data.toList.drop k) = p s[k] := by rw [drop_cons s k h]; rfl
theorem hd_out {p : UInt8 → Bool} {s : ByteArray} {k : Nat} (h : s.size ≤ k) : hdB p (s.data.toList.drop k) = false := by rw [List.drop_eq_nil_of_le (by simp; omega)]; rfl
theorem head_at {s : ByteArray} (h : 0 < s.size) : s.data.toList.head? = some s[0] := by
  have e : s.data.toList = s[0] :: s.data.toList.drop 1 := by have := drop_cons s 0 h; simpa using this
  rw [e]; rfl
theorem u8_48 {c : UInt8} : (c.toNat : Int) = 48 ↔ c = 48 :=
  ⟨fun h => UInt8.toNat_inj.1 (by rw [show (48 : UInt8).toNat = 48 from rfl]; omega), fun h => by rw [h]; rfl⟩
theorem num_atoi {s X : ByteArray} (hp : 0 < s.size) (hN : 0 < goN digB s.data.toList) (hX : X.data.toList = s.data.toList.take (goN digB s.data.toList)) (hz : ¬ (1 < goN digB s.data.toList ∧ s.data.toList.head? = some 48)) :
    (val10 X.data.toList ≤ 9223372036854775807 → Lib.atoiAll X.data.toList = .ok (val10 X.data.toList : Nat)) ∧ (9223372036854775807 < val10 X.data.toList → ∀ n, Lib.atoiAll X.data.toList ≠ .ok n) := by
  have hle := goN_le digB s.data.toList
  have hlen : X.data.toList.length = goN digB s.data.toList := by rw [hX, List.length_take]; omega
  refine atoi_dig (fun e => by rw [e] at hlen; simp at hlen; omega) (by rw [hX]; exact goN_all _ _) ?_
  rintro ⟨h1, h2⟩
  refine hz ⟨by omega, ?_⟩
  rw [hX, List.head?_take, if_neg (by omega)] at h2
  exact h2
set_option maxHeartbeats 4000000 in
set_option maxRecDepth 20000 in
theorem number_letter (s : ByteArray) (N : Nat) (w : World) (hs : s.size ≤ 140737488355328) (hlt : N < s.size) (hN : goN digB s.data.toList = N) (hl : letB s[N] = true) :
    Calls Tryz.prog 70 #[.string s] w fun e w' => e = .returned (.tuple #[.int .i64 0, .int .i64 2]) ∧ w' = w := by
  have cG := fun W => goesOn_digit s W (by unfold maxLen; omega)
  rw [hN] at cG
  have cL := isLetter_any s[N]
  rw [hl] at cL
  have hltz : (N : Int) < (s.size : Int) := by omega
  have hp : 0 < s.size := by omega
  clear hN hl
  go_enter Tryz.func70, Tryz.ntmps70
  go_wp2_with (first | (go_at_call 43; refine (cG _).mono ?_; rintro e w' ⟨rfl, rfl⟩) | (go_at_call 67; refine (cL _).mono ?_; rintro e w' ⟨rfl, rfl⟩))
  all_goals
    go_ret2
    exact ⟨rfl, rfl⟩
set_option maxHeartbeats 4000000 in
set_option maxRecDepth 20000 in
theorem number_zero_in (s : ByteArray) (N : Nat) (w : World) (hs : s.size ≤ 140737488355328) (hp : 0 < s.size) (hlt : N < s.size) (hl : letB s[N] = false) (hN : goN digB s.data.toList = N) (h1 : 1 < N) (h0 : s[0] = 48) :
    Calls Tryz.prog 70 #[.string s] w fun e w' => e = .returned (.tuple #[.int .i64 0, .int .i64 2]) ∧ w' = w := by
  have cG := fun W => goesOn_digit s W (by unfold maxLen; omega)
  rw [hN] at cG
  have cL := isLetter_any s[N]
  rw [hl] at cL
  have hltz : (N : Int) < (s.size : Int) := by omega
  clear hl
  have h1z : (1 : Int) < (N : Int) := by omega
  have h0z : ((s[0].toNat : Int) == 48) = true := by rw [h0]; rfl
  clear hN h0
  go_enter Tryz.func70, Tryz.ntmps70
  go_wp2_with (first | (go_at_call 43; refine (cG _).mono ?_; rintro e w' ⟨rfl, rfl⟩) | (go_at_call 67; refine (cL _).mono ?_; rintro e w' ⟨rfl, rfl⟩))
  go_ret2
  exact ⟨rfl, rfl⟩
set_option maxHeartbeats 4000000 in
set_option maxRecDepth 20000 in
theorem number_ok_in_a (s X : ByteArray) (N : Nat) (w : World) (henv : Env w) (hs : s.size ≤ 140737488355328) (hp : 0 < s.size) (hNs : N ≤ s.size) (hlt : N < s.size) (hl : letB s[N] = false) (hN : goN digB s.data.toList = N) (hX : ∀ W : World, Sem.run Tryz.prog (Instr.slice 9 (.string s) none (some (.int .i64 (N : Int))) none) W = .ok (.string X) W) (hXs : X.size ≤ 140737488355328) (h1 : 1 < N) (h0 : s[0] ≠ 48) (hv : ∃ n, Lib.atoiAll X.data.toList = .ok n) :
    Calls Tryz.prog 70 #[.string s] w fun e w' => e = .returned (.tuple #[.int .i64 (N : Nat), .int .i64 0]) ∧ Below w.heap.size w w' := by
  have cG := fun W => goesOn_digit s W (by unfold maxLen; omega)
  rw [hN] at cG
  have cL := isLetter_any s[N]
  rw [hl] at cL
  have hltz : (N : Int) < (s.size : Int) := by omega
  clear hl
  have h1z : (1 : Int) < (N : Int) := by omega
  have h0z : ((s[0].toNat : Int) == 48) = false := by rw [beq_eq_false_iff_ne]; exact fun e => h0 (u8_48.1 e)
  clear h0
  obtain ⟨n, hn⟩ := hv
  have HV : Hid (Lib.atoiAll X.data.toList = .ok n) := hn
  clear hn
  clear hN
  go_enter Tryz.func70, Tryz.ntmps70
  go_wp2_with (first | (go_at_call 43; refine (cG _).mono ?_; rintro e w' ⟨rfl, hq⟩; obtain rfl : w = w' := hq.symm) | (go_at_call 67; refine (cL _).mono ?_; rintro e w' ⟨rfl, hq2⟩; obtain rfl : w = w' := hq2.symm))
  refine (atoi_ok X n _ hXs HV.out).mono ?_
  rintro e w1 ⟨rfl, b1⟩
  go_wp2
  go_ret2
  exact ⟨rfl, b1⟩
set_option maxHeartbeats 4000000 in
set_option maxRecDepth 20000 in
theorem number_bad_in_a (s X : ByteArray) (N : Nat) (w : World) (henv : Env w) (hs : s.size ≤ 140737488355328) (hp : 0 < s.size) (hNs : N ≤ s.size) (hlt : N < s.size) (hl : letB s[N] = false) (hN : goN digB s.data.toList = N) (hX : ∀ W : World, Sem.run Tryz.prog (Instr.slice 9 (.string s) none (some (.int .i64 (N : Int))) none) W = .ok (.string X) W) (hXs : X.size ≤ 140737488355328) (h1 : 1 < N) (h0 : s[0] ≠ 48) (hv : ∀ n, Lib.atoiAll X.data.toList ≠ .ok n) :
    Calls Tryz.prog 70 #[.string s] w fun e w' => e = .returned (.tuple #[.int .i64 0, .int .i64 1]) ∧ Below w.heap.size w w' := by
  have cG := fun W => goesOn_digit s W (by unfold maxLen; omega)
  rw [hN] at cG
  have cL := isLetter_any s[N]
  rw [hl] at cL
  have hltz : (N : Int) < (s.size : Int) := by omega
  clear hl
  have h1z : (1 : Int) < (N : Int) := by omega
  have h0z : ((s[0].toNat : Int) == 48) = false := by rw [beq_eq_false_iff_ne]; exact fun e => h0 (u8_48.1 e)
  clear h0
  have HV : Hid (∀ n, Lib.atoiAll X.data.toList ≠ .ok n) := hv
  clear hv
  clear hN
  go_enter Tryz.func70, Tryz.ntmps70
  go_wp2_with (first | (go_at_call 43; refine (cG _).mono ?_; rintro e w' ⟨rfl, hq⟩; obtain rfl : w = w' := hq.symm) | (go_at_call 67; refine (cL _).mono ?_; rintro e w' ⟨rfl, hq2⟩; obtain rfl : w = w' := hq2.symm))
  refine (atoi_bad X _ hXs HV.out henv).mono ?_
  rintro e w1 ⟨n, t, v, rfl, b1⟩
  go_wp2
  go_ret2
  exact ⟨rfl, b1⟩
set_option maxHeartbeats 4000000 in
set_option maxRecDepth 20000 in
theorem number_ok_in_b (s X : ByteArray) (N : Nat) (w : World) (henv : Env w) (hs : s.size ≤ 140737488355328) (hp : 0 < s.size) (hNs : N ≤ s.size) (hlt : N < s.size) (hl : letB s[N] = false) (hN : goN digB s.data.toList = N) (hX : ∀ W : World, Sem.run Tryz.prog (Instr.slice 9 (.string s) none (some (.int .i64 (N : Int))) none) W = .ok (.string X) W) (hXs : X.size ≤ 140737488355328) (h1 : ¬ 1 < N) (hv : ∃ n, Lib.atoiAll X.data.toList = .ok n) :
    Calls Tryz.prog 70 #[.string s] w fun e w' => e = .returned (.tuple #[.int .i64 (N : Nat), .int .i64 0]) ∧ Below w.heap.size w w' := by
  have cG := fun W => goesOn_digit s W (by unfold maxLen; omega)
  rw [hN] at cG
  have cL := isLetter_any s[N]
  rw [hl] at cL
  have hltz : (N : Int) < (s.size : Int) := by omega
  clear hl
  have h1z : ¬ (1 : Int) < (N : Int) := by omega
  obtain ⟨n, hn⟩ := hv
  have HV : Hid (Lib.atoiAll X.data.toList = .ok n) := hn
  clear hn
  clear hN
  go_enter Tryz.func70, Tryz.ntmps70
  go_wp2_with (first | (go_at_call 43; refine (cG _).mono ?_; rintro e w' ⟨rfl, hq⟩; obtain rfl : w = w' := hq.symm) | (go_at_call 67; refine (cL _).mono ?_; rintro e w' ⟨rfl, hq2⟩; obtain rfl : w = w' := hq2.symm))
  refine (atoi_ok X n _ hXs HV.out).mono ?_
  rintro e w1 ⟨rfl, b1⟩
  go_wp2
  go_ret2
  exact ⟨rfl, b1⟩
set_option maxHeartbeats 4000000 in
set_option maxRecDepth 20000 in
theorem number_bad_in_b (s X : ByteArray) (N : Nat) (w : World) (henv : Env w) (hs : s.size ≤ 140737488355328) (hp : 0 < s.size) (hNs : N ≤ s.size) (hlt : N < s.size) (hl : letB s[N] = false) (hN : goN digB s.data.toList = N) (hX : ∀ W : World, Sem.run Tryz.prog (Instr.slice 9 (.string s) none (some (.int .i64 (N : Int))) none) W = .ok (.string X) W) (hXs : X.size ≤ 140737488355328) (h1 : ¬ 1 < N) (hv : ∀ n, Lib.atoiAll X.data.toList ≠ .ok n) :
    Calls Tryz.prog 70 #[.string s] w fun e w' => e = .returned (.tuple #[.int .i64 0, .int .i64 1]) ∧ Below w.heap.size w w' := by
  have cG := fun W => goesOn_digit s W (by unfold maxLen; omega)
  rw [hN] at cG
  have cL := isLetter_any s[N]
  rw [hl] at cL
  have hltz : (N : Int) < (s.size : Int) := by omega
  clear hl
  have h1z : ¬ (1 : Int) < (N : Int) := by omega
  have HV : Hid (∀ n, Lib.atoiAll X.data.toList ≠ .ok n) := hv
  clear hv
  clear hN
  go_enter Tryz.func70, Tryz.ntmps70
  go_wp2_with (first | (go_at_call 43; refine (cG _).mono ?_; rintro e w' ⟨rfl, hq⟩; obtain rfl : w = w' := hq.symm) | (go_at_call 67; refine (cL _).mono ?_; rintro e w' ⟨rfl, hq2⟩; obtain rfl : w = w' := hq2.symm))
  refine (atoi_bad X _ hXs HV.out henv).mono ?_
  rintro e w1 ⟨n, t, v, rfl, b1⟩
  go_wp2
  go_ret2
  exact ⟨rfl, b1⟩
set_option maxHeartbeats 4000000 in
set_option maxRecDepth 20000 in
theorem number_zero_out (s : ByteArray) (N : Nat) (w : World) (hs : s.size ≤ 140737488355328) (hp : 0 < s.size) (hlt : s.size ≤ N) (hN : goN digB s.data.toList = N) (h1 : 1 < N) (h0 : s[0] = 48) :
    Calls Tryz.prog 70 #[.string s] w fun e w' => e = .returned (.tuple #[.int .i64 0, .int .i64 2]) ∧ w' = w := by
  have cG := fun W => goesOn_digit s W (by unfold maxLen; omega)
  rw [hN] at cG
  have hltz : ¬ (N : Int) < (s.size : Int) := by omega
  have h1z : (1 : Int) < (N : Int) := by omega
  have h0z : ((s[0].toNat : Int) == 48) = true := by rw [h0]; rfl
  clear hN h0
  go_enter Tryz.func70, Tryz.ntmps70
  go_wp2_with (first | (go_at_call 43; refine (cG _).mono ?_; rintro e w' ⟨rfl, rfl⟩))
  go_ret2
  exact ⟨rfl, rfl⟩
set_option maxHeartbeats 4000000 in
set_option maxRecDepth 20000 in
theorem number_ok_out_a (s X : ByteArray) (N : Nat) (w : World) (henv : Env w) (hs : s.size ≤ 140737488355328) (hp : 0 < s.size) (hNs : N ≤ s.size) (hlt : s.size ≤ N) (hN : goN digB s.data.toList = N) (hX : ∀ W : World, Sem.run Tryz.prog (Instr.slice 9 (.string s) none (some (.int .i64 (N : Int))) none) W = .ok (.string X) W) (hXs : X.size ≤ 140737488355328) (h1 : 1 < N) (h0 : s[0] ≠ 48) (hv : ∃ n, Lib.atoiAll X.data.toList = .ok n) :
    Calls Tryz.prog 70 #[.string s] w fun e w' => e = .returned (.tuple #[.int .i64 (N : Nat), .int .i64 0]) ∧ Below w.heap.size w w' := by
  have cG := fun W => goesOn_digit s W (by unfold maxLen; omega)
  rw [hN] at cG
  have hltz : ¬ (N : Int) < (s.size : Int) := by omega
  have h1z : (1 : Int) < (N : Int) := by omega
  have h0z : ((s[0].toNat : Int) == 48) = false := by rw [beq_eq_false_iff_ne]; exact fun e => h0 (u8_48.1 e)
  clear h0
  obtain ⟨n, hn⟩ := hv
  have HV : Hid (Lib.atoiAll X.data.toList = .ok n) := hn
  clear hn
  clear hN
  go_enter Tryz.func70, Tryz.ntmps70
  go_wp2_with (first | (go_at_call 43; refine (cG _).mono ?_; rintro e w' ⟨rfl, hq⟩; obtain rfl : w = w' := hq.symm))
  refine (atoi_ok X n _ hXs HV.out).mono ?_
  rintro e w1 ⟨rfl, b1⟩
  go_wp2
  go_ret2
  exact ⟨rfl, b1⟩
set_option maxHeartbeats 4000000 in
set_option maxRecDepth 20000 in
theorem number_bad_out_a (s X : ByteArray) (N : Nat) (w : World) (henv : Env w) (hs : s.size ≤ 140737488355328) (hp : 0 < s.size) (hNs : N ≤ s.size) (hlt : s.size ≤ N) (hN : goN digB s.data.toList = N) (hX : ∀ W : World, Sem.run Tryz.prog (Instr.slice 9 (.string s) none (some (.int .i64 (N : Int))) none) W = .ok (.string X) W) (hXs : X.size ≤ 140737488355328) (h1 : 1 < N) (h0 : s[0] ≠ 48) (hv : ∀ n, Lib.atoiAll X.data.toList ≠ .ok n) :
    Calls Tryz.prog 70 #[.string s] w fun e w' => e = .returned (.tuple #[.int .i64 0, .int .i64 1]) ∧ Below w.heap.size w w' := by
  have cG := fun W => goesOn_digit s W (by unfold maxLen; omega)
  rw [hN] at cG
  have hltz : ¬ (N : Int) < (s.size : Int) := by omega
  have h1z : (1 : Int) < (N : Int) := by omega
  have h0z : ((s[0].toNat : Int) == 48) = false := by rw [beq_eq_false_iff_ne]; exact fun e => h0 (u8_48.1 e)
  clear h0
  have HV : Hid (∀ n, Lib.atoiAll X.data.toList ≠ .ok n) := hv
  clear hv
  clear hN
  go_enter Tryz.func70, Tryz.ntmps70
  go_wp2_with (first | (go_at_call 43; refine (cG _).mono ?_; rintro e w' ⟨rfl, hq⟩; obtain rfl : w = w' := hq.symm))
  refine (atoi_bad X _ hXs HV.out henv).mono ?_
  rintro e w1 ⟨n, t, v, rfl, b1⟩
  go_wp2
  go_ret2
  exact ⟨rfl, b1⟩
set_option maxHeartbeats 4000000 in
set_option maxRecDepth 20000 in
theorem number_ok_out_b (s X : ByteArray) (N : Nat) (w : World) (henv : Env w) (hs : s.size ≤ 140737488355328) (hp : 0 < s.size) (hNs : N ≤ s.size) (hlt : s.size ≤ N) (hN : goN digB s.data.toList = N) (hX : ∀ W : World, Sem.run Tryz.prog (Instr.slice 9 (.string s) none (some (.int .i64 (N : Int))) none) W = .ok (.string X) W) (hXs : X.size ≤ 140737488355328) (h1 : ¬ 1 < N) (hv : ∃ n, Lib.atoiAll X.data.toList = .ok n) :
    Calls Tryz.prog 70 #[.string s] w fun e w' => e = .returned (.tuple #[.int .i64 (N : Nat), .int .i64 0]) ∧ Below w.heap.size w w' := by
  have cG := fun W => goesOn_digit s W (by unfold maxLen; omega)
  rw [hN] at cG
  have hltz : ¬ (N : Int) < (s.size : Int) := by omega
  have h1z : ¬ (1 : Int) < (N : Int) := by omega
  obtain ⟨n, hn⟩ := hv
  have HV : Hid (Lib.atoiAll X.data.toList = .ok n) := hn
  clear hn
  clear hN
  go_enter Tryz.func70, Tryz.ntmps70
  go_wp2_with (first | (go_at_call 43; refine (cG _).mono ?_; rintro e w' ⟨rfl, hq⟩; obtain rfl : w = w' := hq.symm))
  refine (atoi_ok X n _ hXs HV.out).mono ?_
  rintro e w1 ⟨rfl, b1⟩
  go_wp2
  go_ret2
  exact ⟨rfl, b1⟩
set_option maxHeartbeats 4000000 in
set_option maxRecDepth 20000 in
theorem number_bad_out_b (s X : ByteArray) (N : Nat) (w : World) (henv : Env w) (hs : s.size ≤ 140737488355328) (hp : 0 < s.size) (hNs : N ≤ s.size) (hlt : s.size ≤ N) (hN : goN digB s.data.toList = N) (hX : ∀ W : World, Sem.run Tryz.prog (Instr.slice 9 (.string s) none (some (.int .i64 (N : Int))) none) W = .ok (.string X) W) (hXs : X.size ≤ 140737488355328) (h1 : ¬ 1 < N) (hv : ∀ n, Lib.atoiAll X.data.toList ≠ .ok n) :
    Calls Tryz.prog 70 #[.string s] w fun e w' => e = .returned (.tuple #[.int .i64 0, .int .i64 1]) ∧ Below w.heap.size w w' := by
  have cG := fun W => goesOn_digit s W (by unfold maxLen; omega)
  rw [hN] at cG
  have hltz : ¬ (N : Int) < (s.size : Int) := by omega
  have h1z : ¬ (1 : Int) < (N : Int) := by omega
  have HV : Hid (∀ n, Lib.atoiAll X.data.toList ≠ .ok n) := hv
  clear hv
  clear hN
  go_enter Tryz.func70, Tryz.ntmps70
  go_wp2_with (first | (go_at_call 43; refine (cG _).mono ?_; rintro e w' ⟨rfl, hq⟩; obtain rfl : w = w' := hq.symm))
  refine (atoi_bad X _ hXs HV.out henv).mono ?_
  rintro e w1 ⟨n, t, v, rfl, b1⟩
  go_wp2
  go_ret2
  exact ⟨rfl, b1⟩
theorem numberAhead_any (s : ByteArray) (w : World) (henv : Env w) (hs : s.size ≤ 140737488355328) (hp : 0 < s.size) (hd : digB s[0] = true) :
    Calls Tryz.prog 70 #[.string s] w fun e w' => e = .returned (.tuple #[.int .i64 ((numTok s.data.toList).1 : Nat), .int .i64 (numTok s.data.toList).2]) ∧ Below w.heap.size w w' := by
  have h0 : 0 < goN digB s.data.toList := by
    have := drop_cons s 0 hp
    rw [List.drop_zero] at this
    rw [this, goN_yes _ hd]; omega
  have hle : goN digB s.data.toList ≤ s.size := by have := goN_le digB s.data.toList; simpa using this
  obtain ⟨X, hX, hX1, hX2⟩ := slice_to s (goN digB s.data.toList) hle
  have hXs : X.size ≤ 140737488355328 := by omega
  have key := num_atoi hp h0 hX1
  rw [hX1] at key
  obtain ⟨N, hN⟩ : ∃ N, goN digB s.data.toList = N := ⟨_, rfl⟩
  by_cases hlt : N < s.size
  · cases hl : letB s[N]
    · by_cases h1 : 1 < N
      · by_cases hz : s[0] = 48
        · rw [numTok, if_pos (Or.inr ⟨by omega, by rw [head_at hp, hz]⟩)]
          exact (number_zero_in s N w hs hp hlt hl hN h1 hz).mono fun e w' hh => ⟨hh.1, by rw [hh.2]; exact Below.refl _ _⟩
        · have hno : ¬ (1 < goN digB s.data.toList ∧ s.data.toList.head? = some 48) := fun e => hz (by rw [head_at hp] at e; exact Option.some.inj e.2)
          obtain ⟨k1, k2⟩ := key hno
          rw [numTok, if_neg (fun e => e.elim (fun e => by rw [hN, hd_at hlt, hl] at e; cases e) hno)]
          by_cases hv : 9223372036854775807 < val10 (s.data.toList.take (goN digB s.data.toList))
          · rw [if_pos hv]
            rw [hN] at hX
            exact number_bad_in_a s X N w henv hs hp (by omega) hlt hl hN hX hXs h1 hz (by rw [hX1]; exact k2 hv)
          · rw [if_neg hv]
            simp only [hN] at hX ⊢
            exact number_ok_in_a s X N w henv hs hp (by omega) hlt hl hN hX hXs h1 hz ⟨_, by rw [hX1]; exact k1 (by omega)⟩
      · have hno : ¬ (1 < goN digB s.data.toList ∧ s.data.toList.head? = some 48) := fun e => h1 (by omega)
        obtain ⟨k1, k2⟩ := key hno
        rw [numTok, if_neg (fun e => e.elim (fun e => by rw [hN, hd_at hlt, hl] at e; cases e) hno)]
        by_cases hv : 9223372036854775807 < val10 (s.data.toList.take (goN digB s.data.toList))
        · rw [if_pos hv]
          rw [hN] at hX
          exact number_bad_in_b s X N w henv hs hp (by omega) hlt hl hN hX hXs h1 (by rw [hX1]; exact k2 hv)
        · rw [if_neg hv]
          simp only [hN] at hX ⊢
          exact number_ok_in_b s X N w henv hs hp (by omega) hlt hl hN hX hXs h1 ⟨_, by rw [hX1]; exact k1 (by omega)⟩
    · rw [numTok, if_pos (Or.inl (by rw [hN, hd_at hlt]; exact hl))]
      exact (number_letter s N w hs hlt hN hl).mono fun e w' hh => ⟨hh.1, by rw [hh.2]; exact Below.refl _ _⟩
  · have hge : s.size ≤ N := by omega
    by_cases h1 : 1 < N
    · by_cases hz : s[0] = 48
      · rw [numTok, if_pos (Or.inr ⟨by omega, by rw [head_at hp, hz]⟩)]
        exact (number_zero_out s N w hs hp hge hN h1 hz).mono fun e w' hh => ⟨hh.1, by rw [hh.2]; exact Below.refl _ _⟩
      · have hno : ¬ (1 < goN digB s.data.toList ∧ s.data.toList.head? = some 48) := fun e => hz (by rw [head_at hp] at e; exact Option.some.inj e.2)
        obtain ⟨k1, k2⟩ := key hno
        rw [numTok, if_neg (fun e => e.elim (fun e => by rw [hN, hd_out hge] at e; cases e) hno)]
        by_cases hv : 9223372036854775807 < val10 (s.data.toList.take (goN digB s.data.toList))
        · rw [if_pos hv]
          rw [hN] at hX
          exact number_bad_out_a s X N w henv hs hp (by omega) hge hN hX hXs h1 hz (by rw [hX1]; exact k2 hv)
        · rw [if_neg hv]
          simp only [hN] at hX ⊢
          exact number_ok_out_a s X N w henv hs hp (by omega) hge hN hX hXs h1 hz ⟨_, by rw [hX1]; exact k1 (by omega)⟩
    · have hno : ¬ (1 < goN digB s.data.toList ∧ s.data.toList.head? = some 48) := fun e => h1 (by omega)
      obtain ⟨k1, k2⟩ := key hno
      rw [numTok, if_neg (fun e => e.elim (fun e => by rw [hN, hd_out hge] at e; cases e) hno)]
      by_cases hv : 9223372036854775807 < val10 (s.data.toList.take (goN digB s.data.toList))
      · rw [if_pos hv]
        rw [hN] at hX
        exact number_bad_out_b s X N w henv hs hp (by omega) hge hN hX hXs h1 (by rw [hX1]; exact k2 hv)
      · rw [if_neg hv]
        simp only [hN] at hX ⊢
        exact number_ok_out_b s X N w henv hs hp (by omega) hge hN hX hXs h1 ⟨_, by rw [hX1]; exact k1 (by omega)⟩
end Go.Proofs.YtomakklbfjkdpaaGreatDoor
