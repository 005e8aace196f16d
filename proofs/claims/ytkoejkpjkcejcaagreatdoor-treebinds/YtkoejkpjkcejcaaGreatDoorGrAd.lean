/-
  Lex3, Lex4, TreeEx, TreeP, TreeQ, in one text.
-/
import Derived.Test.YtkoejkpjkcejcaaGreatDoorGrAc
import Derived.Test.YtkoejkpjkcejcaaGreatDoorProg
import Derived.WalkKit
import Derived.Below
import Derived.Lib.Strings
import Derived.Laws.RangeAny
import Derived.Deep.DeepCutAuto
import Derived.Test.YtkoejkpjkcejcaaGreatDoorGrAb
namespace Go.Proofs.YtkoejkpjkcejcaaGreatDoor
open Go.RowKit
set_option linter.unusedVariables false

theorem hd_at {p : UInt8 → Bool} {s : ByteArray} {k : Nat} (h : k < s.size) : hdB p (s.data.toList.drop k) = p s[k] := by rw [drop_cons s k h]; rfl
theorem hd_out {p : UInt8 → Bool} {s : ByteArray} {k : Nat} (h : s.size ≤ k) : hdB p (s.data.toList.drop k) = false := by rw [List.drop_eq_nil_of_le (by simp; omega)]; rfl
theorem head_at {s : ByteArray} (h : 0 < s.size) : s.data.toList.head? = some s[0] := by
  have e : s.data.toList = s[0] :: s.data.toList.drop 1 := by have := drop_cons s 0 h; simpa using this
  rw [e]; rfl
theorem u8_48 {c : UInt8} : (c.toNat : Int) = 48 ↔ c = 48 :=
  ⟨fun h => UInt8.toNat_inj.1 (by rw [show (48 : UInt8).toNat = 48 from rfl]; omega), fun h => by rw [h]; rfl⟩
theorem num_atoi {s X : ByteArray} (hp : 0 < s.size) (hN : 0 < goN digB s.data.toList) (hX : X.data.toList = s.data.toList.take (goN digB s.data.toList)) (hz : ¬ (1 < goN digB s.data.toList ∧ s.data.toList.head? = some 48)) :
    (val10 X.data.toList ≤ 9223372036854775807 → Lib.atoiAll X.data.toList = .ok (val10 X.data.toList : Nat)) ∧ (9223372036854775807 < val10 X.data.toList → ∀ n, Lib.atoiAll X.data.toList ≠ .ok n) := by
  have hle := goN_le digB s.data.toList
  have hlen : X.data.toList.length = goN digB s.data.toList := by rw [hX, List.length_take]; omega
  refine atoi_dig (fun e => by rw [e] at hlen; simp at hlen; omega) (by rw [hX]; exact goN_all _ _) ?_
  rintro ⟨h1, h2⟩
  refine hz ⟨by omega, ?_⟩
  rw [hX, List.head?_take, if_neg (by omega)] at h2
  exact h2
set_option maxHeartbeats 4000000 in
set_option maxRecDepth 20000 in
theorem number_letter (s : ByteArray) (N : Nat) (w : World) (hs : s.size ≤ 140737488355328) (hlt : N < s.size) (hN : goN digB s.data.toList = N) (hl : letB s[N] = true) :
    Calls Tryz.prog 92 #[.string s] w fun e w' => e = .returned (.tuple #[.int .i64 0, .int .i64 2]) ∧ w' = w := by
  have cG := fun W => goesOn_digit s W (by unfold maxLen; omega)
  rw [hN] at cG
  have cL := isLetter_any s[N]
  rw [hl] at cL
  have hltz : (N : Int) < (s.size : Int) := by omega
  have hp : 0 < s.size := by omega
  clear hN hl
  go_enter Tryz.func92, Tryz.ntmps92
  go_wp2_with (first | (go_at_call 65; refine (cG _).mono ?_; rintro e w' ⟨rfl, rfl⟩) | (go_at_call 89; refine (cL _).mono ?_; rintro e w' ⟨rfl, rfl⟩))
  all_goals
    go_ret2
    exact ⟨rfl, rfl⟩
set_option maxHeartbeats 4000000 in
set_option maxRecDepth 20000 in
theorem number_zero_in (s : ByteArray) (N : Nat) (w : World) (hs : s.size ≤ 140737488355328) (hp : 0 < s.size) (hlt : N < s.size) (hl : letB s[N] = false) (hN : goN digB s.data.toList = N) (h1 : 1 < N) (h0 : s[0] = 48) :
    Calls Tryz.prog 92 #[.string s] w fun e w' => e = .returned (.tuple #[.int .i64 0, .int .i64 2]) ∧ w' = w := by
  have cG := fun W => goesOn_digit s W (by unfold maxLen; omega)
  rw [hN] at cG
  have cL := isLetter_any s[N]
  rw [hl] at cL
  have hltz : (N : Int) < (s.size : Int) := by omega
  clear hl
  have h1z : (1 : Int) < (N : Int) := by omega
  have h0z : ((s[0].toNat : Int) == 48) = true := by rw [h0]; rfl
  clear hN h0
  go_enter Tryz.func92, Tryz.ntmps92
  go_wp2_with (first | (go_at_call 65; refine (cG _).mono ?_; rintro e w' ⟨rfl, rfl⟩) | (go_at_call 89; refine (cL _).mono ?_; rintro e w' ⟨rfl, rfl⟩))
  go_ret2
  exact ⟨rfl, rfl⟩
set_option maxHeartbeats 4000000 in
set_option maxRecDepth 20000 in
theorem number_ok_in_a (s X : ByteArray) (N : Nat) (w : World) (henv : Env w) (hs : s.size ≤ 140737488355328) (hp : 0 < s.size) (hNs : N ≤ s.size) (hlt : N < s.size) (hl : letB s[N] = false) (hN : goN digB s.data.toList = N) (hX : ∀ W : World, Sem.run Tryz.prog (Instr.slice 9 (.string s) none (some (.int .i64 (N : Int))) none) W = .ok (.string X) W) (hXs : X.size ≤ 140737488355328) (h1 : 1 < N) (h0 : s[0] ≠ 48) (hv : ∃ n, Lib.atoiAll X.data.toList = .ok n) :
    Calls Tryz.prog 92 #[.string s] w fun e w' => e = .returned (.tuple #[.int .i64 (N : Nat), .int .i64 0]) ∧ Below w.heap.size w w' := by
  have cG := fun W => goesOn_digit s W (by unfold maxLen; omega)
  rw [hN] at cG
  have cL := isLetter_any s[N]
  rw [hl] at cL
  have hltz : (N : Int) < (s.size : Int) := by omega
  clear hl
  have h1z : (1 : Int) < (N : Int) := by omega
  have h0z : ((s[0].toNat : Int) == 48) = false := by rw [beq_eq_false_iff_ne]; exact fun e => h0 (u8_48.1 e)
  clear h0
  obtain ⟨n, hn⟩ := hv
  have HV : Hid (Lib.atoiAll X.data.toList = .ok n) := hn
  clear hn
  clear hN
  go_enter Tryz.func92, Tryz.ntmps92
  go_wp2_with (first | (go_at_call 65; refine (cG _).mono ?_; rintro e w' ⟨rfl, hq⟩; obtain rfl : w = w' := hq.symm) | (go_at_call 89; refine (cL _).mono ?_; rintro e w' ⟨rfl, hq2⟩; obtain rfl : w = w' := hq2.symm))
  refine (atoi_ok X n _ hXs HV.out).mono ?_
  rintro e w1 ⟨rfl, b1⟩
  go_wp2
  go_ret2
  exact ⟨rfl, b1⟩
set_option maxHeartbeats 4000000 in
set_option maxRecDepth 20000 in
theorem number_bad_in_a (s X : ByteArray) (N : Nat) (w : World) (henv : Env w) (hs : s.size ≤ 140737488355328) (hp : 0 < s.size) (hNs : N ≤ s.size) (hlt : N < s.size) (hl : letB s[N] = false) (hN : goN digB s.data.toList = N) (hX : ∀ W : World, Sem.run Tryz.prog (Instr.slice 9 (.string s) none (some (.int .i64 (N : Int))) none) W = .ok (.string X) W) (hXs : X.size ≤ 140737488355328) (h1 : 1 < N) (h0 : s[0] ≠ 48) (hv : ∀ n, Lib.atoiAll X.data.toList ≠ .ok n) :
    Calls Tryz.prog 92 #[.string s] w fun e w' => e = .returned (.tuple #[.int .i64 0, .int .i64 1]) ∧ Below w.heap.size w w' := by
  have cG := fun W => goesOn_digit s W (by unfold maxLen; omega)
  rw [hN] at cG
  have cL := isLetter_any s[N]
  rw [hl] at cL
  have hltz : (N : Int) < (s.size : Int) := by omega
  clear hl
  have h1z : (1 : Int) < (N : Int) := by omega
  have h0z : ((s[0].toNat : Int) == 48) = false := by rw [beq_eq_false_iff_ne]; exact fun e => h0 (u8_48.1 e)
  clear h0
  have HV : Hid (∀ n, Lib.atoiAll X.data.toList ≠ .ok n) := hv
  clear hv
  clear hN
  go_enter Tryz.func92, Tryz.ntmps92
  go_wp2_with (first | (go_at_call 65; refine (cG _).mono ?_; rintro e w' ⟨rfl, hq⟩; obtain rfl : w = w' := hq.symm) | (go_at_call 89; refine (cL _).mono ?_; rintro e w' ⟨rfl, hq2⟩; obtain rfl : w = w' := hq2.symm))
  refine (atoi_bad X _ hXs HV.out henv).mono ?_
  rintro e w1 ⟨n, t, v, rfl, b1⟩
  go_wp2
  go_ret2
  exact ⟨rfl, b1⟩
set_option maxHeartbeats 4000000 in
set_option maxRecDepth 20000 in
theorem number_ok_in_b (s X : ByteArray) (N : Nat) (w : World) (henv : Env w) (hs : s.size ≤ 140737488355328) (hp : 0 < s.size) (hNs : N ≤ s.size) (hlt : N < s.size) (hl : letB s[N] = false) (hN : goN digB s.data.toList = N) (hX : ∀ W : World, Sem.run Tryz.prog (Instr.slice 9 (.string s) none (some (.int .i64 (N : Int))) none) W = .ok (.string X) W) (hXs : X.size ≤ 140737488355328) (h1 : ¬ 1 < N) (hv : ∃ n, Lib.atoiAll X.data.toList = .ok n) :
    Calls Tryz.prog 92 #[.string s] w fun e w' => e = .returned (.tuple #[.int .i64 (N : Nat), .int .i64 0]) ∧ Below w.heap.size w w' := by
  have cG := fun W => goesOn_digit s W (by unfold maxLen; omega)
  rw [hN] at cG
  have cL := isLetter_any s[N]
  rw [hl] at cL
  have hltz : (N : Int) < (s.size : Int) := by omega
  clear hl
  have h1z : ¬ (1 : Int) < (N : Int) := by omega
  obtain ⟨n, hn⟩ := hv
  have HV : Hid (Lib.atoiAll X.data.toList = .ok n) := hn
  clear hn
  clear hN
  go_enter Tryz.func92, Tryz.ntmps92
  go_wp2_with (first | (go_at_call 65; refine (cG _).mono ?_; rintro e w' ⟨rfl, hq⟩; obtain rfl : w = w' := hq.symm) | (go_at_call 89; refine (cL _).mono ?_; rintro e w' ⟨rfl, hq2⟩; obtain rfl : w = w' := hq2.symm))
  refine (atoi_ok X n _ hXs HV.out).mono ?_
  rintro e w1 ⟨rfl, b1⟩
  go_wp2
  go_ret2
  exact ⟨rfl, b1⟩
set_option maxHeartbeats 4000000 in
set_option maxRecDepth 20000 in
theorem number_bad_in_b (s X : ByteArray) (N : Nat) (w : World) (henv : Env w) (hs : s.size ≤ 140737488355328) (hp : 0 < s.size) (hNs : N ≤ s.size) (hlt : N < s.size) (hl : letB s[N] = false) (hN : goN digB s.data.toList = N) (hX : ∀ W : World, Sem.run Tryz.prog (Instr.slice 9 (.string s) none (some (.int .i64 (N : Int))) none) W = .ok (.string X) W) (hXs : X.size ≤ 140737488355328) (h1 : ¬ 1 < N) (hv : ∀ n, Lib.atoiAll X.data.toList ≠ .ok n) :
    Calls Tryz.prog 92 #[.string s] w fun e w' => e = .returned (.tuple #[.int .i64 0, .int .i64 1]) ∧ Below w.heap.size w w' := by
  have cG := fun W => goesOn_digit s W (by unfold maxLen; omega)
  rw [hN] at cG
  have cL := isLetter_any s[N]
  rw [hl] at cL
  have hltz : (N : Int) < (s.size : Int) := by omega
  clear hl
  have h1z : ¬ (1 : Int) < (N : Int) := by omega
  have HV : Hid (∀ n, Lib.atoiAll X.data.toList ≠ .ok n) := hv
  clear hv
  clear hN
  go_enter Tryz.func92, Tryz.ntmps92
  go_wp2_with (first | (go_at_call 65; refine (cG _).mono ?_; rintro e w' ⟨rfl, hq⟩; obtain rfl : w = w' := hq.symm) | (go_at_call 89; refine (cL _).mono ?_; rintro e w' ⟨rfl, hq2⟩; obtain rfl : w = w' := hq2.symm))
  refine (atoi_bad X _ hXs HV.out henv).mono ?_
  rintro e w1 ⟨n, t, v, rfl, b1⟩
  go_wp2
  go_ret2
  exact ⟨rfl, b1⟩
set_option maxHeartbeats 4000000 in
set_option maxRecDepth 20000 in
theorem number_zero_out (s : ByteArray) (N : Nat) (w : World) (hs : s.size ≤ 140737488355328) (hp : 0 < s.size) (hlt : s.size ≤ N) (hN : goN digB s.data.toList = N) (h1 : 1 < N) (h0 : s[0] = 48) :
    Calls Tryz.prog 92 #[.string s] w fun e w' => e = .returned (.tuple #[.int .i64 0, .int .i64 2]) ∧ w' = w := by
  have cG := fun W => goesOn_digit s W (by unfold maxLen; omega)
  rw [hN] at cG
  have hltz : ¬ (N : Int) < (s.size : Int) := by omega
  have h1z : (1 : Int) < (N : Int) := by omega
  have h0z : ((s[0].toNat : Int) == 48) = true := by rw [h0]; rfl
  clear hN h0
  go_enter Tryz.func92, Tryz.ntmps92
  go_wp2_with (first | (go_at_call 65; refine (cG _).mono ?_; rintro e w' ⟨rfl, rfl⟩))
  go_ret2
  exact ⟨rfl, rfl⟩
set_option maxHeartbeats 4000000 in
set_option maxRecDepth 20000 in
theorem number_ok_out_a (s X : ByteArray) (N : Nat) (w : World) (henv : Env w) (hs : s.size ≤ 140737488355328) (hp : 0 < s.size) (hNs : N ≤ s.size) (hlt : s.size ≤ N) (hN : goN digB s.data.toList = N) (hX : ∀ W : World, Sem.run Tryz.prog (Instr.slice 9 (.string s) none (some (.int .i64 (N : Int))) none) W = .ok (.string X) W) (hXs : X.size ≤ 140737488355328) (h1 : 1 < N) (h0 : s[0] ≠ 48) (hv : ∃ n, Lib.atoiAll X.data.toList = .ok n) :
    Calls Tryz.prog 92 #[.string s] w fun e w' => e = .returned (.tuple #[.int .i64 (N : Nat), .int .i64 0]) ∧ Below w.heap.size w w' := by
  have cG := fun W => goesOn_digit s W (by unfold maxLen; omega)
  rw [hN] at cG
  have hltz : ¬ (N : Int) < (s.size : Int) := by omega
  have h1z : (1 : Int) < (N : Int) := by omega
  have h0z : ((s[0].toNat : Int) == 48) = false := by rw [beq_eq_false_iff_ne]; exact fun e => h0 (u8_48.1 e)
  clear h0
  obtain ⟨n, hn⟩ := hv
  have HV : Hid (Lib.atoiAll X.data.toList = .ok n) := hn
  clear hn
  clear hN
  go_enter Tryz.func92, Tryz.ntmps92
  go_wp2_with (first | (go_at_call 65; refine (cG _).mono ?_; rintro e w' ⟨rfl, hq⟩; obtain rfl : w = w' := hq.symm))
  refine (atoi_ok X n _ hXs HV.out).mono ?_
  rintro e w1 ⟨rfl, b1⟩
  go_wp2
  go_ret2
  exact ⟨rfl, b1⟩
set_option maxHeartbeats 4000000 in
set_option maxRecDepth 20000 in
theorem number_bad_out_a (s X : ByteArray) (N : Nat) (w : World) (henv : Env w) (hs : s.size ≤ 140737488355328) (hp : 0 < s.size) (hNs : N ≤ s.size) (hlt : s.size ≤ N) (hN : goN digB s.data.toList = N) (hX : ∀ W : World, Sem.run Tryz.prog (Instr.slice 9 (.string s) none (some (.int .i64 (N : Int))) none) W = .ok (.string X) W) (hXs : X.size ≤ 140737488355328) (h1 : 1 < N) (h0 : s[0] ≠ 48) (hv : ∀ n, Lib.atoiAll X.data.toList ≠ .ok n) :
    Calls Tryz.prog 92 #[.string s] w fun e w' => e = .returned (.tuple #[.int .i64 0, .int .i64 1]) ∧ Below w.heap.size w w' := by
  have cG := fun W => goesOn_digit s W (by unfold maxLen; omega)
  rw [hN] at cG
  have hltz : ¬ (N : Int) < (s.size : Int) := by omega
  have h1z : (1 : Int) < (N : Int) := by omega
  have h0z : ((s[0].toNat : Int) == 48) = false := by rw [beq_eq_false_iff_ne]; exact fun e => h0 (u8_48.1 e)
  clear h0
  have HV : Hid (∀ n, Lib.atoiAll X.data.toList ≠ .ok n) := hv
  clear hv
  clear hN
  go_enter Tryz.func92, Tryz.ntmps92
  go_wp2_with (first | (go_at_call 65; refine (cG _).mono ?_; rintro e w' ⟨rfl, hq⟩; obtain rfl : w = w' := hq.symm))
  refine (atoi_bad X _ hXs HV.out henv).mono ?_
  rintro e w1 ⟨n, t, v, rfl, b1⟩
  go_wp2
  go_ret2
  exact ⟨rfl, b1⟩
set_option maxHeartbeats 4000000 in
set_option maxRecDepth 20000 in
theorem number_ok_out_b (s X : ByteArray) (N : Nat) (w : World) (henv : Env w) (hs : s.size ≤ 140737488355328) (hp : 0 < s.size) (hNs : N ≤ s.size) (hlt : s.size ≤ N) (hN : goN digB s.data.toList = N) (hX : ∀ W : World, Sem.run Tryz.prog (Instr.slice 9 (.string s) none (some (.int .i64 (N : Int))) none) W = .ok (.string X) W) (hXs : X.size ≤ 140737488355328) (h1 : ¬ 1 < N) (hv : ∃ n, Lib.atoiAll X.data.toList = .ok n) :
    Calls Tryz.prog 92 #[.string s] w fun e w' => e = .returned (.tuple #[.int .i64 (N : Nat), .int .i64 0]) ∧ Below w.heap.size w w' := by
  have cG := fun W => goesOn_digit s W (by unfold maxLen; omega)
  rw [hN] at cG
  have hltz : ¬ (N : Int) < (s.size : Int) := by omega
  have h1z : ¬ (1 : Int) < (N : Int) := by omega
  obtain ⟨n, hn⟩ := hv
  have HV : Hid (Lib.atoiAll X.data.toList = .ok n) := hn
  clear hn
  clear hN
  go_enter Tryz.func92, Tryz.ntmps92
  go_wp2_with (first | (go_at_call 65; refine (cG _).mono ?_; rintro e w' ⟨rfl, hq⟩; obtain rfl : w = w' := hq.symm))
  refine (atoi_ok X n _ hXs HV.out).mono ?_
  rintro e w1 ⟨rfl, b1⟩
  go_wp2
  go_ret2
  exact ⟨rfl, b1⟩
set_option maxHeartbeats 4000000 in
set_option maxRecDepth 20000 in
theorem number_bad_out_b (s X : ByteArray) (N : Nat) (w : World) (henv : Env w) (hs : s.size ≤ 140737488355328) (hp : 0 < s.size) (hNs : N ≤ s.size) (hlt : s.size ≤ N) (hN : goN digB s.data.toList = N) (hX : ∀ W : World, Sem.run Tryz.prog (Instr.slice 9 (.string s) none (some (.int .i64 (N : Int))) none) W = .ok (.string X) W) (hXs : X.size ≤ 140737488355328) (h1 : ¬ 1 < N) (hv : ∀ n, Lib.atoiAll X.data.toList ≠ .ok n) :
    Calls Tryz.prog 92 #[.string s] w fun e w' => e = .returned (.tuple #[.int .i64 0, .int .i64 1]) ∧ Below w.heap.size w w' := by
  have cG := fun W => goesOn_digit s W (by unfold maxLen; omega)
  rw [hN] at cG
  have hltz : ¬ (N : Int) < (s.size : Int) := by omega
  have h1z : ¬ (1 : Int) < (N : Int) := by omega
  have HV : Hid (∀ n, Lib.atoiAll X.data.toList ≠ .ok n) := hv
  clear hv
  clear hN
  go_enter Tryz.func92, Tryz.ntmps92
  go_wp2_with (first | (go_at_call 65; refine (cG _).mono ?_; rintro e w' ⟨rfl, hq⟩; obtain rfl : w = w' := hq.symm))
  refine (atoi_bad X _ hXs HV.out henv).mono ?_
  rintro e w1 ⟨n, t, v, rfl, b1⟩
  go_wp2
  go_ret2
  exact ⟨rfl, b1⟩
theorem numberAhead_any (s : ByteArray) (w : World) (henv : Env w) (hs : s.size ≤ 140737488355328) (hp : 0 < s.size) (hd : digB s[0] = true) :
    Calls Tryz.prog 92 #[.string s] w fun e w' => e = .returned (.tuple #[.int .i64 ((numTok s.data.toList).1 : Nat), .int .i64 (numTok s.data.toList).2]) ∧ Below w.heap.size w w' := by
  have h0 : 0 < goN digB s.data.toList := by
    have := drop_cons s 0 hp
    rw [List.drop_zero] at this
    rw [this, goN_yes _ hd]; omega
  have hle : goN digB s.data.toList ≤ s.size := by have := goN_le digB s.data.toList; simpa using this
  obtain ⟨X, hX, hX1, hX2⟩ := slice_to s (goN digB s.data.toList) hle
  have hXs : X.size ≤ 140737488355328 := by omega
  have key := num_atoi hp h0 hX1
  rw [hX1] at key
  obtain ⟨N, hN⟩ : ∃ N, goN digB s.data.toList = N := ⟨_, rfl⟩
  by_cases hlt : N < s.size
  · cases hl : letB s[N]
    · by_cases h1 : 1 < N
      · by_cases hz : s[0] = 48
        · rw [numTok, if_pos (Or.inr ⟨by omega, by rw [head_at hp, hz]⟩)]
          exact (number_zero_in s N w hs hp hlt hl hN h1 hz).mono fun e w' hh => ⟨hh.1, by rw [hh.2]; exact Below.refl _ _⟩
        · have hno : ¬ (1 < goN digB s.data.toList ∧ s.data.toList.head? = some 48) := fun e => hz (by rw [head_at hp] at e; exact Option.some.inj e.2)
          obtain ⟨k1, k2⟩ := key hno
          rw [numTok, if_neg (fun e => e.elim (fun e => by rw [hN, hd_at hlt, hl] at e; cases e) hno)]
          by_cases hv : 9223372036854775807 < val10 (s.data.toList.take (goN digB s.data.toList))
          · rw [if_pos hv]
            rw [hN] at hX
            exact number_bad_in_a s X N w henv hs hp (by omega) hlt hl hN hX hXs h1 hz (by rw [hX1]; exact k2 hv)
          · rw [if_neg hv]
            simp only [hN] at hX ⊢
            exact number_ok_in_a s X N w henv hs hp (by omega) hlt hl hN hX hXs h1 hz ⟨_, by rw [hX1]; exact k1 (by omega)⟩
      · have hno : ¬ (1 < goN digB s.data.toList ∧ s.data.toList.head? = some 48) := fun e => h1 (by omega)
        obtain ⟨k1, k2⟩ := key hno
        rw [numTok, if_neg (fun e => e.elim (fun e => by rw [hN, hd_at hlt, hl] at e; cases e) hno)]
        by_cases hv : 9223372036854775807 < val10 (s.data.toList.take (goN digB s.data.toList))
        · rw [if_pos hv]
          rw [hN] at hX
          exact number_bad_in_b s X N w henv hs hp (by omega) hlt hl hN hX hXs h1 (by rw [hX1]; exact k2 hv)
        · rw [if_neg hv]
          simp only [hN] at hX ⊢
          exact number_ok_in_b s X N w henv hs hp (by omega) hlt hl hN hX hXs h1 ⟨_, by rw [hX1]; exact k1 (by omega)⟩
    · rw [numTok, if_pos (Or.inl (by rw [hN, hd_at hlt]; exact hl))]
      exact (number_letter s N w hs hlt hN hl).mono fun e w' hh => ⟨hh.1, by rw [hh.2]; exact Below.refl _ _⟩
  · have hge : s.size ≤ N := by omega
    by_cases h1 : 1 < N
    · by_cases hz : s[0] = 48
      · rw [numTok, if_pos (Or.inr ⟨by omega, by rw [head_at hp, hz]⟩)]
        exact (number_zero_out s N w hs hp hge hN h1 hz).mono fun e w' hh => ⟨hh.1, by rw [hh.2]; exact Below.refl _ _⟩
      · have hno : ¬ (1 < goN digB s.data.toList ∧ s.data.toList.head? = some 48) := fun e => hz (by rw [head_at hp] at e; exact Option.some.inj e.2)
        obtain ⟨k1, k2⟩ := key hno
        rw [numTok, if_neg (fun e => e.elim (fun e => by rw [hN, hd_out hge] at e; cases e) hno)]
        by_cases hv : 9223372036854775807 < val10 (s.data.toList.take (goN digB s.data.toList))
        · rw [if_pos hv]
          rw [hN] at hX
          exact number_bad_out_a s X N w henv hs hp (by omega) hge hN hX hXs h1 hz (by rw [hX1]; exact k2 hv)
        · rw [if_neg hv]
          simp only [hN] at hX ⊢
          exact number_ok_out_a s X N w henv hs hp (by omega) hge hN hX hXs h1 hz ⟨_, by rw [hX1]; exact k1 (by omega)⟩
    · have hno : ¬ (1 < goN digB s.data.toList ∧ s.data.toList.head? = some 48) := fun e => h1 (by omega)
      obtain ⟨k1, k2⟩ := key hno
      rw [numTok, if_neg (fun e => e.elim (fun e => by rw [hN, hd_out hge] at e; cases e) hno)]
      by_cases hv : 9223372036854775807 < val10 (s.data.toList.take (goN digB s.data.toList))
      · rw [if_pos hv]
        rw [hN] at hX
        exact number_bad_out_b s X N w henv hs hp (by omega) hge hN hX hXs h1 (by rw [hX1]; exact k2 hv)
      · rw [if_neg hv]
        simp only [hN] at hX ⊢
        exact number_ok_out_b s X N w henv hs hp (by omega) hge hN hX hXs h1 ⟨_, by rw [hX1]; exact k1 (by omega)⟩
end Go.Proofs.YtkoejkpjkcejcaaGreatDoor
namespace Go.Proofs.YtkoejkpjkcejcaaGreatDoor
open Go.RowKit
set_option linter.unusedVariables false

/-- How far a Quote goes on, and all behind it that begins anew at once; b: is the beginning within? -/
def togN : Bool → List UInt8 → Nat
  | _, [] => 0
  | b, c :: l => if c = 39 then togN (!b) l + 1 else if b = true then togN b l + 1 else 0
theorem togN_le : ∀ (l : List UInt8) (b : Bool), togN b l ≤ l.length
  | [], b => by simp [togN]
  | c :: l, b => by
    rw [togN]
    split
    · have := togN_le l (!b); simp; omega
    · split
      · have := togN_le l b; simp; omega
      · simp
theorem tog_some : ∀ (n : Nat) (l : List UInt8) (k : Nat), l.length ≤ n → qscan l = some k → togN true l = k
  | _, [], k, _, h => by simp [qscan] at h
  | 0, _ :: _, _, hn, _ => by simp at hn
  | n + 1, c :: l, k, hn, h => by
    by_cases hc : c = 39
    · subst hc
      cases l with
      | nil => simp [qscan] at h; subst h; simp [togN]
      | cons d r =>
        by_cases hd : d = 39
        · subst hd
          rw [qscan_two, Option.map_eq_some_iff] at h
          obtain ⟨j, hj, rfl⟩ := h
          have := tog_some n r j (by simp at hn; omega) hj
          simp [togN, this]
        · rw [qscan_end _ (by simpa using hd)] at h
          cases h
          simp [togN, hd]
    · rw [qscan_ne c l hc, Option.map_eq_some_iff] at h
      obtain ⟨j, hj, rfl⟩ := h
      have := tog_some n l j (by simp at hn; omega) hj
      simp [togN, hc, this]
theorem tog_none : ∀ (n : Nat) (l : List UInt8), l.length ≤ n → qscan l = none → togN true l = l.length ∧ rd l = none
  | _, [], _, _ => by simp [togN, rd]
  | 0, _ :: _, hn, _ => by simp at hn
  | n + 1, c :: l, hn, h => by
    by_cases hc : c = 39
    · subst hc
      cases l with
      | nil => simp [qscan] at h
      | cons d r =>
        by_cases hd : d = 39
        · subst hd
          rw [qscan_two, Option.map_eq_none_iff] at h
          obtain ⟨h1, h2⟩ := tog_none n r (by simp at hn; omega) h
          exact ⟨by simp [togN, h1], by rw [rd_two, h2]; rfl⟩
        · rw [qscan_end _ (by simpa using hd)] at h
          cases h
    · rw [qscan_ne c l hc, Option.map_eq_none_iff] at h
      obtain ⟨h1, h2⟩ := tog_none n l (by simp at hn; omega) h
      exact ⟨by simp [togN, hc, h1], by rw [rd_ne c l hc, h2]; rfl⟩
theorem quo_tog (r : List UInt8) : quoTok r = if qE (r.take (togN true r)) = 0 then (togN true r + 1, 0) else (0, qE (r.take (togN true r))) := by
  rw [quoTok]
  cases h : qscan r with
  | none =>
    obtain ⟨h1, h2⟩ := tog_none _ r (Nat.le_refl _) h
    have : qE (r.take (togN true r)) = 2 := by rw [h1, List.take_length, qE, h2]
    rw [this]; rfl
  | some k => rw [tog_some _ r k (Nat.le_refl _) h]
theorem qE_cases (x : List UInt8) : qE x = 0 ∨ qE x = 2 ∨ qE x = 4 := by
  rw [qE]
  split
  · simp
  · split
    · simp
    · split <;> simp
theorem read_qE {X : ByteArray} {t : List UInt8} (h : X.data.toList = 39 :: t) : (readV X).2.2.2 = qE t := by
  have hz : X.size = t.length + 1 := by rw [Lib.size_eq, h, List.length_cons]
  have hp : 0 < X.size := by omega
  have h1 : X.data.toList ≠ [116, 114, 117, 101] := by rw [h]; intro e; injection e with e _; revert e; decide
  have h2 : X.data.toList ≠ [102, 97, 108, 115, 101] := by rw [h]; intro e; injection e with e _; revert e; decide
  have h0 : (X[0].toNat : Int) = 39 := by
    have := head_at hp
    rw [h] at this
    have : (39 : UInt8) = X[0] := Option.some.inj this
    rw [← this]; rfl
  have hd : X.data.toList.drop 1 = t := by rw [h]; rfl
  rw [qE]
  cases hr : rd t with
  | none => rw [read_rd_none h1 h2 hp h0 (by rw [hd]; exact hr)]
  | some l =>
    rw [read_rd_some h1 h2 hp h0 (by rw [hd]; exact hr)]
    simp only
    split
    · rfl
    · split <;> rfl
theorem quo1_quote (b : Bool) (p : Nat) (w : World) (hp : w.cell? ⟨p, 0, none⟩ = some (.bool b)) (hf : w.frozen? ⟨p, 0, none⟩ = false) :
    Calls Tryz.prog 112 #[.int .u8 39, .pointer (some ⟨p, 0, none⟩)] w fun e w' => e = .returned (.bool true) ∧ w' = w.setCell ⟨p, 0, none⟩ (.bool !b) := by
  go_enter Tryz.func112, Tryz.ntmps112
  go_wp2
  go_ret
  exact ⟨rfl, rfl⟩
theorem quo1_other (r : Int) (b : Bool) (p : Nat) (w : World) (hr : r ≠ 39) (hp : w.cell? ⟨p, 0, none⟩ = some (.bool b)) :
    Calls Tryz.prog 112 #[.int .u8 r, .pointer (some ⟨p, 0, none⟩)] w fun e w' => e = .returned (.bool b) ∧ w' = w := by
  have e1 : (r == 39) = false := by simpa using hr
  go_enter Tryz.func112, Tryz.ntmps112
  go_wp2
  go_ret
  exact ⟨rfl, rfl⟩
theorem tog_quote {s : ByteArray} {k : Nat} {b : Bool} (h : k < s.size) (hc : s[k] = 39) {E : Nat} (hE : E = k + togN b (s.data.toList.drop k)) : E = k + 1 + togN (!b) (s.data.toList.drop (k + 1)) := by
  rw [hE, drop_cons s k h, togN, if_pos hc]; omega
theorem tog_in {s : ByteArray} {k : Nat} (h : k < s.size) (hc : s[k] ≠ 39) {E : Nat} (hE : E = k + togN true (s.data.toList.drop k)) : E = k + 1 + togN true (s.data.toList.drop (k + 1)) := by
  rw [hE, drop_cons s k h, togN, if_neg hc, if_pos rfl]; omega
theorem tog_out {s : ByteArray} {k : Nat} (h : k < s.size) (hc : s[k] ≠ 39) {E : Nat} (hE : E = k + togN false (s.data.toList.drop k)) : E = k := by
  rw [hE, drop_cons s k h, togN, if_neg hc, if_neg (by decide)]; rfl
theorem tog_end {s : ByteArray} {k : Nat} {b : Bool} (h : s.size ≤ k) (hk : k ≤ s.size) {E : Nat} (hE : E = k + togN b (s.data.toList.drop k)) : E = s.size := by
  rw [hE, List.drop_eq_nil_of_le (by simp; omega)]; simp [togN]; omega
theorem u8_39n {c : UInt8} (h : c ≠ 39) : (c.toNat : Int) ≠ 39 := fun e => h (UInt8.toNat_inj.1 (by rw [show (39 : UInt8).toNat = 39 from rfl]; omega))
theorem cell_lt4 {w : World} {b o : Nat} {v : Value} (h : w.cell? ⟨b, o, none⟩ = some v) : b < w.heap.size := by
  rcases Nat.lt_or_ge b w.heap.size with h' | h'
  · exact h'
  · simp [World.cell?, Array.getElem?_eq_none h'] at h
set_option maxHeartbeats 4000000 in
theorem goesOn_quote (s : ByteArray) (p : Nat) (w : World) (hs : s.size ≤ maxLen) (hp : w.cell? ⟨p, 0, none⟩ = some (.bool false)) (hf : w.frozen? ⟨p, 0, none⟩ = false) :
    Calls Tryz.prog 65 #[.string s, .func (.func 112) #[] #[.pointer (some ⟨p, 0, none⟩)]] w fun e w' => e = .returned (.int .i64 (togN false s.data.toList : Nat)) ∧ Below p w w' := by
  unfold maxLen at hs
  obtain ⟨E, hE⟩ : ∃ E, togN false s.data.toList = E := ⟨_, rfl⟩
  rw [hE]
  go_enter Tryz.func65, Tryz.ntmps65
  go_wp2
  go_loopg [5, 8] s.size (fun gg _ s8 wr => ∃ (kk : Nat) (b : Bool), kk ≤ s.size ∧ s.size - kk ≤ gg ∧ s8 = .int .i64 kk ∧ Aside (Below p w wr) ∧ wr.cell? ⟨p, 0, none⟩ = some (.bool b) ∧ wr.frozen? ⟨p, 0, none⟩ = false ∧ Hid (E = kk + togN b (s.data.toList.drop kk)))
  case atStart => exact ⟨0, false, Nat.zero_le _, by omega, rfl, Below.refl _ w, hp, hf, (show Hid _ by simp [Hid, hE])⟩
  case round =>
    obtain ⟨kk, b, hkk, hg, rfl, BW, hpc, hpf, HE⟩ := hrel
    clear hp hf
    by_cases hlt : kk < s.size
    · have hltz : (kk : Int) < (s.size : Int) := by omega
      by_cases hc : s[kk] = 39
      · have HE2 : Hid (E = kk + 1 + togN (!b) (s.data.toList.drop (kk + 1))) := tog_quote hlt hc HE.out
        have hcz : (s[kk].toNat : Int) = 39 := by rw [hc]; rfl
        have cS := quo1_quote b p wr hpc hpf
        rw [← hcz] at cS
        have BW2 := BW.out.setCell (p := ⟨p, 0, none⟩) (Nat.le_refl _) (.bool !b)
        have hpc3 := World.cell?_setCell_same wr ⟨p, 0, none⟩ (.bool !b) hpc
        have hpf3 : (wr.setCell ⟨p, 0, none⟩ (.bool !b)).frozen? ⟨p, 0, none⟩ = false := by
          have : (wr.setCell ⟨p, 0, none⟩ (.bool !b)).frozen? ⟨p, 0, none⟩ = wr.frozen? ⟨p, 0, none⟩ := by simp
          rw [this]; exact hpf
        clear hc HE hcz
        go_wp2_with fail
        refine cS.mono ?_
        rintro e w' ⟨rfl, rfl⟩
        go_wp2
        go_roundg (s.size - (kk + 1))
        case measure => omega
        case rel => exact ⟨kk + 1, !b, by omega, by omega, by go_num, BW2, hpc3, hpf3, HE2⟩
      · have hcz := u8_39n hc
        have cS := quo1_other _ b p wr hcz hpc
        cases b
        · obtain rfl : kk = E := (tog_out hlt hc HE.out).symm
          clear hc HE hcz
          go_wp2_with fail
          refine cS.mono ?_
          rintro e w' ⟨rfl, hq⟩
          obtain rfl : wr = w' := hq.symm
          go_wp2
          go_ret
          exact ⟨rfl, BW.out⟩
        · have HE2 : Hid (E = kk + 1 + togN true (s.data.toList.drop (kk + 1))) := tog_in hlt hc HE.out
          clear hc HE hcz
          go_wp2_with fail
          refine cS.mono ?_
          rintro e w' ⟨rfl, hq⟩
          obtain rfl : wr = w' := hq.symm
          go_wp2
          go_roundg (s.size - (kk + 1))
          case measure => omega
          case rel => exact ⟨kk + 1, true, by omega, by omega, by go_num, BW, hpc, hpf, HE2⟩
    · have hltz : ¬ (kk : Int) < (s.size : Int) := by omega
      obtain rfl : s.size = E := (tog_end (by omega) hkk HE.out).symm
      clear HE
      go_wp2
      go_ret
      exact ⟨rfl, BW.out⟩
theorem parse_lex (s : ByteArray) (w : World) (hs : s.size ≤ 140737488355328) (henv : Env w) :
    Calls Tryz.prog 113 #[.string s] w fun e w' => (∃ (t n : Int) (x : ByteArray) (k : Int), e = .returned (.tuple #[.agg #[.int .i64 t, .int .i64 n, .string x], errV k]) ∧ Hid ((readV s).2.2.2 = k)) ∧ Below w.heap.size w w' :=
  (parse_any s w hs henv).mono fun e w' hh => ⟨⟨_, _, ⟨(readV s).2.2.1.toArray⟩, _, hh.1, rfl⟩, hh.2⟩
set_option maxHeartbeats 4000000 in
set_option maxRecDepth 20000 in
theorem quoteAhead_any (s : ByteArray) (r : List UInt8) (w : World) (henv : Env w) (hs : s.size ≤ 140737488355328) (hr : s.data.toList = 39 :: r) :
    Calls Tryz.prog 93 #[.string s] w fun e w' => (∃ (n : Nat) (k : Int), e = .returned (.tuple #[.int .i64 n, .int .i64 k]) ∧ Hid (quoTok r = (n, k))) ∧ Below w.heap.size w w' := by
  have hsz : s.size = r.length + 1 := by rw [Lib.size_eq, hr, List.length_cons]
  have hN : togN false s.data.toList = togN true r + 1 := by rw [hr, togN, if_pos rfl]; rfl
  have hle := togN_le r true
  obtain ⟨X, hX, hX1, hX2⟩ := slice_to s (togN true r + 1) (by omega)
  have HX : Hid ((readV X).2.2.2 = qE (r.take (togN true r))) := read_qE (by rw [hX1, hr, List.take_succ_cons])
  have HQ : Hid (quoTok r = if qE (r.take (togN true r)) = 0 then (togN true r + 1, 0) else (0, qE (r.take (togN true r)))) := quo_tog r
  have HC : Hid (qE (r.take (togN true r)) = 0 ∨ qE (r.take (togN true r)) = 2 ∨ qE (r.take (togN true r)) = 4) := qE_cases _
  have cG := goesOn_quote s w.heap.size (w.alloc (.cells #[.bool false] 4)) (by unfold maxLen; omega) (by simp) (by simp)
  rw [hN] at cG
  obtain ⟨N, hNN⟩ : ∃ N, togN true r + 1 = N := ⟨_, rfl⟩
  rw [hNN] at cG hX HQ
  clear hN hX1
  go_enter Tryz.func93, Tryz.ntmps93
  go_wp2_with fail
  refine cG.mono ?_
  rintro e w1 ⟨rfl, b1⟩
  have B1 : Below w.heap.size w w1 := ((Below.refl _ _).alloc (Nat.le_refl _) _).trans b1
  clear b1
  go_wp2_with fail
  refine (parse_lex X _ (by omega) (henv.on B1)).mono ?_
  rintro e w2 ⟨⟨t, n, x, k, rfl, HK⟩, b2⟩
  have B2 := B1.trans (b2.mono B1.size)
  have hk : qE (r.take (togN true r)) = k := by rw [← HX.out]; exact HK.out
  rw [hk] at HQ HC
  have hc := HC.out
  clear hk HK HX HC b2 B1
  rcases hc with rfl | rfl | rfl
  · have HQ2 : Hid (quoTok r = (N, 0)) := by have := HQ.out; rwa [if_pos rfl] at this
    rw [show errV 0 = .nilIface from rfl]
    clear HQ
    go_wp2
    go_ret2
    exact ⟨⟨N, 0, rfl, HQ2⟩, by repeat (first | exact B2 | (refine Below.alloc ?_ (by have := B2.size; simp; omega) _))⟩
  · have HQ2 : Hid (quoTok r = (0, 2)) := by have := HQ.out; rwa [if_neg (by decide)] at this
    rw [show errV 2 = .iface 29 (.int .i64 2) from rfl]
    have cI := fun W => errorsIs_any 2 4 W
    rw [show ((2 : Int) == 4) = false from rfl] at cI
    clear HQ
    go_wp2_with (go_at_call 114; refine (cI _).mono ?_; rintro e W' ⟨rfl, rfl⟩)
    go_ret2
    exact ⟨⟨0, 2, rfl, HQ2⟩, by repeat (first | exact B2 | (refine Below.alloc ?_ (by have := B2.size; simp; omega) _))⟩
  · have HQ2 : Hid (quoTok r = (0, 4)) := by have := HQ.out; rwa [if_neg (by decide)] at this
    rw [show errV 4 = .iface 29 (.int .i64 4) from rfl]
    have cI := fun W => errorsIs_any 4 4 W
    rw [show ((4 : Int) == 4) = true from rfl] at cI
    clear HQ
    go_wp2_with (go_at_call 114; refine (cI _).mono ?_; rintro e W' ⟨rfl, rfl⟩)
    go_ret2
    exact ⟨⟨0, 4, rfl, HQ2⟩, by repeat (first | exact B2 | (refine Below.alloc ?_ (by have := B2.size; simp; omega) _))⟩
set_option maxHeartbeats 4000000 in
set_option maxRecDepth 20000 in
theorem tokenAhead_any (s : ByteArray) (w : World) (henv : Env w) (hw : SG w) (hs : s.size ≤ 140737488355328) (hp : 0 < s.size) :
    Calls Tryz.prog 67 #[.string s] w fun e w' => (∃ (k : Int) (n : Nat) (h : Int), e = .returned (.tuple #[.int .i64 k, .int .i64 n, .int .i64 h]) ∧ Hid (tokAt s.data.toList = (k, n, h))) ∧ Below w.heap.size w w' := by
  have hcons : s.data.toList = s[0] :: s.data.toList.drop 1 := by have := drop_cons s 0 hp; simpa using this
  have HT : Hid (tokAt s.data.toList = if letB s[0] = true then (1, goN ldB s.data.toList, 0) else if digB s[0] = true then (2, numTok s.data.toList) else if s[0] = 39 then (3, quoTok (s.data.toList.drop 1)) else (4, sgN signsL s.data.toList, if sgN signsL s.data.toList = 0 then 2 else 0)) := by
    show _ = _
    rw [hcons, tokAt, ← hcons]
  have cL := isLetter_any s[0]
  have cD := isDigit_any s[0]
  cases hl : letB s[0]
  · rw [hl] at cL HT
    cases hd : digB s[0]
    · rw [hd] at cD HT
      by_cases hq : s[0] = 39
      · have hqz : ((s[0].toNat : Int) == 39) = true := by rw [hq]; rfl
        have cQ := quoteAhead_any s (s.data.toList.drop 1) w henv hs (by rw [← hq]; exact hcons)
        have HT2 : Hid (tokAt s.data.toList = (3, quoTok (s.data.toList.drop 1))) := by have := HT.out; rwa [if_neg (by decide), if_neg (by decide), if_pos hq] at this
        clear hl hd hq HT hcons
        go_enter Tryz.func67, Tryz.ntmps67
        go_wp2_with (first | (go_at_call 89; refine (cL _).mono ?_; rintro e w' ⟨rfl, hq1⟩; obtain rfl : w = w' := hq1.symm) | (go_at_call 91; refine (cD _).mono ?_; rintro e w' ⟨rfl, hq2⟩; obtain rfl : w = w' := hq2.symm))
        refine cQ.mono ?_
        rintro e w1 ⟨⟨n, k, rfl, HQ⟩, b1⟩
        go_wp2
        refine bodyPost_ret (v := .tuple #[.int .i64 3, .int .i64 n, .int .i64 k]) (by simp [results, Tryz.results67, go_sem]) rfl ⟨⟨3, n, k, rfl, ?_⟩, b1⟩
        show _ = _
        rw [HT2.out, HQ.out]
      · have hqz : ((s[0].toNat : Int) == 39) = false := by rw [beq_eq_false_iff_ne]; exact u8_39n hq
        have cQ := signAhead_any s w hw
        obtain ⟨n, hn⟩ : ∃ n, sgN signsL s.data.toList = n := ⟨_, rfl⟩
        obtain ⟨k, hk⟩ : ∃ k : Int, (if n = 0 then 2 else 0) = k := ⟨_, rfl⟩
        rw [hn, hk] at cQ
        have HT2 : Hid (tokAt s.data.toList = (4, n, k)) := by have := HT.out; rwa [if_neg (by decide), if_neg (by decide), if_neg hq, hn, hk] at this
        clear hl hd hq HT hcons hn hk
        go_enter Tryz.func67, Tryz.ntmps67
        go_wp2_with (first | (go_at_call 89; refine (cL _).mono ?_; rintro e w' ⟨rfl, hq1⟩; obtain rfl : w = w' := hq1.symm) | (go_at_call 91; refine (cD _).mono ?_; rintro e w' ⟨rfl, hq2⟩; obtain rfl : w = w' := hq2.symm))
        refine cQ.mono ?_
        rintro e w1 ⟨rfl, hq3⟩
        obtain rfl : w = w1 := hq3.symm
        go_wp2
        exact bodyPost_ret (v := .tuple #[.int .i64 4, .int .i64 n, .int .i64 k]) (by simp [results, Tryz.results67, go_sem]) rfl ⟨⟨4, n, k, rfl, HT2⟩, Below.refl _ _⟩
    · rw [hd] at cD HT
      have cQ := numberAhead_any s w henv hs hp hd
      obtain ⟨n, k, hn⟩ : ∃ n k, numTok s.data.toList = (n, k) := ⟨_, _, rfl⟩
      rw [hn] at cQ
      have HT2 : Hid (tokAt s.data.toList = (2, n, k)) := by have := HT.out; rwa [if_neg (by decide), if_pos rfl, hn] at this
      clear hl hd HT hcons hn
      go_enter Tryz.func67, Tryz.ntmps67
      go_wp2_with (first | (go_at_call 89; refine (cL _).mono ?_; rintro e w' ⟨rfl, hq1⟩; obtain rfl : w = w' := hq1.symm) | (go_at_call 91; refine (cD _).mono ?_; rintro e w' ⟨rfl, hq2⟩; obtain rfl : w = w' := hq2.symm))
      refine cQ.mono ?_
      rintro e w1 ⟨rfl, b1⟩
      go_wp2
      exact bodyPost_ret (v := .tuple #[.int .i64 2, .int .i64 n, .int .i64 k]) (by simp [results, Tryz.results67, go_sem]) rfl ⟨⟨2, n, k, rfl, HT2⟩, b1⟩
  · rw [hl] at cL HT
    have cG := goesOn_lod s w (by unfold maxLen; omega)
    obtain ⟨n, hn⟩ : ∃ n, goN ldB s.data.toList = n := ⟨_, rfl⟩
    rw [hn] at cG
    have HT2 : Hid (tokAt s.data.toList = (1, n, 0)) := by have := HT.out; rwa [if_pos rfl, hn] at this
    clear hl HT hcons hn
    go_enter Tryz.func67, Tryz.ntmps67
    go_wp2_with (first | (go_at_call 89; refine (cL _).mono ?_; rintro e w' ⟨rfl, hq1⟩; obtain rfl : w = w' := hq1.symm))
    refine cG.mono ?_
    rintro e w1 ⟨rfl, hq3⟩
    obtain rfl : w = w1 := hq3.symm
    go_wp2
    exact bodyPost_ret (v := .tuple #[.int .i64 1, .int .i64 n, .int .i64 0]) (by simp [results, Tryz.results67, go_sem]) rfl ⟨⟨1, n, 0, rfl, HT2⟩, Below.refl _ _⟩
end Go.Proofs.YtkoejkpjkcejcaaGreatDoor
namespace Go.Proofs.YtkoejkpjkcejcaaGreatDoor
open Go.RowKit
set_option linter.unusedVariables false
--BEGIN
/-- An expression: Op, Name, the value's type, number and text, At, and the parts. -/
inductive Ex where
  | node (op nm : ByteArray) (vt vn : Int) (vs : ByteArray) (pos : Int) (args : List Ex)
theorem Ex.ind {P : Ex → Prop} (h : ∀ op nm vt vn vs pos args, (∀ y ∈ args, P y) → P (.node op nm vt vn vs pos args)) : ∀ x, P x
  | .node op nm vt vn vs pos args => h op nm vt vn vs pos args (fun y hy => Ex.ind h y)
termination_by x => SizeOf.sizeOf x
decreasing_by
  have := List.sizeOf_lt_of_mem hy
  simp
  omega
def Ex.args : Ex → List Ex
  | .node _ _ _ _ _ _ l => l
def Ex.op : Ex → ByteArray
  | .node o _ _ _ _ _ _ => o
def Ex.nm : Ex → ByteArray
  | .node _ o _ _ _ _ _ => o
def Ex.vt : Ex → Int
  | .node _ _ o _ _ _ _ => o
def Ex.vn : Ex → Int
  | .node _ _ _ o _ _ _ => o
def Ex.vs : Ex → ByteArray
  | .node _ _ _ _ o _ _ => o
def Ex.pos : Ex → Int
  | .node _ _ _ _ _ o _ => o
mutual
/-- An expression lies in memory: its own cells are the value's; those of its parts lie behind the slice, in blocks for which lo holds. -/
def ExIn (w : World) (lo : Nat → Prop) : Value → Ex → Prop
  | v, .node op nm vt vn vs pos args => ∃ p c, v = .agg #[.string op, .string nm, .int .i64 vt, .int .i64 vn, .string vs, .slice p args.length c, .int .i64 pos] ∧ (args.length ≤ maxLen ∧ args.length ≤ c) ∧ op.size ≤ maxLen ∧ nm.size ≤ maxLen ∧ vs.size ≤ maxLen ∧ (args.length = 0 ∨ ∃ b off, p = some ⟨b, off, none⟩ ∧ b < w.heap.size ∧ lo b ∧ ExsIn w lo b off args)
/-- Expressions one behind the other. -/
def ExsIn (w : World) (lo : Nat → Prop) (b : Nat) : Nat → List Ex → Prop
  | _, [] => True
  | off, x :: xs => (∃ v0 v1 v2 v3 v4 v5 v6, w.cell? ⟨b, off, none⟩ = some v0 ∧ w.cell? ⟨b, off + 1, none⟩ = some v1 ∧ w.cell? ⟨b, off + 2, none⟩ = some v2 ∧ w.cell? ⟨b, off + 3, none⟩ = some v3 ∧ w.cell? ⟨b, off + 4, none⟩ = some v4 ∧ w.cell? ⟨b, off + 5, none⟩ = some v5 ∧ w.cell? ⟨b, off + 6, none⟩ = some v6 ∧ ExIn w lo (.agg #[v0, v1, v2, v3, v4, v5, v6]) x) ∧ ExsIn w lo b (off + 7) xs
end
theorem exsIn_at (w : World) (lo : Nat → Prop) (b : Nat) : ∀ (xs : List Ex) (off : Nat), ExsIn w lo b off xs → ∀ j (h : j < xs.length), ∃ v0 v1 v2 v3 v4 v5 v6, w.cell? ⟨b, off + j * 7, none⟩ = some v0 ∧ w.cell? ⟨b, off + j * 7 + 1, none⟩ = some v1 ∧ w.cell? ⟨b, off + j * 7 + 2, none⟩ = some v2 ∧ w.cell? ⟨b, off + j * 7 + 3, none⟩ = some v3 ∧ w.cell? ⟨b, off + j * 7 + 4, none⟩ = some v4 ∧ w.cell? ⟨b, off + j * 7 + 5, none⟩ = some v5 ∧ w.cell? ⟨b, off + j * 7 + 6, none⟩ = some v6 ∧ ExIn w lo (.agg #[v0, v1, v2, v3, v4, v5, v6]) xs[j]
  | [], _, _, j, h => absurd h (by simp)
  | x :: xs, off, hs, 0, _ => by
    rw [ExsIn] at hs
    obtain ⟨v0, v1, v2, v3, v4, v5, v6, h⟩ := hs.1
    refine ⟨v0, v1, v2, v3, v4, v5, v6, ?_⟩
    simp only [Nat.zero_mul, Nat.add_zero, List.getElem_cons_zero]
    exact h
  | x :: xs, off, hs, j + 1, h => by
    rw [ExsIn] at hs
    have ih := exsIn_at w lo b xs (off + 7) hs.2 j (by simpa using h)
    simp only [show off + 7 + j * 7 = off + (j + 1) * 7 from by omega] at ih
    simp only [List.getElem_cons_succ]
    exact ih
theorem exsIn_mk (w : World) (lo : Nat → Prop) (b : Nat) : ∀ (xs : List Ex) (off : Nat), (∀ j (h : j < xs.length), ∃ v0 v1 v2 v3 v4 v5 v6, w.cell? ⟨b, off + j * 7, none⟩ = some v0 ∧ w.cell? ⟨b, off + j * 7 + 1, none⟩ = some v1 ∧ w.cell? ⟨b, off + j * 7 + 2, none⟩ = some v2 ∧ w.cell? ⟨b, off + j * 7 + 3, none⟩ = some v3 ∧ w.cell? ⟨b, off + j * 7 + 4, none⟩ = some v4 ∧ w.cell? ⟨b, off + j * 7 + 5, none⟩ = some v5 ∧ w.cell? ⟨b, off + j * 7 + 6, none⟩ = some v6 ∧ ExIn w lo (.agg #[v0, v1, v2, v3, v4, v5, v6]) xs[j]) → ExsIn w lo b off xs
  | [], _, _ => by rw [ExsIn]; trivial
  | x :: xs, off, hs => by
    rw [ExsIn]
    have h0 := hs 0 (by simp)
    simp only [Nat.zero_mul, Nat.add_zero, List.getElem_cons_zero] at h0
    refine ⟨h0, exsIn_mk w lo b xs (off + 7) fun j hj => ?_⟩
    have := hs (j + 1) (by simpa using hj)
    simp only [show off + (j + 1) * 7 = off + 7 + j * 7 from by omega, List.getElem_cons_succ] at this
    exact this
/-- What is kept where the blocks of its parts are kept. -/
theorem ExIn.keep {w w' : World} {lo : Nat → Prop} (hz : w.heap.size ≤ w'.heap.size) (hk : ∀ b o : Nat, lo b → b < w.heap.size → w'.cell? ⟨b, o, none⟩ = w.cell? ⟨b, o, none⟩) : ∀ (x : Ex) (v : Value), ExIn w lo v x → ExIn w' lo v x := by
  refine Ex.ind fun op nm vt vn vs pos args ih v h => ?_
  rw [ExIn] at h ⊢
  obtain ⟨p, c, rfl, h1, h2, h3, h4, h5⟩ := h
  refine ⟨p, c, rfl, h1, h2, h3, h4, ?_⟩
  rcases h5 with h5 | ⟨b, off, rfl, hbl, hlo, h5⟩
  · exact .inl h5
  · refine .inr ⟨b, off, rfl, by omega, hlo, exsIn_mk w' lo b args off fun j hj => ?_⟩
    obtain ⟨v0, v1, v2, v3, v4, v5, v6, e0, e1, e2, e3, e4, e5, e6, hx⟩ := exsIn_at w lo b args off h5 j hj
    have key : ∀ o : Nat, w'.cell? ⟨b, o, none⟩ = w.cell? ⟨b, o, none⟩ := fun o => hk b o hlo hbl
    exact ⟨v0, v1, v2, v3, v4, v5, v6, by rw [key]; exact e0, by rw [key]; exact e1, by rw [key]; exact e2, by rw [key]; exact e3, by rw [key]; exact e4, by rw [key]; exact e5, by rw [key]; exact e6, ih _ (List.getElem_mem hj) _ hx⟩
theorem ExIn.on {w w' : World} {lo : Nat → Prop} {x : Ex} {v : Value} (h : ExIn w lo v x) (hb : Below w.heap.size w w') : ExIn w' lo v x :=
  ExIn.keep hb.size (fun b o _ hbl => hb.cell (p := ⟨b, o, none⟩) hbl) x v h
theorem ExIn.low {w : World} {lo lo' : Nat → Prop} (hl : ∀ b, b < w.heap.size → lo b → lo' b) : ∀ (x : Ex) (v : Value), ExIn w lo v x → ExIn w lo' v x := by
  refine Ex.ind fun op nm vt vn vs pos args ih v h => ?_
  rw [ExIn] at h ⊢
  obtain ⟨p, c, rfl, h1, h2, h3, h4, h5⟩ := h
  refine ⟨p, c, rfl, h1, h2, h3, h4, ?_⟩
  rcases h5 with h5 | ⟨b, off, rfl, hbl, hlo, h5⟩
  · exact .inl h5
  · refine .inr ⟨b, off, rfl, hbl, hl b hbl hlo, exsIn_mk w lo' b args off fun j hj => ?_⟩
    obtain ⟨v0, v1, v2, v3, v4, v5, v6, e0, e1, e2, e3, e4, e5, e6, hx⟩ := exsIn_at w lo b args off h5 j hj
    exact ⟨v0, v1, v2, v3, v4, v5, v6, e0, e1, e2, e3, e4, e5, e6, ih _ (List.getElem_mem hj) _ hx⟩
mutual
/-- How many nodes. -/
def Ex.size : Ex → Nat
  | .node _ _ _ _ _ _ l => 1 + Ex.sizes l
def Ex.sizes : List Ex → Nat
  | [] => 0
  | x :: xs => x.size + Ex.sizes xs
end
mutual
/-- How many are below each other. -/
def Ex.deep : Ex → Nat
  | .node _ _ _ _ _ _ l => Ex.deeps l + 1
def Ex.deeps : List Ex → Nat
  | [] => 0
  | x :: xs => max x.deep (Ex.deeps xs)
end
--END
end Go.Proofs.YtkoejkpjkcejcaaGreatDoor
namespace Go.Proofs.YtkoejkpjkcejcaaGreatDoor
open Go.RowKit
set_option linter.unusedVariables false
--BEGIN
/-- Where the reader stands: which word is the next, and where it went wrong (below 0: nowhere). -/
structure St where
  i : Nat
  bad : Int
/-- Where the next word stands. -/
def posAt (ts : List Tok) (en : Nat) (i : Nat) : Int := match ts[i]? with
  | some t => (t.2.2 : Int)
  | none => (en : Int)
/-- Is the next word this one? -/
def isT (ts : List Tok) (st : St) (s : List UInt8) : Bool := decide (st.bad < 0) && match ts[st.i]? with
  | some t => (decide (t.1 = 1) || decide (t.1 = 4)) && t.2.1.data.toList == s
  | none => false
def adv (st : St) : St := ⟨st.i + 1, st.bad⟩
def failT (ts : List Tok) (en : Nat) (st : St) : St := if st.bad < 0 then ⟨st.i, posAt ts en st.i⟩ else st
def hasT (ts : List Tok) (st : St) (s : List UInt8) : St := if isT ts st s = true then adv st else st
def needT (ts : List Tok) (en : Nat) (st : St) (s : List UInt8) : St := if isT ts st s = true then adv st else failT ts en st
/-- The words of the language. -/
def wordsL : List (List UInt8) := [[111, 114], [97, 110, 100], [110, 111, 116], [116, 114, 117, 101], [102, 97, 108, 115, 101], [108, 101, 110], [105, 102], [115, 101, 108, 101, 99, 116], [97, 115], [102, 114, 111, 109], [119, 104, 101, 114, 101], [103, 114, 111, 117, 112], [98, 121], [119, 105, 110, 100, 111, 119], [115, 108, 105, 100, 101], [99, 111, 117, 110, 116], [115, 117, 109], [108, 101, 97, 115, 116], [109, 111, 115, 116]]
/-- Is a text 1 to 8 letters? -/
def lettersB (l : List UInt8) : Bool := decide (l ≠ []) && decide (l.length ≤ 8) && l.all letB
/-- May a text be a name? -/
def nameT (l : List UInt8) : Bool := lettersB l && !(wordsL.any (· == l))
/-- A name is taken. -/
def takeT (ts : List Tok) (en : Nat) (st : St) : ByteArray × St :=
  if st.bad < 0 then
    (match ts[st.i]? with
    | some t => if t.1 = 1 ∧ nameT t.2.1.data.toList = true then (t.2.1, adv st) else (⟨#[]⟩, failT ts en st)
    | none => (⟨#[]⟩, failT ts en st))
  else (⟨#[]⟩, st)
/-- The signs of a level. -/
def sgl (lv : Nat) : List (List UInt8) := match lv with
  | 0 => [[111, 114]]
  | 1 => [[97, 110, 100]]
  | 2 => [[61], [60, 62], [60], [60, 61], [62], [62, 61]]
  | 3 => [[43], [45]]
  | 4 => [[42], [47], [37]]
  | _ => []
def ex0 : Ex := .node ⟨#[]⟩ ⟨#[]⟩ 0 0 ⟨#[]⟩ 0 []
def op1 (op : List UInt8) (pos : Int) (l : List Ex) : Ex := .node ⟨op.toArray⟩ ⟨#[]⟩ 0 0 ⟨#[]⟩ pos l
/-- The first of some signs that is the next. -/
def firstT (ts : List Tok) (st : St) : List (List UInt8) → Option (List UInt8)
  | [] => none
  | g :: gs => if isT ts st g = true then some g else firstT ts st gs
/-- Behind what has been read: sign and part, over and over (but once of a comparison). -/
def pLoop (ts : List Tok) (en : Nat) (sub : St → Ex × St) (lv : Nat) : Nat → Ex → St → Ex × St
  | 0, e, st => (e, st)
  | k + 1, e, st => match firstT ts st (sgl lv) with
    | none => (e, st)
    | some g =>
      if lv = 2 then (op1 g (posAt ts en st.i) [e, (sub (adv st)).1], (sub (adv st)).2)
      else pLoop ts en sub lv k (op1 g (posAt ts en st.i) [e, (sub (adv st)).1]) (sub (adv st)).2
/-- Parts in brackets, a comma between: those that were read, and how many are left. -/
def pArgs (ts : List Tok) (en : Nat) (sub : St → Ex × St) : Nat → List Ex → St → List Ex × St
  | 0, l, st => (l, st)
  | k + 1, l, st =>
    pArgs ts en sub k (l ++ [(sub (if l = [] then st else needT ts en st [44])).1]) (sub (if l = [] then st else needT ts en st [44])).2
/-- len, if: the parts in brackets. -/
def pCall (ts : List Tok) (en : Nat) (sub : St → Ex × St) (op : List UInt8) (many : Nat) (pos : Int) (st : St) : Ex × St :=
  (op1 op pos (pArgs ts en sub many [] (needT ts en st [40])).1, needT ts en (pArgs ts en sub many [] (needT ts en st [40])).2 [41])
/-- Is the next word a value? -/
def valT (t : Tok) : Bool := decide (t.1 = 2) || decide (t.1 = 3) || (decide (t.1 = 1) && (t.2.1.data.toList == [116, 114, 117, 101] || t.2.1.data.toList == [102, 97, 108, 115, 101]))
def pCol (ts : List Tok) (en : Nat) (st : St) : Ex × St := (.node ⟨#[99, 111, 108]⟩ (takeT ts en st).1 0 0 ⟨#[]⟩ (posAt ts en st.i) [], (takeT ts en st).2)
/-- What is the tightest. -/
def pOne (ts : List Tok) (en : Nat) (sub : St → Ex × St) (rv : ByteArray → Int × Int × List UInt8 × Int) (st : St) : Ex × St :=
  if isT ts st [40] = true then ((sub (adv st)).1, needT ts en (sub (adv st)).2 [41])
  else if isT ts st [108, 101, 110] = true then pCall ts en sub [108, 101, 110] 1 (posAt ts en st.i) (adv st)
  else if isT ts st [105, 102] = true then pCall ts en sub [105, 102] 3 (posAt ts en st.i) (adv st)
  else
    (match ts[st.i]? with
    | some t => if st.bad < 0 ∧ valT t = true then (.node ⟨#[118, 97, 108]⟩ ⟨#[]⟩ (rv t.2.1).1 (rv t.2.1).2.1 ⟨(rv t.2.1).2.2.1.toArray⟩ (posAt ts en st.i) [], adv st) else pCol ts en st
    | none => pCol ts en st)
/-- An expression of a level, or tighter. -/
def pE (ts : List Tok) (en : Nat) (rv : ByteArray → Int × Int × List UInt8 × Int) : Nat → Nat → St → Ex × St
  | 0, _, st => (ex0, st)
  | f + 1, lv, st =>
    if 0 ≤ st.bad then (ex0, st)
    else if lv = 2 ∧ isT ts st [110, 111, 116] = true then (op1 [110, 111, 116] (posAt ts en st.i) [(pE ts en rv f 2 (adv st)).1], (pE ts en rv f 2 (adv st)).2)
    else if lv = 5 then
      if isT ts st [45] = true then (op1 [110, 101, 103] (posAt ts en st.i) [(pE ts en rv f 5 (adv st)).1], (pE ts en rv f 5 (adv st)).2)
      else pOne ts en (pE ts en rv f 0) rv st
    else pLoop ts en (pE ts en rv f (lv + 1)) lv (ts.length + 1) (pE ts en rv f (lv + 1) st).1 (pE ts en rv f (lv + 1) st).2
--END
end Go.Proofs.YtkoejkpjkcejcaaGreatDoor
namespace Go.Proofs.YtkoejkpjkcejcaaGreatDoor
open Go.RowKit
set_option linter.unusedVariables false
--BEGIN
/-- Is a word one of these? -/
def sgT (gs : List (List UInt8)) (t : Tok) : Bool := gs.any fun g => g == t.2.1.data.toList
/-- The next word, if it is so; and what is left. -/
def nxT (P : Tok → Bool) : List Tok → Option (Tok × List Tok)
  | [] => none
  | t :: ts => if P t = true then some (t, ts) else none
theorem nxT_len {P : Tok → Bool} {ts r : List Tok} {t : Tok} (h : nxT P ts = some (t, r)) : ts = t :: r ∧ P t = true := by
  cases ts with
  | nil => simp [nxT] at h
  | cons a l =>
    rw [nxT] at h
    split at h
    · rename_i h1
      cases h
      exact ⟨rfl, h1⟩
    · exact absurd h (by simp)
def betT (a : Ex) (t : Tok) (b : Ex) : Ex := .node t.2.1 ⟨#[]⟩ 0 0 ⟨#[]⟩ (t.2.2 : Int) [a, b]
/-- Behind what has been read: sign and part, over and over. -/
def uLoop (sub : List Tok → Option Ex × List Tok) (gs : List (List UInt8)) : Nat → Ex → List Tok → Option Ex × List Tok
  | 0, e, ts => (some e, ts)
  | k + 1, e, ts => match nxT (sgT gs) ts with
    | none => (some e, ts)
    | some (t, r) => match sub r with
      | (none, r2) => (none, r2)
      | (some b, r2) => uLoop sub gs k (betT e t b) r2
def uSev (sub : List Tok → Option Ex × List Tok) (gs : List (List UInt8)) (ts : List Tok) : Option Ex × List Tok := match sub ts with
  | (none, r) => (none, r)
  | (some e, r) => uLoop sub gs (r.length + 1) e r
def uAhead (op : List UInt8) (gs : List (List UInt8)) (sub other : List Tok → Option Ex × List Tok) (ts : List Tok) : Option Ex × List Tok := match nxT (sgT gs) ts with
  | none => other ts
  | some (t, r) => match sub r with
    | (none, r2) => (none, r2)
    | (some e, r2) => (some (op1 op (t.2.2 : Int) [e]), r2)
def cmpL : List (List UInt8) := [[61], [60, 62], [60], [60, 61], [62], [62, 61]]
def uCmp (sub : List Tok → Option Ex × List Tok) (ts : List Tok) : Option Ex × List Tok := match sub ts with
  | (none, r) => (none, r)
  | (some a, r) => match nxT (sgT cmpL) r with
    | none => (some a, r)
    | some (t, r2) => match sub r2 with
      | (none, r3) => (none, r3)
      | (some b, r3) => (some (betT a t b), r3)
/-- So many in brackets, a comma between. -/
def uBr (sub : List Tok → Option Ex × List Tok) : Nat → List Ex → List Tok → Option (List Ex) × List Tok
  | 0, acc, ts => match nxT (sgT [[41]]) ts with
    | none => (none, ts)
    | some (_, r) => (some acc, r)
  | k + 1, acc, ts => match nxT (sgT [if acc.length = 0 then [40] else [44]]) ts with
    | none => (none, ts)
    | some (_, r) => match sub r with
      | (none, r2) => (none, r2)
      | (some e, r2) => uBr sub k (acc ++ [e]) r2
/-- Is a word a value? -/
def vlT (t : Tok) : Bool := decide ((readV t.2.1).2.2.2 = 0)
def valE (t : Tok) : Ex := .node ⟨#[118, 97, 108]⟩ ⟨#[]⟩ (readV t.2.1).1 (readV t.2.1).2.1 ⟨(readV t.2.1).2.2.1.toArray⟩ (t.2.2 : Int) []
def colE1 (t : Tok) : Ex := .node ⟨#[99, 111, 108]⟩ t.2.1 0 0 ⟨#[]⟩ (t.2.2 : Int) []
def nmT (t : Tok) : Bool := nameT t.2.1.data.toList
/-- What has no sign of its own. -/
def uOne (sub : List Tok → Option Ex × List Tok) (ts : List Tok) : Option Ex × List Tok := match nxT (sgT [[108, 101, 110], [105, 102]]) ts with
  | some (t, r) => match uBr sub (if t.2.1.data.toList = [108, 101, 110] then 1 else 3) [] r with
    | (none, r2) => (none, r2)
    | (some l, r2) => (some (.node t.2.1 ⟨#[]⟩ 0 0 ⟨#[]⟩ (t.2.2 : Int) l), r2)
  | none => match nxT vlT ts with
    | some (t, r) => (some (valE t), r)
    | none => match nxT nmT ts with
      | some (t, r) => (some (colE1 t), r)
      | none => match uBr sub 1 [] ts with
        | (none, r) => (none, r)
        | (some l, r) => (l.head?, r)
/-- An expression of a level: 0 or, 1 and, 2 not, 3 a comparison, 4 a sum, 5 a product, 6 -, 7 one. -/
def uE : Nat → Nat → List Tok → Option Ex × List Tok
  | 0, _, ts => (none, ts)
  | f + 1, lv, ts => match lv with
    | 0 => uSev (uE f 1) [[111, 114]] ts
    | 1 => uSev (uE f 2) [[97, 110, 100]] ts
    | 2 => uAhead [110, 111, 116] [[110, 111, 116]] (uE f 2) (uE f 3) ts
    | 3 => uCmp (uE f 4) ts
    | 4 => uSev (uE f 5) [[43], [45]] ts
    | 5 => uSev (uE f 6) [[42], [47], [37]] ts
    | 6 => uAhead [110, 101, 103] [[45]] (uE f 6) (uE f 7) ts
    | _ => uOne (uE f 0) ts
/-- What is left is an end of what there was. -/
def Suf (sub : List Tok → Option Ex × List Tok) : Prop := ∀ ts, (sub ts).2 <:+ ts
theorem uLoop_suf {sub : List Tok → Option Ex × List Tok} (hs : Suf sub) (gs : List (List UInt8)) : ∀ (k : Nat) (e : Ex) (ts : List Tok), (uLoop sub gs k e ts).2 <:+ ts
  | 0, e, ts => List.suffix_rfl
  | k + 1, e, ts => by
    rw [uLoop]
    cases h : nxT (sgT gs) ts with
    | none => exact List.suffix_rfl
    | some q =>
      obtain ⟨t, r⟩ := q
      have h1 := (nxT_len h).1
      subst h1
      have h2 := (hs r).trans (List.suffix_cons t r)
      simp only
      cases h3 : sub r with
      | mk o r2 =>
        rw [h3] at h2
        cases o with
        | none => exact h2
        | some b => exact (uLoop_suf hs gs k (betT e t b) r2).trans h2
theorem uSev_suf {sub : List Tok → Option Ex × List Tok} (hs : Suf sub) (gs : List (List UInt8)) : Suf (uSev sub gs) := by
  intro ts
  have h2 := hs ts
  rw [uSev]
  cases h3 : sub ts with
  | mk o r =>
    rw [h3] at h2
    cases o with
    | none => exact h2
    | some e => exact (uLoop_suf hs gs (r.length + 1) e r).trans h2
theorem uAhead_suf {sub other : List Tok → Option Ex × List Tok} (hs : Suf sub) (ho : Suf other) (op : List UInt8) (gs : List (List UInt8)) : Suf (uAhead op gs sub other) := by
  intro ts
  rw [uAhead]
  cases h : nxT (sgT gs) ts with
  | none => exact ho ts
  | some q =>
    obtain ⟨t, r⟩ := q
    have h1 := (nxT_len h).1
    subst h1
    have h2 := (hs r).trans (List.suffix_cons t r)
    simp only
    cases h3 : sub r with
    | mk o r2 =>
      rw [h3] at h2
      cases o <;> exact h2
theorem uCmp_suf {sub : List Tok → Option Ex × List Tok} (hs : Suf sub) : Suf (uCmp sub) := by
  intro ts
  have h2 := hs ts
  rw [uCmp]
  cases h3 : sub ts with
  | mk o r =>
    rw [h3] at h2
    cases o with
    | none => exact h2
    | some e =>
      simp only at h2 ⊢
      cases h : nxT (sgT cmpL) r with
      | none => exact h2
      | some q =>
        obtain ⟨t, r2⟩ := q
        have h1 := (nxT_len h).1
        subst h1
        have h4 := ((hs r2).trans (List.suffix_cons t r2)).trans h2
        simp only
        cases h5 : sub r2 with
        | mk o r3 =>
          rw [h5] at h4
          cases o <;> exact h4
theorem uBr_suf {sub : List Tok → Option Ex × List Tok} (hs : Suf sub) : ∀ (k : Nat) (acc : List Ex) (ts : List Tok), (uBr sub k acc ts).2 <:+ ts
  | 0, acc, ts => by
    rw [uBr]
    cases h : nxT (sgT [[41]]) ts with
    | none => exact List.suffix_rfl
    | some q =>
      obtain ⟨t, r⟩ := q
      have h1 := (nxT_len h).1
      subst h1
      exact List.suffix_cons t r
  | k + 1, acc, ts => by
    rw [uBr]
    cases h : nxT (sgT [if acc.length = 0 then [40] else [44]]) ts with
    | none => exact List.suffix_rfl
    | some q =>
      obtain ⟨t, r⟩ := q
      have h1 := (nxT_len h).1
      subst h1
      have h2 := (hs r).trans (List.suffix_cons t r)
      simp only
      cases h3 : sub r with
      | mk o r2 =>
        rw [h3] at h2
        cases o with
        | none => exact h2
        | some e => exact (uBr_suf hs k (acc ++ [e]) r2).trans h2
theorem uOne_suf {sub : List Tok → Option Ex × List Tok} (hs : Suf sub) : Suf (uOne sub) := by
  intro ts
  rw [uOne]
  cases h : nxT (sgT [[108, 101, 110], [105, 102]]) ts with
  | some q =>
    obtain ⟨t, r⟩ := q
    have h1 := (nxT_len h).1
    subst h1
    have h2 := (uBr_suf hs (if t.2.1.data.toList = [108, 101, 110] then 1 else 3) [] r).trans (List.suffix_cons t r)
    simp only
    cases h3 : uBr sub (if t.2.1.data.toList = [108, 101, 110] then 1 else 3) [] r with
    | mk o r2 =>
      rw [h3] at h2
      cases o <;> exact h2
  | none =>
    simp only
    cases h : nxT vlT ts with
    | some q =>
      obtain ⟨t, r⟩ := q
      have h1 := (nxT_len h).1
      subst h1
      exact List.suffix_cons t r
    | none =>
      simp only
      cases h : nxT nmT ts with
      | some q =>
        obtain ⟨t, r⟩ := q
        have h1 := (nxT_len h).1
        subst h1
        exact List.suffix_cons t r
      | none =>
        have h2 := uBr_suf hs 1 [] ts
        simp only
        cases h3 : uBr sub 1 [] ts with
        | mk o r2 =>
          rw [h3] at h2
          cases o <;> exact h2
theorem uE_suf : ∀ (f lv : Nat), Suf (uE f lv)
  | 0, lv => fun ts => by rw [uE]; exact List.suffix_rfl
  | f + 1, lv => fun ts => by
    have ih := fun lv => uE_suf f lv
    unfold uE
    split
    · exact uSev_suf (ih 1) _ ts
    · exact uSev_suf (ih 2) _ ts
    · exact uAhead_suf (ih 2) (ih 3) _ _ ts
    · exact uCmp_suf (ih 4) ts
    · exact uSev_suf (ih 5) _ ts
    · exact uSev_suf (ih 6) _ ts
    · exact uAhead_suf (ih 6) (ih 7) _ _ ts
    · exact uOne_suf (ih 0) ts
--END
end Go.Proofs.YtkoejkpjkcejcaaGreatDoor
