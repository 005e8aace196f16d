/-
  The parts of package verify: an instruction by itself, how many it needs, what it lays, where it leads.
-/
import Derived.Test.YtnpinbpjfngknaaDoorVfM
import Derived.Test.YtnpinbpjfngknaaDoorVal1
namespace Go.Proofs.YtnpinbpjfngknaaDoor
open Go.RowKit
set_option linter.unusedVariables false

def insW (i : I5) : Value := .agg #[.int .i64 i.1, .int .i64 i.2.1, .int .i64 i.2.2.1, .int .i64 i.2.2.2.1, .string i.2.2.2.2]
theorem alB (w : World) (o : Obj) : Below w.heap.size w (w.alloc o) := (Below.refl _ _).alloc (Nat.le_refl _) o
set_option maxHeartbeats 4000000 in
theorem checkArg_any (i : I5) (nc bh : Int) (w : World) (hs : i.2.2.2.2.size ≤ maxLen) (hr : REnv w) (E : Int) (hE : argE i nc bh = E) :
    Calls Tryd.prog 27 #[insW i, .int .i64 nc, .int .i64 bh] w fun e w' => e = .returned (errV E) ∧ Below w.heap.size w w' := by
  obtain ⟨a, g, t, n, s⟩ := i
  simp only at hs
  show Calls Tryd.prog _ #[Value.agg #[.int .i64 a, .int .i64 g, .int .i64 t, .int .i64 n, .string s], _, _] w _
  rw [argE] at hE
  simp only at hE
  have hB := fun o => alB w o
  by_cases a1 : a = 1
  · subst a1
    rw [if_pos rfl] at hE
    subst hE
    go_enter Tryd.func27, Tryd.ntmps27
    go_wp2_with fail
    refine (check_any t n s _ hs).mono ?_
    rintro e w1 ⟨rfl, b1⟩
    go_wp2
    go_ret
    exact ⟨rfl, (hB _).trans (b1.mono (by simp))⟩
  rw [if_neg a1] at hE
  by_cases a2 : a = 2
  · subst a2
    rw [if_pos rfl] at hE
    by_cases h0 : 0 ≤ g
    · by_cases h1 : g < nc
      · rw [if_pos ⟨h0, h1⟩] at hE
        subst hE
        clear a1 hs hr
        go_enter Tryd.func27, Tryd.ntmps27
        go_wp2
        go_ret
        exact ⟨rfl, hB _⟩
      · rw [if_neg (fun h => h1 h.2)] at hE
        subst hE
        clear a1 hs hr
        go_enter Tryd.func27, Tryd.ntmps27
        go_wp2
        go_ret
        exact ⟨rfl, hB _⟩
    · rw [if_neg (fun h => h0 h.1)] at hE
      subst hE
      clear a1 hs hr
      go_enter Tryd.func27, Tryd.ntmps27
      go_wp2
      go_ret
      exact ⟨rfl, hB _⟩
  rw [if_neg a2] at hE
  by_cases a3 : a = 3
  · subst a3
    rw [if_pos rfl] at hE
    subst hE
    clear a1 a2 hs
    go_enter Tryd.func27, Tryd.ntmps27
    go_wp2_with fail
    refine (codeOp_any g _ (hr.on (hB _))).mono ?_
    rintro e w1 ⟨rfl, b1⟩
    go_wp2
    go_ret
    exact ⟨rfl, (hB _).trans (b1.mono (by simp))⟩
  rw [if_neg a3] at hE
  have b1 : (a == 1) = false := by simpa using a1
  have b2 : (a == 2) = false := by simpa using a2
  have b3 : (a == 3) = false := by simpa using a3
  by_cases a4 : a = 4 ∨ a = 5
  · rw [if_pos a4] at hE
    by_cases h0 : 0 ≤ g
    · by_cases h1 : g ≤ bh
      · rw [if_pos ⟨h0, h1⟩] at hE
        subst hE
        clear a1 a2 a3 hs hr
        rcases a4 with rfl | rfl
        all_goals
          clear b1 b2 b3
          go_enter Tryd.func27, Tryd.ntmps27
          go_wp2
          go_ret
          exact ⟨rfl, hB _⟩
      · rw [if_neg (fun h => h1 h.2)] at hE
        subst hE
        clear a1 a2 a3 hs hr
        rcases a4 with rfl | rfl
        all_goals
          clear b1 b2 b3
          go_enter Tryd.func27, Tryd.ntmps27
          go_wp2
          go_ret
          exact ⟨rfl, hB _⟩
    · rw [if_neg (fun h => h0 h.1)] at hE
      subst hE
      clear a1 a2 a3 hs hr
      rcases a4 with rfl | rfl
      all_goals
        clear b1 b2 b3
        go_enter Tryd.func27, Tryd.ntmps27
        go_wp2
        go_ret
        exact ⟨rfl, hB _⟩
  rw [if_neg a4] at hE
  by_cases a6 : a = 6 ∨ a = 7
  · rw [if_pos a6] at hE
    subst hE
    clear a1 a2 a3 a4 hs hr
    rcases a6 with rfl | rfl
    all_goals
      clear b1 b2 b3
      go_enter Tryd.func27, Tryd.ntmps27
      go_wp2
      go_ret
      exact ⟨rfl, hB _⟩
  · rw [if_neg a6] at hE
    subst hE
    have b4 : (a == 4) = false := by simp; omega
    have b5 : (a == 5) = false := by simp; omega
    have b6 : (a == 6) = false := by simp; omega
    have b7 : (a == 7) = false := by simp; omega
    clear a1 a2 a3 a4 a6 hs hr
    go_enter Tryd.func27, Tryd.ntmps27
    go_wp2
    go_ret
    exact ⟨rfl, hB _⟩
theorem opOf_any (i : I5) (w : World) (hr : REnv w) :
    Calls Tryd.prog 57 #[insW i] w fun e w' => e = .returned (.string ⟨(opN i.2.1).toArray⟩) ∧ Below w.heap.size w w' := by
  obtain ⟨a, g, t, n, s⟩ := i
  show Calls Tryd.prog _ #[Value.agg #[.int .i64 a, .int .i64 g, .int .i64 t, .int .i64 n, .string s]] w _
  have hB := fun o => alB w o
  go_enter Tryd.func57, Tryd.ntmps57
  go_wp2_with fail
  refine (codeOp_any g _ (hr.on (hB _))).mono ?_
  rintro e w1 ⟨rfl, b1⟩
  go_wp2
  go_ret
  exact ⟨rfl, (hB _).trans (b1.mono (by simp))⟩
theorem cntN_none {x : List UInt8} (h : kdFind x kdRules = none) : cntN x = 0 := by rw [cntN, h]
theorem cntN_some {x : List UInt8} {r : KRule} (h : kdFind x kdRules = some r) : cntN x = kdCnt r := by rw [cntN, h]
set_option maxHeartbeats 1000000 in
theorem kindCount_any (op : ByteArray) (w : World) (henv : REnv w) (C : Nat) (hC : cntN op.data.toList = C) :
    Calls Tryd.prog 56 #[.string op] w fun e w' => (∃ E, e = .returned (.tuple #[.int .i64 C, errV E])) ∧ Below w.heap.size w w' := by
  have HC : Hid (cntN op.data.toList = C) := hC
  have cF := ruleOf_any op w henv _ rfl
  clear hC
  obtain ⟨R, hRR⟩ : ∃ R, kdFind op.data.toList kdRules = R := ⟨_, rfl⟩
  have HF : Hid (kdFind op.data.toList kdRules = R) := hRR
  rw [hRR] at cF
  clear hRR
  go_enter Tryd.func56, Tryd.ntmps56
  go_wp2_with fail
  refine cF.mono ?_
  rintro e w1 ⟨⟨S, a0, a1, a2, ty, ok, rfl, hok⟩, b1⟩
  clear cF
  have b2 : Below w.heap.size w (w1.alloc (.cells #[.string S, .int .i64 a0, .int .i64 a1, .int .i64 a2, .int .i64 ty] 125)) := b1.alloc b1.size _
  cases ok
  · have h := HC.out
    rw [cntN_none (by rw [HF.out]; exact hok.out)] at h
    subst h
    clear HC HF hok
    go_wp2
    go_ret2
    exact ⟨⟨1, rfl⟩, b2⟩
  · have hfd : kdFind op.data.toList kdRules = some (S.data.toList, a0, a1, a2, ty) := by rw [HF.out]; exact hok.out
    have h := HC.out
    rw [cntN_some hfd] at h
    have cN := count_any S a0 a1 a2 ty (w1.alloc (.cells #[.string S, .int .i64 a0, .int .i64 a1, .int .i64 a2, .int .i64 ty] 125)) C h
    have b3 : Below w.heap.size w ((w1.alloc (.cells #[.string S, .int .i64 a0, .int .i64 a1, .int .i64 a2, .int .i64 ty] 125)).alloc (.cells #[.string S, .int .i64 a0, .int .i64 a1, .int .i64 a2, .int .i64 ty] 125)) := b2.alloc b2.size _
    clear HC HF hok h hfd
    go_wp2_with fail
    refine cN.mono ?_
    rintro e w3 ⟨rfl, hq3⟩
    subst hq3
    go_wp2
    go_ret2
    exact ⟨⟨0, rfl⟩, b3⟩
set_option maxHeartbeats 2000000 in
theorem needs_any (i : I5) (w : World) (hr : REnv w) (C : Nat) (hC : needN i = C) :
    Calls Tryd.prog 40 #[insW i] w fun e w' => e = .returned (.int .i64 C) ∧ Below w.heap.size w w' := by
  obtain ⟨a, g, t, n, s⟩ := i
  have hB := fun o => alB w o
  have cO := fun W hW => opOf_any (a, g, t, n, s) W hW
  simp only [insW] at cO
  show Calls Tryd.prog _ #[Value.agg #[.int .i64 a, .int .i64 g, .int .i64 t, .int .i64 n, .string s]] w _
  rw [needN] at hC
  simp only at hC
  by_cases a3 : a = 3
  · subst a3
    rw [if_pos rfl] at hC
    go_enter Tryd.func40, Tryd.ntmps40
    go_wp2_with fail
    refine (cO _ (hr.on (hB _))).mono ?_
    rintro e w1 ⟨rfl, b1⟩
    have b2 := (hB _).trans (b1.mono (by simp))
    clear cO
    have cK := kindCount_any ⟨(opN g).toArray⟩ w1 (hr.on b2) C hC
    go_wp2_with fail
    refine cK.mono ?_
    rintro e w2 ⟨⟨E, rfl⟩, b3⟩
    go_wp2
    go_ret
    exact ⟨rfl, b2.trans (b3.mono b2.size)⟩
  rw [if_neg a3] at hC
  have b3 : (a == 3) = false := by simpa using a3
  clear cO
  by_cases a5 : a = 5 ∨ a = 6 ∨ a = 7
  · rw [if_pos a5] at hC
    subst hC
    clear a3
    rcases a5 with rfl | rfl | rfl
    all_goals
      clear b3
      go_enter Tryd.func40, Tryd.ntmps40
      go_wp2
      go_ret
      exact ⟨rfl, hB _⟩
  · rw [if_neg a5] at hC
    subst hC
    have b5 : (a == 5) = false := by simp; omega
    have b6 : (a == 6) = false := by simp; omega
    have b7 : (a == 7) = false := by simp; omega
    clear a3 a5
    go_enter Tryd.func40, Tryd.ntmps40
    go_wp2
    go_ret
    exact ⟨rfl, hB _⟩
end Go.Proofs.YtnpinbpjfngknaaDoor
