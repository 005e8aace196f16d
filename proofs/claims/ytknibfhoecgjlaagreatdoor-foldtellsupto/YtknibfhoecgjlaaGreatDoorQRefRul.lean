/-
  The document's Rule (package sluiceref1): the same as the program's, at any operation and types.
-/
import Derived.Test.YtknibfhoecgjlaaGreatDoorQKdRuleC
import Derived.Test.YtknibfhoecgjlaaGreatDoorGrAl
import Derived.Deep.QuietTactic
import Derived.BigQuiet
namespace Go.Proofs.YtknibfhoecgjlaaGreatDoor
open Go.RowKit Go.BigFrame
set_option linter.unusedVariables false

/-- An operation has as many parts as its rule says; what is none has no rule. -/
theorem arity_find (x : List UInt8) : (arityT x < 1 → kdFind x kdRules = none) ∧ (1 ≤ arityT x → ∃ r, kdFind x kdRules = some r ∧ (kdCnt r : Int) = arityT x) := by
  by_cases h : x ∈ kdRules.map (·.1)
  · have all : ∀ y ∈ kdRules.map (·.1), (1 ≤ arityT y) ∧ ∃ r, kdFind y kdRules = some r ∧ (kdCnt r : Int) = arityT y := by
      intro y hy
      simp only [kdRules, List.map_cons, List.map_nil, List.mem_cons, List.not_mem_nil, or_false] at hy
      rcases hy with rfl | rfl | rfl | rfl | rfl | rfl | rfl | rfl | rfl | rfl | rfl | rfl | rfl | rfl | rfl | rfl | rfl <;> exact ⟨by decide, _, rfl, by decide⟩
    obtain ⟨h1, h2⟩ := all x h
    exact ⟨fun hh => by omega, fun _ => h2⟩
  · have hn : kdFind x kdRules = none := by
      cases hf : kdFind x kdRules with
      | none => rfl
      | some r => exact absurd (List.mem_map.2 ⟨r, (kdFind_mem hf).1, (kdFind_mem hf).2⟩) h
    refine ⟨fun _ => hn, fun hh => ?_⟩
    exfalso
    simp only [kdRules, List.map_cons, List.map_nil, List.mem_cons, List.not_mem_nil, or_false, not_or] at h
    obtain ⟨n1, n2, n3, n4, n5, n6, n7, n8, n9, n10, n11, n12, n13, n14, n15, n16, n17⟩ := h
    unfold arityT at hh
    split at hh
    · omega
    · simp only [n3, n15, n16, or_self, if_false] at hh
      have hs : inSigns x = false := by
        unfold inSigns
        rw [Bool.eq_false_iff]
        intro ha
        rw [List.any_eq_true] at ha
        obtain ⟨y, hy, he⟩ := ha
        have he2 : y = x := by simpa using he
        subst he2
        simp [sgl] at hy
        rcases hy with h | h | h | h | h | h | h | h | h | h | h | h | h <;> simp_all
      rw [hs, if_neg (by simp)] at hh
      omega
theorem isTy_no {t : Int} (h : t < 1 ∨ 3 < t) : isTy t = false := by
  unfold isTy
  simp
  omega
theorem isTy_yes {t : Int} (h1 : ¬ t < 1) (h2 : ¬ 3 < t) : isTy t = true := by
  unfold isTy
  simp
  omega
theorem all_no {ts : List Int} {k : Nat} (h : k < ts.length) (ht : isTy ts[k] = false) : ts.all isTy = false := by
  rw [List.all_eq_false]
  exact ⟨ts[k], List.getElem_mem h, by simp [ht]⟩
set_option maxHeartbeats 4000000 in
set_option maxRecDepth 20000 in
theorem refRule_any (op : ByteArray) (p : Option Addr) (c N : Nat) (ts : List Int) (w : World) (hN : ts.length = N) (hl : N ≤ 9223372036854775807) (hts : IntsAt w p ts) (T E : Int) (hR : ruleP op.data.toList ts = (T, E)) :
    Calls Tryz.prog 42 #[.string op, .slice p N c] w fun e w' => e = .returned (.tuple #[.int .i64 T, .int .i64 E]) ∧ Below w.heap.size w w' := by
  have cA := refArity_any op w
  have hfind := arity_find op.data.toList
  obtain ⟨A, hA⟩ : ∃ A, arityT op.data.toList = A := ⟨_, rfl⟩
  rw [hA] at cA hfind
  by_cases h1 : A < 1
  · rw [ruleP_none (hfind.1 h1)] at hR
    obtain ⟨rfl, rfl⟩ := Prod.mk.inj hR
    clear hfind hR hA hts
    go_enter Tryz.func42, Tryz.ntmps42
    go_wp2_with fail
    refine cA.mono ?_
    rintro e w1 ⟨rfl, b1⟩
    go_wp2
    go_ret2
    exact ⟨rfl, b1⟩
  · obtain ⟨r, hf, hcnt⟩ := hfind.2 (by omega)
    have HF : Hid (kdFind op.data.toList kdRules = some r) := hf
    have HC : Hid ((kdCnt r : Int) = A) := hcnt
    have HR : Hid (ruleP op.data.toList ts = (T, E)) := hR
    have HT : Aside (IntsAt w p ts) := hts
    have HN : Hid (ts.length = N) := hN
    clear hfind hf hcnt hR hA hts hN
    go_enter Tryz.func42, Tryz.ntmps42
    go_wp2_with fail
    refine cA.mono ?_
    rintro e w1 ⟨rfl, b1⟩
    clear cA
    have HT1 : Aside (IntsAt w1 p ts) := HT.out.on b1
    go_wp2
    go_loopg [7] N (fun gg s7 wr => ∃ kk : Nat, kk ≤ N ∧ N - kk ≤ gg ∧ s7 = .int .i64 kk ∧ wr = w1 ∧ Hid ((ts.take kk).all isTy = true))
    case atStart => exact ⟨0, Nat.zero_le _, by omega, rfl, rfl, (show Hid _ from rfl)⟩
    case round =>
      obtain ⟨kk, hkk, hg, rfl, hwr, HA⟩ := hrel
      have hwr2 := hwr.symm
      clear hwr
      subst hwr2
      by_cases hlt : kk < N
      · have hltz : (kk : Int) < (N : Int) := by omega
        have h0z : (0 : Int) ≤ (kk : Int) := by omega
        have hk2 : kk < ts.length := by rw [HN.out]; exact hlt
        rcases HT1.out with h | ⟨b, off, rfl, hbl, hc⟩
        · exact absurd h (by omega)
        have e0 := hc kk hk2
        have hsn := all_snoc hk2
        have hno := fun h => all_no (ts := ts) hk2 h
        generalize ts[kk] = t at e0 hsn hno
        clear hc
        by_cases ht1 : t < 1
        · have hf := HR.out
          rw [ruleP_bad HF.out (hno (isTy_no (.inl ht1)))] at hf
          obtain ⟨rfl, rfl⟩ := Prod.mk.inj hf
          clear hf hsn hno HR HA
          go_wp2
          go_ret2
          exact ⟨rfl, b1⟩
        · by_cases ht3 : 3 < t
          · have hf := HR.out
            rw [ruleP_bad HF.out (hno (isTy_no (.inr ht3)))] at hf
            obtain ⟨rfl, rfl⟩ := Prod.mk.inj hf
            clear hf hsn hno HR HA
            go_wp2
            go_ret2
            exact ⟨rfl, b1⟩
          · have HA2 : Hid ((ts.take (kk + 1)).all isTy = true) := by
              show _ = _
              rw [hsn, HA.out, isTy_yes ht1 ht3]; rfl
            clear hsn hno HA
            go_wp2
            go_roundg (N - (kk + 1))
            case measure => omega
            case rel => exact ⟨kk + 1, by omega, by omega, by go_num, rfl, HA2⟩
      · have hltz : ¬ (kk : Int) < (N : Int) := by omega
        obtain rfl : kk = N := by omega
        have hall : ts.all isTy = true := by
          have h := HA.out
          rwa [List.take_of_length_le (by rw [HN.out]; exact Nat.le_refl _)] at h
        by_cases hlen : (kk : Int) = A
        · have hck : (kk : Int) = (kdCnt r : Int) := hlen.trans HC.out.symm
          have hkc : kk = kdCnt r := by omega
          have hlb : ((kk : Int) != A) = false := by rw [hlen]; simp
          obtain ⟨hm, he⟩ := kdFind_mem HF.out
          have hrest := ruleP_rest HF.out hall (HN.out.trans hkc)
          rw [HR.out] at hrest
          have hln : ts.length = kk := HN.out
          have HR2 : Hid (T = T) := rfl
          clear HR HF HC hall HA HR2 hg hkk
          simp only [kdRules, List.mem_cons, List.not_mem_nil, or_false] at hm
          obtain ⟨⟨ol⟩⟩ := op
          simp only at he
          subst he
          rcases hm with rfl | rfl | rfl | rfl | rfl | rfl | rfl | rfl | rfl | rfl | rfl | rfl | rfl | rfl | rfl | rfl | rfl
          · obtain rfl : kk = 2 := hkc
            match ts, hln, HT1, hrest with
            | [t0, t1], _, HT1, hrest =>
              rcases HT1.out with h | ⟨b, off, rfl, hbl, hc⟩
              · exact absurd h (by simp)
              have e0 : w1.cell? ⟨b, off, none⟩ = some (.int .i64 t0) := hc 0 (by simp)
              have e1 : w1.cell? ⟨b, off + 1, none⟩ = some (.int .i64 t1) := hc 1 (by simp)
              clear hc HT1 hln hck
              have key : ((t0 = 2 ∧ t1 = 2) ∧ T = 2 ∧ E = 0) ∨ (¬ (t0 = 2 ∧ t1 = 2) ∧ T = 0 ∧ E = 8) := by
                split at hrest
                · rename_i hB
                  obtain ⟨h1, h2⟩ := Prod.mk.inj hrest
                  exact .inl ⟨by simpa [kdAll, kdMeant] using hB, by simpa [kdMeant] using h1, h2⟩
                · rename_i hB
                  obtain ⟨h1, h2⟩ := Prod.mk.inj hrest
                  exact .inr ⟨fun hc => hB (by simp [kdAll, kdMeant, hc]), h1, h2⟩
              clear hrest
              rcases key with ⟨⟨rfl, rfl⟩, rfl, rfl⟩ | ⟨hc, rfl, rfl⟩
              · skip
                go_wp2
                go_loopg [10] 2 (fun gg s10 wr => ∃ j : Nat, j ≤ 2 ∧ 2 - j ≤ gg ∧ s10 = .int .i64 j ∧ wr = w1)
                case atStart => exact ⟨0, by decide, by decide, by rfl, rfl⟩
                case round =>
                  obtain ⟨j, hj, hg, rfl, hwr⟩ := hrel
                  have hwr2 := hwr.symm
                  clear hwr
                  subst hwr2
                  have hj3 : j = 0 ∨ j = 1 ∨ j = 2 := by omega
                  rcases hj3 with rfl | rfl | rfl
                  · go_wp2
                    go_roundg (2 - 1)
                    case measure => omega
                    case rel => exact ⟨1, by decide, by omega, by go_num, rfl⟩
                  · go_wp2
                    go_roundg (2 - 2)
                    case measure => omega
                    case rel => exact ⟨2, by decide, by omega, by go_num, rfl⟩
                  · go_wp2
                    go_ret2
                    exact ⟨rfl, b1⟩
              · by_cases h0 : t0 = 2
                · subst h0
                  have q1 : (t1 != 2) = true := by simp; intro h; exact hc ⟨rfl, h⟩
                  go_wp2
                  go_loopg [10] 2 (fun gg s10 wr => ∃ j : Nat, j ≤ 1 ∧ 2 - j ≤ gg ∧ s10 = .int .i64 j ∧ wr = w1)
                  case atStart => exact ⟨0, by decide, by decide, by rfl, rfl⟩
                  case round =>
                    obtain ⟨j, hj, hg, rfl, hwr⟩ := hrel
                    have hwr2 := hwr.symm
                    clear hwr
                    subst hwr2
                    have hj3 : j = 0 ∨ j = 1 := by omega
                    rcases hj3 with rfl | rfl
                    · go_wp2
                      go_roundg (2 - 1)
                      case measure => omega
                      case rel => exact ⟨1, by decide, by omega, by go_num, rfl⟩
                    · go_wp2
                      go_ret2
                      exact ⟨rfl, b1⟩
                · have q0 : (t0 != 2) = true := by simpa using h0
                  go_wp2
                  go_loopg [10] 2 (fun gg s10 wr => ∃ j : Nat, j ≤ 0 ∧ 2 - j ≤ gg ∧ s10 = .int .i64 j ∧ wr = w1)
                  case atStart => exact ⟨0, by decide, by decide, by rfl, rfl⟩
                  case round =>
                    obtain ⟨j, hj, hg, rfl, hwr⟩ := hrel
                    have hwr2 := hwr.symm
                    clear hwr
                    subst hwr2
                    have hj3 : j = 0 := by omega
                    obtain rfl := hj3
                    go_wp2
                    go_ret2
                    exact ⟨rfl, b1⟩
          · obtain rfl : kk = 2 := hkc
            match ts, hln, HT1, hrest with
            | [t0, t1], _, HT1, hrest =>
              rcases HT1.out with h | ⟨b, off, rfl, hbl, hc⟩
              · exact absurd h (by simp)
              have e0 : w1.cell? ⟨b, off, none⟩ = some (.int .i64 t0) := hc 0 (by simp)
              have e1 : w1.cell? ⟨b, off + 1, none⟩ = some (.int .i64 t1) := hc 1 (by simp)
              clear hc HT1 hln hck
              have key : ((t0 = 2 ∧ t1 = 2) ∧ T = 2 ∧ E = 0) ∨ (¬ (t0 = 2 ∧ t1 = 2) ∧ T = 0 ∧ E = 8) := by
                split at hrest
                · rename_i hB
                  obtain ⟨h1, h2⟩ := Prod.mk.inj hrest
                  exact .inl ⟨by simpa [kdAll, kdMeant] using hB, by simpa [kdMeant] using h1, h2⟩
                · rename_i hB
                  obtain ⟨h1, h2⟩ := Prod.mk.inj hrest
                  exact .inr ⟨fun hc => hB (by simp [kdAll, kdMeant, hc]), h1, h2⟩
              clear hrest
              rcases key with ⟨⟨rfl, rfl⟩, rfl, rfl⟩ | ⟨hc, rfl, rfl⟩
              · skip
                go_wp2
                go_loopg [10] 2 (fun gg s10 wr => ∃ j : Nat, j ≤ 2 ∧ 2 - j ≤ gg ∧ s10 = .int .i64 j ∧ wr = w1)
                case atStart => exact ⟨0, by decide, by decide, by rfl, rfl⟩
                case round =>
                  obtain ⟨j, hj, hg, rfl, hwr⟩ := hrel
                  have hwr2 := hwr.symm
                  clear hwr
                  subst hwr2
                  have hj3 : j = 0 ∨ j = 1 ∨ j = 2 := by omega
                  rcases hj3 with rfl | rfl | rfl
                  · go_wp2
                    go_roundg (2 - 1)
                    case measure => omega
                    case rel => exact ⟨1, by decide, by omega, by go_num, rfl⟩
                  · go_wp2
                    go_roundg (2 - 2)
                    case measure => omega
                    case rel => exact ⟨2, by decide, by omega, by go_num, rfl⟩
                  · go_wp2
                    go_ret2
                    exact ⟨rfl, b1⟩
              · by_cases h0 : t0 = 2
                · subst h0
                  have q1 : (t1 != 2) = true := by simp; intro h; exact hc ⟨rfl, h⟩
                  go_wp2
                  go_loopg [10] 2 (fun gg s10 wr => ∃ j : Nat, j ≤ 1 ∧ 2 - j ≤ gg ∧ s10 = .int .i64 j ∧ wr = w1)
                  case atStart => exact ⟨0, by decide, by decide, by rfl, rfl⟩
                  case round =>
                    obtain ⟨j, hj, hg, rfl, hwr⟩ := hrel
                    have hwr2 := hwr.symm
                    clear hwr
                    subst hwr2
                    have hj3 : j = 0 ∨ j = 1 := by omega
                    rcases hj3 with rfl | rfl
                    · go_wp2
                      go_roundg (2 - 1)
                      case measure => omega
                      case rel => exact ⟨1, by decide, by omega, by go_num, rfl⟩
                    · go_wp2
                      go_ret2
                      exact ⟨rfl, b1⟩
                · have q0 : (t0 != 2) = true := by simpa using h0
                  go_wp2
                  go_loopg [10] 2 (fun gg s10 wr => ∃ j : Nat, j ≤ 0 ∧ 2 - j ≤ gg ∧ s10 = .int .i64 j ∧ wr = w1)
                  case atStart => exact ⟨0, by decide, by decide, by rfl, rfl⟩
                  case round =>
                    obtain ⟨j, hj, hg, rfl, hwr⟩ := hrel
                    have hwr2 := hwr.symm
                    clear hwr
                    subst hwr2
                    have hj3 : j = 0 := by omega
                    obtain rfl := hj3
                    go_wp2
                    go_ret2
                    exact ⟨rfl, b1⟩
          · obtain rfl : kk = 1 := hkc
            match ts, hln, HT1, hrest with
            | [t0], _, HT1, hrest =>
              rcases HT1.out with h | ⟨b, off, rfl, hbl, hc⟩
              · exact absurd h (by simp)
              have e0 : w1.cell? ⟨b, off, none⟩ = some (.int .i64 t0) := hc 0 (by simp)
              clear hc HT1 hln hck
              have key : ((t0 = 2) ∧ T = 2 ∧ E = 0) ∨ (¬ (t0 = 2) ∧ T = 0 ∧ E = 8) := by
                split at hrest
                · rename_i hB
                  obtain ⟨h1, h2⟩ := Prod.mk.inj hrest
                  exact .inl ⟨by simpa [kdAll, kdMeant] using hB, by simpa [kdMeant] using h1, h2⟩
                · rename_i hB
                  obtain ⟨h1, h2⟩ := Prod.mk.inj hrest
                  exact .inr ⟨fun hc => hB (by simp [kdAll, kdMeant, hc]), h1, h2⟩
              clear hrest
              rcases key with ⟨rfl, rfl, rfl⟩ | ⟨hc, rfl, rfl⟩
              · skip
                go_wp2
                go_loopg [10] 1 (fun gg s10 wr => ∃ j : Nat, j ≤ 1 ∧ 1 - j ≤ gg ∧ s10 = .int .i64 j ∧ wr = w1)
                case atStart => exact ⟨0, by decide, by decide, by rfl, rfl⟩
                case round =>
                  obtain ⟨j, hj, hg, rfl, hwr⟩ := hrel
                  have hwr2 := hwr.symm
                  clear hwr
                  subst hwr2
                  have hj3 : j = 0 ∨ j = 1 := by omega
                  rcases hj3 with rfl | rfl
                  · go_wp2
                    go_roundg (1 - 1)
                    case measure => omega
                    case rel => exact ⟨1, by decide, by omega, by go_num, rfl⟩
                  · go_wp2
                    go_ret2
                    exact ⟨rfl, b1⟩
              · have q0 : (t0 != 2) = true := by simpa using hc
                go_wp2
                go_loopg [10] 1 (fun gg s10 wr => ∃ j : Nat, j ≤ 0 ∧ 1 - j ≤ gg ∧ s10 = .int .i64 j ∧ wr = w1)
                case atStart => exact ⟨0, by decide, by decide, by rfl, rfl⟩
                case round =>
                  obtain ⟨j, hj, hg, rfl, hwr⟩ := hrel
                  have hwr2 := hwr.symm
                  clear hwr
                  subst hwr2
                  have hj3 : j = 0 := by omega
                  obtain rfl := hj3
                  go_wp2
                  go_ret2
                  exact ⟨rfl, b1⟩
          · obtain rfl : kk = 2 := hkc
            match ts, hln, HT1, hrest with
            | [t0, t1], _, HT1, hrest =>
              rcases HT1.out with h | ⟨b, off, rfl, hbl, hc⟩
              · exact absurd h (by simp)
              have e0 : w1.cell? ⟨b, off, none⟩ = some (.int .i64 t0) := hc 0 (by simp)
              have e1 : w1.cell? ⟨b, off + 1, none⟩ = some (.int .i64 t1) := hc 1 (by simp)
              clear hc HT1 hln hck
              have key : ((t0 = t1) ∧ T = 2 ∧ E = 0) ∨ (¬ (t0 = t1) ∧ T = 0 ∧ E = 8) := by
                split at hrest
                · rename_i hB
                  obtain ⟨h1, h2⟩ := Prod.mk.inj hrest
                  exact .inl ⟨by simpa [kdAll, kdMeant] using hB, by simpa [kdMeant] using h1, h2⟩
                · rename_i hB
                  obtain ⟨h1, h2⟩ := Prod.mk.inj hrest
                  exact .inr ⟨fun hc => hB (by simp [kdAll, kdMeant, hc]), h1, h2⟩
              clear hrest
              rcases key with ⟨hc, rfl, rfl⟩ | ⟨hc, rfl, rfl⟩
              · subst hc
                have q0 : (t0 != t0) = false := by simp
                go_wp2
                go_loopg [10] 2 (fun gg s10 wr => ∃ j : Nat, j ≤ 2 ∧ 2 - j ≤ gg ∧ s10 = .int .i64 j ∧ wr = w1)
                case atStart => exact ⟨0, by decide, by decide, by rfl, rfl⟩
                case round =>
                  obtain ⟨j, hj, hg, rfl, hwr⟩ := hrel
                  have hwr2 := hwr.symm
                  clear hwr
                  subst hwr2
                  have hj3 : j = 0 ∨ j = 1 ∨ j = 2 := by omega
                  rcases hj3 with rfl | rfl | rfl
                  · go_wp2
                    go_roundg (2 - 1)
                    case measure => omega
                    case rel => exact ⟨1, by decide, by omega, by go_num, rfl⟩
                  · go_wp2
                    go_roundg (2 - 2)
                    case measure => omega
                    case rel => exact ⟨2, by decide, by omega, by go_num, rfl⟩
                  · go_wp2
                    go_ret2
                    exact ⟨rfl, b1⟩
              · have q0 : (t0 != t0) = false := by simp
                have q1 : (t1 != t0) = true := by simp; intro h; exact hc h.symm
                go_wp2
                go_loopg [10] 2 (fun gg s10 wr => ∃ j : Nat, j ≤ 1 ∧ 2 - j ≤ gg ∧ s10 = .int .i64 j ∧ wr = w1)
                case atStart => exact ⟨0, by decide, by decide, by rfl, rfl⟩
                case round =>
                  obtain ⟨j, hj, hg, rfl, hwr⟩ := hrel
                  have hwr2 := hwr.symm
                  clear hwr
                  subst hwr2
                  have hj3 : j = 0 ∨ j = 1 := by omega
                  rcases hj3 with rfl | rfl
                  · go_wp2
                    go_roundg (2 - 1)
                    case measure => omega
                    case rel => exact ⟨1, by decide, by omega, by go_num, rfl⟩
                  · go_wp2
                    go_ret2
                    exact ⟨rfl, b1⟩
          · obtain rfl : kk = 2 := hkc
            match ts, hln, HT1, hrest with
            | [t0, t1], _, HT1, hrest =>
              rcases HT1.out with h | ⟨b, off, rfl, hbl, hc⟩
              · exact absurd h (by simp)
              have e0 : w1.cell? ⟨b, off, none⟩ = some (.int .i64 t0) := hc 0 (by simp)
              have e1 : w1.cell? ⟨b, off + 1, none⟩ = some (.int .i64 t1) := hc 1 (by simp)
              clear hc HT1 hln hck
              have key : ((t0 = t1) ∧ T = 2 ∧ E = 0) ∨ (¬ (t0 = t1) ∧ T = 0 ∧ E = 8) := by
                split at hrest
                · rename_i hB
                  obtain ⟨h1, h2⟩ := Prod.mk.inj hrest
                  exact .inl ⟨by simpa [kdAll, kdMeant] using hB, by simpa [kdMeant] using h1, h2⟩
                · rename_i hB
                  obtain ⟨h1, h2⟩ := Prod.mk.inj hrest
                  exact .inr ⟨fun hc => hB (by simp [kdAll, kdMeant, hc]), h1, h2⟩
              clear hrest
              rcases key with ⟨hc, rfl, rfl⟩ | ⟨hc, rfl, rfl⟩
              · subst hc
                have q0 : (t0 != t0) = false := by simp
                go_wp2
                go_loopg [10] 2 (fun gg s10 wr => ∃ j : Nat, j ≤ 2 ∧ 2 - j ≤ gg ∧ s10 = .int .i64 j ∧ wr = w1)
                case atStart => exact ⟨0, by decide, by decide, by rfl, rfl⟩
                case round =>
                  obtain ⟨j, hj, hg, rfl, hwr⟩ := hrel
                  have hwr2 := hwr.symm
                  clear hwr
                  subst hwr2
                  have hj3 : j = 0 ∨ j = 1 ∨ j = 2 := by omega
                  rcases hj3 with rfl | rfl | rfl
                  · go_wp2
                    go_roundg (2 - 1)
                    case measure => omega
                    case rel => exact ⟨1, by decide, by omega, by go_num, rfl⟩
                  · go_wp2
                    go_roundg (2 - 2)
                    case measure => omega
                    case rel => exact ⟨2, by decide, by omega, by go_num, rfl⟩
                  · go_wp2
                    go_ret2
                    exact ⟨rfl, b1⟩
              · have q0 : (t0 != t0) = false := by simp
                have q1 : (t1 != t0) = true := by simp; intro h; exact hc h.symm
                go_wp2
                go_loopg [10] 2 (fun gg s10 wr => ∃ j : Nat, j ≤ 1 ∧ 2 - j ≤ gg ∧ s10 = .int .i64 j ∧ wr = w1)
                case atStart => exact ⟨0, by decide, by decide, by rfl, rfl⟩
                case round =>
                  obtain ⟨j, hj, hg, rfl, hwr⟩ := hrel
                  have hwr2 := hwr.symm
                  clear hwr
                  subst hwr2
                  have hj3 : j = 0 ∨ j = 1 := by omega
                  rcases hj3 with rfl | rfl
                  · go_wp2
                    go_roundg (2 - 1)
                    case measure => omega
                    case rel => exact ⟨1, by decide, by omega, by go_num, rfl⟩
                  · go_wp2
                    go_ret2
                    exact ⟨rfl, b1⟩
          · obtain rfl : kk = 2 := hkc
            match ts, hln, HT1, hrest with
            | [t0, t1], _, HT1, hrest =>
              rcases HT1.out with h | ⟨b, off, rfl, hbl, hc⟩
              · exact absurd h (by simp)
              have e0 : w1.cell? ⟨b, off, none⟩ = some (.int .i64 t0) := hc 0 (by simp)
              have e1 : w1.cell? ⟨b, off + 1, none⟩ = some (.int .i64 t1) := hc 1 (by simp)
              clear hc HT1 hln hck
              have key : ((t0 = t1) ∧ T = 2 ∧ E = 0) ∨ (¬ (t0 = t1) ∧ T = 0 ∧ E = 8) := by
                split at hrest
                · rename_i hB
                  obtain ⟨h1, h2⟩ := Prod.mk.inj hrest
                  exact .inl ⟨by simpa [kdAll, kdMeant] using hB, by simpa [kdMeant] using h1, h2⟩
                · rename_i hB
                  obtain ⟨h1, h2⟩ := Prod.mk.inj hrest
                  exact .inr ⟨fun hc => hB (by simp [kdAll, kdMeant, hc]), h1, h2⟩
              clear hrest
              rcases key with ⟨hc, rfl, rfl⟩ | ⟨hc, rfl, rfl⟩
              · subst hc
                have q0 : (t0 != t0) = false := by simp
                go_wp2
                go_loopg [10] 2 (fun gg s10 wr => ∃ j : Nat, j ≤ 2 ∧ 2 - j ≤ gg ∧ s10 = .int .i64 j ∧ wr = w1)
                case atStart => exact ⟨0, by decide, by decide, by rfl, rfl⟩
                case round =>
                  obtain ⟨j, hj, hg, rfl, hwr⟩ := hrel
                  have hwr2 := hwr.symm
                  clear hwr
                  subst hwr2
                  have hj3 : j = 0 ∨ j = 1 ∨ j = 2 := by omega
                  rcases hj3 with rfl | rfl | rfl
                  · go_wp2
                    go_roundg (2 - 1)
                    case measure => omega
                    case rel => exact ⟨1, by decide, by omega, by go_num, rfl⟩
                  · go_wp2
                    go_roundg (2 - 2)
                    case measure => omega
                    case rel => exact ⟨2, by decide, by omega, by go_num, rfl⟩
                  · go_wp2
                    go_ret2
                    exact ⟨rfl, b1⟩
              · have q0 : (t0 != t0) = false := by simp
                have q1 : (t1 != t0) = true := by simp; intro h; exact hc h.symm
                go_wp2
                go_loopg [10] 2 (fun gg s10 wr => ∃ j : Nat, j ≤ 1 ∧ 2 - j ≤ gg ∧ s10 = .int .i64 j ∧ wr = w1)
                case atStart => exact ⟨0, by decide, by decide, by rfl, rfl⟩
                case round =>
                  obtain ⟨j, hj, hg, rfl, hwr⟩ := hrel
                  have hwr2 := hwr.symm
                  clear hwr
                  subst hwr2
                  have hj3 : j = 0 ∨ j = 1 := by omega
                  rcases hj3 with rfl | rfl
                  · go_wp2
                    go_roundg (2 - 1)
                    case measure => omega
                    case rel => exact ⟨1, by decide, by omega, by go_num, rfl⟩
                  · go_wp2
                    go_ret2
                    exact ⟨rfl, b1⟩
          · obtain rfl : kk = 2 := hkc
            match ts, hln, HT1, hrest with
            | [t0, t1], _, HT1, hrest =>
              rcases HT1.out with h | ⟨b, off, rfl, hbl, hc⟩
              · exact absurd h (by simp)
              have e0 : w1.cell? ⟨b, off, none⟩ = some (.int .i64 t0) := hc 0 (by simp)
              have e1 : w1.cell? ⟨b, off + 1, none⟩ = some (.int .i64 t1) := hc 1 (by simp)
              clear hc HT1 hln hck
              have key : ((t0 = t1) ∧ T = 2 ∧ E = 0) ∨ (¬ (t0 = t1) ∧ T = 0 ∧ E = 8) := by
                split at hrest
                · rename_i hB
                  obtain ⟨h1, h2⟩ := Prod.mk.inj hrest
                  exact .inl ⟨by simpa [kdAll, kdMeant] using hB, by simpa [kdMeant] using h1, h2⟩
                · rename_i hB
                  obtain ⟨h1, h2⟩ := Prod.mk.inj hrest
                  exact .inr ⟨fun hc => hB (by simp [kdAll, kdMeant, hc]), h1, h2⟩
              clear hrest
              rcases key with ⟨hc, rfl, rfl⟩ | ⟨hc, rfl, rfl⟩
              · subst hc
                have q0 : (t0 != t0) = false := by simp
                go_wp2
                go_loopg [10] 2 (fun gg s10 wr => ∃ j : Nat, j ≤ 2 ∧ 2 - j ≤ gg ∧ s10 = .int .i64 j ∧ wr = w1)
                case atStart => exact ⟨0, by decide, by decide, by rfl, rfl⟩
                case round =>
                  obtain ⟨j, hj, hg, rfl, hwr⟩ := hrel
                  have hwr2 := hwr.symm
                  clear hwr
                  subst hwr2
                  have hj3 : j = 0 ∨ j = 1 ∨ j = 2 := by omega
                  rcases hj3 with rfl | rfl | rfl
                  · go_wp2
                    go_roundg (2 - 1)
                    case measure => omega
                    case rel => exact ⟨1, by decide, by omega, by go_num, rfl⟩
                  · go_wp2
                    go_roundg (2 - 2)
                    case measure => omega
                    case rel => exact ⟨2, by decide, by omega, by go_num, rfl⟩
                  · go_wp2
                    go_ret2
                    exact ⟨rfl, b1⟩
              · have q0 : (t0 != t0) = false := by simp
                have q1 : (t1 != t0) = true := by simp; intro h; exact hc h.symm
                go_wp2
                go_loopg [10] 2 (fun gg s10 wr => ∃ j : Nat, j ≤ 1 ∧ 2 - j ≤ gg ∧ s10 = .int .i64 j ∧ wr = w1)
                case atStart => exact ⟨0, by decide, by decide, by rfl, rfl⟩
                case round =>
                  obtain ⟨j, hj, hg, rfl, hwr⟩ := hrel
                  have hwr2 := hwr.symm
                  clear hwr
                  subst hwr2
                  have hj3 : j = 0 ∨ j = 1 := by omega
                  rcases hj3 with rfl | rfl
                  · go_wp2
                    go_roundg (2 - 1)
                    case measure => omega
                    case rel => exact ⟨1, by decide, by omega, by go_num, rfl⟩
                  · go_wp2
                    go_ret2
                    exact ⟨rfl, b1⟩
          · obtain rfl : kk = 2 := hkc
            match ts, hln, HT1, hrest with
            | [t0, t1], _, HT1, hrest =>
              rcases HT1.out with h | ⟨b, off, rfl, hbl, hc⟩
              · exact absurd h (by simp)
              have e0 : w1.cell? ⟨b, off, none⟩ = some (.int .i64 t0) := hc 0 (by simp)
              have e1 : w1.cell? ⟨b, off + 1, none⟩ = some (.int .i64 t1) := hc 1 (by simp)
              clear hc HT1 hln hck
              have key : ((t0 = t1) ∧ T = 2 ∧ E = 0) ∨ (¬ (t0 = t1) ∧ T = 0 ∧ E = 8) := by
                split at hrest
                · rename_i hB
                  obtain ⟨h1, h2⟩ := Prod.mk.inj hrest
                  exact .inl ⟨by simpa [kdAll, kdMeant] using hB, by simpa [kdMeant] using h1, h2⟩
                · rename_i hB
                  obtain ⟨h1, h2⟩ := Prod.mk.inj hrest
                  exact .inr ⟨fun hc => hB (by simp [kdAll, kdMeant, hc]), h1, h2⟩
              clear hrest
              rcases key with ⟨hc, rfl, rfl⟩ | ⟨hc, rfl, rfl⟩
              · subst hc
                have q0 : (t0 != t0) = false := by simp
                go_wp2
                go_loopg [10] 2 (fun gg s10 wr => ∃ j : Nat, j ≤ 2 ∧ 2 - j ≤ gg ∧ s10 = .int .i64 j ∧ wr = w1)
                case atStart => exact ⟨0, by decide, by decide, by rfl, rfl⟩
                case round =>
                  obtain ⟨j, hj, hg, rfl, hwr⟩ := hrel
                  have hwr2 := hwr.symm
                  clear hwr
                  subst hwr2
                  have hj3 : j = 0 ∨ j = 1 ∨ j = 2 := by omega
                  rcases hj3 with rfl | rfl | rfl
                  · go_wp2
                    go_roundg (2 - 1)
                    case measure => omega
                    case rel => exact ⟨1, by decide, by omega, by go_num, rfl⟩
                  · go_wp2
                    go_roundg (2 - 2)
                    case measure => omega
                    case rel => exact ⟨2, by decide, by omega, by go_num, rfl⟩
                  · go_wp2
                    go_ret2
                    exact ⟨rfl, b1⟩
              · have q0 : (t0 != t0) = false := by simp
                have q1 : (t1 != t0) = true := by simp; intro h; exact hc h.symm
                go_wp2
                go_loopg [10] 2 (fun gg s10 wr => ∃ j : Nat, j ≤ 1 ∧ 2 - j ≤ gg ∧ s10 = .int .i64 j ∧ wr = w1)
                case atStart => exact ⟨0, by decide, by decide, by rfl, rfl⟩
                case round =>
                  obtain ⟨j, hj, hg, rfl, hwr⟩ := hrel
                  have hwr2 := hwr.symm
                  clear hwr
                  subst hwr2
                  have hj3 : j = 0 ∨ j = 1 := by omega
                  rcases hj3 with rfl | rfl
                  · go_wp2
                    go_roundg (2 - 1)
                    case measure => omega
                    case rel => exact ⟨1, by decide, by omega, by go_num, rfl⟩
                  · go_wp2
                    go_ret2
                    exact ⟨rfl, b1⟩
          · obtain rfl : kk = 2 := hkc
            match ts, hln, HT1, hrest with
            | [t0, t1], _, HT1, hrest =>
              rcases HT1.out with h | ⟨b, off, rfl, hbl, hc⟩
              · exact absurd h (by simp)
              have e0 : w1.cell? ⟨b, off, none⟩ = some (.int .i64 t0) := hc 0 (by simp)
              have e1 : w1.cell? ⟨b, off + 1, none⟩ = some (.int .i64 t1) := hc 1 (by simp)
              clear hc HT1 hln hck
              have key : ((t0 = t1) ∧ T = 2 ∧ E = 0) ∨ (¬ (t0 = t1) ∧ T = 0 ∧ E = 8) := by
                split at hrest
                · rename_i hB
                  obtain ⟨h1, h2⟩ := Prod.mk.inj hrest
                  exact .inl ⟨by simpa [kdAll, kdMeant] using hB, by simpa [kdMeant] using h1, h2⟩
                · rename_i hB
                  obtain ⟨h1, h2⟩ := Prod.mk.inj hrest
                  exact .inr ⟨fun hc => hB (by simp [kdAll, kdMeant, hc]), h1, h2⟩
              clear hrest
              rcases key with ⟨hc, rfl, rfl⟩ | ⟨hc, rfl, rfl⟩
              · subst hc
                have q0 : (t0 != t0) = false := by simp
                go_wp2
                go_loopg [10] 2 (fun gg s10 wr => ∃ j : Nat, j ≤ 2 ∧ 2 - j ≤ gg ∧ s10 = .int .i64 j ∧ wr = w1)
                case atStart => exact ⟨0, by decide, by decide, by rfl, rfl⟩
                case round =>
                  obtain ⟨j, hj, hg, rfl, hwr⟩ := hrel
                  have hwr2 := hwr.symm
                  clear hwr
                  subst hwr2
                  have hj3 : j = 0 ∨ j = 1 ∨ j = 2 := by omega
                  rcases hj3 with rfl | rfl | rfl
                  · go_wp2
                    go_roundg (2 - 1)
                    case measure => omega
                    case rel => exact ⟨1, by decide, by omega, by go_num, rfl⟩
                  · go_wp2
                    go_roundg (2 - 2)
                    case measure => omega
                    case rel => exact ⟨2, by decide, by omega, by go_num, rfl⟩
                  · go_wp2
                    go_ret2
                    exact ⟨rfl, b1⟩
              · have q0 : (t0 != t0) = false := by simp
                have q1 : (t1 != t0) = true := by simp; intro h; exact hc h.symm
                go_wp2
                go_loopg [10] 2 (fun gg s10 wr => ∃ j : Nat, j ≤ 1 ∧ 2 - j ≤ gg ∧ s10 = .int .i64 j ∧ wr = w1)
                case atStart => exact ⟨0, by decide, by decide, by rfl, rfl⟩
                case round =>
                  obtain ⟨j, hj, hg, rfl, hwr⟩ := hrel
                  have hwr2 := hwr.symm
                  clear hwr
                  subst hwr2
                  have hj3 : j = 0 ∨ j = 1 := by omega
                  rcases hj3 with rfl | rfl
                  · go_wp2
                    go_roundg (2 - 1)
                    case measure => omega
                    case rel => exact ⟨1, by decide, by omega, by go_num, rfl⟩
                  · go_wp2
                    go_ret2
                    exact ⟨rfl, b1⟩
          · obtain rfl : kk = 2 := hkc
            match ts, hln, HT1, hrest with
            | [t0, t1], _, HT1, hrest =>
              rcases HT1.out with h | ⟨b, off, rfl, hbl, hc⟩
              · exact absurd h (by simp)
              have e0 : w1.cell? ⟨b, off, none⟩ = some (.int .i64 t0) := hc 0 (by simp)
              have e1 : w1.cell? ⟨b, off + 1, none⟩ = some (.int .i64 t1) := hc 1 (by simp)
              clear hc HT1 hln hck
              have key : ((t0 = 1 ∧ t1 = 1) ∧ T = 1 ∧ E = 0) ∨ (¬ (t0 = 1 ∧ t1 = 1) ∧ T = 0 ∧ E = 8) := by
                split at hrest
                · rename_i hB
                  obtain ⟨h1, h2⟩ := Prod.mk.inj hrest
                  exact .inl ⟨by simpa [kdAll, kdMeant] using hB, by simpa [kdMeant] using h1, h2⟩
                · rename_i hB
                  obtain ⟨h1, h2⟩ := Prod.mk.inj hrest
                  exact .inr ⟨fun hc => hB (by simp [kdAll, kdMeant, hc]), h1, h2⟩
              clear hrest
              rcases key with ⟨⟨rfl, rfl⟩, rfl, rfl⟩ | ⟨hc, rfl, rfl⟩
              · skip
                go_wp2
                go_loopg [10] 2 (fun gg s10 wr => ∃ j : Nat, j ≤ 2 ∧ 2 - j ≤ gg ∧ s10 = .int .i64 j ∧ wr = w1)
                case atStart => exact ⟨0, by decide, by decide, by rfl, rfl⟩
                case round =>
                  obtain ⟨j, hj, hg, rfl, hwr⟩ := hrel
                  have hwr2 := hwr.symm
                  clear hwr
                  subst hwr2
                  have hj3 : j = 0 ∨ j = 1 ∨ j = 2 := by omega
                  rcases hj3 with rfl | rfl | rfl
                  · go_wp2
                    go_roundg (2 - 1)
                    case measure => omega
                    case rel => exact ⟨1, by decide, by omega, by go_num, rfl⟩
                  · go_wp2
                    go_roundg (2 - 2)
                    case measure => omega
                    case rel => exact ⟨2, by decide, by omega, by go_num, rfl⟩
                  · go_wp2
                    go_ret2
                    exact ⟨rfl, b1⟩
              · by_cases h0 : t0 = 1
                · subst h0
                  have q1 : (t1 != 1) = true := by simp; intro h; exact hc ⟨rfl, h⟩
                  go_wp2
                  go_loopg [10] 2 (fun gg s10 wr => ∃ j : Nat, j ≤ 1 ∧ 2 - j ≤ gg ∧ s10 = .int .i64 j ∧ wr = w1)
                  case atStart => exact ⟨0, by decide, by decide, by rfl, rfl⟩
                  case round =>
                    obtain ⟨j, hj, hg, rfl, hwr⟩ := hrel
                    have hwr2 := hwr.symm
                    clear hwr
                    subst hwr2
                    have hj3 : j = 0 ∨ j = 1 := by omega
                    rcases hj3 with rfl | rfl
                    · go_wp2
                      go_roundg (2 - 1)
                      case measure => omega
                      case rel => exact ⟨1, by decide, by omega, by go_num, rfl⟩
                    · go_wp2
                      go_ret2
                      exact ⟨rfl, b1⟩
                · have q0 : (t0 != 1) = true := by simpa using h0
                  go_wp2
                  go_loopg [10] 2 (fun gg s10 wr => ∃ j : Nat, j ≤ 0 ∧ 2 - j ≤ gg ∧ s10 = .int .i64 j ∧ wr = w1)
                  case atStart => exact ⟨0, by decide, by decide, by rfl, rfl⟩
                  case round =>
                    obtain ⟨j, hj, hg, rfl, hwr⟩ := hrel
                    have hwr2 := hwr.symm
                    clear hwr
                    subst hwr2
                    have hj3 : j = 0 := by omega
                    obtain rfl := hj3
                    go_wp2
                    go_ret2
                    exact ⟨rfl, b1⟩
          · obtain rfl : kk = 2 := hkc
            match ts, hln, HT1, hrest with
            | [t0, t1], _, HT1, hrest =>
              rcases HT1.out with h | ⟨b, off, rfl, hbl, hc⟩
              · exact absurd h (by simp)
              have e0 : w1.cell? ⟨b, off, none⟩ = some (.int .i64 t0) := hc 0 (by simp)
              have e1 : w1.cell? ⟨b, off + 1, none⟩ = some (.int .i64 t1) := hc 1 (by simp)
              clear hc HT1 hln hck
              have key : ((t0 = 1 ∧ t1 = 1) ∧ T = 1 ∧ E = 0) ∨ (¬ (t0 = 1 ∧ t1 = 1) ∧ T = 0 ∧ E = 8) := by
                split at hrest
                · rename_i hB
                  obtain ⟨h1, h2⟩ := Prod.mk.inj hrest
                  exact .inl ⟨by simpa [kdAll, kdMeant] using hB, by simpa [kdMeant] using h1, h2⟩
                · rename_i hB
                  obtain ⟨h1, h2⟩ := Prod.mk.inj hrest
                  exact .inr ⟨fun hc => hB (by simp [kdAll, kdMeant, hc]), h1, h2⟩
              clear hrest
              rcases key with ⟨⟨rfl, rfl⟩, rfl, rfl⟩ | ⟨hc, rfl, rfl⟩
              · skip
                go_wp2
                go_loopg [10] 2 (fun gg s10 wr => ∃ j : Nat, j ≤ 2 ∧ 2 - j ≤ gg ∧ s10 = .int .i64 j ∧ wr = w1)
                case atStart => exact ⟨0, by decide, by decide, by rfl, rfl⟩
                case round =>
                  obtain ⟨j, hj, hg, rfl, hwr⟩ := hrel
                  have hwr2 := hwr.symm
                  clear hwr
                  subst hwr2
                  have hj3 : j = 0 ∨ j = 1 ∨ j = 2 := by omega
                  rcases hj3 with rfl | rfl | rfl
                  · go_wp2
                    go_roundg (2 - 1)
                    case measure => omega
                    case rel => exact ⟨1, by decide, by omega, by go_num, rfl⟩
                  · go_wp2
                    go_roundg (2 - 2)
                    case measure => omega
                    case rel => exact ⟨2, by decide, by omega, by go_num, rfl⟩
                  · go_wp2
                    go_ret2
                    exact ⟨rfl, b1⟩
              · by_cases h0 : t0 = 1
                · subst h0
                  have q1 : (t1 != 1) = true := by simp; intro h; exact hc ⟨rfl, h⟩
                  go_wp2
                  go_loopg [10] 2 (fun gg s10 wr => ∃ j : Nat, j ≤ 1 ∧ 2 - j ≤ gg ∧ s10 = .int .i64 j ∧ wr = w1)
                  case atStart => exact ⟨0, by decide, by decide, by rfl, rfl⟩
                  case round =>
                    obtain ⟨j, hj, hg, rfl, hwr⟩ := hrel
                    have hwr2 := hwr.symm
                    clear hwr
                    subst hwr2
                    have hj3 : j = 0 ∨ j = 1 := by omega
                    rcases hj3 with rfl | rfl
                    · go_wp2
                      go_roundg (2 - 1)
                      case measure => omega
                      case rel => exact ⟨1, by decide, by omega, by go_num, rfl⟩
                    · go_wp2
                      go_ret2
                      exact ⟨rfl, b1⟩
                · have q0 : (t0 != 1) = true := by simpa using h0
                  go_wp2
                  go_loopg [10] 2 (fun gg s10 wr => ∃ j : Nat, j ≤ 0 ∧ 2 - j ≤ gg ∧ s10 = .int .i64 j ∧ wr = w1)
                  case atStart => exact ⟨0, by decide, by decide, by rfl, rfl⟩
                  case round =>
                    obtain ⟨j, hj, hg, rfl, hwr⟩ := hrel
                    have hwr2 := hwr.symm
                    clear hwr
                    subst hwr2
                    have hj3 : j = 0 := by omega
                    obtain rfl := hj3
                    go_wp2
                    go_ret2
                    exact ⟨rfl, b1⟩
          · obtain rfl : kk = 2 := hkc
            match ts, hln, HT1, hrest with
            | [t0, t1], _, HT1, hrest =>
              rcases HT1.out with h | ⟨b, off, rfl, hbl, hc⟩
              · exact absurd h (by simp)
              have e0 : w1.cell? ⟨b, off, none⟩ = some (.int .i64 t0) := hc 0 (by simp)
              have e1 : w1.cell? ⟨b, off + 1, none⟩ = some (.int .i64 t1) := hc 1 (by simp)
              clear hc HT1 hln hck
              have key : ((t0 = 1 ∧ t1 = 1) ∧ T = 1 ∧ E = 0) ∨ (¬ (t0 = 1 ∧ t1 = 1) ∧ T = 0 ∧ E = 8) := by
                split at hrest
                · rename_i hB
                  obtain ⟨h1, h2⟩ := Prod.mk.inj hrest
                  exact .inl ⟨by simpa [kdAll, kdMeant] using hB, by simpa [kdMeant] using h1, h2⟩
                · rename_i hB
                  obtain ⟨h1, h2⟩ := Prod.mk.inj hrest
                  exact .inr ⟨fun hc => hB (by simp [kdAll, kdMeant, hc]), h1, h2⟩
              clear hrest
              rcases key with ⟨⟨rfl, rfl⟩, rfl, rfl⟩ | ⟨hc, rfl, rfl⟩
              · skip
                go_wp2
                go_loopg [10] 2 (fun gg s10 wr => ∃ j : Nat, j ≤ 2 ∧ 2 - j ≤ gg ∧ s10 = .int .i64 j ∧ wr = w1)
                case atStart => exact ⟨0, by decide, by decide, by rfl, rfl⟩
                case round =>
                  obtain ⟨j, hj, hg, rfl, hwr⟩ := hrel
                  have hwr2 := hwr.symm
                  clear hwr
                  subst hwr2
                  have hj3 : j = 0 ∨ j = 1 ∨ j = 2 := by omega
                  rcases hj3 with rfl | rfl | rfl
                  · go_wp2
                    go_roundg (2 - 1)
                    case measure => omega
                    case rel => exact ⟨1, by decide, by omega, by go_num, rfl⟩
                  · go_wp2
                    go_roundg (2 - 2)
                    case measure => omega
                    case rel => exact ⟨2, by decide, by omega, by go_num, rfl⟩
                  · go_wp2
                    go_ret2
                    exact ⟨rfl, b1⟩
              · by_cases h0 : t0 = 1
                · subst h0
                  have q1 : (t1 != 1) = true := by simp; intro h; exact hc ⟨rfl, h⟩
                  go_wp2
                  go_loopg [10] 2 (fun gg s10 wr => ∃ j : Nat, j ≤ 1 ∧ 2 - j ≤ gg ∧ s10 = .int .i64 j ∧ wr = w1)
                  case atStart => exact ⟨0, by decide, by decide, by rfl, rfl⟩
                  case round =>
                    obtain ⟨j, hj, hg, rfl, hwr⟩ := hrel
                    have hwr2 := hwr.symm
                    clear hwr
                    subst hwr2
                    have hj3 : j = 0 ∨ j = 1 := by omega
                    rcases hj3 with rfl | rfl
                    · go_wp2
                      go_roundg (2 - 1)
                      case measure => omega
                      case rel => exact ⟨1, by decide, by omega, by go_num, rfl⟩
                    · go_wp2
                      go_ret2
                      exact ⟨rfl, b1⟩
                · have q0 : (t0 != 1) = true := by simpa using h0
                  go_wp2
                  go_loopg [10] 2 (fun gg s10 wr => ∃ j : Nat, j ≤ 0 ∧ 2 - j ≤ gg ∧ s10 = .int .i64 j ∧ wr = w1)
                  case atStart => exact ⟨0, by decide, by decide, by rfl, rfl⟩
                  case round =>
                    obtain ⟨j, hj, hg, rfl, hwr⟩ := hrel
                    have hwr2 := hwr.symm
                    clear hwr
                    subst hwr2
                    have hj3 : j = 0 := by omega
                    obtain rfl := hj3
                    go_wp2
                    go_ret2
                    exact ⟨rfl, b1⟩
          · obtain rfl : kk = 2 := hkc
            match ts, hln, HT1, hrest with
            | [t0, t1], _, HT1, hrest =>
              rcases HT1.out with h | ⟨b, off, rfl, hbl, hc⟩
              · exact absurd h (by simp)
              have e0 : w1.cell? ⟨b, off, none⟩ = some (.int .i64 t0) := hc 0 (by simp)
              have e1 : w1.cell? ⟨b, off + 1, none⟩ = some (.int .i64 t1) := hc 1 (by simp)
              clear hc HT1 hln hck
              have key : ((t0 = 1 ∧ t1 = 1) ∧ T = 1 ∧ E = 0) ∨ (¬ (t0 = 1 ∧ t1 = 1) ∧ T = 0 ∧ E = 8) := by
                split at hrest
                · rename_i hB
                  obtain ⟨h1, h2⟩ := Prod.mk.inj hrest
                  exact .inl ⟨by simpa [kdAll, kdMeant] using hB, by simpa [kdMeant] using h1, h2⟩
                · rename_i hB
                  obtain ⟨h1, h2⟩ := Prod.mk.inj hrest
                  exact .inr ⟨fun hc => hB (by simp [kdAll, kdMeant, hc]), h1, h2⟩
              clear hrest
              rcases key with ⟨⟨rfl, rfl⟩, rfl, rfl⟩ | ⟨hc, rfl, rfl⟩
              · skip
                go_wp2
                go_loopg [10] 2 (fun gg s10 wr => ∃ j : Nat, j ≤ 2 ∧ 2 - j ≤ gg ∧ s10 = .int .i64 j ∧ wr = w1)
                case atStart => exact ⟨0, by decide, by decide, by rfl, rfl⟩
                case round =>
                  obtain ⟨j, hj, hg, rfl, hwr⟩ := hrel
                  have hwr2 := hwr.symm
                  clear hwr
                  subst hwr2
                  have hj3 : j = 0 ∨ j = 1 ∨ j = 2 := by omega
                  rcases hj3 with rfl | rfl | rfl
                  · go_wp2
                    go_roundg (2 - 1)
                    case measure => omega
                    case rel => exact ⟨1, by decide, by omega, by go_num, rfl⟩
                  · go_wp2
                    go_roundg (2 - 2)
                    case measure => omega
                    case rel => exact ⟨2, by decide, by omega, by go_num, rfl⟩
                  · go_wp2
                    go_ret2
                    exact ⟨rfl, b1⟩
              · by_cases h0 : t0 = 1
                · subst h0
                  have q1 : (t1 != 1) = true := by simp; intro h; exact hc ⟨rfl, h⟩
                  go_wp2
                  go_loopg [10] 2 (fun gg s10 wr => ∃ j : Nat, j ≤ 1 ∧ 2 - j ≤ gg ∧ s10 = .int .i64 j ∧ wr = w1)
                  case atStart => exact ⟨0, by decide, by decide, by rfl, rfl⟩
                  case round =>
                    obtain ⟨j, hj, hg, rfl, hwr⟩ := hrel
                    have hwr2 := hwr.symm
                    clear hwr
                    subst hwr2
                    have hj3 : j = 0 ∨ j = 1 := by omega
                    rcases hj3 with rfl | rfl
                    · go_wp2
                      go_roundg (2 - 1)
                      case measure => omega
                      case rel => exact ⟨1, by decide, by omega, by go_num, rfl⟩
                    · go_wp2
                      go_ret2
                      exact ⟨rfl, b1⟩
                · have q0 : (t0 != 1) = true := by simpa using h0
                  go_wp2
                  go_loopg [10] 2 (fun gg s10 wr => ∃ j : Nat, j ≤ 0 ∧ 2 - j ≤ gg ∧ s10 = .int .i64 j ∧ wr = w1)
                  case atStart => exact ⟨0, by decide, by decide, by rfl, rfl⟩
                  case round =>
                    obtain ⟨j, hj, hg, rfl, hwr⟩ := hrel
                    have hwr2 := hwr.symm
                    clear hwr
                    subst hwr2
                    have hj3 : j = 0 := by omega
                    obtain rfl := hj3
                    go_wp2
                    go_ret2
                    exact ⟨rfl, b1⟩
          · obtain rfl : kk = 2 := hkc
            match ts, hln, HT1, hrest with
            | [t0, t1], _, HT1, hrest =>
              rcases HT1.out with h | ⟨b, off, rfl, hbl, hc⟩
              · exact absurd h (by simp)
              have e0 : w1.cell? ⟨b, off, none⟩ = some (.int .i64 t0) := hc 0 (by simp)
              have e1 : w1.cell? ⟨b, off + 1, none⟩ = some (.int .i64 t1) := hc 1 (by simp)
              clear hc HT1 hln hck
              have key : ((t0 = 1 ∧ t1 = 1) ∧ T = 1 ∧ E = 0) ∨ (¬ (t0 = 1 ∧ t1 = 1) ∧ T = 0 ∧ E = 8) := by
                split at hrest
                · rename_i hB
                  obtain ⟨h1, h2⟩ := Prod.mk.inj hrest
                  exact .inl ⟨by simpa [kdAll, kdMeant] using hB, by simpa [kdMeant] using h1, h2⟩
                · rename_i hB
                  obtain ⟨h1, h2⟩ := Prod.mk.inj hrest
                  exact .inr ⟨fun hc => hB (by simp [kdAll, kdMeant, hc]), h1, h2⟩
              clear hrest
              rcases key with ⟨⟨rfl, rfl⟩, rfl, rfl⟩ | ⟨hc, rfl, rfl⟩
              · skip
                go_wp2
                go_loopg [10] 2 (fun gg s10 wr => ∃ j : Nat, j ≤ 2 ∧ 2 - j ≤ gg ∧ s10 = .int .i64 j ∧ wr = w1)
                case atStart => exact ⟨0, by decide, by decide, by rfl, rfl⟩
                case round =>
                  obtain ⟨j, hj, hg, rfl, hwr⟩ := hrel
                  have hwr2 := hwr.symm
                  clear hwr
                  subst hwr2
                  have hj3 : j = 0 ∨ j = 1 ∨ j = 2 := by omega
                  rcases hj3 with rfl | rfl | rfl
                  · go_wp2
                    go_roundg (2 - 1)
                    case measure => omega
                    case rel => exact ⟨1, by decide, by omega, by go_num, rfl⟩
                  · go_wp2
                    go_roundg (2 - 2)
                    case measure => omega
                    case rel => exact ⟨2, by decide, by omega, by go_num, rfl⟩
                  · go_wp2
                    go_ret2
                    exact ⟨rfl, b1⟩
              · by_cases h0 : t0 = 1
                · subst h0
                  have q1 : (t1 != 1) = true := by simp; intro h; exact hc ⟨rfl, h⟩
                  go_wp2
                  go_loopg [10] 2 (fun gg s10 wr => ∃ j : Nat, j ≤ 1 ∧ 2 - j ≤ gg ∧ s10 = .int .i64 j ∧ wr = w1)
                  case atStart => exact ⟨0, by decide, by decide, by rfl, rfl⟩
                  case round =>
                    obtain ⟨j, hj, hg, rfl, hwr⟩ := hrel
                    have hwr2 := hwr.symm
                    clear hwr
                    subst hwr2
                    have hj3 : j = 0 ∨ j = 1 := by omega
                    rcases hj3 with rfl | rfl
                    · go_wp2
                      go_roundg (2 - 1)
                      case measure => omega
                      case rel => exact ⟨1, by decide, by omega, by go_num, rfl⟩
                    · go_wp2
                      go_ret2
                      exact ⟨rfl, b1⟩
                · have q0 : (t0 != 1) = true := by simpa using h0
                  go_wp2
                  go_loopg [10] 2 (fun gg s10 wr => ∃ j : Nat, j ≤ 0 ∧ 2 - j ≤ gg ∧ s10 = .int .i64 j ∧ wr = w1)
                  case atStart => exact ⟨0, by decide, by decide, by rfl, rfl⟩
                  case round =>
                    obtain ⟨j, hj, hg, rfl, hwr⟩ := hrel
                    have hwr2 := hwr.symm
                    clear hwr
                    subst hwr2
                    have hj3 : j = 0 := by omega
                    obtain rfl := hj3
                    go_wp2
                    go_ret2
                    exact ⟨rfl, b1⟩
          · obtain rfl : kk = 1 := hkc
            match ts, hln, HT1, hrest with
            | [t0], _, HT1, hrest =>
              rcases HT1.out with h | ⟨b, off, rfl, hbl, hc⟩
              · exact absurd h (by simp)
              have e0 : w1.cell? ⟨b, off, none⟩ = some (.int .i64 t0) := hc 0 (by simp)
              clear hc HT1 hln hck
              have key : ((t0 = 1) ∧ T = 1 ∧ E = 0) ∨ (¬ (t0 = 1) ∧ T = 0 ∧ E = 8) := by
                split at hrest
                · rename_i hB
                  obtain ⟨h1, h2⟩ := Prod.mk.inj hrest
                  exact .inl ⟨by simpa [kdAll, kdMeant] using hB, by simpa [kdMeant] using h1, h2⟩
                · rename_i hB
                  obtain ⟨h1, h2⟩ := Prod.mk.inj hrest
                  exact .inr ⟨fun hc => hB (by simp [kdAll, kdMeant, hc]), h1, h2⟩
              clear hrest
              rcases key with ⟨rfl, rfl, rfl⟩ | ⟨hc, rfl, rfl⟩
              · skip
                go_wp2
                go_loopg [10] 1 (fun gg s10 wr => ∃ j : Nat, j ≤ 1 ∧ 1 - j ≤ gg ∧ s10 = .int .i64 j ∧ wr = w1)
                case atStart => exact ⟨0, by decide, by decide, by rfl, rfl⟩
                case round =>
                  obtain ⟨j, hj, hg, rfl, hwr⟩ := hrel
                  have hwr2 := hwr.symm
                  clear hwr
                  subst hwr2
                  have hj3 : j = 0 ∨ j = 1 := by omega
                  rcases hj3 with rfl | rfl
                  · go_wp2
                    go_roundg (1 - 1)
                    case measure => omega
                    case rel => exact ⟨1, by decide, by omega, by go_num, rfl⟩
                  · go_wp2
                    go_ret2
                    exact ⟨rfl, b1⟩
              · have q0 : (t0 != 1) = true := by simpa using hc
                go_wp2
                go_loopg [10] 1 (fun gg s10 wr => ∃ j : Nat, j ≤ 0 ∧ 1 - j ≤ gg ∧ s10 = .int .i64 j ∧ wr = w1)
                case atStart => exact ⟨0, by decide, by decide, by rfl, rfl⟩
                case round =>
                  obtain ⟨j, hj, hg, rfl, hwr⟩ := hrel
                  have hwr2 := hwr.symm
                  clear hwr
                  subst hwr2
                  have hj3 : j = 0 := by omega
                  obtain rfl := hj3
                  go_wp2
                  go_ret2
                  exact ⟨rfl, b1⟩
          · obtain rfl : kk = 1 := hkc
            match ts, hln, HT1, hrest with
            | [t0], _, HT1, hrest =>
              rcases HT1.out with h | ⟨b, off, rfl, hbl, hc⟩
              · exact absurd h (by simp)
              have e0 : w1.cell? ⟨b, off, none⟩ = some (.int .i64 t0) := hc 0 (by simp)
              clear hc HT1 hln hck
              have key : ((t0 = 3) ∧ T = 1 ∧ E = 0) ∨ (¬ (t0 = 3) ∧ T = 0 ∧ E = 8) := by
                split at hrest
                · rename_i hB
                  obtain ⟨h1, h2⟩ := Prod.mk.inj hrest
                  exact .inl ⟨by simpa [kdAll, kdMeant] using hB, by simpa [kdMeant] using h1, h2⟩
                · rename_i hB
                  obtain ⟨h1, h2⟩ := Prod.mk.inj hrest
                  exact .inr ⟨fun hc => hB (by simp [kdAll, kdMeant, hc]), h1, h2⟩
              clear hrest
              rcases key with ⟨rfl, rfl, rfl⟩ | ⟨hc, rfl, rfl⟩
              · skip
                go_wp2
                go_loopg [10] 1 (fun gg s10 wr => ∃ j : Nat, j ≤ 1 ∧ 1 - j ≤ gg ∧ s10 = .int .i64 j ∧ wr = w1)
                case atStart => exact ⟨0, by decide, by decide, by rfl, rfl⟩
                case round =>
                  obtain ⟨j, hj, hg, rfl, hwr⟩ := hrel
                  have hwr2 := hwr.symm
                  clear hwr
                  subst hwr2
                  have hj3 : j = 0 ∨ j = 1 := by omega
                  rcases hj3 with rfl | rfl
                  · go_wp2
                    go_roundg (1 - 1)
                    case measure => omega
                    case rel => exact ⟨1, by decide, by omega, by go_num, rfl⟩
                  · go_wp2
                    go_ret2
                    exact ⟨rfl, b1⟩
              · have q0 : (t0 != 3) = true := by simpa using hc
                go_wp2
                go_loopg [10] 1 (fun gg s10 wr => ∃ j : Nat, j ≤ 0 ∧ 1 - j ≤ gg ∧ s10 = .int .i64 j ∧ wr = w1)
                case atStart => exact ⟨0, by decide, by decide, by rfl, rfl⟩
                case round =>
                  obtain ⟨j, hj, hg, rfl, hwr⟩ := hrel
                  have hwr2 := hwr.symm
                  clear hwr
                  subst hwr2
                  have hj3 : j = 0 := by omega
                  obtain rfl := hj3
                  go_wp2
                  go_ret2
                  exact ⟨rfl, b1⟩
          · obtain rfl : kk = 3 := hkc
            match ts, hln, HT1, hrest with
            | [t0, t1, t2], _, HT1, hrest =>
              rcases HT1.out with h | ⟨b, off, rfl, hbl, hc⟩
              · exact absurd h (by simp)
              have e0 : w1.cell? ⟨b, off, none⟩ = some (.int .i64 t0) := hc 0 (by simp)
              have e1 : w1.cell? ⟨b, off + 1, none⟩ = some (.int .i64 t1) := hc 1 (by simp)
              have e2 : w1.cell? ⟨b, off + 2, none⟩ = some (.int .i64 t2) := hc 2 (by simp)
              clear hc HT1 hln hck
              have key : ((t0 = 2 ∧ t1 = t2) ∧ T = t2 ∧ E = 0) ∨ (¬ (t0 = 2 ∧ t1 = t2) ∧ T = 0 ∧ E = 8) := by
                split at hrest
                · rename_i hB
                  obtain ⟨h1, h2⟩ := Prod.mk.inj hrest
                  exact .inl ⟨by simpa [kdAll, kdMeant] using hB, by simpa [kdMeant] using h1, h2⟩
                · rename_i hB
                  obtain ⟨h1, h2⟩ := Prod.mk.inj hrest
                  exact .inr ⟨fun hc => hB (by simp [kdAll, kdMeant, hc]), h1, h2⟩
              clear hrest
              rcases key with ⟨⟨rfl, h12⟩, hT, rfl⟩ | ⟨hc, rfl, rfl⟩
              · have hT1 : T = t1 := hT.trans h12.symm
                subst hT1
                have q1 : (T != t2) = false := by simp [h12]
                go_wp2
                go_quiet (fail)
                go_wp2
                go_ret2
                exact ⟨by rw [h12]; rfl, by repeat (first | exact b1 | apply below_drewN | refine Below.drew ?_)⟩
              · by_cases h0 : t0 = 2
                · subst h0
                  have q1 : (t1 != t2) = true := by simp; intro h; exact hc ⟨rfl, h⟩
                  go_wp2
                  go_quiet (fail)
                  go_wp2
                  go_ret2
                  exact ⟨rfl, by repeat (first | exact b1 | apply below_drewN | refine Below.drew ?_)⟩
                · have q0 : (t0 != 2) = true := by simpa using h0
                  go_wp2
                  go_quiet (fail)
                  go_wp2
                  go_ret2
                  exact ⟨rfl, by repeat (first | exact b1 | apply below_drewN | refine Below.drew ?_)⟩
        · have hlb : ((kk : Int) != A) = true := by simpa using hlen
          have hf := HR.out
          rw [ruleP_len HF.out hall (by rw [HN.out]; have := HC.out; omega)] at hf
          obtain ⟨rfl, rfl⟩ := Prod.mk.inj hf
          clear hf hall HR HA
          go_wp2
          go_ret2
          exact ⟨rfl, b1⟩
end Go.Proofs.YtknibfhoecgjlaaGreatDoor
