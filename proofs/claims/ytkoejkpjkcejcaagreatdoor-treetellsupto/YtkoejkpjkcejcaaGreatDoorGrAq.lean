/-
  KdPf, TreeSg, RefNd, TreePr, TreeRt, in one text.
-/
import Derived.Test.YtkoejkpjkcejcaaGreatDoorGrAo
import Derived.Test.YtkoejkpjkcejcaaGreatDoorGrAd
import Derived.WalkSmall
import Derived.Test.YtkoejkpjkcejcaaGreatDoorGrAj
import Derived.Test.YtkoejkpjkcejcaaGreatDoorGrAp
import Derived.Test.YtkoejkpjkcejcaaGreatDoorGrAb
namespace Go.Proofs.YtkoejkpjkcejcaaGreatDoor
open Go.RowKit Go.BigFrame
set_option linter.unusedVariables false

theorem apL_mem {x : List UInt8} : ∀ {l : List (List UInt8 × Int)}, (apL x l).2 = true → (x, (apL x l).1) ∈ l
  | [], h => by simp [apL] at h
  | o :: os, h => by
    rw [apL] at h ⊢
    split
    · rename_i he; subst he; exact List.mem_cons_self ..
    · rename_i he; rw [if_neg he] at h; exact List.mem_cons_of_mem _ (apL_mem h)
def ruleFits (o : List UInt8 × Int) : Bool := decide (o.2 < 1) || (match kdFind o.1 kdRules with | some r => decide ((kdCnt r : Int) = o.2) | none => false)
theorem rules_fit : ∀ o ∈ opsL, ruleFits o = true := by decide
theorem rule_of_op {x : List UInt8} (h : (apL x opsL).2 = true) (h1 : 1 ≤ (apL x opsL).1) : ∃ r, kdFind x kdRules = some r ∧ (kdCnt r : Int) = (apL x opsL).1 := by
  have hf := rules_fit _ (apL_mem h)
  rw [ruleFits] at hf
  simp only at hf
  have h2 : decide ((apL x opsL).1 < 1) = false := by simp; omega
  rw [h2, Bool.false_or] at hf
  split at hf
  · rename_i r hr
    exact ⟨r, hr, of_decide_eq_true hf⟩
  · exact absurd hf (by simp)
theorem rule_types : ∀ r ∈ kdRules, r.2.2.2.2 = -1 ∨ isTy r.2.2.2.2 = true := by decide
theorem ruleP_ty {x : List UInt8} {ts : List Int} (h : (ruleP x ts).2 = 0) : isTy (ruleP x ts).1 = true := by
  cases hf : kdFind x kdRules with
  | none => rw [ruleP_none hf] at h; exact absurd h (by decide)
  | some r =>
    cases ha : ts.all isTy with
    | false => rw [ruleP_bad hf ha] at h; exact absurd h (by decide)
    | true =>
      by_cases hl : ts.length = kdCnt r
      · rw [ruleP_rest hf ha hl] at h ⊢
        split at h
        · rename_i hk
          rw [if_pos hk]
          have hm := (kdFind_mem hf).1
          rw [kdMeant]
          rcases rule_types r hm with h1 | h1
          · rw [if_pos h1]
            obtain ⟨n, hn⟩ : ∃ n, ts.length = n + 1 := ⟨ts.length - 1, by have := (kdCnt_ok r hm).1; omega⟩
            rw [last_at hn]
            exact List.all_eq_true.1 ha _ (List.getElem_mem _)
          · split
            · rename_i h2; rw [h2] at h1; exact absurd h1 (by decide)
            · exact h1
        · exact absurd h (by decide)
      · rw [ruleP_len hf ha hl] at h; exact absurd h (by decide)
theorem ruleP_err {x : List UInt8} {ts : List Int} {r : KRule} (hf : kdFind x kdRules = some r) (ha : ts.all isTy = true) (hl : ts.length = kdCnt r) : (ruleP x ts).2 = 0 ∨ ruleP x ts = (0, 8) := by
  rw [ruleP_rest hf ha hl]
  split
  · exact .inl rfl
  · exact .inr rfl
theorem tyP_ty {zs : List (ByteArray × Int)} {y : Ex} (hn : nodeE y = 0) (hs : schE zs = 0) (h : (tyP zs y).2.1 = 0) : isTy (tyP zs y).1 = true := by
  cases y with
  | node op nm vt vn vs pos l =>
    by_cases h1 : op.data.toList = [118, 97, 108]
    · have hv : ckV vt vn vs.data.toList = 0 := (node_ok hn).2.2 (by show (op.toList == [118, 97, 108]) = true; rw [Lib.toList_data]; simpa using h1)
      rw [tyP, if_pos h1]
      rw [ckV] at hv
      split at hv
      · rename_i h2; exact absurd hv h2
      · rename_i h2
        have h3 : chk vt vn vs.data.toList = 0 := by simpa using h2
        rw [chk] at h3
        split at h3
        · exact absurd h3 (by decide)
        · rename_i h4
          rw [isTy]
          simp at h4 ⊢
          omega
    · by_cases h2 : op.data.toList = [99, 111, 108]
      · rw [tyP, if_neg h1, if_pos h2] at h ⊢
        split at h
        · exact absurd (show (5 : Int) = 0 from h) (by decide)
        · rename_i h3
          rw [if_neg h3]
          rcases findN_cases nm.data.toList zs with ⟨hh, _⟩ | ⟨k, hk, hkl, _⟩
          · exact absurd hh h3
          · have := (schE_zero hs).2.2 k hkl
            rw [hk]
            simp [hkl, isTy]
            omega
      · rw [tyP_op h1 h2] at h ⊢
        split at h
        · rename_i h3; exact absurd h h3
        · rename_i h3
          rw [if_neg h3]
          split at h
          · rename_i h4; exact absurd h h4
          · rename_i h4
            rw [if_neg h4]
            exact ruleP_ty (by simpa using h4)
/-- An operation with parts is no value and no column. -/
theorem op_parts {x : Ex} (h : ckP x = 0) (hl : x.args.length ≠ 0) : x.op.data.toList ≠ [118, 97, 108] ∧ x.op.data.toList ≠ [99, 111, 108] ∧ ∃ r, kdFind x.op.data.toList kdRules = some r ∧ kdCnt r = x.args.length := by
  have hn := (ckP_zero h).2 (x, 1) (by rw [pre_eq]; exact List.mem_cons_self ..)
  obtain ⟨h1, h2, _⟩ := node_ok hn
  simp only at h1 h2
  refine ⟨fun e => ?_, fun e => ?_, ?_⟩
  · rw [e] at h2; have : (apL [118, 97, 108] opsL).1 = 0 := by decide
    omega
  · rw [e] at h2; have : (apL [99, 111, 108] opsL).1 = 0 := by decide
    omega
  · obtain ⟨r, hr, hc⟩ := rule_of_op h1 (by omega)
    exact ⟨r, hr, by omega⟩
end Go.Proofs.YtkoejkpjkcejcaaGreatDoor
namespace Go.Proofs.YtkoejkpjkcejcaaGreatDoor
open Go.RowKit
set_option linter.unusedVariables false

theorem signs_0 (w : World) : Calls Tryz.prog 42 #[.int .i64 0] w fun e w' => e = .returned (.slice (some ⟨w.heap.size, 0, none⟩) 1 1) ∧ w' = w.alloc (.cells #[.string ⟨#[111, 114]⟩] 9) := by
  go_enter Tryz.func42, Tryz.ntmps42
  go_wp2
  go_ret
  exact ⟨rfl, rfl⟩
theorem signs_1 (w : World) : Calls Tryz.prog 42 #[.int .i64 1] w fun e w' => e = .returned (.slice (some ⟨w.heap.size, 0, none⟩) 1 1) ∧ w' = w.alloc (.cells #[.string ⟨#[97, 110, 100]⟩] 9) := by
  go_enter Tryz.func42, Tryz.ntmps42
  go_wp2
  go_ret
  exact ⟨rfl, rfl⟩
theorem signs_2 (w : World) : Calls Tryz.prog 42 #[.int .i64 2] w fun e w' => e = .returned (.slice (some ⟨w.heap.size, 0, none⟩) 6 6) ∧ w' = w.alloc (.cells #[.string ⟨#[61]⟩, .string ⟨#[60, 62]⟩, .string ⟨#[60]⟩, .string ⟨#[60, 61]⟩, .string ⟨#[62]⟩, .string ⟨#[62, 61]⟩] 9) := by
  go_enter Tryz.func42, Tryz.ntmps42
  go_wp2
  go_ret
  exact ⟨rfl, rfl⟩
theorem signs_3 (w : World) : Calls Tryz.prog 42 #[.int .i64 3] w fun e w' => e = .returned (.slice (some ⟨w.heap.size, 0, none⟩) 2 2) ∧ w' = w.alloc (.cells #[.string ⟨#[43]⟩, .string ⟨#[45]⟩] 9) := by
  go_enter Tryz.func42, Tryz.ntmps42
  go_wp2
  go_ret
  exact ⟨rfl, rfl⟩
theorem signs_4 (w : World) : Calls Tryz.prog 42 #[.int .i64 4] w fun e w' => e = .returned (.slice (some ⟨w.heap.size, 0, none⟩) 3 3) ∧ w' = w.alloc (.cells #[.string ⟨#[42]⟩, .string ⟨#[47]⟩, .string ⟨#[37]⟩] 9) := by
  go_enter Tryz.func42, Tryz.ntmps42
  go_wp2
  go_ret
  exact ⟨rfl, rfl⟩
/-- Does an operation stand among the signs of the levels? -/
def inSigns (l : List UInt8) : Bool := (sgl 0 ++ sgl 1 ++ sgl 2 ++ sgl 3 ++ sgl 4).any (· == l)
/-- How many parts an operation has; below 0: it is none. -/
def arityT (l : List UInt8) : Int :=
  if l = [99, 111, 108] ∨ l = [118, 97, 108] then 0
  else if l = [110, 111, 116] ∨ l = [110, 101, 103] ∨ l = [108, 101, 110] then 1
  else if l = [105, 102] then 3
  else if inSigns l = true then 2 else -1
/-- The same for every level, the texts in memory. -/
theorem signs_any (lv : Nat) (h : lv < 5) (w : World) : ∃ S : List ByteArray, S.map (·.data.toList) = sgl lv ∧ S.length ≤ 6 ∧ Calls Tryz.prog 42 #[.int .i64 (lv : Int)] w fun e w' => e = .returned (.slice (some ⟨w.heap.size, 0, none⟩) S.length S.length) ∧ (∀ j (hj : j < S.length), w'.cell? ⟨w.heap.size, j, none⟩ = some (.string S[j])) ∧ w.heap.size < w'.heap.size ∧ Below w.heap.size w w' := by
  have h : lv = 0 ∨ lv = 1 ∨ lv = 2 ∨ lv = 3 ∨ lv = 4 := by omega
  have fin : ∀ (S : List ByteArray) (F : Nat), (Calls Tryz.prog 42 #[.int .i64 (F : Int)] w fun e w' => e = .returned (.slice (some ⟨w.heap.size, 0, none⟩) S.length S.length) ∧ w' = w.alloc (.cells (S.map Value.string).toArray 9)) → Calls Tryz.prog 42 #[.int .i64 (F : Int)] w fun e w' => e = .returned (.slice (some ⟨w.heap.size, 0, none⟩) S.length S.length) ∧ (∀ j (hj : j < S.length), w'.cell? ⟨w.heap.size, j, none⟩ = some (.string S[j])) ∧ w.heap.size < w'.heap.size ∧ Below w.heap.size w w' := fun S F c => c.mono fun e w' hh => by
    obtain ⟨he, rfl⟩ := hh
    refine ⟨he, fun j hj => ?_, by simp, (Below.refl _ _).alloc (Nat.le_refl _) _⟩
    rw [World.cell?_alloc_at _ _ _ _ rfl]
    simp [hj]
  rcases h with rfl | rfl | rfl | rfl | rfl
  · exact ⟨[⟨#[111, 114]⟩], rfl, by decide, fin [⟨#[111, 114]⟩] 0 (signs_0 w)⟩
  · exact ⟨[⟨#[97, 110, 100]⟩], rfl, by decide, fin [⟨#[97, 110, 100]⟩] 1 (signs_1 w)⟩
  · exact ⟨[⟨#[61]⟩, ⟨#[60, 62]⟩, ⟨#[60]⟩, ⟨#[60, 61]⟩, ⟨#[62]⟩, ⟨#[62, 61]⟩], rfl, by decide, fin [⟨#[61]⟩, ⟨#[60, 62]⟩, ⟨#[60]⟩, ⟨#[60, 61]⟩, ⟨#[62]⟩, ⟨#[62, 61]⟩] 2 (signs_2 w)⟩
  · exact ⟨[⟨#[43]⟩, ⟨#[45]⟩], rfl, by decide, fin [⟨#[43]⟩, ⟨#[45]⟩] 3 (signs_3 w)⟩
  · exact ⟨[⟨#[42]⟩, ⟨#[47]⟩, ⟨#[37]⟩], rfl, by decide, fin [⟨#[42]⟩, ⟨#[47]⟩, ⟨#[37]⟩] 4 (signs_4 w)⟩
/-- Up to a level. -/
def upTo (lv : Nat) : List (List UInt8) := (List.range lv).flatMap sgl
theorem upTo_succ (lv : Nat) : upTo (lv + 1) = upTo lv ++ sgl lv := by simp [upTo, List.range_succ]
theorem upTo_all (l : List UInt8) : (upTo 5).any (· == l) = inSigns l := by
  rw [inSigns]
  rfl
set_option maxHeartbeats 8000000 in
set_option maxRecDepth 20000 in
theorem arity_late (s : ByteArray) (w : World) (h1 : s.data.toList ≠ [99, 111, 108]) (h2 : s.data.toList ≠ [118, 97, 108]) (h3 : s.data.toList ≠ [110, 111, 116]) (h4 : s.data.toList ≠ [110, 101, 103]) (h5 : s.data.toList ≠ [108, 101, 110]) (h6 : s.data.toList ≠ [105, 102]) :
    Calls Tryz.prog 49 #[.string s] w fun e w' => e = .returned (.int .i64 (if inSigns s.data.toList = true then 2 else -1)) ∧ Below w.heap.size w w' := by
  have q1 : (s.toList == [99, 111, 108]) = false := by rw [Lib.toList_data]; simpa using h1
  have q2 : (s.toList == [118, 97, 108]) = false := by rw [Lib.toList_data]; simpa using h2
  have q3 : (s.toList == [110, 111, 116]) = false := by rw [Lib.toList_data]; simpa using h3
  have q4 : (s.toList == [110, 101, 103]) = false := by rw [Lib.toList_data]; simpa using h4
  have q5 : (s.toList == [108, 101, 110]) = false := by rw [Lib.toList_data]; simpa using h5
  have q6 : (s.toList == [105, 102]) = false := by rw [Lib.toList_data]; simpa using h6
  clear h1 h2 h3 h4 h5 h6
  obtain ⟨Z, hZ⟩ : ∃ Z : Int, (if inSigns s.data.toList = true then 2 else -1) = Z := ⟨_, rfl⟩
  have HZ : Hid ((if inSigns s.data.toList = true then 2 else -1) = Z) := hZ
  rw [hZ]
  clear hZ
  go_enter Tryz.func49, Tryz.ntmps49
  go_wp2
  go_loopg [3, 4, 5] 5 (fun gg s3 _ _ wr => ∃ lv : Nat, lv ≤ 5 ∧ 5 - lv ≤ gg ∧ s3 = .int .i64 lv ∧ Aside (Below w.heap.size w wr) ∧ Hid ((upTo lv).any (· == s.data.toList) = false))
  case atStart => exact ⟨0, Nat.zero_le _, by omega, rfl, Below.refl _ _, rfl⟩
  case round =>
    obtain ⟨lv, hlv, hg, rfl, BW, HU⟩ := hrel
    by_cases hlt : lv < 5
    · have hltz : (lv : Int) < 5 := by omega
      obtain ⟨S, hS, hSl, cS⟩ := signs_any lv hlt wr
      have HSg : Hid (S.map (·.data.toList) = sgl lv) := hS
      clear hS
      go_wp2_with fail
      refine cS.mono ?_
      rintro e w1 ⟨rfl, hc, hgl, b1⟩
      have B1 := BW.out.trans (b1.mono BW.out.size)
      have HC : Hid (∀ j (hj : j < S.length), w1.cell? ⟨wr.heap.size, j, none⟩ = some (.string S[j])) := hc
      clear cS hc
      go_wp2
      go_loopg [5] S.length (fun gg s5 wx => ∃ kk : Nat, kk ≤ S.length ∧ S.length - kk ≤ gg ∧ s5 = .int .i64 kk ∧ wx = w1 ∧ Hid (((S.take kk).map (·.data.toList)).any (· == s.data.toList) = false))
      case atStart => exact ⟨0, Nat.zero_le _, by omega, rfl, rfl, rfl⟩
      case round =>
        obtain ⟨kk, hkk, hgk, rfl, rfl, HK⟩ := hrel
        by_cases hk : kk < S.length
        · have hkz : (kk : Int) < (S.length : Int) := by omega
          have k0 : (0 : Int) ≤ (kk : Int) := by omega
          have c0 := HC.out kk hk
          cases hb : S[kk].data.toList == s.data.toList
          · have hbt : (S[kk].toList == s.toList) = false := by rw [Lib.toList_data, Lib.toList_data]; exact hb
            have HK2 : Hid (((S.take (kk + 1)).map (·.data.toList)).any (· == s.data.toList) = false) := by
              show _ = _
              rw [List.take_succ_eq_append_getElem hk, List.map_append, List.any_append, HK.out]
              simp only [List.map_cons, List.map_nil, List.any_cons, List.any_nil, Bool.or_false, Bool.false_or]
              exact hb
            generalize S[kk] = y at c0 hbt
            clear hb HK
            go_wp2
            go_roundg (S.length - (kk + 1))
            case measure => omega
            case rel => exact ⟨kk + 1, by omega, by omega, by go_num, rfl, HK2⟩
          · have hbt : (S[kk].toList == s.toList) = true := by rw [Lib.toList_data, Lib.toList_data]; exact hb
            have hin : inSigns s.data.toList = true := by
              rw [← upTo_all, List.any_eq_true]
              refine ⟨S[kk].data.toList, ?_, hb⟩
              rw [upTo, List.mem_flatMap]
              exact ⟨lv, List.mem_range.2 hlt, by rw [← HSg.out]; exact List.mem_map.2 ⟨S[kk], List.getElem_mem hk, rfl⟩⟩
            have hz : 2 = Z := by have := HZ.out; rwa [if_pos hin] at this
            subst hz
            generalize S[kk] = y at c0 hbt
            clear hb HK hin
            go_wp2
            go_ret
            exact ⟨rfl, B1⟩
        · have hkz : ¬ (kk : Int) < (S.length : Int) := by omega
          have HU2 : Hid ((upTo (lv + 1)).any (· == s.data.toList) = false) := by
            show _ = _
            have h := HK.out
            rw [List.take_of_length_le (by omega), HSg.out] at h
            rw [upTo_succ, List.any_append, HU.out, h]; rfl
          clear HK
          go_wp2
          go_roundg (5 - (lv + 1))
          case measure => omega
          case rel => exact ⟨lv + 1, by omega, by omega, by go_num, B1, HU2⟩
    · have hltz : ¬ (lv : Int) < 5 := by omega
      have hlv5 : lv = 5 := by omega
      have hz : -1 = Z := by
        have h := HU.out
        rw [hlv5, upTo_all] at h
        have := HZ.out
        rwa [if_neg (by rw [h]; decide)] at this
      subst hz
      clear HU hlv5
      go_wp2
      go_ret
      exact ⟨rfl, BW.out⟩
set_option maxHeartbeats 1000000 in
theorem refArity_any (s : ByteArray) (w : World) :
    Calls Tryz.prog 49 #[.string s] w fun e w' => e = .returned (.int .i64 (arityT s.data.toList)) ∧ Below w.heap.size w w' := by
  by_cases h1 : s.data.toList = [99, 111, 108]
  · obtain rfl : s = ⟨#[99, 111, 108]⟩ := by have := congrArg List.toArray h1; cases s; simpa using this
    go_enter Tryz.func49, Tryz.ntmps49
    go_wp2
    go_ret
    exact ⟨rfl, Below.refl _ _⟩
  · by_cases h2 : s.data.toList = [118, 97, 108]
    · obtain rfl : s = ⟨#[118, 97, 108]⟩ := by have := congrArg List.toArray h2; cases s; simpa using this
      go_enter Tryz.func49, Tryz.ntmps49
      go_wp2
      go_ret
      exact ⟨rfl, Below.refl _ _⟩
    · by_cases h3 : s.data.toList = [110, 111, 116]
      · obtain rfl : s = ⟨#[110, 111, 116]⟩ := by have := congrArg List.toArray h3; cases s; simpa using this
        go_enter Tryz.func49, Tryz.ntmps49
        go_wp2
        go_ret
        exact ⟨rfl, Below.refl _ _⟩
      · by_cases h4 : s.data.toList = [110, 101, 103]
        · obtain rfl : s = ⟨#[110, 101, 103]⟩ := by have := congrArg List.toArray h4; cases s; simpa using this
          go_enter Tryz.func49, Tryz.ntmps49
          go_wp2
          go_ret
          exact ⟨rfl, Below.refl _ _⟩
        · by_cases h5 : s.data.toList = [108, 101, 110]
          · obtain rfl : s = ⟨#[108, 101, 110]⟩ := by have := congrArg List.toArray h5; cases s; simpa using this
            go_enter Tryz.func49, Tryz.ntmps49
            go_wp2
            go_ret
            exact ⟨rfl, Below.refl _ _⟩
          · by_cases h6 : s.data.toList = [105, 102]
            · obtain rfl : s = ⟨#[105, 102]⟩ := by have := congrArg List.toArray h6; cases s; simpa using this
              go_enter Tryz.func49, Tryz.ntmps49
              go_wp2
              go_ret
              exact ⟨rfl, Below.refl _ _⟩
            · have hA : arityT s.data.toList = if inSigns s.data.toList = true then 2 else -1 := by
                rw [arityT, if_neg (by simp [h1, h2]), if_neg (by simp [h3, h4, h5]), if_neg h6]
              rw [hA]
              exact arity_late s w h1 h2 h3 h4 h5 h6
end Go.Proofs.YtkoejkpjkcejcaaGreatDoor
namespace Go.Proofs.YtkoejkpjkcejcaaGreatDoor
open Go.RowKit Go.BigFrame
set_option linter.unusedVariables false

/-- The program's list of operations, and the document's Arity. -/
theorem arity_ops (x : List UInt8) : (apL x opsL).2 = decide (0 ≤ arityT x) ∧ (0 ≤ arityT x → (apL x opsL).1 = arityT x) := by
  by_cases h : x ∈ opsL.map (·.1)
  · have all : ∀ y ∈ opsL.map (·.1), (apL y opsL).2 = decide (0 ≤ arityT y) ∧ (0 ≤ arityT y → (apL y opsL).1 = arityT y) := by
      intro y hy
      simp only [opsL, List.map_cons, List.map_nil, List.mem_cons, List.not_mem_nil, or_false] at hy
      rcases hy with rfl | rfl | rfl | rfl | rfl | rfl | rfl | rfl | rfl | rfl | rfl | rfl | rfl | rfl | rfl | rfl | rfl | rfl | rfl <;> exact ⟨by decide, by decide⟩
    exact all x h
  · have hn : (apL x opsL).2 = false := by
      cases hf : (apL x opsL).2 with
      | false => rfl
      | true => exact absurd (List.mem_map.2 ⟨_, apL_mem hf, rfl⟩) h
    have ha : arityT x < 0 := by
      simp only [opsL, List.map_cons, List.map_nil, List.mem_cons, List.not_mem_nil, or_false, not_or] at h
      obtain ⟨n1, n2, n3, n4, n5, n6, n7, n8, n9, n10, n11, n12, n13, n14, n15, n16, n17, n18, n19⟩ := h
      unfold arityT
      rw [if_neg (by simp [n1, n2]), if_neg (by simp [n5, n17, n18]), if_neg n19]
      have hs : inSigns x = false := by
        unfold inSigns
        rw [Bool.eq_false_iff]
        intro ha
        rw [List.any_eq_true] at ha
        obtain ⟨y, hy, he⟩ := ha
        have he2 : y = x := by simpa using he
        subst he2
        simp [sgl] at hy
        rcases hy with h | h | h | h | h | h | h | h | h | h | h | h | h <;> simp_all
      rw [hs]
      decide
    exact ⟨by rw [hn]; symm; exact decide_eq_false (by omega), fun hh => by omega⟩
theorem size_pre : ∀ (x : Ex) (d : Nat), (x.pre d).length = x.size := by
  refine Ex.ind fun op nm vt vn vs pos l ih d => ?_
  rw [Ex.pre, Ex.size, List.length_cons]
  have : ∀ l : List Ex, (∀ y ∈ l, ∀ d, (y.pre d).length = y.size) → (Ex.pres (d + 1) l).length = Ex.sizes l := fun l => by
    induction l with
    | nil => intro _; rw [Ex.pres, Ex.sizes]; rfl
    | cons y ys ihl =>
      intro h
      rw [Ex.pres, Ex.sizes, List.length_append, h y (by simp), ihl fun z hz => h z (by simp [hz])]
  rw [this l ih]
  omega
theorem deep_pre : ∀ (x : Ex) (d m : Nat), (∀ q ∈ x.pre d, q.2 ≤ m) ↔ d + x.deep ≤ m + 1 := by
  refine Ex.ind fun op nm vt vn vs pos l ih d m => ?_
  have key : ∀ l : List Ex, (∀ y ∈ l, ∀ d m, (∀ q ∈ y.pre d, q.2 ≤ m) ↔ d + y.deep ≤ m + 1) → ((∀ q ∈ Ex.pres (d + 1) l, q.2 ≤ m) ↔ (l = [] ∨ d + 1 + Ex.deeps l ≤ m + 1)) := fun l => by
    induction l with
    | nil => intro _; rw [Ex.pres]; simp
    | cons y ys ihl =>
      intro h
      have i2 := ihl fun z hz => h z (by simp [hz])
      have hy := h y (by simp) (d + 1) m
      rw [Ex.pres, Ex.deeps]
      simp only [List.mem_append]
      constructor
      · intro hq
        have a1 := hy.1 fun q hq2 => hq q (.inl hq2)
        have a2 := i2.1 fun q hq2 => hq q (.inr hq2)
        right
        rcases a2 with rfl | a2
        · rw [Ex.deeps]; omega
        · omega
      · intro hq q hq2
        have hq3 : d + 1 + max y.deep (Ex.deeps ys) ≤ m + 1 := by simpa using hq
        rcases hq2 with hq2 | hq2
        · exact hy.2 (by omega) q hq2
        · exact i2.2 (.inr (by omega)) q hq2
  rw [Ex.pre, Ex.deep]
  have k := key l ih
  constructor
  · intro h
    have h0 := h _ (List.mem_cons_self ..)
    simp only at h0
    have h1 := k.1 fun q hq => h q (List.mem_cons_of_mem _ hq)
    rcases h1 with rfl | h1
    · rw [Ex.deeps]; omega
    · omega
  · intro h q hq
    rcases List.mem_cons.1 hq with rfl | hq
    · simp only; omega
    · exact k.2 (.inr (by omega)) q hq
/-- Too great, as the document says it. -/
theorem tg_small (x : Ex) : tgB x = !x.small := by
  have h := fold_tg (x.pre 1) 0
  rw [tgB, Ex.small]
  congr 1
  rw [Bool.eq_iff_iff, h, Bool.and_eq_true, decide_eq_true_eq, decide_eq_true_eq, size_pre, deep_pre]
  have hp : 1 ≤ x.size := by rw [← size_pre x 1, pre_eq]; simp
  constructor
  · rintro ⟨h1, h2⟩
    refine ⟨?_, by omega⟩
    rcases h1 with h1 | h1
    · have := congrArg List.length h1
      rw [size_pre] at this
      simp at this
      omega
    · omega
  · rintro ⟨h1, h2⟩
    exact ⟨.inr (by omega), by omega⟩
end Go.Proofs.YtkoejkpjkcejcaaGreatDoor
namespace Go.Proofs.YtkoejkpjkcejcaaGreatDoor
open Go.RowKit Go.BigFrame
set_option linter.unusedVariables false

theorem tg_size {x : Ex} (h : tgB x = false) : (x.pre 1).length ≤ 200 := by
  rw [tg_small] at h
  have h2 : x.small = true := by simpa using h
  rw [Ex.small, Bool.and_eq_true, decide_eq_true_eq, decide_eq_true_eq] at h2
  rw [size_pre]
  exact h2.1
set_option maxHeartbeats 4000000 in
set_option maxRecDepth 20000 in
theorem treePrint_any (x : Ex) (lo : Nat → Prop) (v : Value) (w : World) (henv : TEnv w) (hE : ∀ W, Below w.heap.size w W → Env W) (hx : ExIn w lo v x) (hsz : (x.pre 1).length ≤ 1048576) (hxb : ∀ q ∈ x.pre 1, inI q.1.vn) (X : ByteArray) (K : Int) (hK : ckP x = K) (hX : X.data.toList = if ckP x = 0 then txP x else []) :
    Calls Tryz.prog 13 #[v] w fun e w' => e = .returned (.tuple #[.string X, errV K]) ∧ Below w.heap.size w w' := by
  obtain ⟨o1, n1, t1, k1, s1, p1, m1, c1, a1, rfl⟩ := hx.agg
  have hx2 : ExIn w (fun b => lo b ∧ b < w.heap.size) _ x := ExIn.low (fun b h1 h2 => ⟨h2, h1⟩) _ _ hx
  have b1 : Below w.heap.size w (w.alloc (.cells #[.string o1, .string n1, .int .i64 t1, .int .i64 k1, .string s1, .slice p1 m1 c1, .int .i64 a1] 26)) := (Below.refl _ w).alloc (Nat.le_refl _) _
  have cC := check_tree x lo _ _ (henv.on b1) (hx.on b1) hsz
  have hBk : Hid (∀ W, Below (w.heap.size + 1) (w.alloc (.cells #[.string o1, .string n1, .int .i64 t1, .int .i64 k1, .string s1, .slice p1 m1 c1, .int .i64 a1] 26)) W → (∀ i, W.cell? ⟨w.heap.size, i, none⟩ = (#[.string o1, .string n1, .int .i64 t1, .int .i64 k1, .string s1, .slice p1 m1 c1, .int .i64 a1] : Array Value)[i]?) ∧ w.heap.size < W.heap.size ∧ Below w.heap.size w W) := fun W hb => by
    have h1 := hb.block w.heap.size (Nat.lt_succ_self _)
    rw [heap_alloc_new] at h1
    exact ⟨fun i => Lib.cell_of_heap h1 i, (Array.getElem?_eq_some_iff.1 h1).1, b1.trans (hb.mono (Nat.le_succ _))⟩
  rw [hK] at cC hX
  by_cases h0 : K = 0
  · rw [h0, show errV 0 = .nilIface from rfl] at cC
    rw [if_pos h0] at hX
    obtain ⟨htg, hnd⟩ := ckP_zero (hK.trans h0)
    have hl : (txP x).length ≤ 20000 := by
      have h1 := tx_len x 1 hnd hxb
      have h2 := tg_size htg
      omega
    have cW := write_any x 1 hnd hxb
    have HX : Hid (X.data.toList = txP x) := hX
    subst h0
    clear hX hK hnd hxb htg
    go_enter Tryz.func13, Tryz.ntmps13
    go_wp2_with fail
    refine cC.mono ?_
    rintro e w1 ⟨rfl, b2⟩
    have B2 := b2.mono (show w.heap.size + 1 ≤ _ by simp)
    obtain ⟨hB, hl1, bw1⟩ := hBk.out w1 B2
    have g0 : w1.cell? ⟨w.heap.size, 0, none⟩ = some (.string o1) := hB 0
    have g1 : w1.cell? ⟨w.heap.size, 1, none⟩ = some (.string n1) := hB 1
    have g2 : w1.cell? ⟨w.heap.size, 2, none⟩ = some (.int .i64 t1) := hB 2
    have g3 : w1.cell? ⟨w.heap.size, 3, none⟩ = some (.int .i64 k1) := hB 3
    have g4 : w1.cell? ⟨w.heap.size, 4, none⟩ = some (.string s1) := hB 4
    have g5 : w1.cell? ⟨w.heap.size, 5, none⟩ = some (.slice p1 m1 c1) := hB 5
    have g6 : w1.cell? ⟨w.heap.size, 6, none⟩ = some (.int .i64 a1) := hB 6
    have hbb : IsB w1.heap.size w1.heap.size [] (w1.alloc (.cells #[.pointer none, .slice none 0 0] 71)) := Lib.fresh_isBuilder 71 5 w1
    have bw2 : Below w.heap.size w (w1.alloc (.cells #[.pointer none, .slice none 0 0] 71)) := bw1.alloc bw1.size _
    have cW2 := cW w1.heap.size w1.heap.size (fun b => lo b ∧ b < w.heap.size) _ [] _ (fun W hW => hE W (bw2.trans (hW.mono bw1.size))) (fun k hk => by have := bw1.size; omega) (hx2.on bw2) hbb (by simp; omega)
    clear cC cW b2 hB
    go_wp2_with fail
    refine cW2.mono ?_
    rintro e w3 ⟨rfl, hb3, k3w⟩
    have B3 := bw2.trans (k3w.1.mono bw1.size)
    have hz3 := hb3.lt
    rw [List.nil_append] at hb3
    clear k3w cW2 g0 g1 g2 g3 g4 g5 g6 hbb
    go_wp2_with fail
    refine (Tryz.Builder_String_any w1.heap.size w1.heap.size (txP x) _ hb3 (by omega)).mono ?_
    rintro e w4 ⟨rfl, b4⟩
    have B4 := B3.trans (b4.mono bw1.size)
    have hXe : (⟨(txP x).toArray⟩ : ByteArray) = X := by
      apply ByteArray.ext
      apply Array.toList_inj.1
      rw [HX.out]
    rw [hXe]
    clear hXe b4 hb3
    go_wp2
    go_ret2
    exact ⟨rfl, B4⟩
  · rw [if_neg h0] at hX
    obtain rfl : X = ⟨#[]⟩ := by
      apply ByteArray.ext
      apply Array.toList_inj.1
      rw [hX]
    have hve : errV K = .iface 29 (.int .i64 K) := by rw [errV, if_neg h0]
    rw [hve] at cC ⊢
    clear hX hK hxb hve
    go_enter Tryz.func13, Tryz.ntmps13
    go_wp2_with fail
    refine cC.mono ?_
    rintro e w1 ⟨rfl, b2⟩
    have B2 := (hBk.out w1 (b2.mono (show w.heap.size + 1 ≤ _ by simp))).2.2
    clear b2 cC
    go_wp2
    go_ret2
    exact ⟨rfl, B2⟩
end Go.Proofs.YtkoejkpjkcejcaaGreatDoor
namespace Go.Proofs.YtkoejkpjkcejcaaGreatDoor
set_option linter.unusedVariables false

/-- Words one behind the other, one between. -/
def tkI (sep : List UInt8) : List (List (List UInt8)) → List (List UInt8)
  | [] => []
  | [t] => t
  | t :: u :: ts => t ++ sep :: tkI sep (u :: ts)
mutual
/-- The words of an expression's text. -/
def tkP : Ex → List (List UInt8)
  | .node op nm vt vn vs _ l =>
    if op.data.toList = [118, 97, 108] then [prS vt vn vs.data.toList]
    else if op.data.toList = [99, 111, 108] then [nm.data.toList]
    else if op.data.toList = [108, 101, 110] ∨ op.data.toList = [105, 102] then op.data.toList :: [40] :: (tkI [44] (tksP l) ++ [[41]])
    else if op.data.toList = [110, 111, 116] then [40] :: [110, 111, 116] :: ((tksP l).headD [] ++ [[41]])
    else if op.data.toList = [110, 101, 103] then [40] :: [45] :: ((tksP l).headD [] ++ [[41]])
    else [40] :: (tkI op.data.toList (tksP l) ++ [[41]])
def tksP : List Ex → List (List (List UInt8))
  | [] => []
  | x :: xs => tkP x :: tksP xs
end
theorem tksP_map : ∀ l : List Ex, tksP l = l.map tkP
  | [] => by rw [tksP]; rfl
  | x :: xs => by rw [tksP, tksP_map xs]; rfl
def Tx (ts : List Tok) : List (List UInt8) := ts.map fun t => t.2.1.data.toList
theorem Tx_cons {ts : List Tok} {a : List UInt8} {B : List (List UInt8)} (h : Tx ts = a :: B) : ∃ t r, ts = t :: r ∧ t.2.1.data.toList = a ∧ Tx r = B := by
  cases ts with
  | nil => simp [Tx] at h
  | cons t r =>
    simp only [Tx, List.map_cons, List.cons.injEq] at h
    exact ⟨t, r, rfl, h.1, h.2⟩
theorem Tx_app {ts : List Tok} {A B : List (List UInt8)} (h : Tx ts = A ++ B) : ∃ a b, ts = a ++ b ∧ Tx a = A ∧ Tx b = B := by
  obtain ⟨a, b, h1, h2, h3⟩ := List.map_eq_append_iff.1 h
  exact ⟨a, b, h1, h2, h3⟩
/-- The signs between two, by levels. -/
def gsA : Nat → List (List UInt8)
  | 0 => [[111, 114]]
  | 1 => [[97, 110, 100]]
  | 3 => cmpL
  | 4 => [[43], [45]]
  | 5 => [[42], [47], [37]]
  | _ => []
/-- What must be so for a level to hand on what the next one reads. -/
def Cnd (ts r : List Tok) (L : Nat) : Prop := if L = 2 then nxT (sgT [[110, 111, 116]]) ts = none else if L = 6 then nxT (sgT [[45]]) ts = none else nxT (sgT (gsA L)) r = none
theorem uSev_stop {sub : List Tok → Option Ex × List Tok} {gs : List (List UInt8)} {ts r : List Tok} {e : Ex} (h : sub ts = (some e, r)) (hn : nxT (sgT gs) r = none) : uSev sub gs ts = (some e, r) := by
  rw [uSev, h]
  simp only
  rw [uLoop, hn]
theorem uSev_one {sub : List Tok → Option Ex × List Tok} {gs : List (List UInt8)} {ts r r2 : List Tok} {t : Tok} {a b : Ex} (h : sub ts = (some a, t :: r)) (ht : sgT gs t = true) (h2 : sub r = (some b, r2)) (hn : nxT (sgT gs) r2 = none) : uSev sub gs ts = (some (betT a t b), r2) := by
  rw [uSev, h]
  simp only
  rw [uLoop, nxT, if_pos ht]
  simp only
  rw [h2]
  simp only [List.length_cons]
  rw [uLoop, hn]
theorem uE_step {f L : Nat} {ts r : List Tok} {e : Ex} (hL : L < 7) (h : uE f (L + 1) ts = (some e, r)) (hc : Cnd ts r L) : uE (f + 1) L ts = (some e, r) := by
  have hL' : L = 0 ∨ L = 1 ∨ L = 2 ∨ L = 3 ∨ L = 4 ∨ L = 5 ∨ L = 6 := by omega
  rcases hL' with rfl | rfl | rfl | rfl | rfl | rfl | rfl
  · rw [uE]; exact uSev_stop h hc
  · rw [uE]; exact uSev_stop h hc
  · rw [uE]
    rw [uAhead, show nxT (sgT [[110, 111, 116]]) ts = none from hc]
    exact h
  · rw [uE]
    rw [uCmp, h]
    simp only
    rw [show nxT (sgT cmpL) r = none from hc]
  · rw [uE]; exact uSev_stop h hc
  · rw [uE]; exact uSev_stop h hc
  · rw [uE]
    rw [uAhead, show nxT (sgT [[45]]) ts = none from hc]
    exact h
theorem uE_lift {ts r : List Tok} {e : Ex} : ∀ (d f L : Nat), L + d ≤ 7 → uE f (L + d) ts = (some e, r) → (∀ l, L ≤ l → l < L + d → Cnd ts r l) → uE (f + d) L ts = (some e, r)
  | 0, f, L, _, h, _ => h
  | d + 1, f, L, hL, h, hc => by
    have h1 := uE_lift d f (L + 1) (by omega) (by rw [show L + 1 + d = L + (d + 1) from by omega]; exact h) (fun l h1 h2 => hc l (by omega) (by omega))
    exact uE_step (by omega) h1 (hc L (Nat.le_refl _) (by omega))
/-- Ahead of a bracket that shuts, or a comma, every level hands on. -/
theorem cnd_close {ts r : List Tok} {c : Tok} (hm : nxT (sgT [[45]]) ts = none) (hn : nxT (sgT [[110, 111, 116]]) ts = none) (hc : c.2.1.data.toList = [41] ∨ c.2.1.data.toList = [44]) (L : Nat) (hL : L < 7) : Cnd ts (c :: r) L := by
  have hL' : L = 0 ∨ L = 1 ∨ L = 2 ∨ L = 3 ∨ L = 4 ∨ L = 5 ∨ L = 6 := by omega
  rcases hL' with rfl | rfl | rfl | rfl | rfl | rfl | rfl
  · simp only [Cnd, nxT, sgT, gsA]; rcases hc with h | h <;> rw [h] <;> rfl
  · simp only [Cnd, nxT, sgT, gsA]; rcases hc with h | h <;> rw [h] <;> rfl
  · exact hn
  · simp only [Cnd, nxT, sgT, gsA, cmpL]; rcases hc with h | h <;> rw [h] <;> rfl
  · simp only [Cnd, nxT, sgT, gsA]; rcases hc with h | h <;> rw [h] <;> rfl
  · simp only [Cnd, nxT, sgT, gsA]; rcases hc with h | h <;> rw [h] <;> rfl
  · exact hm
/-- The level of a sign between two. -/
def lvO (op : List UInt8) : Nat := if op = [111, 114] then 0 else if op = [97, 110, 100] then 1 else if cmpL.contains op = true then 3 else if op = [43] ∨ op = [45] then 4 else 5
def bin14 : List (List UInt8) := [[111, 114], [97, 110, 100], [61], [60, 62], [60], [60, 61], [62], [62, 61], [43], [45], [42], [47], [37]]
theorem cnd_op {ts r : List Tok} {c : Tok} {op : List UInt8} (hm : nxT (sgT [[45]]) ts = none) (hn : nxT (sgT [[110, 111, 116]]) ts = none) (hop : op ∈ bin14) (hc : c.2.1.data.toList = op) (L : Nat) (hL : L < 7) (hlv : lvO op < L) : Cnd ts (c :: r) L := by
  have hL' : L = 0 ∨ L = 1 ∨ L = 2 ∨ L = 3 ∨ L = 4 ∨ L = 5 ∨ L = 6 := by omega
  simp only [bin14, List.mem_cons, List.not_mem_nil, or_false] at hop
  rcases hop with rfl | rfl | rfl | rfl | rfl | rfl | rfl | rfl | rfl | rfl | rfl | rfl | rfl
  all_goals
    rcases hL' with rfl | rfl | rfl | rfl | rfl | rfl | rfl
  all_goals
    first
    | exact hn
    | exact hm
    | exact absurd hlv (by decide)
    | (simp only [Cnd, nxT, sgT, gsA, cmpL]; rw [hc]; rfl)
theorem lvO_cases {op : List UInt8} (hop : op ∈ bin14) : (lvO op = 0 ∨ lvO op = 1 ∨ lvO op = 3 ∨ lvO op = 4 ∨ lvO op = 5) ∧ (gsA (lvO op)).contains op = true := by
  simp only [bin14, List.mem_cons, List.not_mem_nil, or_false] at hop
  rcases hop with rfl | rfl | rfl | rfl | rfl | rfl | rfl | rfl | rfl | rfl | rfl | rfl | rfl <;> decide
/-- Two with a sign between, ahead of a bracket that shuts. -/
theorem uE_bin {f : Nat} {ta tb r : List Tok} {t c : Tok} {a b : Ex} {op : List UInt8} (hop : op ∈ bin14) (ht : t.2.1.data.toList = op) (hc : c.2.1.data.toList = [41] ∨ c.2.1.data.toList = [44])
    (ha : ∀ f', f ≤ f' → uE f' 7 (ta ++ t :: (tb ++ c :: r)) = (some a, t :: (tb ++ c :: r))) (hb : ∀ f', f ≤ f' → uE f' 7 (tb ++ c :: r) = (some b, c :: r))
    (hma : nxT (sgT [[45]]) (ta ++ t :: (tb ++ c :: r)) = none) (hna : nxT (sgT [[110, 111, 116]]) (ta ++ t :: (tb ++ c :: r)) = none)
    (hmb : nxT (sgT [[45]]) (tb ++ c :: r) = none) (hnb : nxT (sgT [[110, 111, 116]]) (tb ++ c :: r) = none) (g : Nat) (hg : f + 7 ≤ g) :
    uE g 0 (ta ++ t :: (tb ++ c :: r)) = (some (betT a t b), c :: r) := by
  obtain ⟨hl, hin⟩ := lvO_cases hop
  have hst : sgT (gsA (lvO op)) t = true := by
    rw [sgT, List.any_eq_true]
    refine ⟨op, by simpa using hin, ?_⟩
    rw [ht]; simp
  have hstop : nxT (sgT (gsA (lvO op))) (c :: r) = none := by
    have := cnd_close (r := r) hmb hnb hc (lvO op) (by omega)
    rw [Cnd, if_neg (by omega), if_neg (by omega)] at this
    exact this
  -- at the level of the sign, with fuel g - lvO
  have h1 : uE (g - lvO op - 1) (lvO op + 1) (ta ++ t :: (tb ++ c :: r)) = (some a, t :: (tb ++ c :: r)) := by
    have := uE_lift (7 - (lvO op + 1)) (g - lvO op - 1 - (7 - (lvO op + 1))) (lvO op + 1) (by omega) (by rw [show lvO op + 1 + (7 - (lvO op + 1)) = 7 from by omega]; exact ha _ (by omega)) (fun l h1 h2 => cnd_op hma hna hop ht l (by omega) (by omega))
    rwa [show g - lvO op - 1 - (7 - (lvO op + 1)) + (7 - (lvO op + 1)) = g - lvO op - 1 from by omega] at this
  have h2 : uE (g - lvO op - 1) (lvO op + 1) (tb ++ c :: r) = (some b, c :: r) := by
    have := uE_lift (7 - (lvO op + 1)) (g - lvO op - 1 - (7 - (lvO op + 1))) (lvO op + 1) (by omega) (by rw [show lvO op + 1 + (7 - (lvO op + 1)) = 7 from by omega]; exact hb _ (by omega)) (fun l h1 h2 => cnd_close hmb hnb hc l (by omega))
    rwa [show g - lvO op - 1 - (7 - (lvO op + 1)) + (7 - (lvO op + 1)) = g - lvO op - 1 from by omega] at this
  have h3 : uE (g - lvO op) (lvO op) (ta ++ t :: (tb ++ c :: r)) = (some (betT a t b), c :: r) := by
    rw [show g - lvO op = g - lvO op - 1 + 1 from by omega]
    generalize g - lvO op - 1 = q at h1 h2
    generalize lvO op = L at *
    rcases hl with rfl | rfl | rfl | rfl | rfl
    · rw [uE]; exact uSev_one h1 hst h2 hstop
    · rw [uE]; exact uSev_one h1 hst h2 hstop
    · rw [uE, uCmp, h1]
      simp only
      rw [nxT, if_pos (show sgT cmpL t = true from hst)]
      simp only
      rw [h2]
    · rw [uE]; exact uSev_one h1 hst h2 hstop
    · rw [uE]; exact uSev_one h1 hst h2 hstop
  have h4 := uE_lift (lvO op) (g - lvO op) 0 (by omega) (by rw [Nat.zero_add]; exact h3) (fun l h1 h2 => cnd_close hma hna hc l (by omega))
  rwa [show g - lvO op + lvO op = g from by omega] at h4
/-- One of a sign ahead, ahead of a bracket that shuts. -/
theorem uE_not {f : Nat} {tb r : List Tok} {t c : Tok} {b : Ex} (ht : t.2.1.data.toList = [110, 111, 116]) (hc : c.2.1.data.toList = [41] ∨ c.2.1.data.toList = [44])
    (hb : ∀ f', f ≤ f' → uE f' 7 (tb ++ c :: r) = (some b, c :: r)) (hmb : nxT (sgT [[45]]) (tb ++ c :: r) = none) (hnb : nxT (sgT [[110, 111, 116]]) (tb ++ c :: r) = none) (g : Nat) (hg : f + 8 ≤ g) :
    uE g 0 (t :: (tb ++ c :: r)) = (some (op1 [110, 111, 116] (t.2.2 : Int) [b]), c :: r) := by
  have h1 : uE (g - 3) 2 (tb ++ c :: r) = (some b, c :: r) := by
    have := uE_lift 5 (g - 8) 2 (by omega) (hb _ (by omega)) (fun l h1 h2 => cnd_close hmb hnb hc l (by omega))
    rwa [show g - 8 + 5 = g - 3 from by omega] at this
  have h2 : uE (g - 2) 2 (t :: (tb ++ c :: r)) = (some (op1 [110, 111, 116] (t.2.2 : Int) [b]), c :: r) := by
    rw [show g - 2 = g - 3 + 1 from by omega, uE, uAhead, nxT, if_pos (by simp [sgT, ht])]
    simp only
    rw [h1]
  have hstop : ∀ l, l < 2 → Cnd (t :: (tb ++ c :: r)) (c :: r) l := fun l hl => by
    have := cnd_close (ts := tb ++ c :: r) (r := r) hmb hnb hc l (by omega)
    rw [Cnd, if_neg (by omega), if_neg (by omega)] at this ⊢
    exact this
  have h3 := uE_lift 2 (g - 2) 0 (by omega) h2 (fun l h1 h2 => hstop l (by omega))
  rwa [show g - 2 + 2 = g from by omega] at h3
theorem uE_neg {f : Nat} {tb r : List Tok} {t c : Tok} {b : Ex} (ht : t.2.1.data.toList = [45]) (hc : c.2.1.data.toList = [41] ∨ c.2.1.data.toList = [44])
    (hb : ∀ f', f ≤ f' → uE f' 7 (tb ++ c :: r) = (some b, c :: r)) (hmb : nxT (sgT [[45]]) (tb ++ c :: r) = none) (hnb : nxT (sgT [[110, 111, 116]]) (tb ++ c :: r) = none) (g : Nat) (hg : f + 8 ≤ g) :
    uE g 0 (t :: (tb ++ c :: r)) = (some (op1 [110, 101, 103] (t.2.2 : Int) [b]), c :: r) := by
  have h1 : uE (g - 7) 6 (tb ++ c :: r) = (some b, c :: r) := by
    have := uE_lift 1 (g - 8) 6 (by omega) (hb _ (by omega)) (fun l h1 h2 => cnd_close hmb hnb hc l (by omega))
    rwa [show g - 8 + 1 = g - 7 from by omega] at this
  have h2 : uE (g - 6) 6 (t :: (tb ++ c :: r)) = (some (op1 [110, 101, 103] (t.2.2 : Int) [b]), c :: r) := by
    rw [show g - 6 = g - 7 + 1 from by omega, uE, uAhead, nxT, if_pos (by simp [sgT, ht])]
    simp only
    rw [h1]
  have hn2 : nxT (sgT [[110, 111, 116]]) (t :: (tb ++ c :: r)) = none := by simp [nxT, sgT, ht]
  have hstop : ∀ l, l < 6 → Cnd (t :: (tb ++ c :: r)) (c :: r) l := fun l hl => by
    by_cases h2 : l = 2
    · subst h2; exact hn2
    · have := cnd_close (ts := tb ++ c :: r) (r := r) hmb hnb hc l (by omega)
      rw [Cnd, if_neg h2, if_neg (by omega)] at this ⊢
      exact this
  have h3 := uE_lift 6 (g - 6) 0 (by omega) h2 (fun l h1 h2 => hstop l (by omega))
  rwa [show g - 6 + 6 = g from by omega] at h3
end Go.Proofs.YtkoejkpjkcejcaaGreatDoor
