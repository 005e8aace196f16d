/-
  The document's signs of a level, and how many parts an operation has (package sluiceref1: signs, Arity).
-/
import Derived.Test.YtnpinbpjfngknaaDoorVal1
import Derived.Laws.RangeAny
import Derived.Deep.DeepCutAuto
import Derived.RowKitTokens
import Derived.Deep.LoopGhost
import Derived.WalkSmall
namespace Go.Proofs.YtnpinbpjfngknaaDoor
open Go.RowKit
set_option linter.unusedVariables false

/-- The signs of a level. -/
def sgl (lv : Nat) : List (List UInt8) := match lv with
  | 0 => [[111, 114]]
  | 1 => [[97, 110, 100]]
  | 2 => [[61], [60, 62], [60], [60, 61], [62], [62, 61]]
  | 3 => [[43], [45]]
  | 4 => [[42], [47], [37]]
  | _ => []
theorem signs_0 (w : World) : Calls Tryd.prog 22 #[.int .i64 0] w fun e w' => e = .returned (.slice (some ⟨w.heap.size, 0, none⟩) 1 1) ∧ w' = w.alloc (.cells #[.string ⟨#[111, 114]⟩] 9) := by
  go_enter Tryd.func22, Tryd.ntmps22
  go_wp2
  go_ret
  exact ⟨rfl, rfl⟩
theorem signs_1 (w : World) : Calls Tryd.prog 22 #[.int .i64 1] w fun e w' => e = .returned (.slice (some ⟨w.heap.size, 0, none⟩) 1 1) ∧ w' = w.alloc (.cells #[.string ⟨#[97, 110, 100]⟩] 9) := by
  go_enter Tryd.func22, Tryd.ntmps22
  go_wp2
  go_ret
  exact ⟨rfl, rfl⟩
theorem signs_2 (w : World) : Calls Tryd.prog 22 #[.int .i64 2] w fun e w' => e = .returned (.slice (some ⟨w.heap.size, 0, none⟩) 6 6) ∧ w' = w.alloc (.cells #[.string ⟨#[61]⟩, .string ⟨#[60, 62]⟩, .string ⟨#[60]⟩, .string ⟨#[60, 61]⟩, .string ⟨#[62]⟩, .string ⟨#[62, 61]⟩] 9) := by
  go_enter Tryd.func22, Tryd.ntmps22
  go_wp2
  go_ret
  exact ⟨rfl, rfl⟩
theorem signs_3 (w : World) : Calls Tryd.prog 22 #[.int .i64 3] w fun e w' => e = .returned (.slice (some ⟨w.heap.size, 0, none⟩) 2 2) ∧ w' = w.alloc (.cells #[.string ⟨#[43]⟩, .string ⟨#[45]⟩] 9) := by
  go_enter Tryd.func22, Tryd.ntmps22
  go_wp2
  go_ret
  exact ⟨rfl, rfl⟩
theorem signs_4 (w : World) : Calls Tryd.prog 22 #[.int .i64 4] w fun e w' => e = .returned (.slice (some ⟨w.heap.size, 0, none⟩) 3 3) ∧ w' = w.alloc (.cells #[.string ⟨#[42]⟩, .string ⟨#[47]⟩, .string ⟨#[37]⟩] 9) := by
  go_enter Tryd.func22, Tryd.ntmps22
  go_wp2
  go_ret
  exact ⟨rfl, rfl⟩
/-- Does an operation stand among the signs of the levels? -/
def inSigns (l : List UInt8) : Bool := (sgl 0 ++ sgl 1 ++ sgl 2 ++ sgl 3 ++ sgl 4).any (· == l)
/-- How many parts an operation has; below 0: it is none. -/
def arityT (l : List UInt8) : Int :=
  if l = [99, 111, 108] ∨ l = [118, 97, 108] then 0
  else if l = [110, 111, 116] ∨ l = [110, 101, 103] ∨ l = [108, 101, 110] then 1
  else if l = [105, 102] then 3
  else if inSigns l = true then 2 else -1
/-- The same for every level, the texts in memory. -/
theorem signs_any (lv : Nat) (h : lv < 5) (w : World) : ∃ S : List ByteArray, S.map (·.data.toList) = sgl lv ∧ S.length ≤ 6 ∧ Calls Tryd.prog 22 #[.int .i64 (lv : Int)] w fun e w' => e = .returned (.slice (some ⟨w.heap.size, 0, none⟩) S.length S.length) ∧ (∀ j (hj : j < S.length), w'.cell? ⟨w.heap.size, j, none⟩ = some (.string S[j])) ∧ w.heap.size < w'.heap.size ∧ Below w.heap.size w w' := by
  have h : lv = 0 ∨ lv = 1 ∨ lv = 2 ∨ lv = 3 ∨ lv = 4 := by omega
  have fin : ∀ (S : List ByteArray) (F : Nat), (Calls Tryd.prog 22 #[.int .i64 (F : Int)] w fun e w' => e = .returned (.slice (some ⟨w.heap.size, 0, none⟩) S.length S.length) ∧ w' = w.alloc (.cells (S.map Value.string).toArray 9)) → Calls Tryd.prog 22 #[.int .i64 (F : Int)] w fun e w' => e = .returned (.slice (some ⟨w.heap.size, 0, none⟩) S.length S.length) ∧ (∀ j (hj : j < S.length), w'.cell? ⟨w.heap.size, j, none⟩ = some (.string S[j])) ∧ w.heap.size < w'.heap.size ∧ Below w.heap.size w w' := fun S F c => c.mono fun e w' hh => by
    obtain ⟨he, rfl⟩ := hh
    refine ⟨he, fun j hj => ?_, by simp, (Below.refl _ _).alloc (Nat.le_refl _) _⟩
    rw [World.cell?_alloc_at _ _ _ _ rfl]
    simp [hj]
  rcases h with rfl | rfl | rfl | rfl | rfl
  · exact ⟨[⟨#[111, 114]⟩], rfl, by decide, fin [⟨#[111, 114]⟩] 0 (signs_0 w)⟩
  · exact ⟨[⟨#[97, 110, 100]⟩], rfl, by decide, fin [⟨#[97, 110, 100]⟩] 1 (signs_1 w)⟩
  · exact ⟨[⟨#[61]⟩, ⟨#[60, 62]⟩, ⟨#[60]⟩, ⟨#[60, 61]⟩, ⟨#[62]⟩, ⟨#[62, 61]⟩], rfl, by decide, fin [⟨#[61]⟩, ⟨#[60, 62]⟩, ⟨#[60]⟩, ⟨#[60, 61]⟩, ⟨#[62]⟩, ⟨#[62, 61]⟩] 2 (signs_2 w)⟩
  · exact ⟨[⟨#[43]⟩, ⟨#[45]⟩], rfl, by decide, fin [⟨#[43]⟩, ⟨#[45]⟩] 3 (signs_3 w)⟩
  · exact ⟨[⟨#[42]⟩, ⟨#[47]⟩, ⟨#[37]⟩], rfl, by decide, fin [⟨#[42]⟩, ⟨#[47]⟩, ⟨#[37]⟩] 4 (signs_4 w)⟩
/-- Up to a level. -/
def upTo (lv : Nat) : List (List UInt8) := (List.range lv).flatMap sgl
theorem upTo_succ (lv : Nat) : upTo (lv + 1) = upTo lv ++ sgl lv := by simp [upTo, List.range_succ]
theorem upTo_all (l : List UInt8) : (upTo 5).any (· == l) = inSigns l := by
  rw [inSigns]
  rfl
set_option maxHeartbeats 8000000 in
set_option maxRecDepth 20000 in
theorem arity_late (s : ByteArray) (w : World) (h1 : s.data.toList ≠ [99, 111, 108]) (h2 : s.data.toList ≠ [118, 97, 108]) (h3 : s.data.toList ≠ [110, 111, 116]) (h4 : s.data.toList ≠ [110, 101, 103]) (h5 : s.data.toList ≠ [108, 101, 110]) (h6 : s.data.toList ≠ [105, 102]) :
    Calls Tryd.prog 13 #[.string s] w fun e w' => e = .returned (.int .i64 (if inSigns s.data.toList = true then 2 else -1)) ∧ Below w.heap.size w w' := by
  have q1 : (s.toList == [99, 111, 108]) = false := by rw [Lib.toList_data]; simpa using h1
  have q2 : (s.toList == [118, 97, 108]) = false := by rw [Lib.toList_data]; simpa using h2
  have q3 : (s.toList == [110, 111, 116]) = false := by rw [Lib.toList_data]; simpa using h3
  have q4 : (s.toList == [110, 101, 103]) = false := by rw [Lib.toList_data]; simpa using h4
  have q5 : (s.toList == [108, 101, 110]) = false := by rw [Lib.toList_data]; simpa using h5
  have q6 : (s.toList == [105, 102]) = false := by rw [Lib.toList_data]; simpa using h6
  clear h1 h2 h3 h4 h5 h6
  obtain ⟨Z, hZ⟩ : ∃ Z : Int, (if inSigns s.data.toList = true then 2 else -1) = Z := ⟨_, rfl⟩
  have HZ : Hid ((if inSigns s.data.toList = true then 2 else -1) = Z) := hZ
  rw [hZ]
  clear hZ
  go_enter Tryd.func13, Tryd.ntmps13
  go_wp2
  go_loopg [3, 4, 5] 5 (fun gg s3 _ _ wr => ∃ lv : Nat, lv ≤ 5 ∧ 5 - lv ≤ gg ∧ s3 = .int .i64 lv ∧ Aside (Below w.heap.size w wr) ∧ Hid ((upTo lv).any (· == s.data.toList) = false))
  case atStart => exact ⟨0, Nat.zero_le _, by omega, rfl, Below.refl _ _, rfl⟩
  case round =>
    obtain ⟨lv, hlv, hg, rfl, BW, HU⟩ := hrel
    by_cases hlt : lv < 5
    · have hltz : (lv : Int) < 5 := by omega
      obtain ⟨S, hS, hSl, cS⟩ := signs_any lv hlt wr
      have HSg : Hid (S.map (·.data.toList) = sgl lv) := hS
      clear hS
      go_wp2_with fail
      refine cS.mono ?_
      rintro e w1 ⟨rfl, hc, hgl, b1⟩
      have B1 := BW.out.trans (b1.mono BW.out.size)
      have HC : Hid (∀ j (hj : j < S.length), w1.cell? ⟨wr.heap.size, j, none⟩ = some (.string S[j])) := hc
      clear cS hc
      go_wp2
      go_loopg [5] S.length (fun gg s5 wx => ∃ kk : Nat, kk ≤ S.length ∧ S.length - kk ≤ gg ∧ s5 = .int .i64 kk ∧ wx = w1 ∧ Hid (((S.take kk).map (·.data.toList)).any (· == s.data.toList) = false))
      case atStart => exact ⟨0, Nat.zero_le _, by omega, rfl, rfl, rfl⟩
      case round =>
        obtain ⟨kk, hkk, hgk, rfl, rfl, HK⟩ := hrel
        by_cases hk : kk < S.length
        · have hkz : (kk : Int) < (S.length : Int) := by omega
          have k0 : (0 : Int) ≤ (kk : Int) := by omega
          have c0 := HC.out kk hk
          cases hb : S[kk].data.toList == s.data.toList
          · have hbt : (S[kk].toList == s.toList) = false := by rw [Lib.toList_data, Lib.toList_data]; exact hb
            have HK2 : Hid (((S.take (kk + 1)).map (·.data.toList)).any (· == s.data.toList) = false) := by
              show _ = _
              rw [List.take_succ_eq_append_getElem hk, List.map_append, List.any_append, HK.out]
              simp only [List.map_cons, List.map_nil, List.any_cons, List.any_nil, Bool.or_false, Bool.false_or]
              exact hb
            generalize S[kk] = y at c0 hbt
            clear hb HK
            go_wp2
            go_roundg (S.length - (kk + 1))
            case measure => omega
            case rel => exact ⟨kk + 1, by omega, by omega, by go_num, rfl, HK2⟩
          · have hbt : (S[kk].toList == s.toList) = true := by rw [Lib.toList_data, Lib.toList_data]; exact hb
            have hin : inSigns s.data.toList = true := by
              rw [← upTo_all, List.any_eq_true]
              refine ⟨S[kk].data.toList, ?_, hb⟩
              rw [upTo, List.mem_flatMap]
              exact ⟨lv, List.mem_range.2 hlt, by rw [← HSg.out]; exact List.mem_map.2 ⟨S[kk], List.getElem_mem hk, rfl⟩⟩
            have hz : 2 = Z := by have := HZ.out; rwa [if_pos hin] at this
            subst hz
            generalize S[kk] = y at c0 hbt
            clear hb HK hin
            go_wp2
            go_ret
            exact ⟨rfl, B1⟩
        · have hkz : ¬ (kk : Int) < (S.length : Int) := by omega
          have HU2 : Hid ((upTo (lv + 1)).any (· == s.data.toList) = false) := by
            show _ = _
            have h := HK.out
            rw [List.take_of_length_le (by omega), HSg.out] at h
            rw [upTo_succ, List.any_append, HU.out, h]; rfl
          clear HK
          go_wp2
          go_roundg (5 - (lv + 1))
          case measure => omega
          case rel => exact ⟨lv + 1, by omega, by omega, by go_num, B1, HU2⟩
    · have hltz : ¬ (lv : Int) < 5 := by omega
      have hlv5 : lv = 5 := by omega
      have hz : -1 = Z := by
        have h := HU.out
        rw [hlv5, upTo_all] at h
        have := HZ.out
        rwa [if_neg (by rw [h]; decide)] at this
      subst hz
      clear HU hlv5
      go_wp2
      go_ret
      exact ⟨rfl, BW.out⟩
set_option maxHeartbeats 1000000 in
theorem refArity_any (s : ByteArray) (w : World) :
    Calls Tryd.prog 13 #[.string s] w fun e w' => e = .returned (.int .i64 (arityT s.data.toList)) ∧ Below w.heap.size w w' := by
  by_cases h1 : s.data.toList = [99, 111, 108]
  · obtain rfl : s = ⟨#[99, 111, 108]⟩ := by have := congrArg List.toArray h1; cases s; simpa using this
    go_enter Tryd.func13, Tryd.ntmps13
    go_wp2
    go_ret
    exact ⟨rfl, Below.refl _ _⟩
  · by_cases h2 : s.data.toList = [118, 97, 108]
    · obtain rfl : s = ⟨#[118, 97, 108]⟩ := by have := congrArg List.toArray h2; cases s; simpa using this
      go_enter Tryd.func13, Tryd.ntmps13
      go_wp2
      go_ret
      exact ⟨rfl, Below.refl _ _⟩
    · by_cases h3 : s.data.toList = [110, 111, 116]
      · obtain rfl : s = ⟨#[110, 111, 116]⟩ := by have := congrArg List.toArray h3; cases s; simpa using this
        go_enter Tryd.func13, Tryd.ntmps13
        go_wp2
        go_ret
        exact ⟨rfl, Below.refl _ _⟩
      · by_cases h4 : s.data.toList = [110, 101, 103]
        · obtain rfl : s = ⟨#[110, 101, 103]⟩ := by have := congrArg List.toArray h4; cases s; simpa using this
          go_enter Tryd.func13, Tryd.ntmps13
          go_wp2
          go_ret
          exact ⟨rfl, Below.refl _ _⟩
        · by_cases h5 : s.data.toList = [108, 101, 110]
          · obtain rfl : s = ⟨#[108, 101, 110]⟩ := by have := congrArg List.toArray h5; cases s; simpa using this
            go_enter Tryd.func13, Tryd.ntmps13
            go_wp2
            go_ret
            exact ⟨rfl, Below.refl _ _⟩
          · by_cases h6 : s.data.toList = [105, 102]
            · obtain rfl : s = ⟨#[105, 102]⟩ := by have := congrArg List.toArray h6; cases s; simpa using this
              go_enter Tryd.func13, Tryd.ntmps13
              go_wp2
              go_ret
              exact ⟨rfl, Below.refl _ _⟩
            · have hA : arityT s.data.toList = if inSigns s.data.toList = true then 2 else -1 := by
                rw [arityT, if_neg (by simp [h1, h2]), if_neg (by simp [h3, h4, h5]), if_neg h6]
              rw [hA]
              exact arity_late s w h1 h2 h3 h4 h5 h6
end Go.Proofs.YtnpinbpjfngknaaDoor
