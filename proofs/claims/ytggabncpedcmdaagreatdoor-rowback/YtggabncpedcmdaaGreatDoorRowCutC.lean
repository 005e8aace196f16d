/-
  What strings.Cut says at a separator of one byte, of any text.
-/
import Derived.Test.YtggabncpedcmdaaGreatDoorRowCut
import Derived.Test.YtggabncpedcmdaaGreatDoorShelf
namespace Go.Proofs.YtggabncpedcmdaaGreatDoor
open Go.RowKit
set_option linter.unusedVariables false

/-- A text cut at its first byte c. -/
def cut1 (c : UInt8) : List UInt8 → List UInt8 × List UInt8 × Bool
  | [] => ([], [], false)
  | x :: l => if x = c then ([], l, true) else (x :: (cut1 c l).1, (cut1 c l).2.1, (cut1 c l).2.2)
theorem cut1_miss (c : UInt8) : ∀ {l : List UInt8}, Lib.indexByte l c = -1 → cut1 c l = (l, [], false)
  | [], _ => rfl
  | x :: l, h => by
    rw [Lib.indexByte] at h
    by_cases hx : x = c
    · rw [if_pos (by simpa using hx)] at h; exact absurd h (by decide)
    · rw [if_neg (by simpa using hx)] at h
      have hl : Lib.indexByte l c = -1 := by
        by_cases hq : Lib.indexByte l c = -1
        · exact hq
        · rw [if_neg (by simpa using hq)] at h
          have := Lib.indexByte_ge l c
          omega
      rw [cut1, if_neg hx, cut1_miss c hl]
theorem cut1_hit (c : UInt8) : ∀ {l : List UInt8} {k : Nat}, Lib.indexByte l c = k → cut1 c l = (l.take k, l.drop (k + 1), true) ∧ k < l.length
  | [], k, h => by rw [Lib.indexByte] at h; omega
  | x :: l, k, h => by
    rw [Lib.indexByte] at h
    by_cases hx : x = c
    · rw [if_pos (by simpa using hx)] at h
      obtain rfl : k = 0 := by omega
      rw [cut1, if_pos hx]; simp
    · rw [if_neg (by simpa using hx)] at h
      by_cases hq : Lib.indexByte l c = -1
      · rw [if_pos (by simpa using hq)] at h; omega
      · rw [if_neg (by simpa using hq)] at h
        have hge := Lib.indexByte_ge l c
        obtain ⟨j, rfl⟩ : ∃ j, k = j + 1 := ⟨k - 1, by omega⟩
        obtain ⟨e, hj⟩ := cut1_hit c (l := l) (k := j) (by omega)
        rw [cut1, if_neg hx, e]
        exact ⟨by simp, by simp; omega⟩
set_option maxRecDepth 20000 in
theorem index_one (s : ByteArray) (c : UInt8) (w : World) :
    Calls Tryz.prog 106 #[.string s, .string ⟨#[c]⟩] w fun e w' => e = .returned (.int .i64 (Lib.indexByte s.data.toList c)) ∧ w' = w := by
  by_cases he : s.data.toList = [c]
  · have hq : ([c] == s.toList) = true := by rw [Lib.toList_data, he]; simp
    have hi : Lib.indexByte s.data.toList c = 0 := by rw [he, Lib.indexByte]; simp
    rw [hi]
    clear hi he
    go_enter Tryz.func106, Tryz.ntmps106
    go_wp2
    go_ret
    exact ⟨rfl, rfl⟩
  · have hq : ([c] == s.toList) = false := by rw [Lib.toList_data]; simpa using fun e => he e.symm
    have hc : (c.toNat : Int).toNat.toUInt8 = c := by simp
    have cI := Tryz.stringslite_IndexByte s (c.toNat : Int) w
    rw [hc] at cI
    generalize Lib.indexByte s.data.toList c = I at cI
    clear he hc
    go_enter Tryz.func106, Tryz.ntmps106
    go_wp2_with fail
    refine cI.mono ?_
    rintro e w' ⟨rfl, rfl⟩
    go_wp2
    go_ret
    exact ⟨rfl, rfl⟩
theorem slCut_none (s : ByteArray) (c : UInt8) (w : World) (h : Lib.indexByte s.data.toList c = -1) :
    Calls Tryz.prog 86 #[.string s, .string ⟨#[c]⟩] w fun e w' => e = .returned (.tuple #[.string s, .string ⟨#[]⟩, .bool false]) ∧ Below w.heap.size w w' := by
  have cI := index_one s c w
  rw [h] at cI
  clear h
  go_enter Tryz.func86, Tryz.ntmps86
  go_wp2_with fail
  refine cI.mono ?_
  rintro e w' ⟨rfl, rfl⟩
  go_wp2
  go_ret3
  exact ⟨rfl, Below.refl _ _⟩
set_option maxHeartbeats 1000000 in
theorem slCut_some (s : ByteArray) (c : UInt8) (k : Nat) (w : World) (hs : s.size ≤ maxLen) (h : Lib.indexByte s.data.toList c = k) :
    Calls Tryz.prog 86 #[.string s, .string ⟨#[c]⟩] w fun e w' => e = .returned (.tuple #[.string ⟨(s.data.toList.take k).toArray⟩, .string ⟨(s.data.toList.drop (k + 1)).toArray⟩, .bool true]) ∧ Below w.heap.size w w' := by
  have cI := index_one s c w
  rw [h] at cI
  have hk : k < s.size := by have := (cut1_hit c h).2; simpa using this
  unfold maxLen at hs
  have c1 : (0 : Int) ≤ (k : Int) := by omega
  have c2 : (k : Int) ≤ (s.size : Int) := by omega
  have c3 : (0 : Int) ≤ (k : Int) + 1 := by omega
  have c4 : (k : Int) + 1 ≤ (s.size : Int) := by omega
  clear h
  go_enter Tryz.func86, Tryz.ntmps86
  go_wp2_with fail
  refine cI.mono ?_
  rintro e w' ⟨rfl, rfl⟩
  go_wp2
  go_region
  go_wp2
  go_ret3
  refine ⟨?_, by repeat (first | exact Below.refl _ _ | apply below_drewN | refine Below.drew ?_)⟩
  show Ending.returned (.tuple #[.string (s.extract 0 k), .string (s.extract (k + 1) s.size), .bool true]) = _
  rw [of_list (show (s.extract 0 k).data.toList = s.data.toList.take k by rw [Lib.extract_data]; simp), of_list (show (s.extract (k + 1) s.size).data.toList = s.data.toList.drop (k + 1) by rw [Lib.extract_data, List.take_of_length_le (by simp)])]
/-- What strings.Cut hands back. -/
theorem cut_one (s : ByteArray) (c : UInt8) (w : World) (hs : s.size ≤ maxLen) :
    Calls Tryz.prog 62 #[.string s, .string ⟨#[c]⟩] w fun e w' => (∃ (P r : ByteArray) (m : Bool), e = .returned (.tuple #[.string P, .string r, .bool m]) ∧ Hid (cut1 c s.data.toList = (P.data.toList, r.data.toList, m)) ∧ P.size ≤ s.size ∧ r.size ≤ s.size ∧ Hid (m = true → r.size < s.size)) ∧ Below w.heap.size w w' := by
  have hl : s.data.toList.length = s.size := by simp
  have hsz : ∀ l : List UInt8, (⟨l.toArray⟩ : ByteArray).size = l.length := fun l => by rw [Lib.size_eq]
  have hge := Lib.indexByte_ge s.data.toList c
  by_cases hi : Lib.indexByte s.data.toList c = -1
  · have cC := slCut_none s c w hi
    have HC : Hid (cut1 c s.data.toList = (s.data.toList, [], false)) := cut1_miss c hi
    clear hi hge
    go_enter Tryz.func62, Tryz.ntmps62
    go_wp2_with fail
    refine cC.mono ?_
    rintro e w' ⟨rfl, b1⟩
    go_wp2
    go_ret3
    exact ⟨⟨s, ⟨#[]⟩, false, rfl, HC, Nat.le_refl _, Nat.zero_le _, (show Hid _ from fun e => by cases e)⟩, b1⟩
  · obtain ⟨k, hk⟩ : ∃ k : Nat, Lib.indexByte s.data.toList c = k := ⟨(Lib.indexByte s.data.toList c).toNat, by omega⟩
    have cC := slCut_some s c k w hs hk
    obtain ⟨hc, hkl⟩ := cut1_hit c hk
    have HC : Hid (cut1 c s.data.toList = (s.data.toList.take k, s.data.toList.drop (k + 1), true)) := hc
    clear hi hge hk hc
    generalize hP : (⟨(s.data.toList.take k).toArray⟩ : ByteArray) = P at cC
    generalize hr : (⟨(s.data.toList.drop (k + 1)).toArray⟩ : ByteArray) = r at cC
    have HP : Hid (s.data.toList.take k = P.data.toList ∧ P.size ≤ s.size) := by
      subst hP; exact ⟨by simp, by rw [hsz, List.length_take]; omega⟩
    have Hr : Hid (s.data.toList.drop (k + 1) = r.data.toList ∧ r.size < s.size) := by
      subst hr; exact ⟨by simp, by rw [hsz, List.length_drop]; omega⟩
    clear hP hr
    go_enter Tryz.func62, Tryz.ntmps62
    go_wp2_with fail
    refine cC.mono ?_
    rintro e w' ⟨rfl, b1⟩
    go_wp2
    go_ret3
    exact ⟨⟨P, r, true, rfl, (show Hid _ from by show _ = _; rw [HC.out, HP.out.1, Hr.out.1]), HP.out.2, Nat.le_of_lt Hr.out.2, (show Hid _ from fun _ => Hr.out.2)⟩, b1⟩
end Go.Proofs.YtggabncpedcmdaaGreatDoor
