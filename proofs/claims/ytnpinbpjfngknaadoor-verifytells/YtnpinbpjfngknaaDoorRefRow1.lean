/-
  The document's Find, Letters and Schema (package sluiceref1), at any columns and texts.
-/
import Derived.Test.YtnpinbpjfngknaaDoorRow5
namespace Go.Proofs.YtnpinbpjfngknaaDoor
open Go.RowKit
set_option linter.unusedVariables false

theorem refFind_none (q : Option Addr) (c : Nat) (nm : ByteArray) (w : World) :
    Calls Tryd.prog 19 #[.slice q 0 c, .string nm] w fun e w' => e = .returned (.int .i64 (-1)) ∧ w' = w := by
  go_enter Tryd.func19, Tryd.ntmps19
  go_wp2
  refine wp_loop_rounds 1 ?_
  rw [rounds_succ]
  go_wp2
  go_ret
  exact ⟨rfl, rfl⟩
set_option maxHeartbeats 2000000 in
theorem refFind_any (b off c : Nat) (zs : List (ByteArray × Int)) (nm : ByteArray) (w : World) (hn : zs.length ≤ 9223372036854775807) (hc : ColsIn w b off zs) :
    Calls Tryd.prog 19 #[.slice (some ⟨b, off, none⟩) zs.length c, .string nm] w fun e w' => e = .returned (.int .i64 (findN nm.data.toList zs)) ∧ w' = w := by
  go_enter Tryd.func19, Tryd.ntmps19
  go_wp2
  go_loopg [5] zs.length (fun gg s5 wr => ∃ kk : Nat, kk ≤ zs.length ∧ zs.length - kk ≤ gg ∧ s5 = .int .i64 kk ∧ wr = w ∧ Aside (∀ j (hj : j < zs.length), j < kk → zs[j].1.data.toList ≠ nm.data.toList))
  case atStart => exact ⟨0, Nat.zero_le _, by omega, rfl, rfl, fun j _ hj => absurd hj (Nat.not_lt_zero _)⟩
  case round =>
    obtain ⟨kk, hkk, hg, rfl, rfl, A⟩ := hrel
    by_cases hlt : kk < zs.length
    · have hltz : (kk : Int) < (zs.length : Int) := by omega
      have k0 : (0 : Int) ≤ (kk : Int) := by omega
      obtain ⟨c0, c1⟩ := hc.2 kk hlt
      generalize hy : zs[kk] = y at c0 c1
      obtain ⟨yn, yt⟩ := y
      have HY : Hid (zs[kk] = (yn, yt)) := hy
      simp only at c0 c1
      clear hy
      by_cases he : yn.data.toList = nm.data.toList
      · have hq : (yn.toList == nm.toList) = true := by rw [Lib.toList_data, Lib.toList_data]; simpa using he
        have HE : Hid (yn.data.toList = nm.data.toList) := he
        clear he
        go_wp2
        go_ret
        refine ⟨?_, rfl⟩
        rw [findN_hit hlt (by rw [HY.out]; exact HE.out) (fun j hj => A.out j (by omega) hj)]
        rfl
      · have hq : (yn.toList == nm.toList) = false := by rw [Lib.toList_data, Lib.toList_data]; simpa using he
        have HE : Hid (yn.data.toList ≠ nm.data.toList) := he
        clear he
        go_wp2
        go_roundg (zs.length - (kk + 1))
        case measure => omega
        case rel =>
          refine ⟨kk + 1, by omega, by omega, by go_num, rfl, (show Aside _ from fun j hj hjk => ?_)⟩
          by_cases e : j = kk
          · subst e
            rw [HY.out]; exact HE.out
          · exact A.out j hj (by omega)
    · have hltz : ¬ (kk : Int) < (zs.length : Int) := by omega
      go_wp2
      go_ret
      refine ⟨?_, rfl⟩
      rw [findN_miss (fun j hj => A.out j hj (by omega))]
      rfl
theorem let_of (s : ByteArray) (k : Nat) (h : k < s.size) : (letN s[k] = true ↔ 97 ≤ (s[k].toNat : Int) ∧ (s[k].toNat : Int) ≤ 122) := by
  simp [letN]; omega
set_option maxHeartbeats 2000000 in
theorem letters_any (s : ByteArray) (w : World) (hs : s.size ≤ maxLen) :
    Calls Tryd.prog 18 #[.string s] w fun e w' => e = .returned (.bool (nameB s.data.toList)) ∧ w' = w := by
  have hd : s.data.toList.length = s.size := by simp
  unfold maxLen at hs
  by_cases h1 : s.data.toList = []
  · have hs0 : s = ⟨#[]⟩ := by cases s; simp_all
    subst hs0
    rw [show nameB (⟨#[]⟩ : ByteArray).data.toList = false from rfl]
    go_enter Tryd.func18, Tryd.ntmps18
    go_wp2
    go_ret
    exact ⟨rfl, rfl⟩
  · have hem : s.toList.isEmpty = false := by
      rw [Lib.toList_data]
      cases h : s.data.toList with
      | nil => exact absurd h h1
      | cons a l => rfl
    have hpos : 1 ≤ s.size := by
      rw [← hd]
      cases h : s.data.toList with
      | nil => exact absurd h h1
      | cons a l => simp
    clear h1
    by_cases h8 : s.size ≤ 8
    · have hnm : nameB s.data.toList = s.data.toList.all letN := by rw [nameB, hd, decide_eq_true hpos, decide_eq_true h8]; simp
      have z8 : ¬ (8 : Int) < (s.size : Int) := by omega
      obtain ⟨E, hE⟩ : ∃ E, nameB s.data.toList = E := ⟨_, rfl⟩
      have HE : Hid (E = s.data.toList.all letN) := hE.symm.trans hnm
      rw [hE]
      clear hE hnm
      go_enter Tryd.func18, Tryd.ntmps18
      go_wp2
      go_loopg [3] s.size (fun gg s3 wr => ∃ kk : Nat, kk ≤ s.size ∧ s.size - kk ≤ gg ∧ s3 = .int .i64 kk ∧ wr = w ∧ Hid ((s.data.toList.take kk).all letN = true))
      case atStart => exact ⟨0, Nat.zero_le _, by omega, rfl, rfl, (show Hid _ by simp [Hid])⟩
      case round =>
        obtain ⟨kk, hkk, hg, rfl, rfl, HP⟩ := hrel
        by_cases hlt : kk < s.size
        · have hltz : (kk : Int) < (s.size : Int) := by omega
          have HN : Hid (letN s[kk] = false → E = false) := fun h => HE.out.trans (let_not s kk hlt h)
          have HT : Hid ((s.data.toList.take (kk + 1)).all letN = ((s.data.toList.take kk).all letN && letN s[kk])) := let_take s kk hlt
          have HL : Hid (letN s[kk] = true ↔ 97 ≤ (s[kk].toNat : Int) ∧ (s[kk].toNat : Int) ≤ 122) := let_of s kk hlt
          by_cases hlo : (s[kk].toNat : Int) < 97
          · have hf : E = false := HN.out (by
              cases hq : letN s[kk] with
              | false => rfl
              | true => have := HL.out.1 hq; omega)
            subst hf
            clear HN HT HL HE HP
            go_wp2
            go_ret
            exact ⟨rfl, rfl⟩
          · by_cases hhi : 122 < (s[kk].toNat : Int)
            · have hf : E = false := HN.out (by
                cases hq : letN s[kk] with
                | false => rfl
                | true => have := HL.out.1 hq; omega)
              subst hf
              clear HN HT HL HE HP
              go_wp2
              go_ret
              exact ⟨rfl, rfl⟩
            · have HP2 : Hid ((s.data.toList.take (kk + 1)).all letN = true) := by
                show _ = _
                rw [HT.out, HP.out, HL.out.2 ⟨by omega, by omega⟩]; rfl
              clear HN HT HL HP
              go_wp2
              go_roundg (s.size - (kk + 1))
              case measure => omega
              case rel => exact ⟨kk + 1, by omega, by omega, by go_num, rfl, HP2⟩
        · have hltz : ¬ (kk : Int) < (s.size : Int) := by omega
          have hf : E = true := by
            rw [HE.out]
            have := HP.out
            rwa [List.take_of_length_le (by rw [hd]; omega)] at this
          subst hf
          clear HE HP
          go_wp2
          go_ret
          exact ⟨rfl, rfl⟩
    · have hnm : nameB s.data.toList = false := by rw [nameB, hd, decide_eq_false h8]; simp
      rw [hnm]
      have z8 : (8 : Int) < (s.size : Int) := by omega
      go_enter Tryd.func18, Tryd.ntmps18
      go_wp2
      go_ret
      exact ⟨rfl, rfl⟩
/-- A name is found where it is just if none of that name is ahead. -/
theorem find_self (zs : List (ByteArray × Int)) (k : Nat) (h : k < zs.length) : findN zs[k].1.data.toList zs = k ↔ ¬ 0 ≤ findN zs[k].1.data.toList (zs.take k) := by
  have hl : (zs.take k).length = k := by rw [List.length_take]; omega
  constructor
  · intro e h0
    rcases findN_cases zs[k].1.data.toList (zs.take k) with ⟨e1, _⟩ | ⟨j, e1, hj, he, _⟩
    · rw [e1] at h0; omega
    · rcases findN_cases zs[k].1.data.toList zs with ⟨e2, _⟩ | ⟨i, e2, hi, _, hn⟩
      · rw [e2] at e; omega
      · have hik : i = k := by rw [e2] at e; omega
        subst hik
        have := hn j (by rw [hl] at hj; exact hj)
        rw [List.getElem_take] at he
        exact this he
  · intro h0
    refine findN_hit h rfl fun j hj he => ?_
    rcases findN_cases zs[k].1.data.toList (zs.take k) with ⟨_, hn⟩ | ⟨i, e1, _⟩
    · have := hn j (by rw [hl]; exact hj)
      rw [List.getElem_take] at this
      exact this he
    · rw [e1] at h0; omega
theorem refSchema_none (q : Option Addr) (c : Nat) (w : World) :
    Calls Tryd.prog 10 #[.slice q 0 c] w fun e w' => e = .returned (.int .i64 5) ∧ w' = w := by
  go_enter Tryd.func10, Tryd.ntmps10
  go_wp2
  go_ret
  exact ⟨rfl, rfl⟩
theorem refSchema_full (q : Option Addr) (n c : Nat) (w : World) (hn : 6 < n) :
    Calls Tryd.prog 10 #[.slice q n c] w fun e w' => e = .returned (.int .i64 4) ∧ w' = w := by
  have h0 : ((n : Int) == 0) = false := by rw [beq_eq_false_iff_ne]; omega
  have h6 : (6 : Int) < (n : Int) := by omega
  go_enter Tryd.func10, Tryd.ntmps10
  go_wp2
  go_ret
  exact ⟨rfl, rfl⟩
set_option maxHeartbeats 4000000 in
theorem refSchema_some (b off c : Nat) (zs : List (ByteArray × Int)) (w : World) (h1 : zs.length ≠ 0) (h6 : ¬ 6 < zs.length) (hl : ∀ z ∈ zs, z.1.size ≤ maxLen) (hc : ColsIn w b off zs) :
    Calls Tryd.prog 10 #[.slice (some ⟨b, off, none⟩) zs.length c] w fun e w' => e = .returned (.int .i64 (schGo [] zs)) ∧ w' = w := by
  have z0 : ((zs.length : Int) == 0) = false := by rw [beq_eq_false_iff_ne]; omega
  have z6 : ¬ (6 : Int) < (zs.length : Int) := by omega
  obtain ⟨E, hE⟩ : ∃ E, schGo [] zs = E := ⟨_, rfl⟩
  rw [hE]
  go_enter Tryd.func10, Tryd.ntmps10
  go_wp2
  go_loopg [3, 4] zs.length (fun gg s3 _ wr => ∃ kk : Nat, kk ≤ zs.length ∧ zs.length - kk ≤ gg ∧ s3 = .int .i64 kk ∧ wr = w ∧ Hid (E = schGo (zs.take kk) (zs.drop kk)))
  case atStart => exact ⟨0, Nat.zero_le _, by omega, rfl, rfl, (show Hid _ by simp [Hid, hE])⟩
  case round =>
    obtain ⟨kk, hkk, hg, rfl, rfl, HS⟩ := hrel
    by_cases hlt : kk < zs.length
    · have hltz : (kk : Int) < (zs.length : Int) := by omega
      have k0 : (0 : Int) ≤ (kk : Int) := by omega
      obtain ⟨c0, c1⟩ := hc.2 kk hlt
      have HS2 : Hid (E = if colE (zs.take kk) zs[kk].1.data.toList zs[kk].2 ≠ 0 then colE (zs.take kk) zs[kk].1.data.toList zs[kk].2 else schGo (zs.take (kk + 1)) (zs.drop (kk + 1))) := HS.out.trans (schGo_at hlt)
      have hsz := hl _ (List.getElem_mem hlt)
      have HF : Hid (findN zs[kk].1.data.toList zs = kk ↔ ¬ 0 ≤ findN zs[kk].1.data.toList (zs.take kk)) := find_self zs kk hlt
      generalize hy : zs[kk] = y at c0 c1 HS2 hsz HF
      obtain ⟨yn, yt⟩ := y
      simp only at c0 c1 HS2 hsz HF
      have hcE : colE (zs.take kk) yn.data.toList yt = if nameB yn.data.toList = false then 2 else if ¬ (1 ≤ yt ∧ yt ≤ 3) then 1 else if 0 ≤ findN yn.data.toList (zs.take kk) then 7 else 0 := rfl
      have cL := letters_any yn wr hsz
      have cF := refFind_any b off c zs yn wr (by omega) hc
      obtain ⟨N, hN⟩ : ∃ N, nameB yn.data.toList = N := ⟨_, rfl⟩
      rw [hN] at cL hcE
      obtain ⟨fi, hfi⟩ : ∃ fi, findN yn.data.toList zs = fi := ⟨_, rfl⟩
      rw [hfi] at cF HF
      have HC : Hid (colE (zs.take kk) yn.data.toList yt = if N = false then 2 else if ¬ (1 ≤ yt ∧ yt ≤ 3) then 1 else if 0 ≤ findN yn.data.toList (zs.take kk) then 7 else 0) := hcE
      clear HS hy hN hfi hcE hl hc
      go_wp2_with fail
      refine cL.mono ?_
      rintro e w' ⟨rfl, rfl⟩
      cases N
      · have hf : E = 2 := by rw [HS2.out, HC.out]; simp
        subst hf
        clear HS2 HC HF
        go_wp2
        go_ret
        exact ⟨rfl, rfl⟩
      · by_cases t1 : yt < 1
        · have hf : E = 1 := by
            have hcv : colE (zs.take kk) yn.data.toList yt = 1 := by rw [HC.out, if_neg (by decide), if_pos (by omega)]
            rw [HS2.out, hcv]; simp
          subst hf
          clear HS2 HC HF
          go_wp2
          go_ret
          exact ⟨rfl, rfl⟩
        · by_cases t3 : 3 < yt
          · have hf : E = 1 := by
              have hcv : colE (zs.take kk) yn.data.toList yt = 1 := by rw [HC.out, if_neg (by decide), if_pos (by omega)]
              rw [HS2.out, hcv]; simp
            subst hf
            clear HS2 HC HF
            go_wp2
            go_ret
            exact ⟨rfl, rfl⟩
          · have HC2 : Hid (colE (zs.take kk) yn.data.toList yt = if 0 ≤ findN yn.data.toList (zs.take kk) then 7 else 0) := by
              show _ = _
              rw [HC.out, if_neg (by decide), if_neg (by omega)]
            clear HC
            by_cases hk : fi = kk
            · have HS3 : Hid (E = schGo (zs.take (kk + 1)) (zs.drop (kk + 1))) := by
                show _ = _
                have hcv : colE (zs.take kk) yn.data.toList yt = 0 := by rw [HC2.out, if_neg (by have := HF.out.1 hk; omega)]
                rw [HS2.out, hcv]; simp
              subst hk
              have hq : ((kk : Int) != (kk : Int)) = false := by simp
              clear HS2 HC2 HF
              go_wp2_with fail
              refine cF.mono ?_
              rintro e w' ⟨rfl, rfl⟩
              go_wp2
              go_roundg (zs.length - (kk + 1))
              case measure => omega
              case rel => exact ⟨kk + 1, by omega, by omega, by go_num, rfl, HS3⟩
            · have hf : E = 7 := by
                have h0 : 0 ≤ findN yn.data.toList (zs.take kk) := Classical.byContradiction fun h => hk (HF.out.2 (by omega))
                have hcv : colE (zs.take kk) yn.data.toList yt = 7 := by rw [HC2.out, if_pos h0]
                rw [HS2.out, hcv]; simp
              subst hf
              have hq : (fi != (kk : Int)) = true := by simpa using hk
              clear HS2 HC2 HF hk
              go_wp2_with fail
              refine cF.mono ?_
              rintro e w' ⟨rfl, rfl⟩
              go_wp2
              go_ret
              exact ⟨rfl, rfl⟩
    · have hltz : ¬ (kk : Int) < (zs.length : Int) := by omega
      have : kk = zs.length := by omega
      have hz : E = 0 := by
        rw [HS.out, this, List.drop_length]; cases zs.take zs.length <;> rfl
      subst hz
      clear HS
      go_wp2
      go_ret
      exact ⟨rfl, rfl⟩
theorem refSchema_any (b off c : Nat) (zs : List (ByteArray × Int)) (w : World) (hl : ∀ z ∈ zs, z.1.size ≤ maxLen) (hc : ColsIn w b off zs) :
    Calls Tryd.prog 10 #[.slice (some ⟨b, off, none⟩) zs.length c] w fun e w' => e = .returned (.int .i64 (schE zs)) ∧ w' = w := by
  rw [schE]
  by_cases h1 : zs.length = 0
  · rw [if_pos h1, h1]
    exact refSchema_none _ c w
  · rw [if_neg h1]
    by_cases h6 : 6 < zs.length
    · rw [if_pos h6]
      exact refSchema_full _ _ c w h6
    · rw [if_neg h6]
      exact refSchema_some b off c zs w h1 h6 hl hc
end Go.Proofs.YtnpinbpjfngknaaDoor
