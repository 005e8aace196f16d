/-
  RefRow1, RefTy, RefOf, KdOps, KdTl, in one text.
-/
import Derived.Test.YtkoejkpjkcejcaaDoorGrAg
import Derived.Test.YtkoejkpjkcejcaaDoorGrAq
import Derived.Test.YtkoejkpjkcejcaaDoorGrAm
import Derived.Deep.QuietTactic
import Derived.BigQuiet
import Derived.Test.YtkoejkpjkcejcaaDoorGrAj
import Derived.Test.YtkoejkpjkcejcaaDoorGrAd
import Derived.WalkSmall
namespace Go.Proofs.YtkoejkpjkcejcaaDoor
open Go.RowKit
set_option linter.unusedVariables false

theorem refFind_none (q : Option Addr) (c : Nat) (nm : ByteArray) (w : World) :
    Calls Tryd.prog 45 #[.slice q 0 c, .string nm] w fun e w' => e = .returned (.int .i64 (-1)) ∧ w' = w := by
  go_enter Tryd.func45, Tryd.ntmps45
  go_wp2
  refine wp_loop_rounds 1 ?_
  rw [rounds_succ]
  go_wp2
  go_ret
  exact ⟨rfl, rfl⟩
set_option maxHeartbeats 2000000 in
theorem refFind_any (b off c : Nat) (zs : List (ByteArray × Int)) (nm : ByteArray) (w : World) (hn : zs.length ≤ 9223372036854775807) (hc : ColsIn w b off zs) :
    Calls Tryd.prog 45 #[.slice (some ⟨b, off, none⟩) zs.length c, .string nm] w fun e w' => e = .returned (.int .i64 (findN nm.data.toList zs)) ∧ w' = w := by
  go_enter Tryd.func45, Tryd.ntmps45
  go_wp2
  go_loopg [5] zs.length (fun gg s5 wr => ∃ kk : Nat, kk ≤ zs.length ∧ zs.length - kk ≤ gg ∧ s5 = .int .i64 kk ∧ wr = w ∧ Aside (∀ j (hj : j < zs.length), j < kk → zs[j].1.data.toList ≠ nm.data.toList))
  case atStart => exact ⟨0, Nat.zero_le _, by omega, rfl, rfl, fun j _ hj => absurd hj (Nat.not_lt_zero _)⟩
  case round =>
    obtain ⟨kk, hkk, hg, rfl, rfl, A⟩ := hrel
    by_cases hlt : kk < zs.length
    · have hltz : (kk : Int) < (zs.length : Int) := by omega
      have k0 : (0 : Int) ≤ (kk : Int) := by omega
      obtain ⟨c0, c1⟩ := hc.2 kk hlt
      generalize hy : zs[kk] = y at c0 c1
      obtain ⟨yn, yt⟩ := y
      have HY : Hid (zs[kk] = (yn, yt)) := hy
      simp only at c0 c1
      clear hy
      by_cases he : yn.data.toList = nm.data.toList
      · have hq : (yn.toList == nm.toList) = true := by rw [Lib.toList_data, Lib.toList_data]; simpa using he
        have HE : Hid (yn.data.toList = nm.data.toList) := he
        clear he
        go_wp2
        go_ret
        refine ⟨?_, rfl⟩
        rw [findN_hit hlt (by rw [HY.out]; exact HE.out) (fun j hj => A.out j (by omega) hj)]
        rfl
      · have hq : (yn.toList == nm.toList) = false := by rw [Lib.toList_data, Lib.toList_data]; simpa using he
        have HE : Hid (yn.data.toList ≠ nm.data.toList) := he
        clear he
        go_wp2
        go_roundg (zs.length - (kk + 1))
        case measure => omega
        case rel =>
          refine ⟨kk + 1, by omega, by omega, by go_num, rfl, (show Aside _ from fun j hj hjk => ?_)⟩
          by_cases e : j = kk
          · subst e
            rw [HY.out]; exact HE.out
          · exact A.out j hj (by omega)
    · have hltz : ¬ (kk : Int) < (zs.length : Int) := by omega
      go_wp2
      go_ret
      refine ⟨?_, rfl⟩
      rw [findN_miss (fun j hj => A.out j hj (by omega))]
      rfl
theorem let_of (s : ByteArray) (k : Nat) (h : k < s.size) : (letN s[k] = true ↔ 97 ≤ (s[k].toNat : Int) ∧ (s[k].toNat : Int) ≤ 122) := by
  simp [letN]; omega
set_option maxHeartbeats 2000000 in
theorem letters_any (s : ByteArray) (w : World) (hs : s.size ≤ maxLen) :
    Calls Tryd.prog 44 #[.string s] w fun e w' => e = .returned (.bool (nameB s.data.toList)) ∧ w' = w := by
  have hd : s.data.toList.length = s.size := by simp
  unfold maxLen at hs
  by_cases h1 : s.data.toList = []
  · have hs0 : s = ⟨#[]⟩ := by cases s; simp_all
    subst hs0
    rw [show nameB (⟨#[]⟩ : ByteArray).data.toList = false from rfl]
    go_enter Tryd.func44, Tryd.ntmps44
    go_wp2
    go_ret
    exact ⟨rfl, rfl⟩
  · have hem : s.toList.isEmpty = false := by
      rw [Lib.toList_data]
      cases h : s.data.toList with
      | nil => exact absurd h h1
      | cons a l => rfl
    have hpos : 1 ≤ s.size := by
      rw [← hd]
      cases h : s.data.toList with
      | nil => exact absurd h h1
      | cons a l => simp
    clear h1
    by_cases h8 : s.size ≤ 8
    · have hnm : nameB s.data.toList = s.data.toList.all letN := by rw [nameB, hd, decide_eq_true hpos, decide_eq_true h8]; simp
      have z8 : ¬ (8 : Int) < (s.size : Int) := by omega
      obtain ⟨E, hE⟩ : ∃ E, nameB s.data.toList = E := ⟨_, rfl⟩
      have HE : Hid (E = s.data.toList.all letN) := hE.symm.trans hnm
      rw [hE]
      clear hE hnm
      go_enter Tryd.func44, Tryd.ntmps44
      go_wp2
      go_loopg [3] s.size (fun gg s3 wr => ∃ kk : Nat, kk ≤ s.size ∧ s.size - kk ≤ gg ∧ s3 = .int .i64 kk ∧ wr = w ∧ Hid ((s.data.toList.take kk).all letN = true))
      case atStart => exact ⟨0, Nat.zero_le _, by omega, rfl, rfl, (show Hid _ by simp [Hid])⟩
      case round =>
        obtain ⟨kk, hkk, hg, rfl, rfl, HP⟩ := hrel
        by_cases hlt : kk < s.size
        · have hltz : (kk : Int) < (s.size : Int) := by omega
          have HN : Hid (letN s[kk] = false → E = false) := fun h => HE.out.trans (let_not s kk hlt h)
          have HT : Hid ((s.data.toList.take (kk + 1)).all letN = ((s.data.toList.take kk).all letN && letN s[kk])) := let_take s kk hlt
          have HL : Hid (letN s[kk] = true ↔ 97 ≤ (s[kk].toNat : Int) ∧ (s[kk].toNat : Int) ≤ 122) := let_of s kk hlt
          by_cases hlo : (s[kk].toNat : Int) < 97
          · have hf : E = false := HN.out (by
              cases hq : letN s[kk] with
              | false => rfl
              | true => have := HL.out.1 hq; omega)
            subst hf
            clear HN HT HL HE HP
            go_wp2
            go_ret
            exact ⟨rfl, rfl⟩
          · by_cases hhi : 122 < (s[kk].toNat : Int)
            · have hf : E = false := HN.out (by
                cases hq : letN s[kk] with
                | false => rfl
                | true => have := HL.out.1 hq; omega)
              subst hf
              clear HN HT HL HE HP
              go_wp2
              go_ret
              exact ⟨rfl, rfl⟩
            · have HP2 : Hid ((s.data.toList.take (kk + 1)).all letN = true) := by
                show _ = _
                rw [HT.out, HP.out, HL.out.2 ⟨by omega, by omega⟩]; rfl
              clear HN HT HL HP
              go_wp2
              go_roundg (s.size - (kk + 1))
              case measure => omega
              case rel => exact ⟨kk + 1, by omega, by omega, by go_num, rfl, HP2⟩
        · have hltz : ¬ (kk : Int) < (s.size : Int) := by omega
          have hf : E = true := by
            rw [HE.out]
            have := HP.out
            rwa [List.take_of_length_le (by rw [hd]; omega)] at this
          subst hf
          clear HE HP
          go_wp2
          go_ret
          exact ⟨rfl, rfl⟩
    · have hnm : nameB s.data.toList = false := by rw [nameB, hd, decide_eq_false h8]; simp
      rw [hnm]
      have z8 : (8 : Int) < (s.size : Int) := by omega
      go_enter Tryd.func44, Tryd.ntmps44
      go_wp2
      go_ret
      exact ⟨rfl, rfl⟩
/-- A name is found where it is just if none of that name is ahead. -/
theorem find_self (zs : List (ByteArray × Int)) (k : Nat) (h : k < zs.length) : findN zs[k].1.data.toList zs = k ↔ ¬ 0 ≤ findN zs[k].1.data.toList (zs.take k) := by
  have hl : (zs.take k).length = k := by rw [List.length_take]; omega
  constructor
  · intro e h0
    rcases findN_cases zs[k].1.data.toList (zs.take k) with ⟨e1, _⟩ | ⟨j, e1, hj, he, _⟩
    · rw [e1] at h0; omega
    · rcases findN_cases zs[k].1.data.toList zs with ⟨e2, _⟩ | ⟨i, e2, hi, _, hn⟩
      · rw [e2] at e; omega
      · have hik : i = k := by rw [e2] at e; omega
        subst hik
        have := hn j (by rw [hl] at hj; exact hj)
        rw [List.getElem_take] at he
        exact this he
  · intro h0
    refine findN_hit h rfl fun j hj he => ?_
    rcases findN_cases zs[k].1.data.toList (zs.take k) with ⟨_, hn⟩ | ⟨i, e1, _⟩
    · have := hn j (by rw [hl]; exact hj)
      rw [List.getElem_take] at this
      exact this he
    · rw [e1] at h0; omega
theorem refSchema_none (q : Option Addr) (c : Nat) (w : World) :
    Calls Tryd.prog 27 #[.slice q 0 c] w fun e w' => e = .returned (.int .i64 5) ∧ w' = w := by
  go_enter Tryd.func27, Tryd.ntmps27
  go_wp2
  go_ret
  exact ⟨rfl, rfl⟩
theorem refSchema_full (q : Option Addr) (n c : Nat) (w : World) (hn : 6 < n) :
    Calls Tryd.prog 27 #[.slice q n c] w fun e w' => e = .returned (.int .i64 4) ∧ w' = w := by
  have h0 : ((n : Int) == 0) = false := by rw [beq_eq_false_iff_ne]; omega
  have h6 : (6 : Int) < (n : Int) := by omega
  go_enter Tryd.func27, Tryd.ntmps27
  go_wp2
  go_ret
  exact ⟨rfl, rfl⟩
set_option maxHeartbeats 4000000 in
theorem refSchema_some (b off c : Nat) (zs : List (ByteArray × Int)) (w : World) (h1 : zs.length ≠ 0) (h6 : ¬ 6 < zs.length) (hl : ∀ z ∈ zs, z.1.size ≤ maxLen) (hc : ColsIn w b off zs) :
    Calls Tryd.prog 27 #[.slice (some ⟨b, off, none⟩) zs.length c] w fun e w' => e = .returned (.int .i64 (schGo [] zs)) ∧ w' = w := by
  have z0 : ((zs.length : Int) == 0) = false := by rw [beq_eq_false_iff_ne]; omega
  have z6 : ¬ (6 : Int) < (zs.length : Int) := by omega
  obtain ⟨E, hE⟩ : ∃ E, schGo [] zs = E := ⟨_, rfl⟩
  rw [hE]
  go_enter Tryd.func27, Tryd.ntmps27
  go_wp2
  go_loopg [3, 4] zs.length (fun gg s3 _ wr => ∃ kk : Nat, kk ≤ zs.length ∧ zs.length - kk ≤ gg ∧ s3 = .int .i64 kk ∧ wr = w ∧ Hid (E = schGo (zs.take kk) (zs.drop kk)))
  case atStart => exact ⟨0, Nat.zero_le _, by omega, rfl, rfl, (show Hid _ by simp [Hid, hE])⟩
  case round =>
    obtain ⟨kk, hkk, hg, rfl, rfl, HS⟩ := hrel
    by_cases hlt : kk < zs.length
    · have hltz : (kk : Int) < (zs.length : Int) := by omega
      have k0 : (0 : Int) ≤ (kk : Int) := by omega
      obtain ⟨c0, c1⟩ := hc.2 kk hlt
      have HS2 : Hid (E = if colE (zs.take kk) zs[kk].1.data.toList zs[kk].2 ≠ 0 then colE (zs.take kk) zs[kk].1.data.toList zs[kk].2 else schGo (zs.take (kk + 1)) (zs.drop (kk + 1))) := HS.out.trans (schGo_at hlt)
      have hsz := hl _ (List.getElem_mem hlt)
      have HF : Hid (findN zs[kk].1.data.toList zs = kk ↔ ¬ 0 ≤ findN zs[kk].1.data.toList (zs.take kk)) := find_self zs kk hlt
      generalize hy : zs[kk] = y at c0 c1 HS2 hsz HF
      obtain ⟨yn, yt⟩ := y
      simp only at c0 c1 HS2 hsz HF
      have hcE : colE (zs.take kk) yn.data.toList yt = if nameB yn.data.toList = false then 2 else if ¬ (1 ≤ yt ∧ yt ≤ 3) then 1 else if 0 ≤ findN yn.data.toList (zs.take kk) then 7 else 0 := rfl
      have cL := letters_any yn wr hsz
      have cF := refFind_any b off c zs yn wr (by omega) hc
      obtain ⟨N, hN⟩ : ∃ N, nameB yn.data.toList = N := ⟨_, rfl⟩
      rw [hN] at cL hcE
      obtain ⟨fi, hfi⟩ : ∃ fi, findN yn.data.toList zs = fi := ⟨_, rfl⟩
      rw [hfi] at cF HF
      have HC : Hid (colE (zs.take kk) yn.data.toList yt = if N = false then 2 else if ¬ (1 ≤ yt ∧ yt ≤ 3) then 1 else if 0 ≤ findN yn.data.toList (zs.take kk) then 7 else 0) := hcE
      clear HS hy hN hfi hcE hl hc
      go_wp2_with fail
      refine cL.mono ?_
      rintro e w' ⟨rfl, rfl⟩
      cases N
      · have hf : E = 2 := by rw [HS2.out, HC.out]; simp
        subst hf
        clear HS2 HC HF
        go_wp2
        go_ret
        exact ⟨rfl, rfl⟩
      · by_cases t1 : yt < 1
        · have hf : E = 1 := by
            have hcv : colE (zs.take kk) yn.data.toList yt = 1 := by rw [HC.out, if_neg (by decide), if_pos (by omega)]
            rw [HS2.out, hcv]; simp
          subst hf
          clear HS2 HC HF
          go_wp2
          go_ret
          exact ⟨rfl, rfl⟩
        · by_cases t3 : 3 < yt
          · have hf : E = 1 := by
              have hcv : colE (zs.take kk) yn.data.toList yt = 1 := by rw [HC.out, if_neg (by decide), if_pos (by omega)]
              rw [HS2.out, hcv]; simp
            subst hf
            clear HS2 HC HF
            go_wp2
            go_ret
            exact ⟨rfl, rfl⟩
          · have HC2 : Hid (colE (zs.take kk) yn.data.toList yt = if 0 ≤ findN yn.data.toList (zs.take kk) then 7 else 0) := by
              show _ = _
              rw [HC.out, if_neg (by decide), if_neg (by omega)]
            clear HC
            by_cases hk : fi = kk
            · have HS3 : Hid (E = schGo (zs.take (kk + 1)) (zs.drop (kk + 1))) := by
                show _ = _
                have hcv : colE (zs.take kk) yn.data.toList yt = 0 := by rw [HC2.out, if_neg (by have := HF.out.1 hk; omega)]
                rw [HS2.out, hcv]; simp
              subst hk
              have hq : ((kk : Int) != (kk : Int)) = false := by simp
              clear HS2 HC2 HF
              go_wp2_with fail
              refine cF.mono ?_
              rintro e w' ⟨rfl, rfl⟩
              go_wp2
              go_roundg (zs.length - (kk + 1))
              case measure => omega
              case rel => exact ⟨kk + 1, by omega, by omega, by go_num, rfl, HS3⟩
            · have hf : E = 7 := by
                have h0 : 0 ≤ findN yn.data.toList (zs.take kk) := Classical.byContradiction fun h => hk (HF.out.2 (by omega))
                have hcv : colE (zs.take kk) yn.data.toList yt = 7 := by rw [HC2.out, if_pos h0]
                rw [HS2.out, hcv]; simp
              subst hf
              have hq : (fi != (kk : Int)) = true := by simpa using hk
              clear HS2 HC2 HF hk
              go_wp2_with fail
              refine cF.mono ?_
              rintro e w' ⟨rfl, rfl⟩
              go_wp2
              go_ret
              exact ⟨rfl, rfl⟩
    · have hltz : ¬ (kk : Int) < (zs.length : Int) := by omega
      have : kk = zs.length := by omega
      have hz : E = 0 := by
        rw [HS.out, this, List.drop_length]; cases zs.take zs.length <;> rfl
      subst hz
      clear HS
      go_wp2
      go_ret
      exact ⟨rfl, rfl⟩
theorem refSchema_any (b off c : Nat) (zs : List (ByteArray × Int)) (w : World) (hl : ∀ z ∈ zs, z.1.size ≤ maxLen) (hc : ColsIn w b off zs) :
    Calls Tryd.prog 27 #[.slice (some ⟨b, off, none⟩) zs.length c] w fun e w' => e = .returned (.int .i64 (schE zs)) ∧ w' = w := by
  rw [schE]
  by_cases h1 : zs.length = 0
  · rw [if_pos h1, h1]
    exact refSchema_none _ c w
  · rw [if_neg h1]
    by_cases h6 : 6 < zs.length
    · rw [if_pos h6]
      exact refSchema_full _ _ c w h6
    · rw [if_neg h6]
      exact refSchema_some b off c zs w h1 h6 hl hc
end Go.Proofs.YtkoejkpjkcejcaaDoor
namespace Go.Proofs.YtkoejkpjkcejcaaDoor
open Go.RowKit Go.BigFrame
set_option linter.unusedVariables false

theorem leaf_none {x : Ex} (h : nodeE x = 0) (hl : x.op.data.toList = [118, 97, 108] ∨ x.op.data.toList = [99, 111, 108]) : x.args.length = 0 := by
  obtain ⟨_, h2, _⟩ := node_ok h
  have : (apL x.op.data.toList opsL).1 = 0 := by
    rcases hl with h | h <;> rw [h] <;> decide
  omega
set_option maxHeartbeats 8000000 in
set_option maxRecDepth 20000 in
theorem refTyped_any (zs : List (ByteArray × Int)) (b off c : Nat) (hn : zs.length ≤ 6) : ∀ (x : Ex) (d : Nat) (lo : Nat → Prop) (v : Value) (w : World) (T H P : Int), (∀ q ∈ x.pre d, nodeE q.1 = 0) → ExIn w lo v x → ColsIn w b off zs → tyP zs x = (T, H, P) →
    Calls Tryd.prog 28 #[v, .slice (some ⟨b, off, none⟩) zs.length c] w fun e w' => e = .returned (.tuple #[.int .i64 T, .int .i64 H, .int .i64 P]) ∧ Below w.heap.size w w' := by
  refine Ex.ind fun op nm vt vn vs pos l ih d lo v w T H P hpre hx hc hR => ?_
  obtain ⟨i0, hi, hz0, hz1, hzz⟩ := info_parts info_int
  rw [ExIn] at hx
  obtain ⟨p, ca, rfl, ⟨hm, hmc⟩, ho, hnm, hvs, hparts⟩ := hx
  have hself := hpre (.node op nm vt vn vs pos l, d) (by rw [Ex.pre]; exact List.mem_cons_self ..)
  have hl3 : l.length ≤ 3 := by
    obtain ⟨h1, h2, _⟩ := node_ok hself
    have := (apL_le _ h1).1
    have h3 : (l.length : Int) = _ := h2
    omega
  have hleaf : op.data.toList = [118, 97, 108] ∨ op.data.toList = [99, 111, 108] → l.length = 0 := fun h => leaf_none hself h
  have hpre2 : Hid (∀ y ∈ l, ∀ q ∈ y.pre (d + 1), nodeE q.1 = 0) := fun y hy q hq => hpre q (by rw [Ex.pre]; exact List.mem_cons_of_mem _ (pres_mem hy q hq))
  have b1 : Below w.heap.size w (w.alloc (.cells #[.string op, .string nm, .int .i64 vt, .int .i64 vn, .string vs, .slice p l.length ca, .int .i64 pos] 27)) := (Below.refl _ w).alloc (Nat.le_refl _) _
  have HCO : Aside (ColsIn w b off zs) := hc
  have HR : Hid (tyP zs (.node op nm vt vn vs pos l) = (T, H, P)) := hR
  have HLF : Hid (op.data.toList = [118, 97, 108] ∨ op.data.toList = [99, 111, 108] → l.length = 0) := hleaf
  have HI : Aside (∀ y ∈ l, ∀ (d : Nat) (lo : Nat → Prop) (v : Value) (w : World) (T H P : Int), (∀ q ∈ y.pre d, nodeE q.1 = 0) → ExIn w lo v y → ColsIn w b off zs → tyP zs y = (T, H, P) → Calls Tryd.prog 28 #[v, .slice (some ⟨b, off, none⟩) zs.length c] w fun e w' => e = .returned (.tuple #[.int .i64 T, .int .i64 H, .int .i64 P]) ∧ Below w.heap.size w w') := ih
  have HPA : Aside (l.length = 0 ∨ ∃ b off, p = some ⟨b, off, none⟩ ∧ b < w.heap.size ∧ lo b ∧ ExsIn w lo b off l) := hparts
  have box : Hid (∀ wr, Below (w.heap.size + 1) (w.alloc (.cells #[.string op, .string nm, .int .i64 vt, .int .i64 vn, .string vs, .slice p l.length ca, .int .i64 pos] 27)) wr → (∀ i, wr.cell? ⟨w.heap.size, i, none⟩ = (#[.string op, .string nm, .int .i64 vt, .int .i64 vn, .string vs, .slice p l.length ca, .int .i64 pos] : Array Value)[i]?) ∧ w.heap.size < wr.heap.size ∧ Below w.heap.size w wr) := fun wr hb => by
    obtain ⟨h1, _, h3⟩ := box_at w _ _ hb (Nat.lt_succ_self _)
    exact ⟨h1, h3, b1.trans (hb.mono (Nat.le_succ _))⟩
  have hlz : (l.length : Int) ≤ 3 := by omega
  clear hpre ih hc hparts hR hself hleaf b1
  go_enter Tryd.func28, Tryd.ntmps28
  go_wp2
  go_loopg [7, 8, 9, 10, 11] l.length (fun gg s7 s8 _ _ _ wr => ∃ (kk : Nat) (acc : List Int) (q : Option Addr) (cp : Nat), kk ≤ l.length ∧ l.length - kk ≤ gg ∧ s8 = .int .i64 kk ∧ s7 = .slice q kk cp ∧ Aside (wr.ownsRow (w.heap.size + 1) 3 1 (.slice q kk cp) kk (acc.map fun t => .int .i64 t)) ∧ Aside (Below (w.heap.size + 1) (w.alloc (.cells #[.string op, .string nm, .int .i64 vt, .int .i64 vn, .string vs, .slice p l.length ca, .int .i64 pos] 27)) wr) ∧ Hid (tyGo zs acc (l.drop kk) = tysP zs l ∧ acc.length = kk))
  case atStart => exact ⟨0, [], none, 0, Nat.zero_le _, by omega, rfl, rfl, (show Aside _ from ⟨rfl, .inl ⟨rfl, rfl⟩⟩), (show Aside _ from Below.refl _ _), (show Hid _ from ⟨tyGo_start zs l, rfl⟩)⟩
  case round =>
    obtain ⟨kk, acc, q, cp, hkk, hg, rfl, rfl, OW, BW, HG⟩ := hrel
    obtain ⟨hBx, hl0, bwr⟩ := box.out wr BW.out
    have k5 : wr.cell? ⟨w.heap.size, 5, none⟩ = some (.slice p l.length ca) := hBx 5
    by_cases hlt : kk < l.length
    · have hltz : (kk : Int) < (l.length : Int) := by omega
      have h0z : (0 : Int) ≤ (kk : Int) := by omega
      rcases HPA.out with h | ⟨ba, oa, rfl, hbl, hlo, hE⟩
      · exact absurd h (by omega)
      obtain ⟨v0, v1, v2, v3, v4, v5, v6, e0, e1, e2, e3, e4, e5, e6, hy⟩ := exsIn_at w lo ba l oa hE kk hlt
      obtain ⟨u0, u1, u2, u3, u4, u5, u6, u7, u8, huu⟩ := hy.agg
      injection huu with huu
      simp only [Array.mk.injEq, List.cons.injEq, and_true] at huu
      obtain ⟨rfl, rfl, rfl, rfl, rfl, rfl, rfl⟩ := huu
      have kA : ∀ o, wr.cell? ⟨ba, o, none⟩ = w.cell? ⟨ba, o, none⟩ := fun o => bwr.cell (p := ⟨ba, o, none⟩) hbl
      rw [← kA] at e0 e1 e2 e3 e4 e5 e6
      have hblr : ba < wr.heap.size := by have := bwr.size; omega
      obtain ⟨t, h, pp, hty⟩ : ∃ t h pp, tyP zs l[kk] = (t, h, pp) := ⟨_, _, _, rfl⟩
      have cY := HI.out _ (List.getElem_mem hlt) (d + 1) lo _ wr t h pp (hpre2.out _ (List.getElem_mem hlt)) (hy.on bwr) (HCO.out.on bwr) hty
      have HTY : Hid (tyP zs l[kk] = (t, h, pp)) := hty
      have HKL : Hid (kk < l.length) := hlt
      clear hE kA hy hty hBx
      by_cases hh : h = 0
      · subst hh
        have HG2 : Hid (tyGo zs (acc ++ [t]) (l.drop (kk + 1)) = tysP zs l ∧ (acc ++ [t]).length = kk + 1) := by
          refine ⟨?_, by simp [HG.out.2]⟩
          have h := tyGo_ok (zs := zs) (acc := acc) HKL.out (by rw [HTY.out])
          rw [HTY.out] at h
          rw [← h]; exact HG.out.1
        clear HG HTY
        go_wp2_with fail
        refine cY.mono ?_
        rintro e w4 ⟨rfl, b4⟩
        have hz4 : wr.heap.size ≤ w4.heap.size := b4.size
        have OW4 := own_but OW.out (But.of_below' (r := 0) b4 (Nat.zero_le _)) (by omega)
        have BW5 : Aside (Below (w.heap.size + 1) (w.alloc (.cells #[.string op, .string nm, .int .i64 vt, .int .i64 vn, .string vs, .slice (some ⟨ba, oa, none⟩) l.length ca, .int .i64 pos] 27)) w4) := BW.out.trans (b4.mono hl0)
        clear cY b4 e0 e1 e2 e3 e4 e5 e6 OW
        go_wp2_with (at_builtin; refine wpList_append_own _ rfl _ _ 22 rfl (w.heap.size + 1) 3 i0 (.int .i64 0) 1 8 Tryd.underlying22 hi hz0 hz1 hzz rfl (by decide) _ _ _ rfl (OW4.alloc _) ⟨w4.heap.size, 0, none⟩ 1 1 [.int .i64 t] rfl rfl ?c1 ?c2 ?c3 ?c4 ?c5 ?_)
        case c1 =>
          intro i u hu
          rw [Go.WideShapes.add_plain, World.cell?_alloc_at _ _ _ _ (by simp)]
          simpa using hu
        case c2 =>
          intro u hu
          simp at hu
          subst hu; rfl
        case c3 => simp [maxLen]; omega
        case c4 => omega
        case c5 => simp; omega
        · intro v' w5 hown' hgrow _
          have hlo3 : ∀ j, (Value.slice q kk cp).ownBlock = some j → w.heap.size + 1 ≤ j := fun j hj => (OW4.lt j hj).1
          have bg : Below (w.heap.size + 1) w4 w5 := ((Below.refl _ _).alloc (by omega) _).grown hgrow (by simp; omega) hlo3
          have BW6 : Aside (Below (w.heap.size + 1) (w.alloc (.cells #[.string op, .string nm, .int .i64 vt, .int .i64 vn, .string vs, .slice (some ⟨ba, oa, none⟩) l.length ca, .int .i64 pos] 27)) w5) := BW5.out.trans bg
          obtain ⟨q5, c5, rfl⟩ := lown_slice hown'
          have ow6 : w5.ownsRow (w.heap.size + 1) 3 1 (.slice q5 (kk + 1) c5) (kk + 1) ((acc ++ [t]).map fun t => .int .i64 t) := by rw [List.map_append]; exact hown'
          clear hown' hgrow OW4 bg BW5 HI
          go_wp2
          go_roundg (l.length - (kk + 1))
          case measure => have := HKL.out; omega
          case rel => exact ⟨kk + 1, acc ++ [t], q5, c5, by have := HKL.out; omega, by omega, by go_num, rfl, (show Aside _ from ow6), BW6, HG2⟩
      · have hhb : (h != 0) = true := by simpa using hh
        have hv : op.data.toList ≠ [118, 97, 108] := fun hh => absurd (HLF.out (.inl hh)) (by omega)
        have hcl : op.data.toList ≠ [99, 111, 108] := fun hh => absurd (HLF.out (.inr hh)) (by omega)
        have hfin : (0, h, pp) = (T, H, P) := by
          rw [← HR.out, tyP_op hv hcl, ← HG.out.1, tyGo_bad HKL.out (by rw [HTY.out]; exact hh), HTY.out, if_pos hh]
        simp only [Prod.mk.injEq] at hfin
        obtain ⟨rfl, rfl, rfl⟩ := hfin
        clear HR HG HI hh hv hcl
        go_wp2_with fail
        refine cY.mono ?_
        rintro e w4 ⟨rfl, b4⟩
        have b5 : Below w.heap.size w w4 := bwr.trans (b4.mono bwr.size)
        clear cY b4 e0 e1 e2 e3 e4 e5 e6
        go_wp2
        exact bodyPost_ret (v := .tuple #[.int .i64 0, .int .i64 h, .int .i64 pp]) (by simp [results, Tryd.results28, go_sem]) rfl ⟨rfl, b5⟩
    · have hltz : ¬ (kk : Int) < (l.length : Int) := by omega
      have hts : tysP zs l = (acc, 0, 0) := by rw [← HG.out.1, tyGo_end (by omega)]
      have k0 : wr.cell? ⟨w.heap.size, 0, none⟩ = some (.string op) := hBx 0
      have k1 : wr.cell? ⟨w.heap.size, 1, none⟩ = some (.string nm) := hBx 1
      have k2 : wr.cell? ⟨w.heap.size, 2, none⟩ = some (.int .i64 vt) := hBx 2
      have k6 : wr.cell? ⟨w.heap.size, 6, none⟩ = some (.int .i64 pos) := hBx 6
      have HGL : Hid (acc.length = kk) := HG.out.2
      have hfin := HR.out
      clear HR HG HPA HI hpre2 hBx box
      by_cases hv : op.data.toList = [118, 97, 108]
      · have q1 : (op.toList == [118, 97, 108]) = true := by rw [Lib.toList_data]; simpa using hv
        rw [tyP, if_pos hv] at hfin
        simp only [Prod.mk.injEq] at hfin
        obtain ⟨rfl, rfl, rfl⟩ := hfin
        clear hts HLF OW
        go_wp2
        exact bodyPost_ret (v := .tuple #[.int .i64 vt, .int .i64 0, .int .i64 0]) (by simp [results, Tryd.results28, go_sem]) rfl ⟨rfl, bwr⟩
      · have q1 : (op.toList == [118, 97, 108]) = false := by rw [Lib.toList_data]; simpa using hv
        by_cases hcl : op.data.toList = [99, 111, 108]
        · have q2 : (op.toList == [99, 111, 108]) = true := by rw [Lib.toList_data]; simpa using hcl
          rw [tyP, if_neg hv, if_pos hcl] at hfin
          have hco := HCO.out.on bwr
          have cF := refFind_any b off c zs nm wr (by omega) hco
          clear hts HLF OW
          rcases findN_cases nm.data.toList zs with ⟨h, _⟩ | ⟨j, hj, hjl, _⟩
          · rw [if_pos h] at hfin
            simp only [Prod.mk.injEq] at hfin
            obtain ⟨rfl, rfl, rfl⟩ := hfin
            rw [h] at cF
            go_wp2_with fail
            refine cF.mono ?_
            rintro e w4 ⟨rfl, rfl⟩
            go_wp2
            go_quiet (fail)
            go_wp2
            exact bodyPost_ret (v := .tuple #[.int .i64 0, .int .i64 5, .int .i64 pos]) (by simp [results, Tryd.results28, go_sem]) rfl ⟨rfl, by repeat (first | exact bwr | apply below_drewN | refine Below.drew ?_)⟩
          · rw [if_neg (by omega), hj, Int.toNat_natCast, List.getElem?_eq_getElem hjl] at hfin
            simp only [Option.getD_some, Prod.mk.injEq] at hfin
            obtain ⟨rfl, rfl, rfl⟩ := hfin
            rw [hj] at cF
            obtain ⟨d0, d1⟩ := hco.2 j hjl
            have hcl2 := hco.1
            have hj0 : (0 : Int) ≤ (j : Int) := by omega
            have hj1 : (j : Int) < (zs.length : Int) := by omega
            generalize hz : zs[j] = z at d0 d1
            obtain ⟨zn, zt⟩ := z
            simp only at d0 d1
            go_wp2_with fail
            refine cF.mono ?_
            rintro e w4 ⟨rfl, rfl⟩
            go_wp2
            exact bodyPost_ret (v := .tuple #[.int .i64 zt, .int .i64 0, .int .i64 0]) (by simp [results, Tryd.results28, go_sem]) rfl ⟨by rw [hz], bwr⟩
        · have q2 : (op.toList == [99, 111, 108]) = false := by rw [Lib.toList_data]; simpa using hcl
          rw [tyP_op hv hcl, hts] at hfin
          simp only at hfin
          rw [if_neg (by simp)] at hfin
          obtain ⟨RT, RE, hrr⟩ : ∃ RT RE, ruleP op.data.toList acc = (RT, RE) := ⟨_, _, rfl⟩
          rw [hrr] at hfin
          simp only at hfin
          have hla : acc.length = kk := HGL.out
          have cR := refRule_any op q cp kk acc wr hla (by omega) (ownInts hla OW.out) RT RE hrr
          clear hts HLF OW hrr
          by_cases hE : RE = 0
          · subst hE
            rw [if_neg (by simp)] at hfin
            simp only [Prod.mk.injEq] at hfin
            obtain ⟨rfl, rfl, rfl⟩ := hfin
            go_wp2_with fail
            refine cR.mono ?_
            rintro e w4 ⟨rfl, b4⟩
            have b5 : Below w.heap.size w w4 := bwr.trans (b4.mono bwr.size)
            go_wp2
            exact bodyPost_ret (v := .tuple #[.int .i64 RT, .int .i64 0, .int .i64 0]) (by simp [results, Tryd.results28, go_sem]) rfl ⟨rfl, b5⟩
          · rw [if_pos hE] at hfin
            simp only [Prod.mk.injEq] at hfin
            obtain ⟨rfl, rfl, rfl⟩ := hfin
            have hEb : (RE != 0) = true := by simpa using hE
            go_wp2_with fail
            refine cR.mono ?_
            rintro e w4 ⟨rfl, b4⟩
            have b5 : Below w.heap.size w w4 := bwr.trans (b4.mono bwr.size)
            have m6 : w4.cell? ⟨w.heap.size, 6, none⟩ = some (.int .i64 pos) := by rw [b4.cell (p := ⟨w.heap.size, 6, none⟩) hl0]; exact k6
            have hl4 : w.heap.size < w4.heap.size := by have := b4.size; omega
            clear cR b4
            go_wp2
            go_quiet (fail)
            go_wp2
            exact bodyPost_ret (v := .tuple #[.int .i64 0, .int .i64 RE, .int .i64 pos]) (by simp [results, Tryd.results28, go_sem]) rfl ⟨rfl, by repeat (first | exact b5 | apply below_drewN | refine Below.drew ?_)⟩
end Go.Proofs.YtkoejkpjkcejcaaDoor
namespace Go.Proofs.YtkoejkpjkcejcaaDoor
open Go.RowKit Go.BigFrame
set_option linter.unusedVariables false

theorem refSchemaV (v : Value) (zs : List (ByteArray × Int)) (w : World) (h : ColsV w v zs) : Calls Tryd.prog 27 #[v] w fun e w' => e = .returned (.int .i64 (schE zs)) ∧ w' = w := by
  obtain ⟨q, c, rfl, h⟩ := h
  rcases h with h | ⟨b, off, rfl, h1, h2, h3⟩
  · rw [h, schE, if_pos h]
    exact refSchema_none q c w
  · exact refSchema_any b off c zs w h2 h3
set_option maxHeartbeats 2000000 in
theorem refOf_any (x : Ex) (lo : Nat → Prop) (v vl : Value) (zs : List (ByteArray × Int)) (w : World) (hx : ExIn w lo v x) (hsz : (x.pre 1).length ≤ 1048576) (hcv : ColsV w vl zs) (T H P : Int) (hR : ofP zs x = (T, H, P)) :
    Calls Tryd.prog 12 #[v, vl] w fun e w' => e = .returned (.tuple #[.int .i64 T, .int .i64 H, .int .i64 P]) ∧ Below w.heap.size w w' := by
  obtain ⟨o1, n1, t1, k1, s1, p1, m1, c1, a1, rfl⟩ := hx.agg
  have b1 : Below w.heap.size w (w.alloc (.cells #[.string o1, .string n1, .int .i64 t1, .int .i64 k1, .string s1, .slice p1 m1 c1, .int .i64 a1] 27)) := (Below.refl _ w).alloc (Nat.le_refl _) _
  have box : Hid (∀ W, Below (w.heap.size + 1) (w.alloc (.cells #[.string o1, .string n1, .int .i64 t1, .int .i64 k1, .string s1, .slice p1 m1 c1, .int .i64 a1] 27)) W → (∀ i, W.cell? ⟨w.heap.size, i, none⟩ = (#[.string o1, .string n1, .int .i64 t1, .int .i64 k1, .string s1, .slice p1 m1 c1, .int .i64 a1] : Array Value)[i]?) ∧ w.heap.size < W.heap.size ∧ Below w.heap.size w W) := fun W hb => by
    obtain ⟨h1, _, h3⟩ := box_at w _ _ hb (Nat.lt_succ_self _)
    exact ⟨h1, h3, b1.trans (hb.mono (Nat.le_succ _))⟩
  rw [ofP] at hR
  by_cases hck : ckP x = 0
  · have cC := refCheck_any x lo _ _ (hx.on b1) hsz 0 hck
    rw [if_neg (fun h => h hck)] at hR
    have cS := fun W (hb : Below w.heap.size w W) => refSchemaV vl zs W (hcv.on hb)
    by_cases hsc : schE zs = 0
    · rw [if_neg (fun h => h hsc)] at hR
      rw [hsc] at cS
      obtain ⟨hz1, hz2, _⟩ := schE_zero hsc
      obtain ⟨q, c, rfl, hcols⟩ := hcv
      rcases hcols with h | ⟨b, off, rfl, _, _, hco⟩
      · exact absurd h hz1
      have cT := fun W (hb : Below w.heap.size w W) => refTyped_any zs b off c hz2 x 1 lo _ W T H P (ckP_zero hck).2 (hx.on hb) (hco.on hb) hR
      clear hck hR hsc hz1 hx hco hsz
      go_enter Tryd.func12, Tryd.ntmps12
      go_wp2_with fail
      refine cC.mono ?_
      rintro e w1 ⟨rfl, b2⟩
      obtain ⟨hB, hl, bw1⟩ := box.out w1 (b2.mono (by simp))
      have cS1 := cS w1 bw1
      have cT1 := cT w1 bw1
      have g0 : w1.cell? ⟨w.heap.size, 0, none⟩ = some (.string o1) := hB 0
      have g1 : w1.cell? ⟨w.heap.size, 1, none⟩ = some (.string n1) := hB 1
      have g2 : w1.cell? ⟨w.heap.size, 2, none⟩ = some (.int .i64 t1) := hB 2
      have g3 : w1.cell? ⟨w.heap.size, 3, none⟩ = some (.int .i64 k1) := hB 3
      have g4 : w1.cell? ⟨w.heap.size, 4, none⟩ = some (.string s1) := hB 4
      have g5 : w1.cell? ⟨w.heap.size, 5, none⟩ = some (.slice p1 m1 c1) := hB 5
      have g6 : w1.cell? ⟨w.heap.size, 6, none⟩ = some (.int .i64 a1) := hB 6
      clear cC cS cT b2 hB
      go_wp2_with fail
      refine cS1.mono ?_
      rintro e w2 ⟨rfl, rfl⟩
      go_wp2_with fail
      refine cT1.mono ?_
      rintro e w3 ⟨rfl, b4⟩
      have b5 := bw1.trans (b4.mono bw1.size)
      clear cS1 cT1 b4 g0 g1 g2 g3 g4 g5 g6
      go_wp2
      exact bodyPost_ret (v := .tuple #[.int .i64 T, .int .i64 H, .int .i64 P]) (by simp [results, Tryd.results12, go_sem]) rfl ⟨rfl, b5⟩
    · rw [if_pos hsc] at hR
      simp only [Prod.mk.injEq] at hR
      obtain ⟨rfl, hH, rfl⟩ := hR
      obtain ⟨S, hS⟩ : ∃ S, schE zs = S := ⟨_, rfl⟩
      rw [hS] at hsc hH cS
      subst hH
      have hsb : (S != 0) = true := by simpa using hsc
      clear hck hS hx hsz hsc
      go_enter Tryd.func12, Tryd.ntmps12
      go_wp2_with fail
      refine cC.mono ?_
      rintro e w1 ⟨rfl, b2⟩
      obtain ⟨_, hl, bw1⟩ := box.out w1 (b2.mono (by simp))
      have cS1 := cS w1 bw1
      clear cC cS b2
      go_wp2_with fail
      refine cS1.mono ?_
      rintro e w2 ⟨rfl, rfl⟩
      go_wp2
      exact bodyPost_ret (v := .tuple #[.int .i64 0, .int .i64 S, .int .i64 0]) (by simp [results, Tryd.results12, go_sem]) rfl ⟨rfl, bw1⟩
  · rw [if_pos hck] at hR
    simp only [Prod.mk.injEq] at hR
    obtain ⟨rfl, hH, rfl⟩ := hR
    have cC := refCheck_any x lo _ _ (hx.on b1) hsz H hH
    have hH0 : H ≠ 0 := by rw [← hH]; exact hck
    have hHb : (H != 0) = true := by simpa using hH0
    have hHe : (H == 0) = false := by simpa using hH0
    clear hck hH hx hsz hH0
    go_enter Tryd.func12, Tryd.ntmps12
    go_wp2_with fail
    refine cC.mono ?_
    rintro e w1 ⟨rfl, b2⟩
    obtain ⟨_, hl, bw1⟩ := box.out w1 (b2.mono (by simp))
    clear cC b2
    go_wp2
    exact bodyPost_ret (v := .tuple #[.int .i64 0, .int .i64 H, .int .i64 0]) (by simp [results, Tryd.results12, go_sem]) rfl ⟨rfl, bw1⟩
end Go.Proofs.YtkoejkpjkcejcaaDoor
namespace Go.Proofs.YtkoejkpjkcejcaaDoor
open Go.RowKit Go.BigFrame
set_option linter.unusedVariables false

def opsS : List ByteArray := kdRules.map fun r => ⟨r.1.toArray⟩
/-- Texts one behind the other. -/
def StrsAt (w : World) (p : Option Addr) (ss : List ByteArray) : Prop := ∃ b off, p = some ⟨b, off, none⟩ ∧ b < w.heap.size ∧ ∀ j (h : j < ss.length), w.cell? ⟨b, off + j, none⟩ = some (.string ss[j])
theorem StrsAt.on {w w' : World} {p : Option Addr} {ss : List ByteArray} (h : StrsAt w p ss) (hb : Below w.heap.size w w') : StrsAt w' p ss := by
  obtain ⟨b, off, e, hl, h⟩ := h
  exact ⟨b, off, e, by have := hb.size; omega, fun j hj => by rw [hb.cell (p := ⟨b, _, none⟩) hl]; exact h j hj⟩
theorem info_strO : (Tryd.prog.info? 9).map (fun i => (i.zero, i.size, i.bytes)) = some (some (.string ⟨#[]⟩), 1, 16) := by kernel_rfl
theorem ownStrs {W : World} {B : Nat} {q : Option Addr} {c n : Nat} {ss : List ByteArray} (hn : ss.length = n) (h0 : 0 < n) (h : W.ownsRow B 9 1 (.slice q n c) n (ss.map .string)) : StrsAt W q ss := by
  rcases h.2 with ⟨e1, _⟩ | ⟨g, cap, cur, e1, hb, hg, hm, hx, hs, ht⟩
  · injection e1 with e1 e2; omega
  · injection e1 with e1 e2 e3
    subst e1
    refine ⟨g, 0, rfl, (Array.getElem?_eq_some_iff.1 hg).1, fun j hj => ?_⟩
    have h1 := h.cells (g := g) rfl j (.string ss[j]) (by rw [List.getElem?_map, List.getElem?_eq_getElem hj]; rfl)
    rw [Go.WideShapes.add_plain] at h1
    simpa using h1
theorem opsS_take {k : Nat} (hk : k < 17) {S : ByteArray} (h : (kdRules[k]'hk).1 = S.data.toList) : opsS.take k ++ [S] = opsS.take (k + 1) := by
  have hl : k < opsS.length := hk
  rw [List.take_add_one, List.getElem?_eq_getElem hl]
  have : opsS[k] = S := by
    have h1 : opsS[k] = (⟨(kdRules[k]'hk).1.toArray⟩ : ByteArray) := List.getElem_map (l := kdRules) (fun r : KRule => (⟨r.1.toArray⟩ : ByteArray))
    rw [h1, h]
  rw [this]
  rfl
set_option maxHeartbeats 2000000 in
set_option maxRecDepth 20000 in
theorem kindOps_any (w : World) (henv : REnv w) :
    Calls Tryd.prog 10 #[] w fun e w' => (∃ q c, e = .returned (.slice q 17 c) ∧ Aside (StrsAt w' q opsS)) ∧ Below w.heap.size w w' := by
  obtain ⟨i0, hi, hz0, hz1, hzz⟩ := info_parts info_strO
  obtain ⟨tt, fr, hgl⟩ := henv
  go_enter Tryd.func10, Tryd.ntmps10
  go_wp2_with (refine wpList_load_row rfl 68 _ rfl 0 rfl tt _ fr _ hgl Tryd.underlying68 rfl (by kernel_rfl) ?_)
  have hat := rule_at
  generalize Value.agg rulesC = AR at hat ⊢
  clear hgl
  go_loopg [1, 3, 5] 17 (fun gg s1 _ s5 wr => ∃ (kk : Nat) (acc : List ByteArray) (q : Option Addr) (cp : Nat), kk ≤ 17 ∧ 17 - kk ≤ gg ∧ s5 = .int .i64 kk ∧ s1 = .slice q kk cp ∧ Aside (wr.ownsRow w.heap.size 9 1 (.slice q kk cp) kk (acc.map .string)) ∧ Aside (Below w.heap.size w wr) ∧ Hid (acc = opsS.take kk))
  case atStart => exact ⟨0, [], none, 0, Nat.zero_le _, by omega, rfl, rfl, (show Aside _ from ⟨rfl, .inl ⟨rfl, rfl⟩⟩), (show Aside _ from Below.refl _ _), (show Hid _ from rfl)⟩
  case round =>
    obtain ⟨kk, acc, q, cp, hkk, hg, rfl, rfl, OW, BW, HE⟩ := hrel
    have hzr : w.heap.size ≤ wr.heap.size := BW.out.size
    by_cases hlt : kk < 17
    · have hltz : (kk : Int) < 17 := by omega
      obtain ⟨S, a0, a1, a2, ty, hix, hkr, _⟩ := hat kk hlt
      have HT : Hid (acc ++ [S] = opsS.take (kk + 1)) := by
        show _ = _
        rw [HE.out]; exact opsS_take hlt (by rw [hkr])
      have hix2 := fun W => hix W
      have OW4 := OW.out.alloc (.cells #[.string S, .int .i64 a0, .int .i64 a1, .int .i64 a2, .int .i64 ty] 60)
      have BW4 : Aside (Below w.heap.size w (wr.alloc (.cells #[.string S, .int .i64 a0, .int .i64 a1, .int .i64 a2, .int .i64 ty] 60))) := BW.out.alloc hzr _
      clear HE hkr OW
      go_wp2_with (at_builtin; refine wpList_append_own _ rfl _ _ 37 rfl w.heap.size 9 i0 (.string ⟨#[]⟩) 1 16 Tryd.underlying37 hi hz0 hz1 hzz rfl (by decide) _ _ _ rfl (OW4.alloc _) ⟨wr.heap.size + 1, 0, none⟩ 1 1 [.string S] rfl rfl ?c1 ?c2 ?c3 ?c4 ?c5 ?_)
      case c1 =>
        intro i u hu
        rw [Go.WideShapes.add_plain, World.cell?_alloc_at _ _ _ _ (by simp)]
        simpa using hu
      case c2 =>
        intro u hu
        simp at hu
        subst hu; rfl
      case c3 => simp [maxLen]; omega
      case c4 => omega
      case c5 => simp; omega
      · intro v' w5 hown' hgrow _
        have hlo3 : ∀ j, (Value.slice q kk cp).ownBlock = some j → w.heap.size ≤ j := fun j hj => (OW4.lt j hj).1
        have bg : Below w.heap.size (wr.alloc (.cells #[.string S, .int .i64 a0, .int .i64 a1, .int .i64 a2, .int .i64 ty] 60)) w5 := ((Below.refl _ _).alloc (by simp; omega) _).grown hgrow (by simp; omega) hlo3
        have BW6 : Aside (Below w.heap.size w w5) := BW4.out.trans bg
        obtain ⟨q5, c5, rfl⟩ := lown_slice hown'
        have ow6 : w5.ownsRow w.heap.size 9 1 (.slice q5 (kk + 1) c5) (kk + 1) ((acc ++ [S]).map .string) := by rw [List.map_append]; exact hown'
        clear hown' hgrow OW4 bg BW4
        go_wp2
        go_roundg (17 - (kk + 1))
        case measure => omega
        case rel => exact ⟨kk + 1, acc ++ [S], q5, c5, by omega, by omega, by go_num, rfl, (show Aside _ from ow6), BW6, HT⟩
    · have hltz : ¬ (kk : Int) < 17 := by omega
      obtain rfl : kk = 17 := by omega
      have hacc : acc = opsS := by rw [HE.out]; rfl
      subst hacc
      have hst : Aside (StrsAt wr q opsS) := ownStrs rfl (by decide) OW.out
      clear HE OW hat
      go_wp2
      go_ret
      exact ⟨⟨q, ⟨cp, rfl⟩, hst⟩, BW.out⟩
theorem refOps_any (w : World) : Calls Tryd.prog 11 #[] w fun e w' => (∃ q c, e = .returned (.slice q 17 c) ∧ Aside (StrsAt w' q opsS)) ∧ Below w.heap.size w w' := by
  go_enter Tryd.func11, Tryd.ntmps11
  go_wp2
  go_ret
  refine ⟨⟨_, _, rfl, (show Aside _ from ⟨w.heap.size, 0, rfl, by simp, fun j hj => ?_⟩)⟩, (Below.refl _ w).alloc (Nat.le_refl _) _⟩
  rw [World.cell?_alloc_at _ _ _ _ rfl]
  have h17 : j < 17 := hj
  have : j = 0 ∨ j = 1 ∨ j = 2 ∨ j = 3 ∨ j = 4 ∨ j = 5 ∨ j = 6 ∨ j = 7 ∨ j = 8 ∨ j = 9 ∨ j = 10 ∨ j = 11 ∨ j = 12 ∨ j = 13 ∨ j = 14 ∨ j = 15 ∨ j = 16 := by omega
  rcases this with rfl | rfl | rfl | rfl | rfl | rfl | rfl | rfl | rfl | rfl | rfl | rfl | rfl | rfl | rfl | rfl | rfl <;> rfl
set_option maxHeartbeats 2000000 in
theorem texts_same (p q : Option Addr) (c d N : Nat) (ss : List ByteArray) (w : World) (hN : ss.length = N) (hl : N ≤ 9223372036854775807) (hp : StrsAt w p ss) (hq : StrsAt w q ss) :
    Calls Tryd.prog 9 #[.slice p N c, .slice q N d] w fun e w' => e = .returned (.bool true) ∧ Below w.heap.size w w' := by
  obtain ⟨b1, o1, rfl, l1, h1⟩ := hp
  obtain ⟨b2, o2, rfl, l2, h2⟩ := hq
  have HN : Hid (ss.length = N) := hN
  have qn : ((N : Int) != (N : Int)) = false := by simp
  go_enter Tryd.func9, Tryd.ntmps9
  go_wp2
  go_loopg [5] N (fun gg s5 wr => ∃ kk : Nat, kk ≤ N ∧ N - kk ≤ gg ∧ s5 = .int .i64 kk ∧ Aside (Below w.heap.size w wr))
  case atStart => exact ⟨0, Nat.zero_le _, by omega, rfl, (show Aside _ from Below.refl _ _)⟩
  case round =>
    obtain ⟨kk, hkk, hg, rfl, BW⟩ := hrel
    by_cases hlt : kk < N
    · have hltz : (kk : Int) < (N : Int) := by omega
      have h0z : (0 : Int) ≤ (kk : Int) := by omega
      have hk2 : kk < ss.length := by rw [HN.out]; exact hlt
      have e1 : wr.cell? ⟨b1, o1 + kk, none⟩ = some (.string ss[kk]) := by rw [BW.out.cell (p := ⟨b1, _, none⟩) l1]; exact h1 kk hk2
      have e2 : wr.cell? ⟨b2, o2 + kk, none⟩ = some (.string ss[kk]) := by rw [BW.out.cell (p := ⟨b2, _, none⟩) l2]; exact h2 kk hk2
      generalize ss[kk] = S at e1 e2
      have qs : (S.toList == S.toList) = true := by simp
      go_wp2
      go_quiet (fail)
      go_wp2
      go_roundg (N - (kk + 1))
      case measure => omega
      case rel => exact ⟨kk + 1, by omega, by omega, by go_num, (show Aside _ by repeat (first | exact BW.out | apply below_drewN | refine Below.drew ?_))⟩
    · have hltz : ¬ (kk : Int) < (N : Int) := by omega
      go_wp2
      go_ret
      exact ⟨rfl, BW.out⟩
end Go.Proofs.YtkoejkpjkcejcaaDoor
namespace Go.Proofs.YtkoejkpjkcejcaaDoor
open Go.RowKit Go.BigFrame
set_option linter.unusedVariables false

set_option maxHeartbeats 4000000 in
set_option maxRecDepth 20000 in
theorem tells_kind (op : ByteArray) (p : Option Addr) (c N : Nat) (ts : List Int) (x : Ex) (lo : Nat → Prop) (v vl : Value) (zs : List (ByteArray × Int)) (w : World) (henv : KEnv w) (hN : ts.length = N) (hl : N ≤ 9223372036854775807) (hts : IntsAt w p ts) (hx : ExIn w lo v x) (hsz : (x.pre 1).length ≤ 1048576) (hcv : ColsV w vl zs) :
    Calls Tryd.prog 3 #[.string op, .slice p N c, v, vl] w fun e' w' => e' = .returned (.bool true) ∧ Below w.heap.size w w' := by
  obtain ⟨o1, n1, t1, k1, s1, p1, m1, c1, a1, rfl⟩ := hx.agg
  have b0 : Below w.heap.size w (w.alloc (.cells #[.string o1, .string n1, .int .i64 t1, .int .i64 k1, .string s1, .slice p1 m1 c1, .int .i64 a1] 27)) := (Below.refl _ w).alloc (Nat.le_refl _) _
  have E0 : Hid (∀ W, Below (w.heap.size + 1) (w.alloc (.cells #[.string o1, .string n1, .int .i64 t1, .int .i64 k1, .string s1, .slice p1 m1 c1, .int .i64 a1] 27)) W → (∀ i, W.cell? ⟨w.heap.size, i, none⟩ = (#[.string o1, .string n1, .int .i64 t1, .int .i64 k1, .string s1, .slice p1 m1 c1, .int .i64 a1] : Array Value)[i]?) ∧ w.heap.size + 1 ≤ W.heap.size ∧ Below w.heap.size w W) := fun W hb => by
    obtain ⟨h1, _, h3⟩ := box_at w _ _ hb (Nat.lt_succ_self _)
    exact ⟨h1, h3, b0.trans (hb.mono (Nat.le_succ _))⟩
  obtain ⟨T, E, hru⟩ : ∃ T E, ruleP op.data.toList ts = (T, E) := ⟨_, _, rfl⟩
  obtain ⟨X, F, AT, hof⟩ : ∃ X F AT, ofP zs x = (X, F, AT) := ⟨_, _, _, rfl⟩
  have cR := fun W (hW : Below (w.heap.size + 1) (w.alloc (.cells #[.string o1, .string n1, .int .i64 t1, .int .i64 k1, .string s1, .slice p1 m1 c1, .int .i64 a1] 27)) W) => refRule_any op p c N ts W hN hl (hts.on (E0.out W hW).2.2) T E hru
  have cK := fun W (hW : Below (w.heap.size + 1) (w.alloc (.cells #[.string o1, .string n1, .int .i64 t1, .int .i64 k1, .string s1, .slice p1 m1 c1, .int .i64 a1] 27)) W) => rule_any op p c N ts W (henv.on (E0.out W hW).2.2).rules hN hl (hts.on (E0.out W hW).2.2) T E hru
  have cO := fun W (hW : Below (w.heap.size + 1) (w.alloc (.cells #[.string o1, .string n1, .int .i64 t1, .int .i64 k1, .string s1, .slice p1 m1 c1, .int .i64 a1] 27)) W) => kindOps_any W (henv.on (E0.out W hW).2.2).rules
  have cF := fun W (hb : Below w.heap.size w W) => refOf_any x lo _ vl zs W (hx.on hb) hsz (hcv.on hb) X F AT hof
  have cG := fun W (hb : Below w.heap.size w W) => of_any x lo _ vl zs W (henv.on hb) (hx.on hb) hsz (hcv.on hb) X F AT hof
  have HET : Aside (∀ W, Below w.heap.size w W → W.cell? ⟨1, 0, none⟩ = some (.iface 114 (.agg #[.pointer (some ⟨5, 32, none⟩)]))) := fun W hb => (henv.on hb).et
  have qT : (T == T) = true := by simp
  have qX : (X == X) = true := by simp
  have qF : (F == F) = true := by simp
  have qA : (AT == AT) = true := by simp
  clear henv hts hx hsz hcv hru hof hN
  by_cases hE : E = 0
  · subst hE
    rw [show errV 0 = .nilIface from rfl] at cK
    go_enter Tryd.func3, Tryd.ntmps3
    go_wp2_with fail
    refine (cR _ (Below.refl _ _)).mono ?_
    rintro e' w1 ⟨rfl, b1⟩
    have B1 : Below (w.heap.size + 1) (w.alloc (.cells #[.string o1, .string n1, .int .i64 t1, .int .i64 k1, .string s1, .slice p1 m1 c1, .int .i64 a1] 27)) w1 := b1.mono (by simp)
    go_wp2_with fail
    refine (cK w1 B1).mono ?_
    rintro e' w2 ⟨rfl, b2⟩
    have B2 : Below (w.heap.size + 1) (w.alloc (.cells #[.string o1, .string n1, .int .i64 t1, .int .i64 k1, .string s1, .slice p1 m1 c1, .int .i64 a1] 27)) w2 := B1.trans (b2.mono (E0.out w1 B1).2.1)
    clear cR cK b1 b2
    go_wp2_with fail
    refine (same_nil 0 w2).mono ?_
    rintro e' w3 ⟨rfl, rfl⟩
    rw [show ((0 : Int) == 0) = true from rfl]
    have B3 := B2
    have cO3 := cO _ B3
    go_wp2_with fail
    refine cO3.mono ?_
    rintro e' w4 ⟨⟨q4, c4, rfl, hs4⟩, b4⟩
    have B4 := B3.trans (b4.mono (E0.out _ B3).2.1)
    clear cO3 b4
    go_wp2_with fail
    refine (refOps_any w4).mono ?_
    rintro e' w5 ⟨⟨q5, c5, rfl, hs5⟩, b5⟩
    have B5 := B4.trans (b5.mono (E0.out _ B4).2.1)
    have cT := texts_same q4 q5 c4 c5 17 opsS w5 rfl (by decide) (hs4.out.on b5) hs5.out
    clear b5 hs4 hs5
    go_wp2_with fail
    refine cT.mono ?_
    rintro e' w6 ⟨rfl, b6⟩
    have B6 := B5.trans (b6.mono (E0.out _ B5).2.1)
    obtain ⟨hB, hl6, bw6⟩ := E0.out w6 B6
    have g0 : w6.cell? ⟨w.heap.size, 0, none⟩ = some (.string o1) := hB 0
    have g1 : w6.cell? ⟨w.heap.size, 1, none⟩ = some (.string n1) := hB 1
    have g2 : w6.cell? ⟨w.heap.size, 2, none⟩ = some (.int .i64 t1) := hB 2
    have g3 : w6.cell? ⟨w.heap.size, 3, none⟩ = some (.int .i64 k1) := hB 3
    have g4 : w6.cell? ⟨w.heap.size, 4, none⟩ = some (.string s1) := hB 4
    have g5 : w6.cell? ⟨w.heap.size, 5, none⟩ = some (.slice p1 m1 c1) := hB 5
    have g6 : w6.cell? ⟨w.heap.size, 6, none⟩ = some (.int .i64 a1) := hB 6
    have cF6 := cF w6 bw6
    clear cT b6 hB cO
    go_wp2_with fail
    refine cF6.mono ?_
    rintro e' w7 ⟨rfl, b7⟩
    have B7 := B6.trans (b7.mono hl6)
    obtain ⟨hB, hl7, bw7⟩ := E0.out w7 B7
    have j0 : w7.cell? ⟨w.heap.size, 0, none⟩ = some (.string o1) := hB 0
    have j1 : w7.cell? ⟨w.heap.size, 1, none⟩ = some (.string n1) := hB 1
    have j2 : w7.cell? ⟨w.heap.size, 2, none⟩ = some (.int .i64 t1) := hB 2
    have j3 : w7.cell? ⟨w.heap.size, 3, none⟩ = some (.int .i64 k1) := hB 3
    have j4 : w7.cell? ⟨w.heap.size, 4, none⟩ = some (.string s1) := hB 4
    have j5 : w7.cell? ⟨w.heap.size, 5, none⟩ = some (.slice p1 m1 c1) := hB 5
    have j6 : w7.cell? ⟨w.heap.size, 6, none⟩ = some (.int .i64 a1) := hB 6
    have cG7 := cG w7 bw7
    clear cF6 cF cG b7 hB g0 g1 g2 g3 g4 g5 g6
    go_wp2_with fail
    refine cG7.mono ?_
    rintro e' w8 ⟨rfl, b8⟩
    have bw8 : Below w.heap.size w w8 := bw7.trans (b8.mono bw7.size)
    clear cG7 b8 j0 j1 j2 j3 j4 j5 j6
    go_wp2
    go_ret
    exact ⟨rfl, bw8.alloc bw8.size _⟩
  · have cK' := cK
    clear cK
    have cK : ∀ W, Below (w.heap.size + 1) (w.alloc (.cells #[.string o1, .string n1, .int .i64 t1, .int .i64 k1, .string s1, .slice p1 m1 c1, .int .i64 a1] 27)) W → Calls Tryd.prog 7 #[.string op, .slice p N c] W fun e w' => e = .returned (.tuple #[.int .i64 T, .iface 41 (.int .i64 E)]) ∧ Below W.heap.size W w' := fun W hW => (cK' W hW).mono fun e w' h => by rw [errV, if_neg hE] at h; exact h
    clear cK' hE
    go_enter Tryd.func3, Tryd.ntmps3
    go_wp2_with fail
    refine (cR _ (Below.refl _ _)).mono ?_
    rintro e' w1 ⟨rfl, b1⟩
    have B1 : Below (w.heap.size + 1) (w.alloc (.cells #[.string o1, .string n1, .int .i64 t1, .int .i64 k1, .string s1, .slice p1 m1 c1, .int .i64 a1] 27)) w1 := b1.mono (by simp)
    go_wp2_with fail
    refine (cK w1 B1).mono ?_
    rintro e' w2 ⟨rfl, b2⟩
    have B2 : Below (w.heap.size + 1) (w.alloc (.cells #[.string o1, .string n1, .int .i64 t1, .int .i64 k1, .string s1, .slice p1 m1 c1, .int .i64 a1] 27)) w2 := B1.trans (b2.mono (E0.out w1 B1).2.1)
    clear cR cK b1 b2
    go_wp2_with fail
    refine (same_err E E w2 (HET.out w2 (E0.out w2 B2).2.2)).mono ?_
    rintro e' w3 ⟨rfl, b3⟩
    rw [show (E == E) = true by simp]
    have B3 : Below (w.heap.size + 1) (w.alloc (.cells #[.string o1, .string n1, .int .i64 t1, .int .i64 k1, .string s1, .slice p1 m1 c1, .int .i64 a1] 27)) w3 := B2.trans (b3.mono (E0.out w2 B2).2.1)
    clear b3
    have cO3 := cO _ B3
    go_wp2_with fail
    refine cO3.mono ?_
    rintro e' w4 ⟨⟨q4, c4, rfl, hs4⟩, b4⟩
    have B4 := B3.trans (b4.mono (E0.out _ B3).2.1)
    clear cO3 b4
    go_wp2_with fail
    refine (refOps_any w4).mono ?_
    rintro e' w5 ⟨⟨q5, c5, rfl, hs5⟩, b5⟩
    have B5 := B4.trans (b5.mono (E0.out _ B4).2.1)
    have cT := texts_same q4 q5 c4 c5 17 opsS w5 rfl (by decide) (hs4.out.on b5) hs5.out
    clear b5 hs4 hs5
    go_wp2_with fail
    refine cT.mono ?_
    rintro e' w6 ⟨rfl, b6⟩
    have B6 := B5.trans (b6.mono (E0.out _ B5).2.1)
    obtain ⟨hB, hl6, bw6⟩ := E0.out w6 B6
    have g0 : w6.cell? ⟨w.heap.size, 0, none⟩ = some (.string o1) := hB 0
    have g1 : w6.cell? ⟨w.heap.size, 1, none⟩ = some (.string n1) := hB 1
    have g2 : w6.cell? ⟨w.heap.size, 2, none⟩ = some (.int .i64 t1) := hB 2
    have g3 : w6.cell? ⟨w.heap.size, 3, none⟩ = some (.int .i64 k1) := hB 3
    have g4 : w6.cell? ⟨w.heap.size, 4, none⟩ = some (.string s1) := hB 4
    have g5 : w6.cell? ⟨w.heap.size, 5, none⟩ = some (.slice p1 m1 c1) := hB 5
    have g6 : w6.cell? ⟨w.heap.size, 6, none⟩ = some (.int .i64 a1) := hB 6
    have cF6 := cF w6 bw6
    clear cT b6 hB cO
    go_wp2_with fail
    refine cF6.mono ?_
    rintro e' w7 ⟨rfl, b7⟩
    have B7 := B6.trans (b7.mono hl6)
    obtain ⟨hB, hl7, bw7⟩ := E0.out w7 B7
    have j0 : w7.cell? ⟨w.heap.size, 0, none⟩ = some (.string o1) := hB 0
    have j1 : w7.cell? ⟨w.heap.size, 1, none⟩ = some (.string n1) := hB 1
    have j2 : w7.cell? ⟨w.heap.size, 2, none⟩ = some (.int .i64 t1) := hB 2
    have j3 : w7.cell? ⟨w.heap.size, 3, none⟩ = some (.int .i64 k1) := hB 3
    have j4 : w7.cell? ⟨w.heap.size, 4, none⟩ = some (.string s1) := hB 4
    have j5 : w7.cell? ⟨w.heap.size, 5, none⟩ = some (.slice p1 m1 c1) := hB 5
    have j6 : w7.cell? ⟨w.heap.size, 6, none⟩ = some (.int .i64 a1) := hB 6
    have cG7 := cG w7 bw7
    clear cF6 cF cG b7 hB g0 g1 g2 g3 g4 g5 g6
    go_wp2_with fail
    refine cG7.mono ?_
    rintro e' w8 ⟨rfl, b8⟩
    have bw8 : Below w.heap.size w w8 := bw7.trans (b8.mono bw7.size)
    clear cG7 b8 j0 j1 j2 j3 j4 j5 j6
    go_wp2
    go_ret
    exact ⟨rfl, bw8.alloc bw8.size _⟩
end Go.Proofs.YtkoejkpjkcejcaaDoor
