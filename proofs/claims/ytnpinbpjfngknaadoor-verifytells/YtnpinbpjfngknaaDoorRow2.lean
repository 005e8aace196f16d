/-
  What package row's place and Find say of any columns; and of which names isName is true.
-/
import Derived.Test.YtnpinbpjfngknaaDoorRow1
namespace Go.Proofs.YtnpinbpjfngknaaDoor
open Go.RowKit
set_option linter.unusedVariables false

theorem indexFunc_none (f : Value) (p : Option Addr) (c : Nat) (w : World) :
    Calls Tryd.prog 50 #[.slice p 0 c, f] w fun e w' => e = .returned (.int .i64 (-1)) ∧ w' = w := by
  go_enter Tryd.func50, Tryd.ntmps50
  go_wp2
  refine wp_loop_rounds 1 ?_
  rw [rounds_succ]
  go_wp2
  go_ret
  exact ⟨rfl, rfl⟩
theorem place_none (nm : ByteArray) (p : Option Addr) (c : Nat) (w : World) :
    Calls Tryd.prog 37 #[.slice p 0 c, .string nm] w fun e w' => e = .returned (.int .i64 (-1)) ∧ Below w.heap.size w w' := by
  go_enter Tryd.func37, Tryd.ntmps37
  go_wp2_with fail
  refine (indexFunc_none _ p c _).mono ?_
  rintro e w' ⟨rfl, rfl⟩
  go_wp2
  go_ret
  exact ⟨rfl, (Below.refl _ _).alloc (Nat.le_refl _) _⟩
theorem place_any (nm : ByteArray) (b off c : Nat) (zs : List (ByteArray × Int)) (w : World) (hn : zs.length ≤ 9223372036854775807) (hc : ColsIn w b off zs) :
    Calls Tryd.prog 37 #[.slice (some ⟨b, off, none⟩) zs.length c, .string nm] w fun e w' => e = .returned (.int .i64 (findN nm.data.toList zs)) ∧ Below w.heap.size w w' := by
  have hb0 : Below w.heap.size w (w.alloc (.cells #[.string nm] 9)) := (Below.refl _ _).alloc (Nat.le_refl _) _
  have hc1 := hc.on hb0
  go_enter Tryd.func37, Tryd.ntmps37
  go_wp2_with fail
  refine (indexFunc_col nm b off c w.heap.size zs _ hn hc1 (by simp) (by simp)).mono ?_
  rintro e w' ⟨rfl, b1⟩
  go_wp2
  go_ret
  exact ⟨rfl, hb0.trans (b1.mono (by simp))⟩
theorem findN_cases (x : List UInt8) (zs : List (ByteArray × Int)) : (findN x zs = -1 ∧ ∀ j (hj : j < zs.length), zs[j].1.data.toList ≠ x) ∨ ∃ k : Nat, findN x zs = k ∧ ∃ h : k < zs.length, zs[k].1.data.toList = x ∧ ∀ j (hj : j < k), zs[j].1.data.toList ≠ x := by
  rw [findN]
  cases h : zs.findIdx? (fun z => z.1.data.toList == x) with
  | none =>
    left
    refine ⟨rfl, fun j hj => ?_⟩
    rw [List.findIdx?_eq_none_iff] at h
    simpa using h _ (List.getElem_mem hj)
  | some k =>
    right
    rw [List.findIdx?_eq_some_iff_getElem] at h
    obtain ⟨hk, he, hn⟩ := h
    exact ⟨k, rfl, hk, by simpa using he, fun j hj => by simpa using hn j hj⟩
/-- A name of 1 to 8 letters a to z. -/
def letN (c : UInt8) : Bool := decide (97 ≤ c.toNat) && decide (c.toNat ≤ 122)
def nameB (l : List UInt8) : Bool := decide (1 ≤ l.length) && (decide (l.length ≤ 8) && l.all letN)
def noLet (r : Int) : Bool := decide (r < 97) || decide (122 < r)
theorem isName1_any (r : Int) (w : World) :
    Calls Tryd.prog 46 #[.int .i32 r] w fun e w' => e = .returned (.bool (noLet r)) ∧ w' = w := by
  by_cases h1 : r < 97
  · rw [show noLet r = true by simp [noLet, h1]]
    go_enter Tryd.func46, Tryd.ntmps46
    go_wp2
    go_ret
    exact ⟨rfl, rfl⟩
  · by_cases h2 : 122 < r
    · rw [show noLet r = true by simp [noLet, h2]]
      go_enter Tryd.func46, Tryd.ntmps46
      go_wp2
      go_ret
      exact ⟨rfl, rfl⟩
    · rw [show noLet r = false by simp [noLet, h1, h2]]
      go_enter Tryd.func46, Tryd.ntmps46
      go_wp2
      go_ret
      exact ⟨rfl, rfl⟩
theorem let_take (s : ByteArray) (k : Nat) (h : k < s.size) : (s.data.toList.take (k + 1)).all letN = ((s.data.toList.take k).all letN && letN s[k]) := by
  have : s.data.toList.take (k + 1) = s.data.toList.take k ++ [s[k]] := by
    rw [List.take_succ_eq_append_getElem (by simpa using h)]; rfl
  rw [this, List.all_append]; simp
theorem let_not (s : ByteArray) (k : Nat) (h : k < s.size) (hc : letN s[k] = false) : s.data.toList.all letN = false := by
  rw [List.all_eq_false]
  exact ⟨s[k], by rw [show s[k] = s.data.toList[k]'(by simpa using h) from rfl]; exact List.getElem_mem _, by simp [hc]⟩
set_option maxHeartbeats 2000000 in
theorem indexFunc_name (s : ByteArray) (w : World) :
    Calls Tryd.prog 67 #[.string s, .func (.func 46) #[] #[], .bool true] w fun e w' => (∃ k : Int, e = .returned (.int .i64 k) ∧ decide (0 ≤ k) = !s.data.toList.all letN) ∧ Below w.heap.size w w' := by
  go_enter Tryd.func67, Tryd.ntmps67
  go_wp2
  go_loopg [7, 8] s.size (fun gf _ _ wx => ∃ pos : Nat, wx.heap[w.heap.size]? = some (.stringIter s pos) ∧ Below w.heap.size w wx ∧ Hid ((s.data.toList.take pos).all letN = true) ∧ s.size ≤ pos + gf ∧ pos ≤ s.size)
  case atStart => exact ⟨0, World.iter_heap w s 0, (Below.refl _ w).alloc (Nat.le_refl _) _, (show Hid _ by simp [Hid]), by omega, by omega⟩
  case round =>
    obtain ⟨pos, hit, hbw, HA, hfu, hps'⟩ := hrel
    by_cases hps : pos < s.size
    · obtain ⟨g', rfl⟩ : ∃ g', gk = g' + 1 := ⟨gk - 1, by omega⟩
      have hnx : ∀ ty, (Instr.next (.pointer (some ⟨w.heap.size, 0, none⟩)) true ty).run Tryd.prog wr = _ := fun ty => Lib.run_next_any_at wr w.heap.size s pos ty hit hps
      have hit2 := Lib.iterAt_heap wr w.heap.size s pos (pos + (Utf8.decode s pos).2) hit
      have hbw2 := Lib.below_iterAt hbw (k := w.heap.size) (Nat.le_refl _) s (pos + (Utf8.decode s pos).2)
      by_cases hl : letN s[pos] = true
      · have hlow : s[pos].toNat < 128 ∧ 97 ≤ s[pos].toNat ∧ s[pos].toNat ≤ 122 := by simp [letN] at hl; omega
        have hd := decode_ascii s pos hps hlow.1
        rw [hd] at hnx hit2 hbw2
        obtain ⟨W, hWd⟩ : ∃ W, wr.iterAt w.heap.size s (pos + 1) = W := ⟨_, rfl⟩
        simp only [hWd] at hnx hit2 hbw2
        obtain ⟨R, hR⟩ : ∃ R : Int, (s[pos].toNat : Int) = R := ⟨_, rfl⟩
        simp only [hR] at hnx
        have cS := isName1_any R W
        rw [show noLet R = false by simp [noLet]; omega] at cS
        have HT : Hid ((s.data.toList.take (pos + 1)).all letN = true) := by
          show _ = _
          rw [let_take s pos hps, HA.out, hl]; rfl
        go_wp2_with (go_at_call 46; refine cS.mono ?_; rintro e W' ⟨rfl, rfl⟩)
        go_roundg g'
        case measure => omega
        case rel => exact ⟨pos + 1, hit2, hbw2, HT, by omega, by omega⟩
      · have hl' : letN s[pos] = false := by simpa using hl
        have HF : Hid (s.data.toList.all letN = false) := let_not s pos hps hl'
        obtain ⟨R, hR⟩ : ∃ R, (Utf8.decode s pos).1 = R := ⟨_, rfl⟩
        obtain ⟨K, hK⟩ : ∃ K, (Utf8.decode s pos).2 = K := ⟨_, rfl⟩
        have hno : noLet (R : Int) = true := by
          by_cases hlow : s[pos].toNat < 128
          · have hd := decode_ascii s pos hps hlow
            rw [hd] at hR
            simp only at hR
            subst hR
            simp [letN] at hl'
            simp [noLet]
            omega
          · have := (decode_high s pos hps (by omega)).1
            rw [hR] at this
            simp [noLet]; omega
        rw [hR, hK] at hnx
        rw [hK] at hit2 hbw2
        obtain ⟨W, hWd⟩ : ∃ W, wr.iterAt w.heap.size s (pos + K) = W := ⟨_, rfl⟩
        rw [hWd] at hnx hit2 hbw2
        have cS := isName1_any (R : Int) W
        rw [hno] at cS
        go_wp2_with (go_at_call 46; refine cS.mono ?_; rintro e W' ⟨rfl, rfl⟩)
        go_ret
        exact ⟨⟨pos, rfl, by rw [HF.out]; simp⟩, hbw2⟩
    · have hnx : ∀ ty, (Instr.next (.pointer (some ⟨w.heap.size, 0, none⟩)) true ty).run Tryd.prog wr = _ := fun ty => Lib.run_next_end_at wr w.heap.size s pos ty hit hps
      have HF : Hid (s.data.toList.all letN = true) := by
        show _ = _
        have := HA.out
        rwa [List.take_of_length_le (by simp; omega)] at this
      go_wp2
      go_ret
      exact ⟨⟨-1, rfl, by rw [HF.out]; rfl⟩, hbw⟩
theorem containsFunc_name (s : ByteArray) (w : World) :
    Calls Tryd.prog 47 #[.string s, .func (.func 46) #[] #[]] w fun e w' => e = .returned (.bool (!s.data.toList.all letN)) ∧ Below w.heap.size w w' := by
  have hI : Calls Tryd.prog 60 #[.string s, .func (.func 46) #[] #[]] w fun e w' => (∃ k : Int, e = .returned (.int .i64 k) ∧ Hid (decide (0 ≤ k) = !s.data.toList.all letN)) ∧ Below w.heap.size w w' := by
    go_enter Tryd.func60, Tryd.ntmps60
    go_wp2_with fail
    refine (indexFunc_name s _).mono ?_
    rintro e w' ⟨⟨k, rfl, hk⟩, b1⟩
    have HK : Hid (decide (0 ≤ k) = !s.data.toList.all letN) := hk
    clear hk
    go_wp2
    go_ret
    exact ⟨⟨k, rfl, HK⟩, b1⟩
  generalize (!s.data.toList.all letN) = g at hI
  go_enter Tryd.func47, Tryd.ntmps47
  go_wp2_with fail
  refine hI.mono ?_
  rintro e w' ⟨⟨k, rfl, HK⟩, b1⟩
  go_wp2
  go_ret
  refine ⟨?_, b1⟩
  rw [← HK.out]
  rfl
theorem isName_any (s : ByteArray) (w : World) (hs : s.size ≤ maxLen) :
    Calls Tryd.prog 35 #[.string s] w fun e w' => e = .returned (.bool (nameB s.data.toList)) ∧ Below w.heap.size w w' := by
  have hs2 := hs
  unfold maxLen at hs2
  have hd : s.data.toList.length = s.size := by simp
  by_cases h1 : 1 ≤ s.size
  · by_cases h2 : s.size ≤ 8
    · have hnm : nameB s.data.toList = !(!s.data.toList.all letN) := by rw [nameB, hd, decide_eq_true h1, decide_eq_true h2]; simp
      rw [hnm]
      generalize hg : (!s.data.toList.all letN) = g
      have cS := containsFunc_name s
      rw [hg] at cS
      clear hg hnm
      have z1 : (1 : Int) ≤ (s.size : Int) := by omega
      have z2 : (s.size : Int) ≤ 8 := by omega
      go_enter Tryd.func35, Tryd.ntmps35
      go_wp2_with (go_at_call 47; refine (cS _).mono ?_; rintro e w' ⟨rfl, b1⟩)
      go_ret
      exact ⟨rfl, b1⟩
    · have hnm : nameB s.data.toList = false := by rw [nameB, hd, decide_eq_false h2]; simp
      rw [hnm]
      have z1 : (1 : Int) ≤ (s.size : Int) := by omega
      have z2 : ¬ (s.size : Int) ≤ 8 := by omega
      go_enter Tryd.func35, Tryd.ntmps35
      go_wp2
      go_ret
      exact ⟨rfl, Below.refl _ _⟩
  · have hnm : nameB s.data.toList = false := by rw [nameB, hd, decide_eq_false h1]; simp
    rw [hnm]
    have z1 : ¬ (1 : Int) ≤ (s.size : Int) := by omega
    go_enter Tryd.func35, Tryd.ntmps35
    go_wp2
    go_ret
    exact ⟨rfl, Below.refl _ _⟩
end Go.Proofs.YtnpinbpjfngknaaDoor
