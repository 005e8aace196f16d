/-
  Row1, Row2, TreeR8, TreeAp, TreeR9, in one text.
-/
import Derived.Test.YticdcnbeemkapaaGreatDoorProg
import Derived.WalkKit
import Derived.Below
import Derived.RowKitTokens
import Derived.Lib.OthersKept
import Derived.Lib.Strings
import Derived.Laws.RangeAny
import Derived.Deep.DeepCutAuto
import Derived.Test.YticdcnbeemkapaaGreatDoorQTreeR4
import Derived.Laws.Rows
import Derived.Laws.AppendOwn
namespace Go.Proofs.YticdcnbeemkapaaGreatDoor
open Go.RowKit
set_option linter.unusedVariables false

/-- The columns of a list lie in memory one behind the other. -/
def ColsIn (w : World) (b off : Nat) (zs : List (ByteArray × Int)) : Prop :=
  b < w.heap.size ∧ ∀ j (h : j < zs.length), w.cell? ⟨b, off + j * 2, none⟩ = some (.string zs[j].1) ∧ w.cell? ⟨b, off + j * 2 + 1, none⟩ = some (.int .i64 zs[j].2)
theorem ColsIn.on {w w' : World} {b off : Nat} {zs : List (ByteArray × Int)} (h : ColsIn w b off zs) (hb : Below w.heap.size w w') : ColsIn w' b off zs :=
  ⟨by have := hb.size; have := h.1; omega, fun j hj => by
    rw [hb.cell (p := ⟨b, off + j * 2, none⟩) h.1, hb.cell (p := ⟨b, off + j * 2 + 1, none⟩) h.1]; exact h.2 j hj⟩
theorem ColsIn.take {w : World} {b off : Nat} {zs : List (ByteArray × Int)} (h : ColsIn w b off zs) (k : Nat) : ColsIn w b off (zs.take k) :=
  ⟨h.1, fun j hj => by
    have hj' : j < zs.length := by rw [List.length_take] at hj; omega
    have := h.2 j hj'
    simpa [List.getElem_take] using this⟩
/-- Where the first column of a name stands; below 0: there is none. -/
def findN (x : List UInt8) (zs : List (ByteArray × Int)) : Int := match zs.findIdx? (fun z => z.1.data.toList == x) with
  | some k => k
  | none => -1
theorem findN_hit {x : List UInt8} {zs : List (ByteArray × Int)} {k : Nat} (h : k < zs.length) (he : zs[k].1.data.toList = x) (hn : ∀ j (hj : j < k), zs[j].1.data.toList ≠ x) : findN x zs = k := by
  have : zs.findIdx? (fun z => z.1.data.toList == x) = some k := by
    rw [List.findIdx?_eq_some_iff_getElem]
    exact ⟨h, by simpa using he, fun j hj => by simpa using hn j hj⟩
  rw [findN, this]
theorem findN_miss {x : List UInt8} {zs : List (ByteArray × Int)} (hn : ∀ j (hj : j < zs.length), zs[j].1.data.toList ≠ x) : findN x zs = -1 := by
  have : zs.findIdx? (fun z => z.1.data.toList == x) = none := by
    rw [List.findIdx?_eq_none_iff]
    intro z hz
    obtain ⟨j, hj, rfl⟩ := List.getElem_of_mem hz
    simpa using hn j hj
  rw [findN, this]

theorem place1_any (nm x : ByteArray) (t : Int) (p : Nat) (w : World) (hp : w.cell? ⟨p, 0, none⟩ = some (.string nm)) :
    Calls Tryz.prog 97 #[.agg #[.string x, .int .i64 t], .pointer (some ⟨p, 0, none⟩)] w fun e w' => e = .returned (.bool (x.data.toList == nm.data.toList)) ∧ Below w.heap.size w w' := by
  have hl : p < w.heap.size := by
    rcases Nat.lt_or_ge p w.heap.size with h' | h'
    · exact h'
    · simp [World.cell?, Array.getElem?_eq_none h'] at hp
  go_enter Tryz.func97, Tryz.ntmps97
  go_wp2
  go_ret
  exact ⟨by simp only [Lib.toList_data]; rfl, (Below.refl _ _).alloc (Nat.le_refl _) _⟩
set_option maxHeartbeats 1000000 in
theorem indexFunc_col (nm : ByteArray) (b off c p : Nat) (zs : List (ByteArray × Int)) (w : World) (hn : zs.length ≤ 9223372036854775807) (hc : ColsIn w b off zs) (hp : w.cell? ⟨p, 0, none⟩ = some (.string nm)) (hpl : p < w.heap.size) :
    Calls Tryz.prog 96 #[.slice (some ⟨b, off, none⟩) zs.length c, .func (.func 97) #[] #[.pointer (some ⟨p, 0, none⟩)]] w fun e w' => e = .returned (.int .i64 (findN nm.data.toList zs)) ∧ Below w.heap.size w w' := by
  go_enter Tryz.func96, Tryz.ntmps96
  go_wp2
  go_loopg [5, 8] zs.length (fun gg _ s8 wr => ∃ kk : Nat, kk ≤ zs.length ∧ zs.length - kk ≤ gg ∧ s8 = .int .i64 kk ∧ Aside (Below w.heap.size w wr) ∧ Aside (∀ j (hj : j < zs.length), j < kk → zs[j].1.data.toList ≠ nm.data.toList))
  case atStart => exact ⟨0, Nat.zero_le _, by omega, rfl, Below.refl _ w, fun j _ hj => absurd hj (Nat.not_lt_zero _)⟩
  case round =>
    obtain ⟨kk, hkk, hg, rfl, BW, A⟩ := hrel
    by_cases hlt : kk < zs.length
    · have hltz : (kk : Int) < (zs.length : Int) := by omega
      obtain ⟨c0, c1⟩ := (hc.on BW.out).2 kk hlt
      generalize hy : zs[kk] = y at c0 c1
      obtain ⟨yn, yt⟩ := y
      have hcall := place1_any nm yn yt p wr (by rw [BW.out.cell (p := ⟨p, 0, none⟩) hpl]; exact hp)
      have HY : Hid (zs[kk] = (yn, yt)) := hy
      clear hy
      by_cases he : yn.data.toList = nm.data.toList
      · have hq : (yn.data.toList == nm.data.toList) = true := by simpa using he
        rw [hq] at hcall
        go_wp2_with (go_at_call 97; refine hcall.mono ?_; rintro e w' ⟨rfl, hb'⟩)
        go_ret
        refine ⟨?_, BW.out.trans (hb'.mono BW.out.size)⟩
        rw [findN_hit hlt (by rw [HY.out]; exact he) (fun j hj => A.out j (by omega) hj)]
        rfl
      · have hq : (yn.data.toList == nm.data.toList) = false := by simpa using he
        rw [hq] at hcall
        go_wp2_with (go_at_call 97; refine hcall.mono ?_; rintro e w' ⟨rfl, hb'⟩)
        go_roundg (zs.length - (kk + 1))
        case measure => omega
        case rel =>
          refine ⟨kk + 1, by omega, by omega, by go_num, BW.out.trans (hb'.mono BW.out.size), (show Aside _ from fun j hj hjk => ?_)⟩
          by_cases e : j = kk
          · subst e
            rw [HY.out]; exact he
          · exact A.out j hj (by omega)
    · have hltz : ¬ (kk : Int) < (zs.length : Int) := by omega
      go_wp2
      go_ret
      refine ⟨?_, BW.out⟩
      rw [findN_miss (fun j hj => A.out j hj (by omega))]
      rfl
end Go.Proofs.YticdcnbeemkapaaGreatDoor
namespace Go.Proofs.YticdcnbeemkapaaGreatDoor
open Go.RowKit
set_option linter.unusedVariables false

theorem indexFunc_none (f : Value) (p : Option Addr) (c : Nat) (w : World) :
    Calls Tryz.prog 96 #[.slice p 0 c, f] w fun e w' => e = .returned (.int .i64 (-1)) ∧ w' = w := by
  go_enter Tryz.func96, Tryz.ntmps96
  go_wp2
  refine wp_loop_rounds 1 ?_
  rw [rounds_succ]
  go_wp2
  go_ret
  exact ⟨rfl, rfl⟩
theorem place_none (nm : ByteArray) (p : Option Addr) (c : Nat) (w : World) :
    Calls Tryz.prog 60 #[.slice p 0 c, .string nm] w fun e w' => e = .returned (.int .i64 (-1)) ∧ Below w.heap.size w w' := by
  go_enter Tryz.func60, Tryz.ntmps60
  go_wp2_with fail
  refine (indexFunc_none _ p c _).mono ?_
  rintro e w' ⟨rfl, rfl⟩
  go_wp2
  go_ret
  exact ⟨rfl, (Below.refl _ _).alloc (Nat.le_refl _) _⟩
theorem place_any (nm : ByteArray) (b off c : Nat) (zs : List (ByteArray × Int)) (w : World) (hn : zs.length ≤ 9223372036854775807) (hc : ColsIn w b off zs) :
    Calls Tryz.prog 60 #[.slice (some ⟨b, off, none⟩) zs.length c, .string nm] w fun e w' => e = .returned (.int .i64 (findN nm.data.toList zs)) ∧ Below w.heap.size w w' := by
  have hb0 : Below w.heap.size w (w.alloc (.cells #[.string nm] 9)) := (Below.refl _ _).alloc (Nat.le_refl _) _
  have hc1 := hc.on hb0
  go_enter Tryz.func60, Tryz.ntmps60
  go_wp2_with fail
  refine (indexFunc_col nm b off c w.heap.size zs _ hn hc1 (by simp) (by simp)).mono ?_
  rintro e w' ⟨rfl, b1⟩
  go_wp2
  go_ret
  exact ⟨rfl, hb0.trans (b1.mono (by simp))⟩
theorem findN_cases (x : List UInt8) (zs : List (ByteArray × Int)) : (findN x zs = -1 ∧ ∀ j (hj : j < zs.length), zs[j].1.data.toList ≠ x) ∨ ∃ k : Nat, findN x zs = k ∧ ∃ h : k < zs.length, zs[k].1.data.toList = x ∧ ∀ j (hj : j < k), zs[j].1.data.toList ≠ x := by
  rw [findN]
  cases h : zs.findIdx? (fun z => z.1.data.toList == x) with
  | none =>
    left
    refine ⟨rfl, fun j hj => ?_⟩
    rw [List.findIdx?_eq_none_iff] at h
    simpa using h _ (List.getElem_mem hj)
  | some k =>
    right
    rw [List.findIdx?_eq_some_iff_getElem] at h
    obtain ⟨hk, he, hn⟩ := h
    exact ⟨k, rfl, hk, by simpa using he, fun j hj => by simpa using hn j hj⟩
theorem find_any (nm : ByteArray) (b off c : Nat) (zs : List (ByteArray × Int)) (w : World) (hn : zs.length ≤ 9223372036854775807) (hc : ColsIn w b off zs) (k : Nat) (hk : findN nm.data.toList zs = k) :
    Calls Tryz.prog 48 #[.slice (some ⟨b, off, none⟩) zs.length c, .string nm] w fun e w' => e = .returned (.tuple #[.int .i64 k, .nilIface]) ∧ Below w.heap.size w w' := by
  go_enter Tryz.func48, Tryz.ntmps48
  go_wp2_with fail
  refine (place_any nm b off c zs _ hn hc).mono ?_
  rintro e w' ⟨rfl, b1⟩
  rw [hk]
  go_wp2
  go_ret2
  exact ⟨rfl, b1⟩
theorem find_none (nm : ByteArray) (b off c : Nat) (zs : List (ByteArray × Int)) (w : World) (hn : zs.length ≤ 9223372036854775807) (hc : ColsIn w b off zs) (hk : findN nm.data.toList zs = -1) :
    Calls Tryz.prog 48 #[.slice (some ⟨b, off, none⟩) zs.length c, .string nm] w fun e w' => e = .returned (.tuple #[.int .i64 0, .iface 42 (.int .i64 5)]) ∧ Below w.heap.size w w' := by
  go_enter Tryz.func48, Tryz.ntmps48
  go_wp2_with fail
  refine (place_any nm b off c zs _ hn hc).mono ?_
  rintro e w' ⟨rfl, b1⟩
  rw [hk]
  go_wp2
  go_ret2
  exact ⟨rfl, b1⟩

/-- A name of 1 to 8 letters a to z. -/
def letN (c : UInt8) : Bool := decide (97 ≤ c.toNat) && decide (c.toNat ≤ 122)
def nameB (l : List UInt8) : Bool := decide (1 ≤ l.length) && (decide (l.length ≤ 8) && l.all letN)
def noLet (r : Int) : Bool := decide (r < 97) || decide (122 < r)
theorem isName1_any (r : Int) (w : World) :
    Calls Tryz.prog 92 #[.int .i32 r] w fun e w' => e = .returned (.bool (noLet r)) ∧ w' = w := by
  by_cases h1 : r < 97
  · rw [show noLet r = true by simp [noLet, h1]]
    go_enter Tryz.func92, Tryz.ntmps92
    go_wp2
    go_ret
    exact ⟨rfl, rfl⟩
  · by_cases h2 : 122 < r
    · rw [show noLet r = true by simp [noLet, h2]]
      go_enter Tryz.func92, Tryz.ntmps92
      go_wp2
      go_ret
      exact ⟨rfl, rfl⟩
    · rw [show noLet r = false by simp [noLet, h1, h2]]
      go_enter Tryz.func92, Tryz.ntmps92
      go_wp2
      go_ret
      exact ⟨rfl, rfl⟩
theorem let_take (s : ByteArray) (k : Nat) (h : k < s.size) : (s.data.toList.take (k + 1)).all letN = ((s.data.toList.take k).all letN && letN s[k]) := by
  have : s.data.toList.take (k + 1) = s.data.toList.take k ++ [s[k]] := by
    rw [List.take_succ_eq_append_getElem (by simpa using h)]; rfl
  rw [this, List.all_append]; simp
theorem let_not (s : ByteArray) (k : Nat) (h : k < s.size) (hc : letN s[k] = false) : s.data.toList.all letN = false := by
  rw [List.all_eq_false]
  exact ⟨s[k], by rw [show s[k] = s.data.toList[k]'(by simpa using h) from rfl]; exact List.getElem_mem _, by simp [hc]⟩
set_option maxHeartbeats 2000000 in
theorem indexFunc_name (s : ByteArray) (w : World) :
    Calls Tryz.prog 138 #[.string s, .func (.func 92) #[] #[], .bool true] w fun e w' => (∃ k : Int, e = .returned (.int .i64 k) ∧ decide (0 ≤ k) = !s.data.toList.all letN) ∧ Below w.heap.size w w' := by
  go_enter Tryz.func138, Tryz.ntmps138
  go_wp2
  go_loopg [7, 8] s.size (fun gf _ _ wx => ∃ pos : Nat, wx.heap[w.heap.size]? = some (.stringIter s pos) ∧ Below w.heap.size w wx ∧ Hid ((s.data.toList.take pos).all letN = true) ∧ s.size ≤ pos + gf ∧ pos ≤ s.size)
  case atStart => exact ⟨0, World.iter_heap w s 0, (Below.refl _ w).alloc (Nat.le_refl _) _, (show Hid _ by simp [Hid]), by omega, by omega⟩
  case round =>
    obtain ⟨pos, hit, hbw, HA, hfu, hps'⟩ := hrel
    by_cases hps : pos < s.size
    · obtain ⟨g', rfl⟩ : ∃ g', gk = g' + 1 := ⟨gk - 1, by omega⟩
      have hnx : ∀ ty, (Instr.next (.pointer (some ⟨w.heap.size, 0, none⟩)) true ty).run Tryz.prog wr = _ := fun ty => Lib.run_next_any_at wr w.heap.size s pos ty hit hps
      have hit2 := Lib.iterAt_heap wr w.heap.size s pos (pos + (Utf8.decode s pos).2) hit
      have hbw2 := Lib.below_iterAt hbw (k := w.heap.size) (Nat.le_refl _) s (pos + (Utf8.decode s pos).2)
      by_cases hl : letN s[pos] = true
      · have hlow : s[pos].toNat < 128 ∧ 97 ≤ s[pos].toNat ∧ s[pos].toNat ≤ 122 := by simp [letN] at hl; omega
        have hd := decode_ascii s pos hps hlow.1
        rw [hd] at hnx hit2 hbw2
        obtain ⟨W, hWd⟩ : ∃ W, wr.iterAt w.heap.size s (pos + 1) = W := ⟨_, rfl⟩
        simp only [hWd] at hnx hit2 hbw2
        obtain ⟨R, hR⟩ : ∃ R : Int, (s[pos].toNat : Int) = R := ⟨_, rfl⟩
        simp only [hR] at hnx
        have cS := isName1_any R W
        rw [show noLet R = false by simp [noLet]; omega] at cS
        have HT : Hid ((s.data.toList.take (pos + 1)).all letN = true) := by
          show _ = _
          rw [let_take s pos hps, HA.out, hl]; rfl
        go_wp2_with (go_at_call 92; refine cS.mono ?_; rintro e W' ⟨rfl, rfl⟩)
        go_roundg g'
        case measure => omega
        case rel => exact ⟨pos + 1, hit2, hbw2, HT, by omega, by omega⟩
      · have hl' : letN s[pos] = false := by simpa using hl
        have HF : Hid (s.data.toList.all letN = false) := let_not s pos hps hl'
        obtain ⟨R, hR⟩ : ∃ R, (Utf8.decode s pos).1 = R := ⟨_, rfl⟩
        obtain ⟨K, hK⟩ : ∃ K, (Utf8.decode s pos).2 = K := ⟨_, rfl⟩
        have hno : noLet (R : Int) = true := by
          by_cases hlow : s[pos].toNat < 128
          · have hd := decode_ascii s pos hps hlow
            rw [hd] at hR
            simp only at hR
            subst hR
            simp [letN] at hl'
            simp [noLet]
            omega
          · have := (decode_high s pos hps (by omega)).1
            rw [hR] at this
            simp [noLet]; omega
        rw [hR, hK] at hnx
        rw [hK] at hit2 hbw2
        obtain ⟨W, hWd⟩ : ∃ W, wr.iterAt w.heap.size s (pos + K) = W := ⟨_, rfl⟩
        rw [hWd] at hnx hit2 hbw2
        have cS := isName1_any (R : Int) W
        rw [hno] at cS
        go_wp2_with (go_at_call 92; refine cS.mono ?_; rintro e W' ⟨rfl, rfl⟩)
        go_ret
        exact ⟨⟨pos, rfl, by rw [HF.out]; simp⟩, hbw2⟩
    · have hnx : ∀ ty, (Instr.next (.pointer (some ⟨w.heap.size, 0, none⟩)) true ty).run Tryz.prog wr = _ := fun ty => Lib.run_next_end_at wr w.heap.size s pos ty hit hps
      have HF : Hid (s.data.toList.all letN = true) := by
        show _ = _
        have := HA.out
        rwa [List.take_of_length_le (by simp; omega)] at this
      go_wp2
      go_ret
      exact ⟨⟨-1, rfl, by rw [HF.out]; rfl⟩, hbw⟩
theorem containsFunc_name (s : ByteArray) (w : World) :
    Calls Tryz.prog 93 #[.string s, .func (.func 92) #[] #[]] w fun e w' => e = .returned (.bool (!s.data.toList.all letN)) ∧ Below w.heap.size w w' := by
  have hI : Calls Tryz.prog 115 #[.string s, .func (.func 92) #[] #[]] w fun e w' => (∃ k : Int, e = .returned (.int .i64 k) ∧ Hid (decide (0 ≤ k) = !s.data.toList.all letN)) ∧ Below w.heap.size w w' := by
    go_enter Tryz.func115, Tryz.ntmps115
    go_wp2_with fail
    refine (indexFunc_name s _).mono ?_
    rintro e w' ⟨⟨k, rfl, hk⟩, b1⟩
    have HK : Hid (decide (0 ≤ k) = !s.data.toList.all letN) := hk
    clear hk
    go_wp2
    go_ret
    exact ⟨⟨k, rfl, HK⟩, b1⟩
  generalize (!s.data.toList.all letN) = g at hI
  go_enter Tryz.func93, Tryz.ntmps93
  go_wp2_with fail
  refine hI.mono ?_
  rintro e w' ⟨⟨k, rfl, HK⟩, b1⟩
  go_wp2
  go_ret
  refine ⟨?_, b1⟩
  rw [← HK.out]
  rfl
theorem isName_any (s : ByteArray) (w : World) (hs : s.size ≤ maxLen) :
    Calls Tryz.prog 58 #[.string s] w fun e w' => e = .returned (.bool (nameB s.data.toList)) ∧ Below w.heap.size w w' := by
  have hs2 := hs
  unfold maxLen at hs2
  have hd : s.data.toList.length = s.size := by simp
  by_cases h1 : 1 ≤ s.size
  · by_cases h2 : s.size ≤ 8
    · have hnm : nameB s.data.toList = !(!s.data.toList.all letN) := by rw [nameB, hd, decide_eq_true h1, decide_eq_true h2]; simp
      rw [hnm]
      generalize hg : (!s.data.toList.all letN) = g
      have cS := containsFunc_name s
      rw [hg] at cS
      clear hg hnm
      have z1 : (1 : Int) ≤ (s.size : Int) := by omega
      have z2 : (s.size : Int) ≤ 8 := by omega
      go_enter Tryz.func58, Tryz.ntmps58
      go_wp2_with (go_at_call 93; refine (cS _).mono ?_; rintro e w' ⟨rfl, b1⟩)
      go_ret
      exact ⟨rfl, b1⟩
    · have hnm : nameB s.data.toList = false := by rw [nameB, hd, decide_eq_false h2]; simp
      rw [hnm]
      have z1 : (1 : Int) ≤ (s.size : Int) := by omega
      have z2 : ¬ (s.size : Int) ≤ 8 := by omega
      go_enter Tryz.func58, Tryz.ntmps58
      go_wp2
      go_ret
      exact ⟨rfl, Below.refl _ _⟩
  · have hnm : nameB s.data.toList = false := by rw [nameB, hd, decide_eq_false h1]; simp
    rw [hnm]
    have z1 : ¬ (1 : Int) ≤ (s.size : Int) := by omega
    go_enter Tryz.func58, Tryz.ntmps58
    go_wp2
    go_ret
    exact ⟨rfl, Below.refl _ _⟩
end Go.Proofs.YticdcnbeemkapaaGreatDoor
namespace Go.Proofs.YticdcnbeemkapaaGreatDoor
open Go.RowKit Go.BigFrame
set_option linter.unusedVariables false

theorem word_at (k : Nat) (hk : k < 19) : ∃ S : ByteArray, (∀ W : World, Sem.run Tryz.prog (Instr.index 179 (.agg wordsC) (.int .i64 (k : Int))) W = .ok (.string S) W) ∧ wordsL[k]'hk = S.data.toList := by
  have h : k = 0 ∨ k = 1 ∨ k = 2 ∨ k = 3 ∨ k = 4 ∨ k = 5 ∨ k = 6 ∨ k = 7 ∨ k = 8 ∨ k = 9 ∨ k = 10 ∨ k = 11 ∨ k = 12 ∨ k = 13 ∨ k = 14 ∨ k = 15 ∨ k = 16 ∨ k = 17 ∨ k = 18 := by omega
  rcases h with rfl | rfl | rfl | rfl | rfl | rfl | rfl | rfl | rfl | rfl | rfl | rfl | rfl | rfl | rfl | rfl | rfl | rfl | rfl
  · exact ⟨⟨#[111, 114]⟩, fun W => by kernel_rfl, rfl⟩
  · exact ⟨⟨#[97, 110, 100]⟩, fun W => by kernel_rfl, rfl⟩
  · exact ⟨⟨#[110, 111, 116]⟩, fun W => by kernel_rfl, rfl⟩
  · exact ⟨⟨#[116, 114, 117, 101]⟩, fun W => by kernel_rfl, rfl⟩
  · exact ⟨⟨#[102, 97, 108, 115, 101]⟩, fun W => by kernel_rfl, rfl⟩
  · exact ⟨⟨#[108, 101, 110]⟩, fun W => by kernel_rfl, rfl⟩
  · exact ⟨⟨#[105, 102]⟩, fun W => by kernel_rfl, rfl⟩
  · exact ⟨⟨#[115, 101, 108, 101, 99, 116]⟩, fun W => by kernel_rfl, rfl⟩
  · exact ⟨⟨#[97, 115]⟩, fun W => by kernel_rfl, rfl⟩
  · exact ⟨⟨#[102, 114, 111, 109]⟩, fun W => by kernel_rfl, rfl⟩
  · exact ⟨⟨#[119, 104, 101, 114, 101]⟩, fun W => by kernel_rfl, rfl⟩
  · exact ⟨⟨#[103, 114, 111, 117, 112]⟩, fun W => by kernel_rfl, rfl⟩
  · exact ⟨⟨#[98, 121]⟩, fun W => by kernel_rfl, rfl⟩
  · exact ⟨⟨#[119, 105, 110, 100, 111, 119]⟩, fun W => by kernel_rfl, rfl⟩
  · exact ⟨⟨#[115, 108, 105, 100, 101]⟩, fun W => by kernel_rfl, rfl⟩
  · exact ⟨⟨#[99, 111, 117, 110, 116]⟩, fun W => by kernel_rfl, rfl⟩
  · exact ⟨⟨#[115, 117, 109]⟩, fun W => by kernel_rfl, rfl⟩
  · exact ⟨⟨#[108, 101, 97, 115, 116]⟩, fun W => by kernel_rfl, rfl⟩
  · exact ⟨⟨#[109, 111, 115, 116]⟩, fun W => by kernel_rfl, rfl⟩
theorem oper_at (k : Nat) (hk : k < 19) : ∃ (S : ByteArray) (n : Int), (∀ W : World, Sem.run Tryz.prog (Instr.index 140 (.agg opsC) (.int .i64 (k : Int))) W = .ok (.agg #[.string S, .int .i64 n]) W) ∧ (opsL[k]'hk).1 = S.data.toList ∧ (opsL[k]'hk).2 = n := by
  have h : k = 0 ∨ k = 1 ∨ k = 2 ∨ k = 3 ∨ k = 4 ∨ k = 5 ∨ k = 6 ∨ k = 7 ∨ k = 8 ∨ k = 9 ∨ k = 10 ∨ k = 11 ∨ k = 12 ∨ k = 13 ∨ k = 14 ∨ k = 15 ∨ k = 16 ∨ k = 17 ∨ k = 18 := by omega
  rcases h with rfl | rfl | rfl | rfl | rfl | rfl | rfl | rfl | rfl | rfl | rfl | rfl | rfl | rfl | rfl | rfl | rfl | rfl | rfl
  · exact ⟨⟨#[118, 97, 108]⟩, 0, fun W => by kernel_rfl, rfl, rfl⟩
  · exact ⟨⟨#[99, 111, 108]⟩, 0, fun W => by kernel_rfl, rfl, rfl⟩
  · exact ⟨⟨#[111, 114]⟩, 2, fun W => by kernel_rfl, rfl, rfl⟩
  · exact ⟨⟨#[97, 110, 100]⟩, 2, fun W => by kernel_rfl, rfl, rfl⟩
  · exact ⟨⟨#[110, 111, 116]⟩, 1, fun W => by kernel_rfl, rfl, rfl⟩
  · exact ⟨⟨#[61]⟩, 2, fun W => by kernel_rfl, rfl, rfl⟩
  · exact ⟨⟨#[60, 62]⟩, 2, fun W => by kernel_rfl, rfl, rfl⟩
  · exact ⟨⟨#[60]⟩, 2, fun W => by kernel_rfl, rfl, rfl⟩
  · exact ⟨⟨#[60, 61]⟩, 2, fun W => by kernel_rfl, rfl, rfl⟩
  · exact ⟨⟨#[62]⟩, 2, fun W => by kernel_rfl, rfl, rfl⟩
  · exact ⟨⟨#[62, 61]⟩, 2, fun W => by kernel_rfl, rfl, rfl⟩
  · exact ⟨⟨#[43]⟩, 2, fun W => by kernel_rfl, rfl, rfl⟩
  · exact ⟨⟨#[45]⟩, 2, fun W => by kernel_rfl, rfl, rfl⟩
  · exact ⟨⟨#[42]⟩, 2, fun W => by kernel_rfl, rfl, rfl⟩
  · exact ⟨⟨#[47]⟩, 2, fun W => by kernel_rfl, rfl, rfl⟩
  · exact ⟨⟨#[37]⟩, 2, fun W => by kernel_rfl, rfl, rfl⟩
  · exact ⟨⟨#[110, 101, 103]⟩, 1, fun W => by kernel_rfl, rfl, rfl⟩
  · exact ⟨⟨#[108, 101, 110]⟩, 1, fun W => by kernel_rfl, rfl, rfl⟩
  · exact ⟨⟨#[105, 102]⟩, 3, fun W => by kernel_rfl, rfl, rfl⟩
set_option maxHeartbeats 1000000 in
set_option maxRecDepth 20000 in
theorem isWord_any (x : ByteArray) (w : World) (henv : TEnv w) :
    Calls Tryz.prog 67 #[.string x] w fun e w' => e = .returned (.bool (wordsL.any (· == x.data.toList))) ∧ w' = w := by
  obtain ⟨tt, fr, hgl⟩ := henv.wds
  obtain ⟨R, hR⟩ : ∃ R, wordsL.any (· == x.data.toList) = R := ⟨_, rfl⟩
  have HR : Hid (wordsL.any (· == x.data.toList) = R) := hR
  rw [hR]
  clear hR
  go_enter Tryz.func67, Tryz.ntmps67
  go_wp2_with (refine wpList_load_row rfl 179 _ rfl 3 rfl tt _ fr _ hgl Tryz.underlying179 rfl (by kernel_rfl) ?_)
  have hat := word_at
  generalize Value.agg wordsC = AR at hat ⊢
  clear hgl
  go_loopg [4, 6] 19 (fun gg _ s6 wr => ∃ kk : Nat, kk ≤ 19 ∧ 19 - kk ≤ gg ∧ s6 = .int .i64 kk ∧ wr = w ∧ Hid ((wordsL.drop kk).any (· == x.data.toList) = R))
  case atStart => exact ⟨0, Nat.zero_le _, by omega, rfl, rfl, HR⟩
  case round =>
    obtain ⟨kk, hkk, hg, rfl, rfl, HE⟩ := hrel
    clear HR
    by_cases hlt : kk < 19
    · have hltz : (kk : Int) < 19 := by omega
      obtain ⟨S, hS, hS1⟩ := hat kk hlt
      clear hat
      have hd : wordsL.drop kk = S.data.toList :: wordsL.drop (kk + 1) := by
        rw [List.drop_eq_getElem_cons (show kk < wordsL.length from hlt)]
        exact congrArg (· :: _) hS1
      have HS : Hid ((S.data.toList :: wordsL.drop (kk + 1)).any (· == x.data.toList) = R) := by show _ = _; rw [← hd]; exact HE.out
      clear hd hS1 HE
      by_cases he : S.data.toList = x.data.toList
      · have hq : (S.toList == x.toList) = true := by rw [Lib.toList_data, Lib.toList_data]; simpa using he
        have hR2 : true = R := by
          have hb : (S.data.toList == x.data.toList) = true := by simpa using he
          rw [← HS.out, List.any_cons, hb]; rfl
        subst hR2
        clear HS
        go_wp2
        go_ret
        exact ⟨rfl, rfl⟩
      · have hq : (S.toList == x.toList) = false := by rw [Lib.toList_data, Lib.toList_data]; simpa using he
        have HS2 : Hid ((wordsL.drop (kk + 1)).any (· == x.data.toList) = R) := by
          show _ = _
          have hb : (S.data.toList == x.data.toList) = false := by simpa using he
          rw [← HS.out, List.any_cons, hb, Bool.false_or]
        clear HS
        go_wp2
        go_roundg (19 - (kk + 1))
        case measure => omega
        case rel => exact ⟨kk + 1, by omega, by omega, by go_num, rfl, HS2⟩
    · have hltz : ¬ (kk : Int) < 19 := by omega
      have hR2 : false = R := by rw [← HE.out, List.drop_eq_nil_of_le (by show 19 ≤ kk; omega)]; rfl
      subst hR2
      clear HE
      go_wp2
      go_ret
      exact ⟨rfl, rfl⟩
/-- How many parts an operation has; whether it is one. -/
def apL (x : List UInt8) : List (List UInt8 × Int) → Int × Bool
  | [] => (0, false)
  | o :: os => if o.1 = x then (o.2, true) else apL x os
set_option maxHeartbeats 1000000 in
set_option maxRecDepth 20000 in
theorem argsOf_any (x : ByteArray) (w : World) (henv : TEnv w) (n : Int) (ok : Bool) (hx : apL x.data.toList opsL = (n, ok)) :
    Calls Tryz.prog 32 #[.string x] w fun e w' => e = .returned (.tuple #[.int .i64 n, .bool ok]) ∧ Below w.heap.size w w' := by
  obtain ⟨tt, fr, hgl⟩ := henv.ops
  have HX : Hid (apL x.data.toList opsL = (n, ok)) := hx
  clear hx
  go_enter Tryz.func32, Tryz.ntmps32
  go_wp2_with (refine wpList_load_row rfl 140 _ rfl 1 rfl tt _ fr _ hgl Tryz.underlying140 rfl (by kernel_rfl) ?_)
  have hat := oper_at
  generalize Value.agg opsC = AR at hat ⊢
  clear hgl
  go_loopg [5, 7] 19 (fun gg _ s7 wr => ∃ kk : Nat, kk ≤ 19 ∧ 19 - kk ≤ gg ∧ s7 = .int .i64 kk ∧ Aside (Below w.heap.size w wr) ∧ Hid (apL x.data.toList (opsL.drop kk) = (n, ok)))
  case atStart => exact ⟨0, Nat.zero_le _, by omega, rfl, (show Aside _ from Below.refl _ _), HX⟩
  case round =>
    obtain ⟨kk, hkk, hg, rfl, BW, HE⟩ := hrel
    clear HX
    by_cases hlt : kk < 19
    · have hltz : (kk : Int) < 19 := by omega
      obtain ⟨S, m, hS, hS1, hS2⟩ := hat kk hlt
      clear hat
      have hd : opsL.drop kk = (S.data.toList, m) :: opsL.drop (kk + 1) := by
        rw [List.drop_eq_getElem_cons (show kk < opsL.length from hlt)]
        congr 1
        exact Prod.ext hS1 hS2
      have HS : Hid (apL x.data.toList ((S.data.toList, m) :: opsL.drop (kk + 1)) = (n, ok)) := by show _ = _; rw [← hd]; exact HE.out
      clear hd hS1 hS2 HE
      by_cases he : S.data.toList = x.data.toList
      · have hq : (S.toList == x.toList) = true := by rw [Lib.toList_data, Lib.toList_data]; simpa using he
        have hR2 : (m, true) = (n, ok) := by rw [← HS.out, apL, if_pos he]
        obtain ⟨rfl, rfl⟩ := Prod.mk.inj hR2
        clear HS
        go_wp2
        go_ret2
        exact ⟨rfl, BW.out.alloc (by have := BW.out.size; omega) _⟩
      · have hq : (S.toList == x.toList) = false := by rw [Lib.toList_data, Lib.toList_data]; simpa using he
        have HS2 : Hid (apL x.data.toList (opsL.drop (kk + 1)) = (n, ok)) := by
          show _ = _
          rw [← HS.out, apL, if_neg he]
        clear HS
        go_wp2
        go_roundg (19 - (kk + 1))
        case measure => omega
        case rel => exact ⟨kk + 1, by omega, by omega, by go_num, (show Aside _ from BW.out.alloc (by have := BW.out.size; omega) _), HS2⟩
    · have hltz : ¬ (kk : Int) < 19 := by omega
      have hR2 : ((0 : Int), false) = (n, ok) := by rw [← HE.out, List.drop_eq_nil_of_le (by show 19 ≤ kk; omega)]; rfl
      obtain ⟨rfl, rfl⟩ := Prod.mk.inj hR2
      clear HE
      go_wp2
      go_ret2
      exact ⟨rfl, BW.out⟩
theorem nameB_T (l : List UInt8) : nameB l = lettersB l := by
  have hl : ∀ c : UInt8, letN c = letB c := fun c => by
    rw [letN, letB]
    congr 1 <;> exact decide_eq_decide.2 (by omega)
  rw [nameB, lettersB, show (letN : UInt8 → Bool) = letB from funext hl]
  cases l with
  | nil => simp
  | cons c r => simp
theorem isColumn_any (x : ByteArray) (w : World) (henv : TEnv w) (hs : x.size ≤ maxLen) :
    Calls Tryz.prog 33 #[.string x] w fun e w' => e = .returned (.bool (nameT x.data.toList)) ∧ Below w.heap.size w w' := by
  have cN := isName_any x w hs
  have cW := fun W (hb : Below w.heap.size w W) => isWord_any x W (henv.on hb)
  have HT : Hid (nameT x.data.toList = (nameB x.data.toList && !(wordsL.any (· == x.data.toList)))) := by show _ = _; rw [nameT, nameB_T]
  obtain ⟨R, hR⟩ : ∃ R, nameT x.data.toList = R := ⟨_, rfl⟩
  rw [hR] at HT ⊢
  clear hR
  generalize nameB x.data.toList = A at cN HT
  generalize wordsL.any (· == x.data.toList) = B at cW HT
  cases A
  · obtain rfl : R = false := HT.out
    clear HT cW
    go_enter Tryz.func33, Tryz.ntmps33
    go_wp2_with fail
    refine cN.mono ?_
    rintro e w1 ⟨rfl, b1⟩
    go_wp2
    go_ret
    exact ⟨rfl, b1⟩
  · cases B
    · obtain rfl : R = true := HT.out
      clear HT
      go_enter Tryz.func33, Tryz.ntmps33
      go_wp2_with fail
      refine cN.mono ?_
      rintro e w1 ⟨rfl, b1⟩
      go_wp2_with fail
      refine (cW _ b1).mono ?_
      rintro e w2 ⟨rfl, rfl⟩
      go_wp2
      go_ret
      exact ⟨rfl, b1⟩
    · obtain rfl : R = false := HT.out
      clear HT
      go_enter Tryz.func33, Tryz.ntmps33
      go_wp2_with fail
      refine cN.mono ?_
      rintro e w1 ⟨rfl, b1⟩
      go_wp2_with fail
      refine (cW _ b1).mono ?_
      rintro e w2 ⟨rfl, rfl⟩
      go_wp2
      go_ret
      exact ⟨rfl, b1⟩
end Go.Proofs.YticdcnbeemkapaaGreatDoor
namespace Go.Proofs.YticdcnbeemkapaaGreatDoor
open Go.RowKit
set_option linter.unusedVariables false

theorem append_block {P : Program} (w : World) (base : Nat) (t ty e : TypeId) (i : TypeInfo) (z : Value) (ht : P.underlying t = some (.slice e)) (hi : P.info? e = some i) (hz : i.zero = some z)
    (v : Value) (n : Nat) (xs : List Value) (hown : w.ownsRow base e i.size v n xs)
    (a : Addr) (m c : Nat) (news : List Value) (hl : news.length = m * i.size) (hnews : ∀ j u, news[j]? = some u → w.cell? (a.add j) = some u) (h1 : ∀ u ∈ news, u.oneCell' = true) (hm : 0 < m)
    (h63 : n + m ≤ maxLen) (hbytes : (n + m) * i.bytes ≤ 140737488355328) {v' : Value} {w' : World} (hr : (Builtin.append_ #[t, t] ty #[v, .slice (some a) m c]).run P w = .ok v' w') : v'.ownBlock = v.ownBlock ∨ v'.ownBlock = some w.heap.size := by
  have hsmall : n + m ≤ 9223372036854775807 := by simp only [maxLen] at h63; omega
  rcases hown.2 with ⟨rfl, rfl⟩ | ⟨g, cap, cur, rfl, hbg, hg, hnc, hcm, hcs, htake⟩
  · have h2 := run_append_nil (P := P) w t ty e i z ht hi hz a m c news hl hnews (by omega) (by omega) (by have hb := hbytes; simp only [Nat.zero_add] at hb; omega)
    rw [h2] at hr
    injection hr with hv _
    rw [← hv]
    exact .inr rfl
  · by_cases hroom : n + m ≤ cap
    · have hfit : n * i.size + news.length ≤ cur.size := by rw [hl, hcs, ← Nat.add_mul]; exact Nat.mul_le_mul_right _ hroom
      have h2 := run_append_room (P := P) w t ty e i ht hi g n cap cur hg a m c news hl hnews h1 hroom hfit
      rw [h2] at hr
      injection hr with hv _
      rw [← hv]
      exact .inl rfl
    · have holds : ∀ j u, xs[j]? = some u → w.cell? ((⟨g, 0, none⟩ : Addr).add j) = some u := hown.cells (g := g) rfl
      have h2 := run_append_grow (P := P) w t ty e i z ht hi hz ⟨g, 0, none⟩ n cap xs hown.1 holds a m c news hl hnews (by omega) (by omega) (growslice_fits (by omega) hbytes)
      rw [h2] at hr
      injection hr with hv _
      rw [← hv]
      exact .inr rfl
theorem wpList_append_fresh {P : Program} {w : World} {ops : Array Oper} {rest : List Oper} {o : Oper} {a : Act} {Q : Exit → Act → World → Prop} (hgd : o.guard = none) (s x : Operand) (t : TypeId)
    (ho : o.op = .call { callee := .builtin .append, args := #[s, x], argTypes := #[t, t] })
    (base : Nat) (e : TypeId) (i : TypeInfo) (z : Value) (size bytes : Nat) (ht : P.underlying t = some (.slice e)) (hi : P.info? e = some i) (hz : i.zero = some z)
    (hsize : i.size = size) (hby : i.bytes = bytes) (hzs : z.cells.size = size) (hsz : 0 < size)
    (v : Value) (n : Nat) (xs : List Value) (hs : a.eval s = v) (hown : w.ownsRow base e size v n xs)
    (ad : Addr) (m c : Nat) (news : List Value) (hx : a.eval x = .slice (some ad) m c) (hl : news.length = m * size) (hnews : ∀ j u, news[j]? = some u → w.cell? (ad.add j) = some u) (h1 : ∀ u ∈ news, u.oneCell' = true) (hm : 0 < m)
    (h63 : n + m ≤ maxLen) (hbytes : (n + m) * bytes ≤ 140737488355328) (hbase : base ≤ w.heap.size)
    (h : ∀ v' w', w'.ownsRow base e size v' (n + m) (xs ++ news) → w.grownBy w' v.ownBlock → (v'.ownBlock = v.ownBlock ∨ v'.ownBlock = some w.heap.size) → wpList P ops Q rest (a.put o.dst v') w') : wpList P ops Q (o :: rest) a w :=
  wpList_plain hgd fun _ hK => by
    obtain ⟨v', w', hr, h2, h3, _⟩ := run_append_own (P := P) w base t o.type e i z size bytes ht hi hz hsize hby hzs hsz v n xs hown ad m c news hl hnews h1 h63 hbytes hbase
    have h5 : v'.ownBlock = v.ownBlock ∨ v'.ownBlock = some w.heap.size := by
      subst hsize
      subst hby
      exact append_block w base t o.type e i z ht hi hz v n xs hown ad m c news hl hnews h1 hm h63 hbytes hr
    unfold Oper.wp execOp
    simp only [ho, resolve, invoke, builtin, Sem.run_bind, Sem.run_pure, Result.andThen_ok, List.map_toArray, List.map_cons, List.map_nil, hs, hx, hr]
    exact hK _ _ (h v' w' h2 h3 h5)
end Go.Proofs.YticdcnbeemkapaaGreatDoor
namespace Go.Proofs.YticdcnbeemkapaaGreatDoor
open Go.RowKit Go.BigFrame
set_option linter.unusedVariables false
variable {en : Nat}

/-- Expressions that are gathered in a slice of one's own, from block B on. -/
def ArgsOwn (w : World) (B : Nat) (v : Value) (xs : List Ex) : Prop := ∃ cs : List Value, w.ownsRow B 26 7 v xs.length cs ∧
  ∀ j (h : j < xs.length), ∃ a0 a1 a2 a3 a4 a5 a6, cs[j * 7]? = some a0 ∧ cs[j * 7 + 1]? = some a1 ∧ cs[j * 7 + 2]? = some a2 ∧ cs[j * 7 + 3]? = some a3 ∧ cs[j * 7 + 4]? = some a4 ∧ cs[j * 7 + 5]? = some a5 ∧ cs[j * 7 + 6]? = some a6 ∧ ExIn w (fun b => B ≤ b ∧ some b ≠ v.ownBlock) (.agg #[a0, a1, a2, a3, a4, a5, a6]) xs[j]
theorem argsOwn_nil (w : World) (B : Nat) : ArgsOwn w B (.slice none 0 0) [] := ⟨[], World.ownsRow_nil _ _ _ _, fun j h => absurd h (Nat.not_lt_zero _)⟩
theorem own_but {W W' : World} {r base : Nat} {e : TypeId} {size : Nat} {v : Value} {n : Nat} {xs : List Value} (h : W.ownsRow base e size v n xs) (hb : But r W W') (hr : r < base) : W'.ownsRow base e size v n xs := by
  refine ⟨h.1, ?_⟩
  rcases h.2 with hn | ⟨g, cap, cur, rfl, h1, hgg, rest⟩
  · exact .inl hn
  · exact .inr ⟨g, cap, cur, rfl, h1, by rw [hb.kept g (Array.getElem?_eq_some_iff.1 hgg).1 (by omega)]; exact hgg, rest⟩
theorem ArgsOwn.but {w w' : World} {r B : Nat} {v : Value} {xs : List Ex} (h : ArgsOwn w B v xs) (hb : But r w w') (hr : r < B) : ArgsOwn w' B v xs := by
  obtain ⟨cs, h1, h2⟩ := h
  refine ⟨cs, own_but h1 hb hr, fun j hj => ?_⟩
  obtain ⟨a0, a1, a2, a3, a4, a5, a6, e0, e1, e2, e3, e4, e5, e6, hx⟩ := h2 j hj
  exact ⟨a0, a1, a2, a3, a4, a5, a6, e0, e1, e2, e3, e4, e5, e6, hx.but hb (fun b hb => by have := hb.1; omega)⟩
theorem ArgsOwn.on {w w' : World} {B : Nat} {v : Value} {xs : List Ex} (h : ArgsOwn w B v xs) (hb : Below w.heap.size w w') : ArgsOwn w' B v xs := by
  obtain ⟨cs, h1, h2⟩ := h
  refine ⟨cs, lown_below h1 hb, fun j hj => ?_⟩
  obtain ⟨a0, a1, a2, a3, a4, a5, a6, e0, e1, e2, e3, e4, e5, e6, hx⟩ := h2 j hj
  exact ⟨a0, a1, a2, a3, a4, a5, a6, e0, e1, e2, e3, e4, e5, e6, hx.on hb⟩
theorem ArgsOwn.push {w w' : World} {B : Nat} {v v' : Value} {xs : List Ex} {cs : List Value} {a0 a1 a2 a3 a4 a5 a6 : Value} {x : Ex} (h1 : w.ownsRow B 26 7 v xs.length cs) (h2 : ∀ j (h : j < xs.length), ∃ a0 a1 a2 a3 a4 a5 a6, cs[j * 7]? = some a0 ∧ cs[j * 7 + 1]? = some a1 ∧ cs[j * 7 + 2]? = some a2 ∧ cs[j * 7 + 3]? = some a3 ∧ cs[j * 7 + 4]? = some a4 ∧ cs[j * 7 + 5]? = some a5 ∧ cs[j * 7 + 6]? = some a6 ∧ ExIn w (fun b => B ≤ b ∧ some b ≠ v.ownBlock) (.agg #[a0, a1, a2, a3, a4, a5, a6]) xs[j])
    (hx : ExIn w (fun b => B ≤ b ∧ some b ≠ v.ownBlock) (.agg #[a0, a1, a2, a3, a4, a5, a6]) x) (hown' : w'.ownsRow B 26 7 v' (xs.length + 1) (cs ++ [a0, a1, a2, a3, a4, a5, a6])) (hg : w.grownBy w' v.ownBlock) (hf : v'.ownBlock = v.ownBlock ∨ v'.ownBlock = some w.heap.size) : ArgsOwn w' B v' (xs ++ [x]) := by
  have key : ∀ (y : Ex) (u : Value), ExIn w (fun b => B ≤ b ∧ some b ≠ v.ownBlock) u y → ExIn w' (fun b => B ≤ b ∧ some b ≠ v'.ownBlock) u y := fun y u hy => by
    have h3 := ExIn.low (lo' := fun b => (B ≤ b ∧ some b ≠ v.ownBlock) ∧ b < w.heap.size) (fun b hb hb2 => ⟨hb2, hb⟩) _ _ hy
    have h4 := ExIn.keep (w' := w') hg.size (fun b o hb _ => by simp only [World.cell?, hg.block b hb.2 hb.1.2]) _ _ h3
    refine ExIn.low (fun b _ hb => ⟨hb.1.1, ?_⟩) _ _ h4
    rcases hf with hf | hf
    · rw [hf]; exact hb.1.2
    · rw [hf]; intro e; injection e with e; have := hb.2; omega
  have hlen := h1.1
  refine ⟨cs ++ [a0, a1, a2, a3, a4, a5, a6], by rw [List.length_append, List.length_singleton]; exact hown', fun j hj => ?_⟩
  rw [List.length_append, List.length_singleton] at hj
  by_cases hj2 : j < xs.length
  · obtain ⟨b0, b1, b2, b3, b4, b5, b6, e0, e1, e2, e3, e4, e5, e6, hy⟩ := h2 j hj2
    refine ⟨b0, b1, b2, b3, b4, b5, b6, ?_, ?_, ?_, ?_, ?_, ?_, ?_, ?_⟩
    · rw [List.getElem?_append_left (by omega)]; exact e0
    · rw [List.getElem?_append_left (by omega)]; exact e1
    · rw [List.getElem?_append_left (by omega)]; exact e2
    · rw [List.getElem?_append_left (by omega)]; exact e3
    · rw [List.getElem?_append_left (by omega)]; exact e4
    · rw [List.getElem?_append_left (by omega)]; exact e5
    · rw [List.getElem?_append_left (by omega)]; exact e6
    · rw [List.getElem_append_left hj2]; exact key _ _ hy
  · obtain rfl : j = xs.length := by omega
    refine ⟨a0, a1, a2, a3, a4, a5, a6, ?_, ?_, ?_, ?_, ?_, ?_, ?_, ?_⟩
    · rw [List.getElem?_append_right (by omega), show xs.length * 7 - cs.length = 0 by omega]; rfl
    · rw [List.getElem?_append_right (by omega), show xs.length * 7 + 1 - cs.length = 1 by omega]; rfl
    · rw [List.getElem?_append_right (by omega), show xs.length * 7 + 2 - cs.length = 2 by omega]; rfl
    · rw [List.getElem?_append_right (by omega), show xs.length * 7 + 3 - cs.length = 3 by omega]; rfl
    · rw [List.getElem?_append_right (by omega), show xs.length * 7 + 4 - cs.length = 4 by omega]; rfl
    · rw [List.getElem?_append_right (by omega), show xs.length * 7 + 5 - cs.length = 5 by omega]; rfl
    · rw [List.getElem?_append_right (by omega), show xs.length * 7 + 6 - cs.length = 6 by omega]; rfl
    · rw [List.getElem_append_right (Nat.le_refl _)]; simp only [Nat.sub_self, List.getElem_cons_zero]; exact key _ _ hx
/-- A slice of expressions, as a value. -/
def ArgsIs (w : World) (lo : Nat → Prop) (v : Value) (xs : List Ex) : Prop := ∃ p c, v = .slice p xs.length c ∧ (xs.length ≤ maxLen ∧ xs.length ≤ c) ∧ (xs.length = 0 ∨ ∃ b off, p = some ⟨b, off, none⟩ ∧ b < w.heap.size ∧ lo b ∧ ExsIn w lo b off xs)
theorem ArgsOwn.is {w : World} {B : Nat} {v : Value} {xs : List Ex} (h : ArgsOwn w B v xs) : ArgsIs w (B ≤ ·) v xs := by
  obtain ⟨cs, h1, h2⟩ := h
  rcases h1.2 with ⟨e, h0⟩ | ⟨g, cap, cur, e, hB, hgg, hcap, hmx, _, _⟩
  · exact ⟨none, 0, by rw [e, h0], ⟨by omega, by omega⟩, .inl h0⟩
  · refine ⟨_, cap, e, ⟨by omega, hcap⟩, .inr ⟨g, 0, rfl, (Array.getElem?_eq_some_iff.1 hgg).1, hB, exsIn_mk _ _ _ _ _ fun j hj => ?_⟩⟩
    obtain ⟨b0, b1, b2, b3, b4, b5, b6, e0, e1, e2, e3, e4, e5, e6, hy⟩ := h2 j hj
    have hc := fun k u hu => h1.cells (g := g) (by rw [e]; rfl) k u hu
    simp only [Go.WideShapes.add_plain] at hc
    refine ⟨b0, b1, b2, b3, b4, b5, b6, ?_, ?_, ?_, ?_, ?_, ?_, ?_, ExIn.low (fun b _ hb => hb.1) _ _ hy⟩
    · have := hc _ _ e0; simpa using this
    · have := hc _ _ e1; simpa [Nat.add_assoc] using this
    · have := hc _ _ e2; simpa [Nat.add_assoc] using this
    · have := hc _ _ e3; simpa [Nat.add_assoc] using this
    · have := hc _ _ e4; simpa [Nat.add_assoc] using this
    · have := hc _ _ e5; simpa [Nat.add_assoc] using this
    · have := hc _ _ e6; simpa [Nat.add_assoc] using this
theorem info_ex : (Tryz.prog.info? 26).map (fun i => (i.zero, i.size, i.bytes)) = some (some (.agg #[.string ⟨#[]⟩, .string ⟨#[]⟩, .int .i64 0, .int .i64 0, .string ⟨#[]⟩, .slice none 0 0, .int .i64 0]), 7, 96) := by kernel_rfl
theorem argsIs_nil (w : World) (lo : Nat → Prop) : ArgsIs w lo (.slice none 0 0) [] := ⟨none, 0, rfl, ⟨Nat.zero_le _, Nat.zero_le _⟩, .inl rfl⟩
theorem uBr_none {sub : List Tok → Option Ex × List Tok} {k : Nat} {acc : List Ex} {ts : List Tok} (h : nxT (sgT [if acc.length = 0 then [40] else [44]]) ts = none) : uBr sub (k + 1) acc ts = (none, ts) := by rw [uBr, h]
theorem uBr_bad {sub : List Tok → Option Ex × List Tok} {k : Nat} {acc : List Ex} {ts rs : List Tok} {t : Tok} (h : nxT (sgT [if acc.length = 0 then [40] else [44]]) ts = some (t, rs)) (hs : (sub rs).1 = none) : uBr sub (k + 1) acc ts = (none, (sub rs).2) := by
  rw [uBr, h]
  cases h3 : sub rs with
  | mk o r => rw [h3] at hs; simp only at hs; subst hs; simp only [h3]
theorem uBr_step {sub : List Tok → Option Ex × List Tok} {k : Nat} {acc : List Ex} {ts rs : List Tok} {t : Tok} {x : Ex} (h : nxT (sgT [if acc.length = 0 then [40] else [44]]) ts = some (t, rs)) (hs : (sub rs).1 = some x) : uBr sub (k + 1) acc ts = uBr sub k (acc ++ [x]) (sub rs).2 := by
  rw [uBr, h]
  cases h3 : sub rs with
  | mk o r => rw [h3] at hs; simp only at hs; subst hs; simp only [h3]
end Go.Proofs.YticdcnbeemkapaaGreatDoor
