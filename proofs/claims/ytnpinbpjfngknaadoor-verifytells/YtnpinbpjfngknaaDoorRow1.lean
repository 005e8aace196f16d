/-
  What package row's place, Find and the closures under them say of any columns.
-/
import Derived.Test.YtnpinbpjfngknaaDoorProg
import Derived.WalkKit
import Derived.Below
import Derived.RowKitTokens
import Derived.Lib.OthersKept
import Derived.Lib.Strings
import Derived.Laws.RangeAny
import Derived.Deep.DeepCutAuto
namespace Go.Proofs.YtnpinbpjfngknaaDoor
open Go.RowKit
set_option linter.unusedVariables false

/-- The columns of a list lie in memory one behind the other. -/
def ColsIn (w : World) (b off : Nat) (zs : List (ByteArray × Int)) : Prop :=
  b < w.heap.size ∧ ∀ j (h : j < zs.length), w.cell? ⟨b, off + j * 2, none⟩ = some (.string zs[j].1) ∧ w.cell? ⟨b, off + j * 2 + 1, none⟩ = some (.int .i64 zs[j].2)
theorem ColsIn.on {w w' : World} {b off : Nat} {zs : List (ByteArray × Int)} (h : ColsIn w b off zs) (hb : Below w.heap.size w w') : ColsIn w' b off zs :=
  ⟨by have := hb.size; have := h.1; omega, fun j hj => by
    rw [hb.cell (p := ⟨b, off + j * 2, none⟩) h.1, hb.cell (p := ⟨b, off + j * 2 + 1, none⟩) h.1]; exact h.2 j hj⟩
theorem ColsIn.take {w : World} {b off : Nat} {zs : List (ByteArray × Int)} (h : ColsIn w b off zs) (k : Nat) : ColsIn w b off (zs.take k) :=
  ⟨h.1, fun j hj => by
    have hj' : j < zs.length := by rw [List.length_take] at hj; omega
    have := h.2 j hj'
    simpa [List.getElem_take] using this⟩
/-- Where the first column of a name stands; below 0: there is none. -/
def findN (x : List UInt8) (zs : List (ByteArray × Int)) : Int := match zs.findIdx? (fun z => z.1.data.toList == x) with
  | some k => k
  | none => -1
theorem findN_hit {x : List UInt8} {zs : List (ByteArray × Int)} {k : Nat} (h : k < zs.length) (he : zs[k].1.data.toList = x) (hn : ∀ j (hj : j < k), zs[j].1.data.toList ≠ x) : findN x zs = k := by
  have : zs.findIdx? (fun z => z.1.data.toList == x) = some k := by
    rw [List.findIdx?_eq_some_iff_getElem]
    exact ⟨h, by simpa using he, fun j hj => by simpa using hn j hj⟩
  rw [findN, this]
theorem findN_miss {x : List UInt8} {zs : List (ByteArray × Int)} (hn : ∀ j (hj : j < zs.length), zs[j].1.data.toList ≠ x) : findN x zs = -1 := by
  have : zs.findIdx? (fun z => z.1.data.toList == x) = none := by
    rw [List.findIdx?_eq_none_iff]
    intro z hz
    obtain ⟨j, hj, rfl⟩ := List.getElem_of_mem hz
    simpa using hn j hj
  rw [findN, this]

theorem place1_any (nm x : ByteArray) (t : Int) (p : Nat) (w : World) (hp : w.cell? ⟨p, 0, none⟩ = some (.string nm)) :
    Calls Tryd.prog 51 #[.agg #[.string x, .int .i64 t], .pointer (some ⟨p, 0, none⟩)] w fun e w' => e = .returned (.bool (x.data.toList == nm.data.toList)) ∧ Below w.heap.size w w' := by
  have hl : p < w.heap.size := by
    rcases Nat.lt_or_ge p w.heap.size with h' | h'
    · exact h'
    · simp [World.cell?, Array.getElem?_eq_none h'] at hp
  go_enter Tryd.func51, Tryd.ntmps51
  go_wp2
  go_ret
  exact ⟨by simp only [Lib.toList_data]; rfl, (Below.refl _ _).alloc (Nat.le_refl _) _⟩
set_option maxHeartbeats 1000000 in
theorem indexFunc_col (nm : ByteArray) (b off c p : Nat) (zs : List (ByteArray × Int)) (w : World) (hn : zs.length ≤ 9223372036854775807) (hc : ColsIn w b off zs) (hp : w.cell? ⟨p, 0, none⟩ = some (.string nm)) (hpl : p < w.heap.size) :
    Calls Tryd.prog 50 #[.slice (some ⟨b, off, none⟩) zs.length c, .func (.func 51) #[] #[.pointer (some ⟨p, 0, none⟩)]] w fun e w' => e = .returned (.int .i64 (findN nm.data.toList zs)) ∧ Below w.heap.size w w' := by
  go_enter Tryd.func50, Tryd.ntmps50
  go_wp2
  go_loopg [5, 8] zs.length (fun gg _ s8 wr => ∃ kk : Nat, kk ≤ zs.length ∧ zs.length - kk ≤ gg ∧ s8 = .int .i64 kk ∧ Aside (Below w.heap.size w wr) ∧ Aside (∀ j (hj : j < zs.length), j < kk → zs[j].1.data.toList ≠ nm.data.toList))
  case atStart => exact ⟨0, Nat.zero_le _, by omega, rfl, Below.refl _ w, fun j _ hj => absurd hj (Nat.not_lt_zero _)⟩
  case round =>
    obtain ⟨kk, hkk, hg, rfl, BW, A⟩ := hrel
    by_cases hlt : kk < zs.length
    · have hltz : (kk : Int) < (zs.length : Int) := by omega
      obtain ⟨c0, c1⟩ := (hc.on BW.out).2 kk hlt
      generalize hy : zs[kk] = y at c0 c1
      obtain ⟨yn, yt⟩ := y
      have hcall := place1_any nm yn yt p wr (by rw [BW.out.cell (p := ⟨p, 0, none⟩) hpl]; exact hp)
      have HY : Hid (zs[kk] = (yn, yt)) := hy
      clear hy
      by_cases he : yn.data.toList = nm.data.toList
      · have hq : (yn.data.toList == nm.data.toList) = true := by simpa using he
        rw [hq] at hcall
        go_wp2_with (go_at_call 51; refine hcall.mono ?_; rintro e w' ⟨rfl, hb'⟩)
        go_ret
        refine ⟨?_, BW.out.trans (hb'.mono BW.out.size)⟩
        rw [findN_hit hlt (by rw [HY.out]; exact he) (fun j hj => A.out j (by omega) hj)]
        rfl
      · have hq : (yn.data.toList == nm.data.toList) = false := by simpa using he
        rw [hq] at hcall
        go_wp2_with (go_at_call 51; refine hcall.mono ?_; rintro e w' ⟨rfl, hb'⟩)
        go_roundg (zs.length - (kk + 1))
        case measure => omega
        case rel =>
          refine ⟨kk + 1, by omega, by omega, by go_num, BW.out.trans (hb'.mono BW.out.size), (show Aside _ from fun j hj hjk => ?_)⟩
          by_cases e : j = kk
          · subst e
            rw [HY.out]; exact he
          · exact A.out j hj (by omega)
    · have hltz : ¬ (kk : Int) < (zs.length : Int) := by omega
      go_wp2
      go_ret
      refine ⟨?_, BW.out⟩
      rw [findN_miss (fun j hj => A.out j hj (by omega))]
      rfl
end Go.Proofs.YtnpinbpjfngknaaDoor
