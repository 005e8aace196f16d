/-
  The program's reader of words (package tree): oneOf and its closure over slices.Contains, at any words.
-/
import Derived.Test.YtomakklbfjkdpaaGreatDoorTreeQ
import Derived.Test.YtomakklbfjkdpaaGreatDoorLexToks
import Derived.WalkSmall
import Derived.BigQuiet
import Derived.Deep.RegionWith
namespace Go.Proofs.YtomakklbfjkdpaaGreatDoor
open Go.RowKit Go.BigFrame
set_option linter.unusedVariables false

/-- Texts lie in memory one behind the other. -/
def StrsIn (w : World) (b : Nat) (gs : List (List UInt8)) : Prop := b < w.heap.size ∧ ∀ j (h : j < gs.length), w.cell? ⟨b, j, none⟩ = some (.string ⟨gs[j].toArray⟩)
theorem StrsIn.on {w w' : World} {b : Nat} {gs : List (List UInt8)} (h : StrsIn w b gs) (hb : Below w.heap.size w w') : StrsIn w' b gs :=
  ⟨by have := hb.size; have := h.1; omega, fun j hj => by rw [hb.cell (p := ⟨b, j, none⟩) h.1]; exact h.2 j hj⟩
theorem any_hit {gs : List (List UInt8)} {l : List UInt8} {k : Nat} (h : k < gs.length) (e : gs[k] = l) : (gs.any fun g => g == l) = true := by
  rw [List.any_eq_true]
  exact ⟨gs[k], List.getElem_mem h, by simpa using e⟩
theorem any_miss {gs : List (List UInt8)} {l : List UInt8} (h : ∀ j (hj : j < gs.length), gs[j] ≠ l) : (gs.any fun g => g == l) = false := by
  rw [List.any_eq_false]
  intro g hg
  obtain ⟨j, hj, rfl⟩ := List.getElem_of_mem hg
  simpa using h j hj
set_option maxHeartbeats 1000000 in
theorem index_any (x : ByteArray) (b c : Nat) (gs : List (List UInt8)) (w : World) (hn : gs.length ≤ 100) (hc : StrsIn w b gs) :
    Calls Tryz.prog 101 #[.slice (some ⟨b, 0, none⟩) gs.length c, .string x] w fun e w' => ∃ n : Int, e = .returned (.int .i64 n) ∧ Hid (decide (0 ≤ n) = gs.any fun g => g == x.data.toList) ∧ w' = w := by
  go_enter Tryz.func101, Tryz.ntmps101
  go_wp2
  go_loopg [5, 8] gs.length (fun gg _ s8 wr => ∃ kk : Nat, kk ≤ gs.length ∧ gs.length - kk ≤ gg ∧ s8 = .int .i64 kk ∧ wr = w ∧ Aside (∀ j (hj : j < gs.length), j < kk → gs[j] ≠ x.data.toList))
  case atStart => exact ⟨0, Nat.zero_le _, by omega, rfl, rfl, (show Aside _ from fun j _ hj => absurd hj (Nat.not_lt_zero _))⟩
  case round =>
    obtain ⟨kk, hkk, hg, rfl, rfl, A⟩ := hrel
    by_cases hlt : kk < gs.length
    · have hltz : (kk : Int) < (gs.length : Int) := by omega
      have hcell := hc.2 kk hlt
      have hbl := hc.1
      generalize hy : gs[kk] = y at hcell
      have HY : Hid (gs[kk] = y) := hy
      clear hy
      by_cases he : x.data.toList = y
      · obtain rfl : x = ⟨y.toArray⟩ := eq_of_list he
        go_wp2
        go_ret
        refine ⟨kk, rfl, ?_, rfl⟩
        show _ = _
        rw [any_hit hlt HY.out]
        simp
      · have hq : (x.toList == y) = false := by rw [Lib.toList_data]; simpa using he
        go_wp2
        go_roundg (gs.length - (kk + 1))
        case measure => omega
        case rel =>
          refine ⟨kk + 1, by omega, by omega, by go_num, rfl, (show Aside _ from fun j hj hjk => ?_)⟩
          by_cases e : j = kk
          · subst e
            rw [HY.out]; exact fun e => he e.symm
          · exact A.out j hj (by omega)
    · have hltz : ¬ (kk : Int) < (gs.length : Int) := by omega
      go_wp2
      go_ret
      refine ⟨-1, rfl, ?_, rfl⟩
      show _ = _
      rw [any_miss (fun j hj => A.out j hj (by omega))]
      rfl
theorem contains_any (x : ByteArray) (b c : Nat) (gs : List (List UInt8)) (w : World) (hn : gs.length ≤ 100) (hc : StrsIn w b gs) :
    Calls Tryz.prog 78 #[.slice (some ⟨b, 0, none⟩) gs.length c, .string x] w fun e w' => e = .returned (.bool (gs.any fun g => g == x.data.toList)) ∧ w' = w := by
  have cI := index_any x b c gs w hn hc
  generalize (gs.any fun g => g == x.data.toList) = R at cI
  go_enter Tryz.func78, Tryz.ntmps78
  go_wp2_with fail
  refine cI.mono ?_
  rintro e w' ⟨n, rfl, HR, rfl⟩
  go_wp2
  go_ret
  exact ⟨ret_bool HR.out, rfl⟩
/-- A function that tells whether a word is one of these, as oneOf makes it: the block of what it has captured. -/
def SignIn (w : World) (p : Nat) (gs : List (List UInt8)) : Prop := ∃ b c, w.cell? ⟨p, 0, none⟩ = some (.slice (some ⟨b, 0, none⟩) gs.length c) ∧ p < w.heap.size ∧ StrsIn w b gs ∧ gs.length ≤ 100
theorem SignIn.on {w w' : World} {p : Nat} {gs : List (List UInt8)} (h : SignIn w p gs) (hb : Below w.heap.size w w') : SignIn w' p gs := by
  obtain ⟨b, c, h1, h2, h3, h4⟩ := h
  exact ⟨b, c, by rw [hb.cell (p := ⟨p, 0, none⟩) h2]; exact h1, by have := hb.size; omega, h3.on hb, h4⟩
abbrev signV (p : Nat) : Value := .func (.func 77) #[] #[.pointer (some ⟨p, 0, none⟩)]
def tokV (t : Tok) : Value := .agg #[.int .i64 t.1, .string t.2.1, .int .i64 (t.2.2 : Int)]
theorem oneOf1_any (t : Tok) (p : Nat) (gs : List (List UInt8)) (w : World) (hs : SignIn w p gs) :
    Calls Tryz.prog 77 #[tokV t, .pointer (some ⟨p, 0, none⟩)] w fun e w' => e = .returned (.bool (sgT gs t)) ∧ Below w.heap.size w w' := by
  obtain ⟨b, c, h1, h2, h3, h4⟩ := hs
  obtain ⟨tk, tx, ta⟩ := t
  have cC := fun W (hb : Below w.heap.size w W) => contains_any tx b c gs W h4 (h3.on hb)
  rw [sgT, tokV]
  simp only
  generalize (gs.any fun g => g == tx.data.toList) = R at cC
  clear h3
  go_enter Tryz.func77, Tryz.ntmps77
  go_wp2_with (go_at_call 78; refine (cC _ ((Below.refl _ _).alloc (Nat.le_refl _) _)).mono ?_; rintro e w' ⟨rfl, rfl⟩)
  go_ret
  exact ⟨rfl, (Below.refl _ _).alloc (Nat.le_refl _) _⟩
theorem oneOf_any (b c : Nat) (gs : List (List UInt8)) (w : World) (h4 : gs.length ≤ 100) (hs : StrsIn w b gs) :
    Calls Tryz.prog 49 #[.slice (some ⟨b, 0, none⟩) gs.length c] w fun e w' => (∃ p, e = .returned (signV p) ∧ SignIn w' p gs) ∧ Below w.heap.size w w' := by
  go_enter Tryz.func49, Tryz.ntmps49
  go_wp2
  go_ret
  have hb := (Below.refl w.heap.size w).alloc (Nat.le_refl _) (.cells #[.slice (some ⟨b, 0, none⟩) gs.length c] 46)
  exact ⟨⟨w.heap.size, rfl, b, c, by rw [World.cell?_alloc_at _ _ _ _ rfl]; rfl, by simp, hs.on hb, h4⟩, hb⟩
end Go.Proofs.YtomakklbfjkdpaaGreatDoor
