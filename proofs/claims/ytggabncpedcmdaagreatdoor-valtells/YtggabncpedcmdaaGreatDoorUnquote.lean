/-
  What unquote of package val says of any text: what stood between its quotes, or that it is none.
-/
import Derived.Test.YtggabncpedcmdaaGreatDoorProg
import Derived.Test.YtggabncpedcmdaaGreatDoorUnqSteps
namespace Go.Proofs.YtggabncpedcmdaaGreatDoor
open Go.RowKit

theorem info_u8 : (Tryz.prog.info? 5).map (fun i => (i.zero, i.size, i.bytes)) = some (some (.int .u8 0), 1, 1) := by kernel_rfl

theorem rel_app {B : Nat} {l : List UInt8} {c : UInt8} {w wr w1 : World} {v v' : Value} {o : Obj} (hown : wr.ownsRow B 5 1 v l.length (cellsOf l)) (hnx : Below B w wr) (hB : B ≤ wr.heap.size)
    (hown' : w1.ownsRow B 5 1 v' (l.length + 1) (cellsOf l ++ [.int .u8 (c.toNat : Int)])) (hgrow : (wr.alloc o).grownBy w1 v.ownBlock) :
    w1.ownsRow B 5 1 v' (l ++ [c]).length (cellsOf (l ++ [c])) ∧ Below B w w1 :=
  ⟨by rw [cells_snoc, List.length_append]; exact hown', (hnx.alloc hB o).grown hgrow (by simp; omega) (fun j hj => (hown.lt j hj).1)⟩
theorem conv_nil (w : World) : (convert 109 9 (.slice none 0 0)).run Tryz.prog w = .ok (.string ⟨#[]⟩) w := by kernel_rfl
theorem conv_own {B : Nat} {l : List UInt8} {wr : World} {v : Value} (hown : wr.ownsRow B 5 1 v l.length (cellsOf l)) :
    (convert 109 9 v).run Tryz.prog wr = .ok (.string ⟨l.toArray⟩) wr := by
  have h := hown.2
  rcases h with ⟨rfl, hn⟩ | ⟨g, cap, cur, rfl, _, _, _, _, _, _⟩
  · obtain rfl : l = [] := List.length_eq_zero_iff.1 hn
    exact conv_nil wr
  · exact run_convert_bytes_back (P := Tryz.prog) wr 109 9 5 ⟨g, 0, none⟩ cap l Tryz.underlying109 Tryz.underlying5 Tryz.underlying9 (fun j hj => hown.cells (g := g) rfl j _ (by simp [cellsOf, hj]))

set_option maxHeartbeats 1600000 in
set_option maxRecDepth 1000000 in
theorem unquote_in (s : ByteArray) (w : World) (hs : s.size ≤ 140737488355328) (h2 : 2 ≤ s.size) (ha : (s[0].toNat : Int) = 39) (hz : (s[s.size - 1].toNat : Int) = 39) :
    Calls Tryz.prog 74 #[.string s] w fun e w' => ∃ x b, e = .returned (.tuple #[.string x, .bool b]) ∧ ((b = true ∧ ∃ l, unq (rest s 1) = some l ∧ x = ⟨l.toArray⟩) ∨ (b = false ∧ x = ⟨#[]⟩ ∧ unq (rest s 1) = none)) ∧ Below w.heap.size w w' := by
  obtain ⟨i0, hi, hz0, hz1, hz2⟩ := info_parts info_u8
  have hlast : (s.size : Int) - 1 = ((s.size - 1 : Nat) : Int) := by omega
  have hA : Hid ((s[0].toNat : Int) = 39) := ha
  have hZ : Hid ((s[s.size - 1].toNat : Int) = 39) := hz
  go_enter Tryz.func74, Tryz.ntmps74
  go_wp2
  go_loopw [5, 6] (fun v i wr => ∃ (j : Nat) (l : List UInt8), 1 ≤ j ∧ j + 1 ≤ s.size ∧ i = .int .i64 (j : Nat) ∧ wr.ownsRow w.heap.size 5 1 v l.length (cellsOf l) ∧ Below w.heap.size w wr ∧ Got s j l ∧ l.length < j)
    (fun _ i _ => s.size - (intOf i).toNat)
  case atStart => exact ⟨1, [], Nat.le_refl _, by omega, rfl, World.ownsRow_nil _ _ _ _, Below.refl _ _, got_start s, by simp⟩
  case round =>
    obtain ⟨j, l, hj1, hj2, rfl, hown, hnx, hgot, hlen⟩ := hrel
    have HG : Hid (Got s j l) := hgot
    clear hgot
    by_cases hlt : j + 1 < s.size
    · have hjs : j < s.size := by omega
      by_cases hc : (s[j].toNat : Int) = 39
      · have HC : Hid ((s[j].toNat : Int) = 39) := hc
        have hcb : ((s[j].toNat : Int) == 39) = true := by simpa using hc
        clear hc
        by_cases hl2 : j + 2 < s.size
        · have hjs2 : j + 1 < s.size := by omega
          have hne : ((j : Int) + 1 == ((s.size - 1 : Nat) : Int)) = false := by simp; omega
          by_cases hd : (s[j + 1].toNat : Int) = 39
          · have HD : Hid ((s[j + 1].toNat : Int) = 39) := hd
            have hdb : ((s[j + 1].toNat : Int) != 39) = false := by simpa using hd
            clear hd
            go_wp2_with (at_builtin; refine wpList_append_own _ rfl _ _ 109 rfl w.heap.size 5 i0 (.int .u8 0) 1 1 Tryz.underlying109 hi hz0 hz1 hz2 rfl (by decide) _ _ _ rfl (hown.alloc _) ⟨wr.heap.size, 0, none⟩ 1 1 [.int .u8 (s[j + 1].toNat : Int)] rfl rfl ?c1 ?c2 ?c3 ?c4 ?c5 ?_)
            case c1 =>
              intro i u hu
              match i, hu with
              | 0, hu => simp at hu; subst hu; simp [Addr.add]
            case c2 => intro u hu; simp at hu; subst hu; rfl
            case c3 => unfold maxLen; omega
            case c4 => omega
            case c5 => have := hnx.size; simp; omega
            · intro v' w1 hown' hgrow _
              have R := rel_app hown hnx (by have := hnx.size; omega) hown' hgrow
              clear hown' hgrow hown hnx
              go_wp2
              go_roundw
              case rel => exact ⟨j + 2, l ++ [s[j + 1]], by omega, by omega, by go_num, R.1, R.2, got_two hl2 HC.out HD.out HG.out, by simp; omega⟩
              case measure => simp [intOf]; omega
          · have HD : Hid ((s[j + 1].toNat : Int) ≠ 39) := hd
            have hdb : ((s[j + 1].toNat : Int) != 39) = true := by simpa using hd
            clear hd
            go_wp2
            go_ret2
            exact ⟨_, _, rfl, Or.inr ⟨rfl, rfl, got_bad hl2 HC.out HD.out HG.out⟩, hnx⟩
        · have hne : ((j : Int) + 1 == ((s.size - 1 : Nat) : Int)) = true := by simp; omega
          go_wp2
          go_ret2
          exact ⟨_, _, rfl, Or.inr ⟨rfl, rfl, got_one (by omega) HC.out HG.out⟩, hnx⟩
      · have HC : Hid ((s[j].toNat : Int) ≠ 39) := hc
        have hcb : ((s[j].toNat : Int) == 39) = false := by simpa using hc
        clear hc
        go_wp2_with (at_builtin; refine wpList_append_own _ rfl _ _ 109 rfl w.heap.size 5 i0 (.int .u8 0) 1 1 Tryz.underlying109 hi hz0 hz1 hz2 rfl (by decide) _ _ _ rfl (hown.alloc _) ⟨wr.heap.size, 0, none⟩ 1 1 [.int .u8 (s[j].toNat : Int)] rfl rfl ?c1 ?c2 ?c3 ?c4 ?c5 ?_)
        case c1 =>
          intro i u hu
          match i, hu with
          | 0, hu => simp at hu; subst hu; simp [Addr.add]
        case c2 => intro u hu; simp at hu; subst hu; rfl
        case c3 => unfold maxLen; omega
        case c4 => omega
        case c5 => have := hnx.size; simp; omega
        · intro v' w1 hown' hgrow _
          have R := rel_app hown hnx (by have := hnx.size; omega) hown' hgrow
          clear hown' hgrow hown hnx
          go_wp2
          go_roundw
          case rel => exact ⟨j + 1, l ++ [s[j]], by omega, by omega, by go_num, R.1, R.2, got_plain hlt HC.out HG.out, by simp; omega⟩
          case measure => simp [intOf]; omega
    · have hcv := conv_own hown
      go_wp2
      go_ret2
      exact ⟨_, _, rfl, Or.inl ⟨rfl, l, got_end (by omega) HG.out, rfl⟩, hnx⟩
set_option maxHeartbeats 1600000 in
theorem unquote_out (s : ByteArray) (w : World) (hs : s.size ≤ 140737488355328) (h : ¬ ∃ h2 : 2 ≤ s.size, (s[0].toNat : Int) = 39 ∧ (s[s.size - 1].toNat : Int) = 39) :
    Calls Tryz.prog 74 #[.string s] w fun e w' => e = .returned (.tuple #[.string ⟨#[]⟩, .bool false]) ∧ w' = w := by
  by_cases h2 : 2 ≤ s.size
  · have hlast : (s.size : Int) - 1 = ((s.size - 1 : Nat) : Int) := by omega
    have hj0 : 0 < s.size := by omega
    have hj1 : s.size - 1 < s.size := by omega
    by_cases ha : (s[0].toNat : Int) = 39
    · have hz : ((s[s.size - 1].toNat : Int) != 39) = true := by
        rw [bne_iff_ne]; exact fun e => h ⟨h2, ha, e⟩
      have ha' : ((s[0].toNat : Int) != 39) = false := by simpa using ha
      clear ha h
      go_enter Tryz.func74, Tryz.ntmps74
      go_wp2
      go_ret2
      exact ⟨rfl, rfl⟩
    · have ha' : ((s[0].toNat : Int) != 39) = true := by simpa using ha
      clear ha h
      go_enter Tryz.func74, Tryz.ntmps74
      go_wp2
      go_ret2
      exact ⟨rfl, rfl⟩
  · clear h
    go_enter Tryz.func74, Tryz.ntmps74
    go_wp2
    go_ret2
    exact ⟨rfl, rfl⟩
theorem unquote_any (s : ByteArray) (w : World) (hs : s.size ≤ 140737488355328) :
    Calls Tryz.prog 74 #[.string s] w fun e w' => ∃ x b, e = .returned (.tuple #[.string x, .bool b]) ∧ ((b = true ∧ ∃ l, unqT s = some l ∧ x = ⟨l.toArray⟩) ∨ (b = false ∧ x = ⟨#[]⟩ ∧ unqT s = none)) ∧ Below w.heap.size w w' := by
  by_cases h : ∃ h2 : 2 ≤ s.size, (s[0].toNat : Int) = 39 ∧ (s[s.size - 1].toNat : Int) = 39
  · obtain ⟨h2, ha, hz⟩ := h
    have hu : unqT s = unq (rest s 1) := by rw [unqT, dif_pos h2, if_pos ⟨ha, hz⟩]
    rw [hu]
    exact unquote_in s w hs h2 ha hz
  · have hu : unqT s = none := by
      rw [unqT]
      split
      · rename_i h2
        rw [if_neg (fun e => h ⟨h2, e⟩)]
      · rfl
    exact (unquote_out s w hs h).mono fun e w' hh => ⟨_, _, hh.1, Or.inr ⟨rfl, rfl, hu⟩, by rw [hh.2]; exact Below.refl _ _⟩
theorem unquote_some (s : ByteArray) (l : List UInt8) (w : World) (hs : s.size ≤ 140737488355328) (h : unqT s = some l) :
    Calls Tryz.prog 74 #[.string s] w fun e w' => e = .returned (.tuple #[.string ⟨l.toArray⟩, .bool true]) ∧ Below w.heap.size w w' :=
  (unquote_any s w hs).mono fun e w' ⟨x, b, he, hc, hb⟩ => ⟨(by
    rcases hc with ⟨rfl, l', hl, rfl⟩ | ⟨_, _, hn⟩
    · rw [h] at hl; cases hl; exact he
    · rw [h] at hn; cases hn), hb⟩
theorem unquote_none (s : ByteArray) (w : World) (hs : s.size ≤ 140737488355328) (h : unqT s = none) :
    Calls Tryz.prog 74 #[.string s] w fun e w' => e = .returned (.tuple #[.string ⟨#[]⟩, .bool false]) ∧ Below w.heap.size w w' :=
  (unquote_any s w hs).mono fun e w' ⟨x, b, he, hc, hb⟩ => ⟨(by
    rcases hc with ⟨_, l', hl, _⟩ | ⟨rfl, rfl, _⟩
    · rw [h] at hl; cases hl
    · exact he), hb⟩
end Go.Proofs.YtggabncpedcmdaaGreatDoor
