/-
  UnqSteps, Unquote, Parse, Back, NumFacts, in one text.
-/
import Derived.Test.YtkoejkpjkcejcaaGreatDoorGrAa
import Derived.WalkKit
import Derived.Test.YtkoejkpjkcejcaaGreatDoorProg
import Derived.Lib.AtoiAllCases
import Derived.Lib.ItoaLen
namespace Go.Proofs.YtkoejkpjkcejcaaGreatDoor
open Go.RowKit

/-- What is left from j on, ahead of the last byte. -/
def rest (s : ByteArray) (j : Nat) : List UInt8 := (s.data.toList.drop j).take (s.size - 1 - j)
theorem rest_cons (s : ByteArray) (j : Nat) (h : j + 1 < s.size) : rest s j = s[j] :: rest s (j + 1) := by
  have hl : j < s.data.toList.length := by simp; omega
  rw [rest, rest, List.drop_eq_getElem_cons hl, show s.size - 1 - j = (s.size - 1 - (j + 1)) + 1 from by omega, List.take_succ_cons]
  rfl
theorem rest_nil (s : ByteArray) (j : Nat) (h : s.size ≤ j + 1) : rest s j = [] := by
  rw [rest, show s.size - 1 - j = 0 from by omega, List.take_zero]
/-- So far l has been gathered. -/
def Got (s : ByteArray) (j : Nat) (l : List UInt8) : Prop := unq (rest s 1) = (unq (rest s j)).map (l ++ ·)
theorem got_start (s : ByteArray) : Got s 1 [] := by simp [Got]
theorem got_plain {s : ByteArray} {j : Nat} {l : List UInt8} (h : j + 1 < s.size) (hc : (s[j].toNat : Int) ≠ 39) (g : Got s j l) : Got s (j + 1) (l ++ [s[j]]) := by
  have hne : s[j] ≠ 39 := fun e => hc (by rw [e]; rfl)
  rw [Got, rest_cons s j h, unq_ne _ _ hne, Option.map_map] at g
  rw [Got, g]
  congr 1
  funext x
  simp
theorem got_two {s : ByteArray} {j : Nat} {l : List UInt8} (h : j + 2 < s.size) (hc : (s[j].toNat : Int) = 39) (hd : (s[j + 1].toNat : Int) = 39) (g : Got s j l) : Got s (j + 2) (l ++ [s[j + 1]]) := by
  have h1 : s[j] = 39 := UInt8.toNat_inj.1 (by rw [show (39 : UInt8).toNat = 39 from rfl]; omega)
  have h2 : s[j + 1] = 39 := UInt8.toNat_inj.1 (by rw [show (39 : UInt8).toNat = 39 from rfl]; omega)
  rw [Got, rest_cons s j (by omega), rest_cons s (j + 1) (by omega), h1, h2, unq_two, Option.map_map] at g
  rw [Got, g, h2]
  congr 1
  funext x
  simp
theorem got_one {s : ByteArray} {j : Nat} {l : List UInt8} (h : j + 2 = s.size) (hc : (s[j].toNat : Int) = 39) (g : Got s j l) : unq (rest s 1) = none := by
  have h1 : s[j] = 39 := UInt8.toNat_inj.1 (by rw [show (39 : UInt8).toNat = 39 from rfl]; omega)
  rw [Got, rest_cons s j (by omega), rest_nil s (j + 1) (by omega), h1, unq_one] at g
  rw [g]; rfl
theorem got_bad {s : ByteArray} {j : Nat} {l : List UInt8} (h : j + 2 < s.size) (hc : (s[j].toNat : Int) = 39) (hd : (s[j + 1].toNat : Int) ≠ 39) (g : Got s j l) : unq (rest s 1) = none := by
  have h1 : s[j] = 39 := UInt8.toNat_inj.1 (by rw [show (39 : UInt8).toNat = 39 from rfl]; omega)
  have h2 : s[j + 1] ≠ 39 := fun e => hd (by rw [e]; rfl)
  rw [Got, rest_cons s j (by omega), rest_cons s (j + 1) (by omega), h1, unq_bad _ _ h2] at g
  rw [g]; rfl
theorem got_end {s : ByteArray} {j : Nat} {l : List UInt8} (h : s.size ≤ j + 1) (g : Got s j l) : unq (rest s 1) = some l := by
  rw [Got, rest_nil s j h] at g
  rw [g]; simp [unq]
/-- A text taken apart; none: it is none between quotes. -/
def unqT (s : ByteArray) : Option (List UInt8) :=
  if h : 2 ≤ s.size then (if (s[0].toNat : Int) = 39 ∧ (s[s.size - 1].toNat : Int) = 39 then unq (rest s 1) else none) else none
def cellsOf (l : List UInt8) : List Value := l.map fun c => Value.int .u8 (c.toNat : Int)
theorem cells_snoc (l : List UInt8) (c : UInt8) : cellsOf (l ++ [c]) = cellsOf l ++ [Value.int .u8 (c.toNat : Int)] := by simp [cellsOf]
end Go.Proofs.YtkoejkpjkcejcaaGreatDoor
namespace Go.Proofs.YtkoejkpjkcejcaaGreatDoor
open Go.RowKit

theorem info_u8 : (Tryz.prog.info? 5).map (fun i => (i.zero, i.size, i.bytes)) = some (some (.int .u8 0), 1, 1) := by kernel_rfl

theorem rel_app {B : Nat} {l : List UInt8} {c : UInt8} {w wr w1 : World} {v v' : Value} {o : Obj} (hown : wr.ownsRow B 5 1 v l.length (cellsOf l)) (hnx : Below B w wr) (hB : B ≤ wr.heap.size)
    (hown' : w1.ownsRow B 5 1 v' (l.length + 1) (cellsOf l ++ [.int .u8 (c.toNat : Int)])) (hgrow : (wr.alloc o).grownBy w1 v.ownBlock) :
    w1.ownsRow B 5 1 v' (l ++ [c]).length (cellsOf (l ++ [c])) ∧ Below B w w1 :=
  ⟨by rw [cells_snoc, List.length_append]; exact hown', (hnx.alloc hB o).grown hgrow (by simp; omega) (fun j hj => (hown.lt j hj).1)⟩
theorem conv_nil (w : World) : (convert 69 9 (.slice none 0 0)).run Tryz.prog w = .ok (.string ⟨#[]⟩) w := by kernel_rfl
theorem conv_own {B : Nat} {l : List UInt8} {wr : World} {v : Value} (hown : wr.ownsRow B 5 1 v l.length (cellsOf l)) :
    (convert 69 9 v).run Tryz.prog wr = .ok (.string ⟨l.toArray⟩) wr := by
  have h := hown.2
  rcases h with ⟨rfl, hn⟩ | ⟨g, cap, cur, rfl, _, _, _, _, _, _⟩
  · obtain rfl : l = [] := List.length_eq_zero_iff.1 hn
    exact conv_nil wr
  · exact run_convert_bytes_back (P := Tryz.prog) wr 69 9 5 ⟨g, 0, none⟩ cap l Tryz.underlying69 Tryz.underlying5 Tryz.underlying9 (fun j hj => hown.cells (g := g) rfl j _ (by simp [cellsOf, hj]))

set_option maxHeartbeats 1600000 in
set_option maxRecDepth 1000000 in
theorem unquote_in (s : ByteArray) (w : World) (hs : s.size ≤ 140737488355328) (h2 : 2 ≤ s.size) (ha : (s[0].toNat : Int) = 39) (hz : (s[s.size - 1].toNat : Int) = 39) :
    Calls Tryz.prog 146 #[.string s] w fun e w' => ∃ x b, e = .returned (.tuple #[.string x, .bool b]) ∧ ((b = true ∧ ∃ l, unq (rest s 1) = some l ∧ x = ⟨l.toArray⟩) ∨ (b = false ∧ x = ⟨#[]⟩ ∧ unq (rest s 1) = none)) ∧ Below w.heap.size w w' := by
  obtain ⟨i0, hi, hz0, hz1, hz2⟩ := info_parts info_u8
  have hlast : (s.size : Int) - 1 = ((s.size - 1 : Nat) : Int) := by omega
  have hA : Hid ((s[0].toNat : Int) = 39) := ha
  have hZ : Hid ((s[s.size - 1].toNat : Int) = 39) := hz
  go_enter Tryz.func146, Tryz.ntmps146
  go_wp2
  go_loopw [5, 6] (fun v i wr => ∃ (j : Nat) (l : List UInt8), 1 ≤ j ∧ j + 1 ≤ s.size ∧ i = .int .i64 (j : Nat) ∧ wr.ownsRow w.heap.size 5 1 v l.length (cellsOf l) ∧ Below w.heap.size w wr ∧ Got s j l ∧ l.length < j)
    (fun _ i _ => s.size - (intOf i).toNat)
  case atStart => exact ⟨1, [], Nat.le_refl _, by omega, rfl, World.ownsRow_nil _ _ _ _, Below.refl _ _, got_start s, by simp⟩
  case round =>
    obtain ⟨j, l, hj1, hj2, rfl, hown, hnx, hgot, hlen⟩ := hrel
    have HG : Hid (Got s j l) := hgot
    clear hgot
    by_cases hlt : j + 1 < s.size
    · have hjs : j < s.size := by omega
      by_cases hc : (s[j].toNat : Int) = 39
      · have HC : Hid ((s[j].toNat : Int) = 39) := hc
        have hcb : ((s[j].toNat : Int) == 39) = true := by simpa using hc
        clear hc
        by_cases hl2 : j + 2 < s.size
        · have hjs2 : j + 1 < s.size := by omega
          have hne : ((j : Int) + 1 == ((s.size - 1 : Nat) : Int)) = false := by simp; omega
          by_cases hd : (s[j + 1].toNat : Int) = 39
          · have HD : Hid ((s[j + 1].toNat : Int) = 39) := hd
            have hdb : ((s[j + 1].toNat : Int) != 39) = false := by simpa using hd
            clear hd
            go_wp2_with (at_builtin; refine wpList_append_own _ rfl _ _ 69 rfl w.heap.size 5 i0 (.int .u8 0) 1 1 Tryz.underlying69 hi hz0 hz1 hz2 rfl (by decide) _ _ _ rfl (hown.alloc _) ⟨wr.heap.size, 0, none⟩ 1 1 [.int .u8 (s[j + 1].toNat : Int)] rfl rfl ?c1 ?c2 ?c3 ?c4 ?c5 ?_)
            case c1 =>
              intro i u hu
              match i, hu with
              | 0, hu => simp at hu; subst hu; simp [Addr.add]
            case c2 => intro u hu; simp at hu; subst hu; rfl
            case c3 => unfold maxLen; omega
            case c4 => omega
            case c5 => have := hnx.size; simp; omega
            · intro v' w1 hown' hgrow _
              have R := rel_app hown hnx (by have := hnx.size; omega) hown' hgrow
              clear hown' hgrow hown hnx
              go_wp2
              go_roundw
              case rel => exact ⟨j + 2, l ++ [s[j + 1]], by omega, by omega, by go_num, R.1, R.2, got_two hl2 HC.out HD.out HG.out, by simp; omega⟩
              case measure => simp [intOf]; omega
          · have HD : Hid ((s[j + 1].toNat : Int) ≠ 39) := hd
            have hdb : ((s[j + 1].toNat : Int) != 39) = true := by simpa using hd
            clear hd
            go_wp2
            go_ret2
            exact ⟨_, _, rfl, Or.inr ⟨rfl, rfl, got_bad hl2 HC.out HD.out HG.out⟩, hnx⟩
        · have hne : ((j : Int) + 1 == ((s.size - 1 : Nat) : Int)) = true := by simp; omega
          go_wp2
          go_ret2
          exact ⟨_, _, rfl, Or.inr ⟨rfl, rfl, got_one (by omega) HC.out HG.out⟩, hnx⟩
      · have HC : Hid ((s[j].toNat : Int) ≠ 39) := hc
        have hcb : ((s[j].toNat : Int) == 39) = false := by simpa using hc
        clear hc
        go_wp2_with (at_builtin; refine wpList_append_own _ rfl _ _ 69 rfl w.heap.size 5 i0 (.int .u8 0) 1 1 Tryz.underlying69 hi hz0 hz1 hz2 rfl (by decide) _ _ _ rfl (hown.alloc _) ⟨wr.heap.size, 0, none⟩ 1 1 [.int .u8 (s[j].toNat : Int)] rfl rfl ?c1 ?c2 ?c3 ?c4 ?c5 ?_)
        case c1 =>
          intro i u hu
          match i, hu with
          | 0, hu => simp at hu; subst hu; simp [Addr.add]
        case c2 => intro u hu; simp at hu; subst hu; rfl
        case c3 => unfold maxLen; omega
        case c4 => omega
        case c5 => have := hnx.size; simp; omega
        · intro v' w1 hown' hgrow _
          have R := rel_app hown hnx (by have := hnx.size; omega) hown' hgrow
          clear hown' hgrow hown hnx
          go_wp2
          go_roundw
          case rel => exact ⟨j + 1, l ++ [s[j]], by omega, by omega, by go_num, R.1, R.2, got_plain hlt HC.out HG.out, by simp; omega⟩
          case measure => simp [intOf]; omega
    · have hcv := conv_own hown
      go_wp2
      go_ret2
      exact ⟨_, _, rfl, Or.inl ⟨rfl, l, got_end (by omega) HG.out, rfl⟩, hnx⟩
set_option maxHeartbeats 1600000 in
theorem unquote_out (s : ByteArray) (w : World) (hs : s.size ≤ 140737488355328) (h : ¬ ∃ h2 : 2 ≤ s.size, (s[0].toNat : Int) = 39 ∧ (s[s.size - 1].toNat : Int) = 39) :
    Calls Tryz.prog 146 #[.string s] w fun e w' => e = .returned (.tuple #[.string ⟨#[]⟩, .bool false]) ∧ w' = w := by
  by_cases h2 : 2 ≤ s.size
  · have hlast : (s.size : Int) - 1 = ((s.size - 1 : Nat) : Int) := by omega
    have hj0 : 0 < s.size := by omega
    have hj1 : s.size - 1 < s.size := by omega
    by_cases ha : (s[0].toNat : Int) = 39
    · have hz : ((s[s.size - 1].toNat : Int) != 39) = true := by
        rw [bne_iff_ne]; exact fun e => h ⟨h2, ha, e⟩
      have ha' : ((s[0].toNat : Int) != 39) = false := by simpa using ha
      clear ha h
      go_enter Tryz.func146, Tryz.ntmps146
      go_wp2
      go_ret2
      exact ⟨rfl, rfl⟩
    · have ha' : ((s[0].toNat : Int) != 39) = true := by simpa using ha
      clear ha h
      go_enter Tryz.func146, Tryz.ntmps146
      go_wp2
      go_ret2
      exact ⟨rfl, rfl⟩
  · clear h
    go_enter Tryz.func146, Tryz.ntmps146
    go_wp2
    go_ret2
    exact ⟨rfl, rfl⟩
theorem unquote_any (s : ByteArray) (w : World) (hs : s.size ≤ 140737488355328) :
    Calls Tryz.prog 146 #[.string s] w fun e w' => ∃ x b, e = .returned (.tuple #[.string x, .bool b]) ∧ ((b = true ∧ ∃ l, unqT s = some l ∧ x = ⟨l.toArray⟩) ∨ (b = false ∧ x = ⟨#[]⟩ ∧ unqT s = none)) ∧ Below w.heap.size w w' := by
  by_cases h : ∃ h2 : 2 ≤ s.size, (s[0].toNat : Int) = 39 ∧ (s[s.size - 1].toNat : Int) = 39
  · obtain ⟨h2, ha, hz⟩ := h
    have hu : unqT s = unq (rest s 1) := by rw [unqT, dif_pos h2, if_pos ⟨ha, hz⟩]
    rw [hu]
    exact unquote_in s w hs h2 ha hz
  · have hu : unqT s = none := by
      rw [unqT]
      split
      · rename_i h2
        rw [if_neg (fun e => h ⟨h2, e⟩)]
      · rfl
    exact (unquote_out s w hs h).mono fun e w' hh => ⟨_, _, hh.1, Or.inr ⟨rfl, rfl, hu⟩, by rw [hh.2]; exact Below.refl _ _⟩
theorem unquote_some (s : ByteArray) (l : List UInt8) (w : World) (hs : s.size ≤ 140737488355328) (h : unqT s = some l) :
    Calls Tryz.prog 146 #[.string s] w fun e w' => e = .returned (.tuple #[.string ⟨l.toArray⟩, .bool true]) ∧ Below w.heap.size w w' :=
  (unquote_any s w hs).mono fun e w' ⟨x, b, he, hc, hb⟩ => ⟨(by
    rcases hc with ⟨rfl, l', hl, rfl⟩ | ⟨_, _, hn⟩
    · rw [h] at hl; cases hl; exact he
    · rw [h] at hn; cases hn), hb⟩
theorem unquote_none (s : ByteArray) (w : World) (hs : s.size ≤ 140737488355328) (h : unqT s = none) :
    Calls Tryz.prog 146 #[.string s] w fun e w' => e = .returned (.tuple #[.string ⟨#[]⟩, .bool false]) ∧ Below w.heap.size w w' :=
  (unquote_any s w hs).mono fun e w' ⟨x, b, he, hc, hb⟩ => ⟨(by
    rcases hc with ⟨_, l', hl, _⟩ | ⟨rfl, rfl, _⟩
    · rw [h] at hl; cases hl
    · exact he), hb⟩
end Go.Proofs.YtkoejkpjkcejcaaGreatDoor
namespace Go.Proofs.YtkoejkpjkcejcaaGreatDoor
open Go.RowKit

theorem atoi_ok (s : ByteArray) (n : Int) (w : World) (hs : s.size ≤ 140737488355328) (h : Lib.atoiAll s.data.toList = .ok n) :
    Calls Tryz.prog 111 #[.string s] w fun e w' => e = .returned (.tuple #[.int .i64 n, .nilIface]) ∧ Below w.heap.size w w' :=
  (Tryz.strconv_Atoi_ok s (by omega) n h w).mono fun e w' hh => ⟨hh.1, (by
    rcases hh.2 with rfl | ⟨t, rfl⟩
    · exact Below.refl _ _
    · exact Lib.bytesWorld_below _ _ _)⟩
theorem atoi_bad (s : ByteArray) (w : World) (hs : s.size ≤ 140737488355328) (h : ∀ n, Lib.atoiAll s.data.toList ≠ .ok n) (henv : Env w) :
    Calls Tryz.prog 111 #[.string s] w fun e w' => ∃ n t v, e = .returned (.tuple #[.int .i64 n, .iface t v]) ∧ Below w.heap.size w w' := by
  cases hh : Lib.atoiAll s.data.toList
  · exact absurd hh (h _)
  · obtain ⟨tp, p, hv⟩ := henv.syn
    exact (Any.strconv_Atoi_syntax_var Tryz.laysC172 s (by omega) hh tp p w hv).mono fun e w' ⟨N, he, _, _, hb⟩ => ⟨_, _, _, he, hb⟩
  · obtain ⟨tp, p, hv⟩ := henv.ran
    exact (Any.strconv_Atoi_range_var Tryz.laysC172 s (by omega) hh tp p w hv).mono fun e w' ⟨N, he, _, _, hb⟩ => ⟨_, _, _, he, hb⟩

theorem two_below {w w1 w2 : World} {o : Obj} (b1 : Below (w.alloc o).heap.size (w.alloc o) w1) (b2 : Below w1.heap.size w1 w2) : Below w.heap.size w w2 := by
  have := b1.size
  simp at this
  exact ((Below.refl _ _).alloc (Nat.le_refl _) _).trans ((b1.mono (by simp)).trans (b2.mono (by omega)))
theorem one_below {w w1 : World} {o : Obj} (b1 : Below (w.alloc o).heap.size (w.alloc o) w1) : Below w.heap.size w w1 :=
  ((Below.refl _ _).alloc (Nat.le_refl _) _).trans (b1.mono (by simp))

set_option maxHeartbeats 1000000 in
theorem parseInt_ok (s : ByteArray) (n : Int) (w : World) (hs : s.size ≤ 140737488355328) (hn : -9223372036854775808 ≤ n ∧ n ≤ 9223372036854775807) (h : Lib.atoiAll s.data.toList = .ok n) (hi : Lib.itoa n = s.data.toList) (henv : Env w) :
    Calls Tryz.prog 127 #[.string s] w fun e w' => e = .returned (.tuple #[.agg #[.int .i64 1, .int .i64 n, .string ⟨#[]⟩], .nilIface]) ∧ Below w.heap.size w w' := by
  have H : Hid (Lib.atoiAll s.data.toList = .ok n) := h
  have he : (⟨(Lib.itoa n).toArray⟩ : ByteArray) = s := by rw [hi]
  have HE : Hid ((⟨(Lib.itoa n).toArray⟩ : ByteArray) = s) := he
  clear h he hi
  go_enter Tryz.func127, Tryz.ntmps127
  go_wp2_with fail
  refine (atoi_ok s n _ hs H.out).mono ?_
  rintro e w1 ⟨rfl, b1⟩
  obtain ⟨hc, hf⟩ := bcell b1
  have hy : w.heap.size < w1.heap.size := by have := b1.size; simp at this; omega
  go_wp2_with fail
  refine (Tryz.strconv_Itoa n hn.1 hn.2 _ ((henv.alloc _).on b1).tab).mono ?_
  rintro e w2 ⟨rfl, h2⟩
  have b2 := grow_below h2
  clear h2
  rw [HE.out]
  obtain ⟨hc2, hf2⟩ := bcell b2
  go_wp2
  refine bodyPost_ret (v := .tuple #[.agg #[.int .i64 1, .int .i64 n, .string ⟨#[]⟩], .nilIface]) (by simp [results, Tryz.results127, go_sem, hc, hc2, hy]) rfl ⟨rfl, ?_⟩
  exact ((((two_below b1 b2).setCell (Nat.le_refl _) _).setCell (Nat.le_refl _) _).setCell (Nat.le_refl _) _)

set_option maxHeartbeats 1000000 in
theorem parseInt_other (s : ByteArray) (n : Int) (w : World) (hs : s.size ≤ 140737488355328) (hn : -9223372036854775808 ≤ n ∧ n ≤ 9223372036854775807) (h : Lib.atoiAll s.data.toList = .ok n) (hi : Lib.itoa n ≠ s.data.toList) (henv : Env w) :
    Calls Tryz.prog 127 #[.string s] w fun e w' => e = .returned (.tuple #[.agg #[.int .i64 0, .int .i64 0, .string ⟨#[]⟩], .iface 29 (.int .i64 2)]) ∧ Below w.heap.size w w' := by
  have H : Hid (Lib.atoiAll s.data.toList = .ok n) := h
  obtain ⟨I, hI⟩ : ∃ I : ByteArray, I = ⟨(Lib.itoa n).toArray⟩ := ⟨_, rfl⟩
  have hq : (I.toList == s.toList) = false := by
    rw [hI, Lib.toList_data, Lib.toList_data]
    simpa using hi
  have HI : Hid (I = ⟨(Lib.itoa n).toArray⟩) := hI
  clear h hI hi
  go_enter Tryz.func127, Tryz.ntmps127
  go_wp2_with fail
  refine (atoi_ok s n _ hs H.out).mono ?_
  rintro e w1 ⟨rfl, b1⟩
  obtain ⟨hc, hf⟩ := bcell b1
  have hy : w.heap.size < w1.heap.size := by have := b1.size; simp at this; omega
  go_wp2_with fail
  refine (Tryz.strconv_Itoa n hn.1 hn.2 _ ((henv.alloc _).on b1).tab).mono ?_
  rintro e w2 ⟨rfl, h2⟩
  have b2 := grow_below h2
  clear h2
  rw [← HI.out]
  obtain ⟨hc2, hf2⟩ := bcell b2
  go_wp2
  refine bodyPost_ret (v := .tuple #[.agg #[.int .i64 0, .int .i64 0, .string ⟨#[]⟩], .iface 29 (.int .i64 2)]) (by simp [results, Tryz.results127, go_sem, hc, hc2, hy]) rfl ⟨rfl, ?_⟩
  exact ((((two_below b1 b2).setCell (Nat.le_refl _) _).setCell (Nat.le_refl _) _).setCell (Nat.le_refl _) _)
set_option maxHeartbeats 1000000 in
theorem parseInt_none (s : ByteArray) (w : World) (hs : s.size ≤ 140737488355328) (h : ∀ n, Lib.atoiAll s.data.toList ≠ .ok n) (henv : Env w) :
    Calls Tryz.prog 127 #[.string s] w fun e w' => e = .returned (.tuple #[.agg #[.int .i64 0, .int .i64 0, .string ⟨#[]⟩], .iface 29 (.int .i64 2)]) ∧ Below w.heap.size w w' := by
  have H : Hid (∀ n, Lib.atoiAll s.data.toList ≠ .ok n) := h
  clear h
  go_enter Tryz.func127, Tryz.ntmps127
  go_wp2_with fail
  refine (atoi_bad s _ hs H.out (henv.alloc _)).mono ?_
  rintro e w1 ⟨n, t, v, rfl, b1⟩
  obtain ⟨hc, hf⟩ := bcell b1
  have hy : w.heap.size < w1.heap.size := by have := b1.size; simp at this; omega
  go_wp2
  refine bodyPost_ret (v := .tuple #[.agg #[.int .i64 0, .int .i64 0, .string ⟨#[]⟩], .iface 29 (.int .i64 2)]) (by simp [results, Tryz.results127, go_sem, hc]) rfl ⟨rfl, ?_⟩
  exact ((((one_below b1).setCell (Nat.le_refl _) _).setCell (Nat.le_refl _) _).setCell (Nat.le_refl _) _)

set_option maxHeartbeats 1000000 in
theorem parseText_none (s : ByteArray) (w : World) (hs : s.size ≤ 140737488355328) (h : unqT s = none) :
    Calls Tryz.prog 126 #[.string s] w fun e w' => e = .returned (.tuple #[.agg #[.int .i64 0, .int .i64 0, .string ⟨#[]⟩], .iface 29 (.int .i64 2)]) ∧ Below w.heap.size w w' := by
  have H : Hid (unqT s = none) := h
  clear h
  go_enter Tryz.func126, Tryz.ntmps126
  go_wp2_with fail
  refine (unquote_none s _ hs H.out).mono ?_
  rintro e w1 ⟨rfl, b1⟩
  obtain ⟨hc, hf⟩ := bcell b1
  have hy : w.heap.size < w1.heap.size := by have := b1.size; simp at this; omega
  go_wp2
  refine bodyPost_ret (v := .tuple #[.agg #[.int .i64 0, .int .i64 0, .string ⟨#[]⟩], .iface 29 (.int .i64 2)]) (by simp [results, Tryz.results126, go_sem, hc]) rfl ⟨rfl, ?_⟩
  exact ((((one_below b1).setCell (Nat.le_refl _) _).setCell (Nat.le_refl _) _).setCell (Nat.le_refl _) _)

set_option maxHeartbeats 1000000 in
theorem parseText_some (s : ByteArray) (l : List UInt8) (w : World) (hs : s.size ≤ 140737488355328) (h : unqT s = some l) (hl : l.length ≤ 140737488355328) :
    Calls Tryz.prog 126 #[.string s] w fun e w' => e = .returned (.tuple (if plainB l = false then #[.agg #[.int .i64 0, .int .i64 0, .string ⟨#[]⟩], .iface 29 (.int .i64 2)]
      else if 40 < l.length then #[.agg #[.int .i64 0, .int .i64 0, .string ⟨#[]⟩], .iface 29 (.int .i64 4)] else #[.agg #[.int .i64 3, .int .i64 0, .string ⟨l.toArray⟩], .nilIface])) ∧ Below w.heap.size w w' := by
  have H : Hid (unqT s = some l) := h
  clear h
  have hll : (⟨l.toArray⟩ : ByteArray).size = l.length := rfl
  by_cases hp : plainB l = false
  · rw [if_pos hp]
    have HP : Hid (plainB (⟨l.toArray⟩ : ByteArray).data.toList = false) := hp
    clear hp
    go_enter Tryz.func126, Tryz.ntmps126
    go_wp2_with fail
    refine (unquote_some s l _ hs H.out).mono ?_
    rintro e w1 ⟨rfl, b1⟩
    obtain ⟨hc, hf⟩ := bcell b1
    have hy : w.heap.size < w1.heap.size := by have := b1.size; simp at this; omega
    go_wp2_with fail
    refine (hasTextBytes_any _ _ (by rw [hll]; unfold maxLen; omega)).mono ?_
    rintro e w2 ⟨rfl, rfl⟩
    rw [HP.out]
    go_wp2
    refine bodyPost_ret (v := .tuple #[.agg #[.int .i64 0, .int .i64 0, .string ⟨#[]⟩], .iface 29 (.int .i64 2)]) (by simp [results, Tryz.results126, go_sem, hc]) rfl ⟨rfl, ?_⟩
    exact ((((one_below b1).setCell (Nat.le_refl _) _).setCell (Nat.le_refl _) _).setCell (Nat.le_refl _) _)
  · rw [if_neg hp]
    have hp2 : plainB l = true := by simpa using hp
    have HP : Hid (plainB (⟨l.toArray⟩ : ByteArray).data.toList = true) := hp2
    clear hp2
    clear hp
    by_cases h4 : 40 < l.length
    · rw [if_pos h4]
      go_enter Tryz.func126, Tryz.ntmps126
      go_wp2_with fail
      refine (unquote_some s l _ hs H.out).mono ?_
      rintro e w1 ⟨rfl, b1⟩
      obtain ⟨hc, hf⟩ := bcell b1
      have hy : w.heap.size < w1.heap.size := by have := b1.size; simp at this; omega
      go_wp2_with fail
      refine (hasTextBytes_any _ _ (by rw [hll]; unfold maxLen; omega)).mono ?_
      rintro e w2 ⟨rfl, rfl⟩
      rw [HP.out]
      go_wp2
      refine bodyPost_ret (v := .tuple #[.agg #[.int .i64 0, .int .i64 0, .string ⟨#[]⟩], .iface 29 (.int .i64 4)]) (by simp [results, Tryz.results126, go_sem, hc]) rfl ⟨rfl, ?_⟩
      exact ((((one_below b1).setCell (Nat.le_refl _) _).setCell (Nat.le_refl _) _).setCell (Nat.le_refl _) _)
    · rw [if_neg h4]
      go_enter Tryz.func126, Tryz.ntmps126
      go_wp2_with fail
      refine (unquote_some s l _ hs H.out).mono ?_
      rintro e w1 ⟨rfl, b1⟩
      obtain ⟨hc, hf⟩ := bcell b1
      have hy : w.heap.size < w1.heap.size := by have := b1.size; simp at this; omega
      go_wp2_with fail
      refine (hasTextBytes_any _ _ (by rw [hll]; unfold maxLen; omega)).mono ?_
      rintro e w2 ⟨rfl, rfl⟩
      rw [HP.out]
      go_wp2
      refine bodyPost_ret (v := .tuple #[.agg #[.int .i64 3, .int .i64 0, .string ⟨l.toArray⟩], .nilIface]) (by simp [results, Tryz.results126, go_sem, hc]) rfl ⟨rfl, ?_⟩
      exact ((((one_below b1).setCell (Nat.le_refl _) _).setCell (Nat.le_refl _) _).setCell (Nat.le_refl _) _)

/-- What a text is read as: type, number, text; and the fault. -/
def readV (s : ByteArray) : Int × Int × List UInt8 × Int :=
  if s.data.toList = [116, 114, 117, 101] then (2, 1, [], 0)
  else if s.data.toList = [102, 97, 108, 115, 101] then (2, 0, [], 0)
  else if Lib.hasPrefix s.data.toList [39] = true then
    (match unqT s with
    | none => (0, 0, [], 2)
    | some l => if plainB l = false then (0, 0, [], 2) else if 40 < l.length then (0, 0, [], 4) else (3, 0, l, 0))
  else (match Lib.atoiAll s.data.toList with
    | .ok n => if Lib.itoa n = s.data.toList then (1, n, [], 0) else (0, 0, [], 2)
    | _ => (0, 0, [], 2))
def readR (r : Int × Int × List UInt8 × Int) : Value := .tuple #[.agg #[.int .i64 r.1, .int .i64 r.2.1, .string ⟨r.2.2.1.toArray⟩], errV r.2.2.2]

theorem unqT_len {s : ByteArray} {l : List UInt8} (h : unqT s = some l) : l.length ≤ s.size := by
  rw [unqT] at h
  split at h
  · split at h
    · have h1 := unq_len _ _ h
      rw [rest] at h1
      simp at h1
      omega
    · cases h
  · cases h
theorem atoi_bounds {s : ByteArray} {n : Int} (h : Lib.atoiAll s.data.toList = .ok n) : -9223372036854775808 ≤ n ∧ n ≤ 9223372036854775807 := by
  have := Lib.atoiAll_bounds h
  omega

theorem eq_of_list {s : ByteArray} {l : List UInt8} (h : s.data.toList = l) : s = ⟨l.toArray⟩ := by subst h; simp
set_option maxHeartbeats 1000000 in
theorem parse_true (s : ByteArray) (w : World) (h : s.data.toList = [116, 114, 117, 101]) :
    Calls Tryz.prog 113 #[.string s] w fun e w' => e = .returned (.tuple #[.agg #[.int .i64 2, .int .i64 1, .string ⟨#[]⟩], .nilIface]) ∧ Below w.heap.size w w' := by
  obtain rfl : s = ⟨#[116, 114, 117, 101]⟩ := eq_of_list h
  clear h
  go_enter Tryz.func113, Tryz.ntmps113
  go_wp2
  exact bodyPost_ret (v := .tuple #[.agg #[.int .i64 2, .int .i64 1, .string ⟨#[]⟩], .nilIface]) (by simp [results, Tryz.results113, go_sem]) rfl ⟨rfl, (Below.refl _ _).alloc (Nat.le_refl _) _⟩
set_option maxHeartbeats 1000000 in
theorem parse_false (s : ByteArray) (w : World) (h : s.data.toList = [102, 97, 108, 115, 101]) :
    Calls Tryz.prog 113 #[.string s] w fun e w' => e = .returned (.tuple #[.agg #[.int .i64 2, .int .i64 0, .string ⟨#[]⟩], .nilIface]) ∧ Below w.heap.size w w' := by
  obtain rfl : s = ⟨#[102, 97, 108, 115, 101]⟩ := eq_of_list h
  clear h
  go_enter Tryz.func113, Tryz.ntmps113
  go_wp2
  exact bodyPost_ret (v := .tuple #[.agg #[.int .i64 2, .int .i64 0, .string ⟨#[]⟩], .nilIface]) (by simp [results, Tryz.results113, go_sem]) rfl ⟨rfl, (Below.refl _ _).alloc (Nat.le_refl _) _⟩
set_option maxHeartbeats 1000000 in
theorem parse_text (s x : ByteArray) (t n : Int) (er : Value) (w : World) (h1 : s.data.toList ≠ [116, 114, 117, 101]) (h2 : s.data.toList ≠ [102, 97, 108, 115, 101]) (h3 : Lib.hasPrefix s.data.toList [39] = true) 
    (hc0 : ∀ W : World, Calls Tryz.prog 126 #[.string s] W fun e w' => e = .returned (.tuple #[.agg #[.int .i64 t, .int .i64 n, .string x], er]) ∧ Below W.heap.size W w') :
    Calls Tryz.prog 113 #[.string s] w fun e w' => e = .returned (.tuple #[.agg #[.int .i64 t, .int .i64 n, .string x], er]) ∧ Below w.heap.size w w' := by
  have q1 : (s.toList == [116, 114, 117, 101]) = false := by rw [Lib.toList_data]; simpa using h1
  have q2 : (s.toList == [102, 97, 108, 115, 101]) = false := by rw [Lib.toList_data]; simpa using h2
  have H3 : Hid (Lib.hasPrefix s.data.toList [39] = true) := h3
  have HC := hc0
  clear hc0 h1 h2 h3
  go_enter Tryz.func113, Tryz.ntmps113
  go_wp2_with fail
  refine (Tryz.strings_HasPrefix s ⟨#[39]⟩ _).mono ?_
  rintro e w0 ⟨rfl, rfl⟩
  rw [show Lib.hasPrefix s.data.toList (⟨#[39]⟩ : ByteArray).data.toList = true from H3.out]
  go_wp2_with fail
  refine (HC _).mono ?_
  rintro e w1 ⟨rfl, b1⟩
  obtain ⟨hc, hf⟩ := bcell b1
  have hy : w.heap.size < w1.heap.size := by have := b1.size; simp at this; omega
  go_wp2
  refine bodyPost_ret (v := .tuple #[.agg #[.int .i64 t, .int .i64 n, .string x], er]) (by simp [results, Tryz.results113, go_sem, hc]) rfl ⟨rfl, ?_⟩
  exact ((((one_below b1).setCell (Nat.le_refl _) _).setCell (Nat.le_refl _) _).setCell (Nat.le_refl _) _)
set_option maxHeartbeats 1000000 in
theorem parse_int (s x : ByteArray) (t n : Int) (er : Value) (w : World) (h1 : s.data.toList ≠ [116, 114, 117, 101]) (h2 : s.data.toList ≠ [102, 97, 108, 115, 101]) (h3 : Lib.hasPrefix s.data.toList [39] = false) (henv : Env w)
    (hc0 : ∀ W : World, Env W → Calls Tryz.prog 127 #[.string s] W fun e w' => e = .returned (.tuple #[.agg #[.int .i64 t, .int .i64 n, .string x], er]) ∧ Below W.heap.size W w') :
    Calls Tryz.prog 113 #[.string s] w fun e w' => e = .returned (.tuple #[.agg #[.int .i64 t, .int .i64 n, .string x], er]) ∧ Below w.heap.size w w' := by
  have q1 : (s.toList == [116, 114, 117, 101]) = false := by rw [Lib.toList_data]; simpa using h1
  have q2 : (s.toList == [102, 97, 108, 115, 101]) = false := by rw [Lib.toList_data]; simpa using h2
  have H3 : Hid (Lib.hasPrefix s.data.toList [39] = false) := h3
  have HC := hc0
  clear hc0 h1 h2 h3
  go_enter Tryz.func113, Tryz.ntmps113
  go_wp2_with fail
  refine (Tryz.strings_HasPrefix s ⟨#[39]⟩ _).mono ?_
  rintro e w0 ⟨rfl, rfl⟩
  rw [show Lib.hasPrefix s.data.toList (⟨#[39]⟩ : ByteArray).data.toList = false from H3.out]
  go_wp2_with fail
  refine (HC _ (henv.alloc _)).mono ?_
  rintro e w1 ⟨rfl, b1⟩
  obtain ⟨hc, hf⟩ := bcell b1
  have hy : w.heap.size < w1.heap.size := by have := b1.size; simp at this; omega
  go_wp2
  refine bodyPost_ret (v := .tuple #[.agg #[.int .i64 t, .int .i64 n, .string x], er]) (by simp [results, Tryz.results113, go_sem, hc]) rfl ⟨rfl, ?_⟩
  exact ((((one_below b1).setCell (Nat.le_refl _) _).setCell (Nat.le_refl _) _).setCell (Nat.le_refl _) _)

theorem parse_any (s : ByteArray) (w : World) (hs : s.size ≤ 140737488355328) (henv : Env w) :
    Calls Tryz.prog 113 #[.string s] w fun e w' => e = .returned (readR (readV s)) ∧ Below w.heap.size w w' := by
  by_cases h1 : s.data.toList = [116, 114, 117, 101]
  · rw [readV, if_pos h1]; exact parse_true s w h1
  · by_cases h2 : s.data.toList = [102, 97, 108, 115, 101]
    · rw [readV, if_neg h1, if_pos h2]; exact parse_false s w h2
    · by_cases h3 : Lib.hasPrefix s.data.toList [39] = true
      · rw [readV, if_neg h1, if_neg h2, if_pos h3]
        cases hu : unqT s with
        | none => exact parse_text s ⟨#[]⟩ 0 0 _ w h1 h2 h3 fun W => parseText_none s W hs hu
        | some l =>
          have hl := unqT_len hu
          have hp := fun W => parseText_some s l W hs hu (by omega)
          by_cases p1 : plainB l = false
          · simp only [if_pos p1] at hp ⊢
            exact parse_text s ⟨#[]⟩ 0 0 _ w h1 h2 h3 hp
          · simp only [if_neg p1] at hp ⊢
            by_cases p2 : 40 < l.length
            · simp only [if_pos p2] at hp ⊢
              exact parse_text s ⟨#[]⟩ 0 0 _ w h1 h2 h3 hp
            · simp only [if_neg p2] at hp ⊢
              exact parse_text s ⟨l.toArray⟩ 3 0 _ w h1 h2 h3 hp
      · have h3' : Lib.hasPrefix s.data.toList [39] = false := by simpa using h3
        rw [readV, if_neg h1, if_neg h2, if_neg h3]
        cases ha : Lib.atoiAll s.data.toList
        · rename_i n
          have hn := atoi_bounds ha
          by_cases hi : Lib.itoa n = s.data.toList
          · simp only [if_pos hi]
            exact parse_int s ⟨#[]⟩ 1 n _ w h1 h2 h3' henv fun W he => parseInt_ok s n W hs hn ha hi he
          · simp only [if_neg hi]
            exact parse_int s ⟨#[]⟩ 0 0 _ w h1 h2 h3' henv fun W he => parseInt_other s n W hs hn ha hi he
        · exact parse_int s ⟨#[]⟩ 0 0 _ w h1 h2 h3' henv fun W he => parseInt_none s W hs (fun n e => by rw [ha] at e; cases e) he
        · exact parse_int s ⟨#[]⟩ 0 0 _ w h1 h2 h3' henv fun W he => parseInt_none s W hs (fun n e => by rw [ha] at e; cases e) he
end Go.Proofs.YtkoejkpjkcejcaaGreatDoor
namespace Go.Proofs.YtkoejkpjkcejcaaGreatDoor
open Go.RowKit

theorem unqT_quoted (l : List UInt8) (s : ByteArray) (h : s.data.toList = 39 :: (esc l ++ [39])) : unqT s = some l := by
  obtain rfl : s = ⟨(39 :: (esc l ++ [39])).toArray⟩ := eq_of_list h
  have hsz : (⟨(39 :: (esc l ++ [39])).toArray⟩ : ByteArray).size = (esc l).length + 2 := by
    show (39 :: (esc l ++ [39])).toArray.size = _
    simp
  have hr : rest ⟨(39 :: (esc l ++ [39])).toArray⟩ 1 = esc l := by
    rw [rest, hsz]
    simp
  rw [unqT, dif_pos (by omega), if_pos, hr, unq_esc]
  refine ⟨rfl, ?_⟩
  have h2 : ((⟨(39 :: (esc l ++ [39])).toArray⟩ : ByteArray)[(⟨(39 :: (esc l ++ [39])).toArray⟩ : ByteArray).size - 1]'(by omega)) = 39 := by
    show (39 :: (esc l ++ [39])).toArray[(39 :: (esc l ++ [39])).toArray.size - 1]'_ = 39
    simp
  rw [h2]; rfl
theorem quoted_unqT (l : List UInt8) (s : ByteArray) (h : unqT s = some l) : s.data.toList = 39 :: (esc l ++ [39]) := by
  rw [unqT] at h
  split at h
  · rename_i h2
    split at h
    · rename_i h3
      have he := esc_of_unq _ _ l (Nat.le_refl _) h
      have a0 : s[0] = 39 := UInt8.toNat_inj.1 (by rw [show (39 : UInt8).toNat = 39 from rfl]; omega)
      have az : s[s.size - 1] = 39 := UInt8.toNat_inj.1 (by rw [show (39 : UInt8).toNat = 39 from rfl]; omega)
      rw [← he, rest]
      have hl : s.data.toList.length = s.size := by simp
      apply List.ext_getElem
      · simp; omega
      · intro i h1 h4
        rcases Nat.eq_zero_or_pos i with rfl | hi
        · exact a0
        · obtain ⟨k, rfl⟩ : ∃ k, i = k + 1 := ⟨i - 1, by omega⟩
          by_cases hk : k + 2 < s.size
          · rw [List.getElem_cons_succ, List.getElem_append_left (by simp; omega)]
            simp
          · have hk2 : k + 1 = s.size - 1 := by omega
            rw [List.getElem_cons_succ, List.getElem_append_right (by simp; omega)]
            simp only [List.getElem_singleton]
            have : s.data.toList[k + 1] = s[s.size - 1] := by
              simp only [hk2]
              rfl
            rw [this, az]
    · cases h
  · cases h

theorem read_shown (t n : Int) (l : List UInt8) (s : ByteArray) (hn : -9223372036854775808 ≤ n ∧ n ≤ 9223372036854775807) (hc : chk t n l = 0) (h : s.data.toList = shown t n l) : readV s = (t, n, l, 0) := by
  rcases chk_type hc with ⟨rfl, rfl⟩ | ⟨rfl, rfl, hb⟩ | ⟨rfl, rfl, hl, hp⟩
  · rw [shown, if_pos rfl] at h
    obtain ⟨c, r, hr, hcc⟩ := itoa_head n
    have h1 : s.data.toList ≠ [116, 114, 117, 101] := by rw [h, hr]; intro e; injection e with e _; subst e; revert hcc; decide
    have h2 : s.data.toList ≠ [102, 97, 108, 115, 101] := by rw [h, hr]; intro e; injection e with e _; subst e; revert hcc; decide
    have h3 : ¬ Lib.hasPrefix s.data.toList [39] = true := by
      rw [h, hr]
      intro e
      have e' : (39 : UInt8) = c := by simpa [Lib.hasPrefix, List.isPrefixOf] using e
      subst e'; revert hcc; decide
    rw [readV, if_neg h1, if_neg h2, if_neg h3, h, atoi_itoa n hn]
    simp
  · rw [shown, if_neg (by decide), if_pos rfl] at h
    rcases hb with rfl | rfl
    · rw [if_neg (by decide)] at h
      rw [readV, if_neg (by rw [h]; decide), if_pos h]
    · rw [if_pos rfl] at h
      rw [readV, if_pos h]
  · rw [shown, if_neg (by decide), if_neg (by decide)] at h
    have h1 : s.data.toList ≠ [116, 114, 117, 101] := by rw [h]; intro e; injection e with e _; revert e; decide
    have h2 : s.data.toList ≠ [102, 97, 108, 115, 101] := by rw [h]; intro e; injection e with e _; revert e; decide
    have h3 : Lib.hasPrefix s.data.toList [39] = true := by rw [h]; simp [Lib.hasPrefix, List.isPrefixOf]
    rw [readV, if_neg h1, if_neg h2, if_pos h3, unqT_quoted l s h]
    simp only []
    rw [if_neg (by simp [hp]), if_neg (by omega)]
theorem shown_read (t n : Int) (l : List UInt8) (s : ByteArray) (h : readV s = (t, n, l, 0)) : chk t n l = 0 ∧ shown t n l = s.data.toList ∧ l.length ≤ 40 ∧ -9223372036854775808 ≤ n ∧ n ≤ 9223372036854775807 := by
  rw [readV] at h
  split at h
  · rename_i h1
    injection h with e1 h; injection h with e2 h; injection h with e3 _
    subst e1 e2 e3
    exact ⟨by decide, by rw [h1]; rfl, by simp, by decide, by decide⟩
  · split at h
    · rename_i h1
      injection h with e1 h; injection h with e2 h; injection h with e3 _
      subst e1 e2 e3
      exact ⟨by decide, by rw [h1]; rfl, by simp, by decide, by decide⟩
    · split at h
      · split at h
        · injection h with e1 h; injection h with e2 h; injection h with e3 e4
          exact absurd e4 (by decide)
        · rename_i l' hu
          split at h
          · injection h with e1 h; injection h with e2 h; injection h with e3 e4
            exact absurd e4 (by decide)
          · rename_i hp
            split at h
            · injection h with e1 h; injection h with e2 h; injection h with e3 e4
              exact absurd e4 (by decide)
            · rename_i hl
              injection h with e1 h; injection h with e2 h; injection h with e3 _
              subst e1 e2 e3
              refine ⟨?_, ?_, by omega, by decide, by decide⟩
              · rw [chk, if_neg (by omega), if_neg (fun e => hl e.2), if_neg (fun e => hp e.2), if_neg (by omega)]
              · rw [shown, if_neg (by decide), if_neg (by decide), quoted_unqT _ s hu]
      · split at h
        · rename_i m ha
          split at h
          · rename_i hi
            injection h with e1 h; injection h with e2 h; injection h with e3 _
            subst e1 e2 e3
            have hb := atoi_bounds ha
            refine ⟨?_, ?_, by simp, hb.1, hb.2⟩
            · rw [chk, if_neg (by omega), if_neg (by simp), if_neg (by decide), if_neg (by simp)]
            · rw [shown, if_pos rfl, hi]
          · injection h with e1 h; injection h with e2 h; injection h with e3 e4
            exact absurd e4 (by decide)
        · injection h with e1 h; injection h with e2 h; injection h with e3 e4
          exact absurd e4 (by decide)

theorem cmpI_neg (x y : Int) : cmpI x y = -cmpI y x := by unfold cmpI; split <;> split <;> omega
theorem cmpI_zero (x y : Int) : cmpI x y = 0 ↔ x = y := by unfold cmpI; split <;> (try split) <;> omega
theorem cmpI_trans {x y z : Int} (h1 : cmpI x y ≤ 0) (h2 : cmpI y z ≤ 0) : cmpI x z ≤ 0 := by
  unfold cmpI at *; (repeat' split at h1) <;> (repeat' split at h2) <;> (repeat' split) <;> omega
theorem cmpS_cases (x y : List UInt8) : (x < y ∧ ¬ y < x ∧ cmpS x y = -1) ∨ (x = y ∧ cmpS x y = 0) ∨ (y < x ∧ ¬ x < y ∧ cmpS x y = 1) := by
  unfold cmpS
  by_cases h1 : x < y
  · exact Or.inl ⟨h1, fun h => List.lt_asymm h1 h, if_pos h1⟩
  · by_cases h2 : y < x
    · exact Or.inr (Or.inr ⟨h2, h1, by rw [if_neg h1, if_pos h2]⟩)
    · exact Or.inr (Or.inl ⟨List.le_antisymm (List.not_lt.1 h2) (List.not_lt.1 h1), by rw [if_neg h1, if_neg h2]⟩)
theorem cmpS_neg (x y : List UInt8) : cmpS x y = -cmpS y x := by
  rcases cmpS_cases x y with ⟨a, b, c⟩ | ⟨a, c⟩ | ⟨a, b, c⟩ <;> rcases cmpS_cases y x with ⟨a', b', c'⟩ | ⟨a', c'⟩ | ⟨a', b', c'⟩ <;> rw [c, c'] <;> first | rfl | contradiction | (subst a; exact absurd a' (List.lt_irrefl _)) | (subst a'; exact absurd a (List.lt_irrefl _))
theorem cmpS_zero (x y : List UInt8) : cmpS x y = 0 ↔ x = y := by
  rcases cmpS_cases x y with ⟨a, b, c⟩ | ⟨a, c⟩ | ⟨a, b, c⟩ <;> rw [c]
  · exact ⟨fun e => absurd e (by decide), fun e => by subst e; exact absurd a b⟩
  · exact ⟨fun _ => a, fun _ => rfl⟩
  · exact ⟨fun e => absurd e (by decide), fun e => by subst e; exact absurd a b⟩
theorem cmpS_le {x y : List UInt8} : cmpS x y ≤ 0 ↔ ¬ y < x := by
  rcases cmpS_cases x y with ⟨a, b, c⟩ | ⟨a, c⟩ | ⟨a, b, c⟩ <;> rw [c]
  · exact ⟨fun _ => b, fun _ => by decide⟩
  · exact ⟨fun _ => by subst a; exact List.lt_irrefl _, fun _ => by decide⟩
  · exact ⟨fun e => absurd e (by decide), fun e => absurd a e⟩
theorem cmpS_trans {x y z : List UInt8} (h1 : cmpS x y ≤ 0) (h2 : cmpS y z ≤ 0) : cmpS x z ≤ 0 := by
  rw [cmpS_le] at *
  exact List.not_lt.2 (List.le_trans (List.not_lt.1 h1) (List.not_lt.1 h2))
end Go.Proofs.YtkoejkpjkcejcaaGreatDoor
namespace Go.Proofs.YtkoejkpjkcejcaaGreatDoor

def digB (c : UInt8) : Bool := decide (48 ≤ (c.toNat : Int)) && decide ((c.toNat : Int) ≤ 57)
def val10 (l : List UInt8) : Nat := l.foldl (fun a c => a * 10 + (c.toNat - 48)) 0
theorem val10_snoc (l : List UInt8) (c : UInt8) : val10 (l ++ [c]) = val10 l * 10 + (c.toNat - 48) := by simp [val10, List.foldl_append]
theorem digB_iff (c : UInt8) : digB c = true ↔ 48 ≤ c.toNat ∧ c.toNat ≤ 57 := by simp [digB]; omega
theorem val10_lt (k : Nat) : ∀ l : List UInt8, l.length = k → l.all digB = true → val10 l < 10 ^ k := by
  induction k with
  | zero => intro l hl _; rw [List.length_eq_zero_iff.1 hl]; decide
  | succ k ih =>
    intro l hl ha
    have hne : l ≠ [] := by intro e; rw [e] at hl; simp at hl
    rw [← List.dropLast_concat_getLast hne] at ha ⊢
    rw [List.all_append, Bool.and_eq_true] at ha
    have h1 := ih l.dropLast (by simp; omega) ha.1
    have h2 := (digB_iff (l.getLast hne)).1 (by simpa using ha.2)
    rw [val10_snoc, Nat.pow_succ]
    omega
theorem dec_val (k : Nat) : ∀ l : List UInt8, l.length = k + 1 → l.all digB = true → (∀ r, l = 48 :: r → r = []) → Lib.decDigits (val10 l) = l := by
  induction k with
  | zero =>
    intro l hl ha _
    obtain ⟨c, rfl⟩ := List.length_eq_one_iff.1 hl
    have h2 := (digB_iff c).1 (by simpa using ha)
    rw [show val10 [c] = c.toNat - 48 from by simp [val10], Lib.decDigits_one (by omega), show 48 + (c.toNat - 48) = c.toNat from by omega]
    simp
  | succ k ih =>
    intro l hl ha hz
    have hne : l ≠ [] := by intro e; rw [e] at hl; simp at hl
    obtain ⟨r, c, rfl⟩ : ∃ r c, l = r ++ [c] := ⟨l.dropLast, l.getLast hne, (List.dropLast_concat_getLast hne).symm⟩
    rw [List.all_append, Bool.and_eq_true] at ha
    have hrl : r.length = k + 1 := by simp at hl; omega
    have hz2 : ∀ q, r ≠ 48 :: q := fun q e => by
      have := hz (q ++ [c]) (by rw [e]; rfl)
      simp at this
    have h1 := ih r hrl ha.1 (fun q e => absurd e (hz2 q))
    have h2 := (digB_iff c).1 (by simpa using ha.2)
    have h3 : 1 ≤ val10 r := by
      rcases Nat.eq_zero_or_pos (val10 r) with h | h
      · rw [h, Lib.decDigits_one (by omega)] at h1
        exact absurd h1.symm (hz2 [])
      · exact h
    rw [val10_snoc, Lib.decDigits.eq_1, dif_neg (by omega), show (val10 r * 10 + (c.toNat - 48)) / 10 = val10 r from by omega, h1, show 48 + (val10 r * 10 + (c.toNat - 48)) % 10 = c.toNat from by omega]
    simp
theorem dec_digits (k : Nat) : ∀ u : Nat, u ≤ k → (Lib.decDigits u).all digB = true ∧ val10 (Lib.decDigits u) = u ∧ (∀ r, Lib.decDigits u = 48 :: r → r = []) := by
  induction k with
  | zero =>
    intro u hu
    obtain rfl : u = 0 := by omega
    rw [Lib.decDigits_one (by omega)]
    exact ⟨by decide, by decide, fun r e => by simpa using e.symm⟩
  | succ k ih =>
    intro u hu
    by_cases h : u < 10
    · rw [Lib.decDigits_one h]
      have e : (UInt8.ofNat (48 + u)).toNat = 48 + u := by simp; omega
      refine ⟨?_, ?_, fun r e => by simpa using (List.cons.inj e).2.symm⟩
      · rw [List.all_cons, List.all_nil, Bool.and_true, digB_iff, e]; omega
      · rw [show val10 [UInt8.ofNat (48 + u)] = (UInt8.ofNat (48 + u)).toNat - 48 from by simp [val10], e]; omega
    · obtain ⟨a1, a2, a3⟩ := ih (u / 10) (by omega)
      have e : (UInt8.ofNat (48 + u % 10)).toNat = 48 + u % 10 := by simp; omega
      rw [Lib.decDigits.eq_1, dif_neg h]
      refine ⟨?_, ?_, ?_⟩
      · rw [List.all_append, a1, List.all_cons, List.all_nil, Bool.and_true, Bool.true_and, digB_iff, e]; omega
      · rw [val10_snoc, a2, e]; omega
      · intro r hr
        exfalso
        cases hd : Lib.decDigits (u / 10) with
        | nil =>
          obtain ⟨c, q, hq, _⟩ := digits_head (u / 10) (u / 10) (Nat.le_refl _)
          rw [hd] at hq; cases hq
        | cons c q =>
          rw [hd, List.cons_append] at hr
          injection hr with hc _
          rw [hd, hc] at a3 a2
          have := a3 q rfl
          rw [this] at a2
          have : val10 [48] = 0 := by decide
          omega
theorem nd_le (k : Nat) : ∀ u : Nat, u < 10 ^ (k + 1) → Lib.nDigits u ≤ k + 1 := by
  induction k with
  | zero => intro u hu; rw [Lib.nDigits_small (by omega)]; omega
  | succ k ih =>
    intro u hu
    by_cases h : u < 10
    · rw [Lib.nDigits_small h]; omega
    · rw [Lib.nDigits_big h]
      have := ih (u / 10) (by rw [Nat.pow_succ] at hu; omega)
      omega
/-- A text of digits as a number; none: it is none. -/
def numL (l : List UInt8) : Option Nat :=
  if l = [] ∨ (l.head? = some 48 ∧ 1 < l.length) ∨ 19 < l.length then none
  else if l.all digB = true then (if 9223372036854775807 < val10 l then none else some (val10 l)) else none
theorem numL_some {l : List UInt8} {n : Nat} (h : numL l = some n) : l = Lib.decDigits n ∧ n ≤ 9223372036854775807 := by
  rw [numL] at h
  split at h
  · cases h
  · rename_i h1
    split at h
    · rename_i h2
      split at h
      · cases h
      · rename_i h3
        cases h
        have hl : l.length ≠ 0 := fun e => h1 (Or.inl (List.length_eq_zero_iff.1 e))
        exact ⟨(dec_val (l.length - 1) l (by omega) h2 (fun r e => Classical.byContradiction fun hr => h1 (Or.inr (Or.inl ⟨by rw [e]; rfl, by rw [e]; cases r with | nil => exact absurd rfl hr | cons _ _ => simp⟩)))).symm, by omega⟩
    · cases h
theorem numL_dec (n : Nat) (h : n ≤ 9223372036854775807) : numL (Lib.decDigits n) = some n := by
  obtain ⟨a1, a2, a3⟩ := dec_digits n n (Nat.le_refl _)
  have hl : (Lib.decDigits n).length ≤ 19 := by
    rw [Lib.decDigits_length]
    exact nd_le 18 n (by omega)
  rw [numL, if_neg, if_pos a1, a2, if_neg (by omega)]
  rintro (e | ⟨e, hr⟩ | e)
  · obtain ⟨c, q, hq, _⟩ := digits_head n n (Nat.le_refl _)
    rw [e] at hq; cases hq
  · cases hd : Lib.decDigits n with
    | nil => rw [hd] at hr; simp at hr
    | cons c q =>
      rw [hd] at e
      obtain rfl : c = 48 := by simpa using e
      rw [a3 q hd] at hd
      rw [hd] at hr; simp at hr
  · omega
end Go.Proofs.YtkoejkpjkcejcaaGreatDoor
