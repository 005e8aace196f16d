/-
  Print, UnqSteps, Unquote, Parse, Back, in one text.
-/
import Derived.Test.YticdcnbeemkapaaGreatDoorGrAa
import Derived.Test.YticdcnbeemkapaaGreatDoorQShelf
import Derived.WalkSmall
import Derived.Lib.LaidTab
import Derived.Lib.AppendIntMem
import Derived.WalkKit
import Derived.Test.YticdcnbeemkapaaGreatDoorProg
import Derived.Lib.AtoiAllCases
namespace Go.Proofs.YticdcnbeemkapaaGreatDoor
open Go.RowKit

/-- The text of a value that is right. -/
def shown (t n : Int) (l : List UInt8) : List UInt8 :=
  if t = 1 then Lib.itoa n
  else if t = 2 then (if n = 1 then [116, 114, 117, 101] else [102, 97, 108, 115, 101])
  else 39 :: (esc l ++ [39])
def prS (t n : Int) (l : List UInt8) : List UInt8 := if chk t n l = 0 then shown t n l else []

theorem chk_type {t n : Int} {l : List UInt8} (h : chk t n l = 0) : (t = 1 ∧ l = []) ∨ (t = 2 ∧ l = [] ∧ (n = 0 ∨ n = 1)) ∨ (t = 3 ∧ n = 0 ∧ l.length ≤ 40 ∧ plainB l = true) := by
  rw [chk] at h
  split at h
  · omega
  · rename_i h1
    split at h
    · omega
    · rename_i h2
      split at h
      · omega
      · rename_i h3
        split at h
        · omega
        · rename_i h4
          by_cases e3 : t = 3
          · have h3' : plainB l = true := by
              cases hp : plainB l with
              | true => rfl
              | false => exact absurd ⟨e3, hp⟩ h3
            exact Or.inr (Or.inr ⟨e3, by omega, by omega, h3'⟩)
          · have hl : l = [] := Classical.byContradiction fun e => h4 (Or.inl ⟨e3, e⟩)
            by_cases e2 : t = 2
            · exact Or.inr (Or.inl ⟨e2, hl, by omega⟩)
            · exact Or.inl ⟨by omega, hl⟩

theorem grow_below {w w' : World} (h : ∃ k os, w' = Sort.grow (w.drewN k) os) : Below w.heap.size w w' := by
  obtain ⟨k, os, rfl⟩ := h
  exact Lib.below_grow _ w (Nat.le_refl _) k os
theorem esc_len (l : List UInt8) : (esc l).length ≤ 2 * l.length := by
  induction l with
  | nil => simp [esc]
  | cons c l ih =>
    rw [esc_cons]
    split <;> simp <;> omega
theorem quoted (l : List UInt8) : (⟨#[39]⟩ : ByteArray) ++ ⟨(esc l).toArray⟩ ++ ⟨#[39]⟩ = ⟨(39 :: (esc l ++ [39])).toArray⟩ := by
  rfl

end Go.Proofs.YticdcnbeemkapaaGreatDoor
namespace Go.Proofs.YticdcnbeemkapaaGreatDoor
open Go.RowKit

/-- What is left from j on, ahead of the last byte. -/
def rest (s : ByteArray) (j : Nat) : List UInt8 := (s.data.toList.drop j).take (s.size - 1 - j)
theorem rest_cons (s : ByteArray) (j : Nat) (h : j + 1 < s.size) : rest s j = s[j] :: rest s (j + 1) := by
  have hl : j < s.data.toList.length := by simp; omega
  rw [rest, rest, List.drop_eq_getElem_cons hl, show s.size - 1 - j = (s.size - 1 - (j + 1)) + 1 from by omega, List.take_succ_cons]
  rfl
theorem rest_nil (s : ByteArray) (j : Nat) (h : s.size ≤ j + 1) : rest s j = [] := by
  rw [rest, show s.size - 1 - j = 0 from by omega, List.take_zero]
/-- So far l has been gathered. -/
def Got (s : ByteArray) (j : Nat) (l : List UInt8) : Prop := unq (rest s 1) = (unq (rest s j)).map (l ++ ·)
theorem got_start (s : ByteArray) : Got s 1 [] := by simp [Got]
theorem got_plain {s : ByteArray} {j : Nat} {l : List UInt8} (h : j + 1 < s.size) (hc : (s[j].toNat : Int) ≠ 39) (g : Got s j l) : Got s (j + 1) (l ++ [s[j]]) := by
  have hne : s[j] ≠ 39 := fun e => hc (by rw [e]; rfl)
  rw [Got, rest_cons s j h, unq_ne _ _ hne, Option.map_map] at g
  rw [Got, g]
  congr 1
  funext x
  simp
theorem got_two {s : ByteArray} {j : Nat} {l : List UInt8} (h : j + 2 < s.size) (hc : (s[j].toNat : Int) = 39) (hd : (s[j + 1].toNat : Int) = 39) (g : Got s j l) : Got s (j + 2) (l ++ [s[j + 1]]) := by
  have h1 : s[j] = 39 := UInt8.toNat_inj.1 (by rw [show (39 : UInt8).toNat = 39 from rfl]; omega)
  have h2 : s[j + 1] = 39 := UInt8.toNat_inj.1 (by rw [show (39 : UInt8).toNat = 39 from rfl]; omega)
  rw [Got, rest_cons s j (by omega), rest_cons s (j + 1) (by omega), h1, h2, unq_two, Option.map_map] at g
  rw [Got, g, h2]
  congr 1
  funext x
  simp
theorem got_one {s : ByteArray} {j : Nat} {l : List UInt8} (h : j + 2 = s.size) (hc : (s[j].toNat : Int) = 39) (g : Got s j l) : unq (rest s 1) = none := by
  have h1 : s[j] = 39 := UInt8.toNat_inj.1 (by rw [show (39 : UInt8).toNat = 39 from rfl]; omega)
  rw [Got, rest_cons s j (by omega), rest_nil s (j + 1) (by omega), h1, unq_one] at g
  rw [g]; rfl
theorem got_bad {s : ByteArray} {j : Nat} {l : List UInt8} (h : j + 2 < s.size) (hc : (s[j].toNat : Int) = 39) (hd : (s[j + 1].toNat : Int) ≠ 39) (g : Got s j l) : unq (rest s 1) = none := by
  have h1 : s[j] = 39 := UInt8.toNat_inj.1 (by rw [show (39 : UInt8).toNat = 39 from rfl]; omega)
  have h2 : s[j + 1] ≠ 39 := fun e => hd (by rw [e]; rfl)
  rw [Got, rest_cons s j (by omega), rest_cons s (j + 1) (by omega), h1, unq_bad _ _ h2] at g
  rw [g]; rfl
theorem got_end {s : ByteArray} {j : Nat} {l : List UInt8} (h : s.size ≤ j + 1) (g : Got s j l) : unq (rest s 1) = some l := by
  rw [Got, rest_nil s j h] at g
  rw [g]; simp [unq]
/-- A text taken apart; none: it is none between quotes. -/
def unqT (s : ByteArray) : Option (List UInt8) :=
  if h : 2 ≤ s.size then (if (s[0].toNat : Int) = 39 ∧ (s[s.size - 1].toNat : Int) = 39 then unq (rest s 1) else none) else none
def cellsOf (l : List UInt8) : List Value := l.map fun c => Value.int .u8 (c.toNat : Int)
theorem cells_snoc (l : List UInt8) (c : UInt8) : cellsOf (l ++ [c]) = cellsOf l ++ [Value.int .u8 (c.toNat : Int)] := by simp [cellsOf]
end Go.Proofs.YticdcnbeemkapaaGreatDoor
namespace Go.Proofs.YticdcnbeemkapaaGreatDoor
open Go.RowKit

theorem info_u8 : (Tryz.prog.info? 5).map (fun i => (i.zero, i.size, i.bytes)) = some (some (.int .u8 0), 1, 1) := by kernel_rfl

theorem rel_app {B : Nat} {l : List UInt8} {c : UInt8} {w wr w1 : World} {v v' : Value} {o : Obj} (hown : wr.ownsRow B 5 1 v l.length (cellsOf l)) (hnx : Below B w wr) (hB : B ≤ wr.heap.size)
    (hown' : w1.ownsRow B 5 1 v' (l.length + 1) (cellsOf l ++ [.int .u8 (c.toNat : Int)])) (hgrow : (wr.alloc o).grownBy w1 v.ownBlock) :
    w1.ownsRow B 5 1 v' (l ++ [c]).length (cellsOf (l ++ [c])) ∧ Below B w w1 :=
  ⟨by rw [cells_snoc, List.length_append]; exact hown', (hnx.alloc hB o).grown hgrow (by simp; omega) (fun j hj => (hown.lt j hj).1)⟩
theorem conv_nil (w : World) : (convert 183 9 (.slice none 0 0)).run Tryz.prog w = .ok (.string ⟨#[]⟩) w := by kernel_rfl
theorem conv_own {B : Nat} {l : List UInt8} {wr : World} {v : Value} (hown : wr.ownsRow B 5 1 v l.length (cellsOf l)) :
    (convert 183 9 v).run Tryz.prog wr = .ok (.string ⟨l.toArray⟩) wr := by
  have h := hown.2
  rcases h with ⟨rfl, hn⟩ | ⟨g, cap, cur, rfl, _, _, _, _, _, _⟩
  · obtain rfl : l = [] := List.length_eq_zero_iff.1 hn
    exact conv_nil wr
  · exact run_convert_bytes_back (P := Tryz.prog) wr 183 9 5 ⟨g, 0, none⟩ cap l Tryz.underlying183 Tryz.underlying5 Tryz.underlying9 (fun j hj => hown.cells (g := g) rfl j _ (by simp [cellsOf, hj]))

end Go.Proofs.YticdcnbeemkapaaGreatDoor
namespace Go.Proofs.YticdcnbeemkapaaGreatDoor
open Go.RowKit

theorem two_below {w w1 w2 : World} {o : Obj} (b1 : Below (w.alloc o).heap.size (w.alloc o) w1) (b2 : Below w1.heap.size w1 w2) : Below w.heap.size w w2 := by
  have := b1.size
  simp at this
  exact ((Below.refl _ _).alloc (Nat.le_refl _) _).trans ((b1.mono (by simp)).trans (b2.mono (by omega)))
theorem one_below {w w1 : World} {o : Obj} (b1 : Below (w.alloc o).heap.size (w.alloc o) w1) : Below w.heap.size w w1 :=
  ((Below.refl _ _).alloc (Nat.le_refl _) _).trans (b1.mono (by simp))

/-- What a text is read as: type, number, text; and the fault. -/
def readV (s : ByteArray) : Int × Int × List UInt8 × Int :=
  if s.data.toList = [116, 114, 117, 101] then (2, 1, [], 0)
  else if s.data.toList = [102, 97, 108, 115, 101] then (2, 0, [], 0)
  else if Lib.hasPrefix s.data.toList [39] = true then
    (match unqT s with
    | none => (0, 0, [], 2)
    | some l => if plainB l = false then (0, 0, [], 2) else if 40 < l.length then (0, 0, [], 4) else (3, 0, l, 0))
  else (match Lib.atoiAll s.data.toList with
    | .ok n => if Lib.itoa n = s.data.toList then (1, n, [], 0) else (0, 0, [], 2)
    | _ => (0, 0, [], 2))
def readR (r : Int × Int × List UInt8 × Int) : Value := .tuple #[.agg #[.int .i64 r.1, .int .i64 r.2.1, .string ⟨r.2.2.1.toArray⟩], errV r.2.2.2]

theorem unqT_len {s : ByteArray} {l : List UInt8} (h : unqT s = some l) : l.length ≤ s.size := by
  rw [unqT] at h
  split at h
  · split at h
    · have h1 := unq_len _ _ h
      rw [rest] at h1
      simp at h1
      omega
    · cases h
  · cases h
theorem atoi_bounds {s : ByteArray} {n : Int} (h : Lib.atoiAll s.data.toList = .ok n) : -9223372036854775808 ≤ n ∧ n ≤ 9223372036854775807 := by
  have := Lib.atoiAll_bounds h
  omega

theorem eq_of_list {s : ByteArray} {l : List UInt8} (h : s.data.toList = l) : s = ⟨l.toArray⟩ := by subst h; simp
end Go.Proofs.YticdcnbeemkapaaGreatDoor
namespace Go.Proofs.YticdcnbeemkapaaGreatDoor
open Go.RowKit

theorem unqT_quoted (l : List UInt8) (s : ByteArray) (h : s.data.toList = 39 :: (esc l ++ [39])) : unqT s = some l := by
  obtain rfl : s = ⟨(39 :: (esc l ++ [39])).toArray⟩ := eq_of_list h
  have hsz : (⟨(39 :: (esc l ++ [39])).toArray⟩ : ByteArray).size = (esc l).length + 2 := by
    show (39 :: (esc l ++ [39])).toArray.size = _
    simp
  have hr : rest ⟨(39 :: (esc l ++ [39])).toArray⟩ 1 = esc l := by
    rw [rest, hsz]
    simp
  rw [unqT, dif_pos (by omega), if_pos, hr, unq_esc]
  refine ⟨rfl, ?_⟩
  have h2 : ((⟨(39 :: (esc l ++ [39])).toArray⟩ : ByteArray)[(⟨(39 :: (esc l ++ [39])).toArray⟩ : ByteArray).size - 1]'(by omega)) = 39 := by
    show (39 :: (esc l ++ [39])).toArray[(39 :: (esc l ++ [39])).toArray.size - 1]'_ = 39
    simp
  rw [h2]; rfl
theorem quoted_unqT (l : List UInt8) (s : ByteArray) (h : unqT s = some l) : s.data.toList = 39 :: (esc l ++ [39]) := by
  rw [unqT] at h
  split at h
  · rename_i h2
    split at h
    · rename_i h3
      have he := esc_of_unq _ _ l (Nat.le_refl _) h
      have a0 : s[0] = 39 := UInt8.toNat_inj.1 (by rw [show (39 : UInt8).toNat = 39 from rfl]; omega)
      have az : s[s.size - 1] = 39 := UInt8.toNat_inj.1 (by rw [show (39 : UInt8).toNat = 39 from rfl]; omega)
      rw [← he, rest]
      have hl : s.data.toList.length = s.size := by simp
      apply List.ext_getElem
      · simp; omega
      · intro i h1 h4
        rcases Nat.eq_zero_or_pos i with rfl | hi
        · exact a0
        · obtain ⟨k, rfl⟩ : ∃ k, i = k + 1 := ⟨i - 1, by omega⟩
          by_cases hk : k + 2 < s.size
          · rw [List.getElem_cons_succ, List.getElem_append_left (by simp; omega)]
            simp
          · have hk2 : k + 1 = s.size - 1 := by omega
            rw [List.getElem_cons_succ, List.getElem_append_right (by simp; omega)]
            simp only [List.getElem_singleton]
            have : s.data.toList[k + 1] = s[s.size - 1] := by
              simp only [hk2]
              rfl
            rw [this, az]
    · cases h
  · cases h

theorem read_shown (t n : Int) (l : List UInt8) (s : ByteArray) (hn : -9223372036854775808 ≤ n ∧ n ≤ 9223372036854775807) (hc : chk t n l = 0) (h : s.data.toList = shown t n l) : readV s = (t, n, l, 0) := by
  rcases chk_type hc with ⟨rfl, rfl⟩ | ⟨rfl, rfl, hb⟩ | ⟨rfl, rfl, hl, hp⟩
  · rw [shown, if_pos rfl] at h
    obtain ⟨c, r, hr, hcc⟩ := itoa_head n
    have h1 : s.data.toList ≠ [116, 114, 117, 101] := by rw [h, hr]; intro e; injection e with e _; subst e; revert hcc; decide
    have h2 : s.data.toList ≠ [102, 97, 108, 115, 101] := by rw [h, hr]; intro e; injection e with e _; subst e; revert hcc; decide
    have h3 : ¬ Lib.hasPrefix s.data.toList [39] = true := by
      rw [h, hr]
      intro e
      have e' : (39 : UInt8) = c := by simpa [Lib.hasPrefix, List.isPrefixOf] using e
      subst e'; revert hcc; decide
    rw [readV, if_neg h1, if_neg h2, if_neg h3, h, atoi_itoa n hn]
    simp
  · rw [shown, if_neg (by decide), if_pos rfl] at h
    rcases hb with rfl | rfl
    · rw [if_neg (by decide)] at h
      rw [readV, if_neg (by rw [h]; decide), if_pos h]
    · rw [if_pos rfl] at h
      rw [readV, if_pos h]
  · rw [shown, if_neg (by decide), if_neg (by decide)] at h
    have h1 : s.data.toList ≠ [116, 114, 117, 101] := by rw [h]; intro e; injection e with e _; revert e; decide
    have h2 : s.data.toList ≠ [102, 97, 108, 115, 101] := by rw [h]; intro e; injection e with e _; revert e; decide
    have h3 : Lib.hasPrefix s.data.toList [39] = true := by rw [h]; simp [Lib.hasPrefix, List.isPrefixOf]
    rw [readV, if_neg h1, if_neg h2, if_pos h3, unqT_quoted l s h]
    simp only []
    rw [if_neg (by simp [hp]), if_neg (by omega)]
theorem shown_read (t n : Int) (l : List UInt8) (s : ByteArray) (h : readV s = (t, n, l, 0)) : chk t n l = 0 ∧ shown t n l = s.data.toList ∧ l.length ≤ 40 ∧ -9223372036854775808 ≤ n ∧ n ≤ 9223372036854775807 := by
  rw [readV] at h
  split at h
  · rename_i h1
    injection h with e1 h; injection h with e2 h; injection h with e3 _
    subst e1 e2 e3
    exact ⟨by decide, by rw [h1]; rfl, by simp, by decide, by decide⟩
  · split at h
    · rename_i h1
      injection h with e1 h; injection h with e2 h; injection h with e3 _
      subst e1 e2 e3
      exact ⟨by decide, by rw [h1]; rfl, by simp, by decide, by decide⟩
    · split at h
      · split at h
        · injection h with e1 h; injection h with e2 h; injection h with e3 e4
          exact absurd e4 (by decide)
        · rename_i l' hu
          split at h
          · injection h with e1 h; injection h with e2 h; injection h with e3 e4
            exact absurd e4 (by decide)
          · rename_i hp
            split at h
            · injection h with e1 h; injection h with e2 h; injection h with e3 e4
              exact absurd e4 (by decide)
            · rename_i hl
              injection h with e1 h; injection h with e2 h; injection h with e3 _
              subst e1 e2 e3
              refine ⟨?_, ?_, by omega, by decide, by decide⟩
              · rw [chk, if_neg (by omega), if_neg (fun e => hl e.2), if_neg (fun e => hp e.2), if_neg (by omega)]
              · rw [shown, if_neg (by decide), if_neg (by decide), quoted_unqT _ s hu]
      · split at h
        · rename_i m ha
          split at h
          · rename_i hi
            injection h with e1 h; injection h with e2 h; injection h with e3 _
            subst e1 e2 e3
            have hb := atoi_bounds ha
            refine ⟨?_, ?_, by simp, hb.1, hb.2⟩
            · rw [chk, if_neg (by omega), if_neg (by simp), if_neg (by decide), if_neg (by simp)]
            · rw [shown, if_pos rfl, hi]
          · injection h with e1 h; injection h with e2 h; injection h with e3 e4
            exact absurd e4 (by decide)
        · injection h with e1 h; injection h with e2 h; injection h with e3 e4
          exact absurd e4 (by decide)

theorem cmpI_neg (x y : Int) : cmpI x y = -cmpI y x := by unfold cmpI; split <;> split <;> omega
theorem cmpI_zero (x y : Int) : cmpI x y = 0 ↔ x = y := by unfold cmpI; split <;> (try split) <;> omega
theorem cmpI_trans {x y z : Int} (h1 : cmpI x y ≤ 0) (h2 : cmpI y z ≤ 0) : cmpI x z ≤ 0 := by
  unfold cmpI at *; (repeat' split at h1) <;> (repeat' split at h2) <;> (repeat' split) <;> omega
theorem cmpS_cases (x y : List UInt8) : (x < y ∧ ¬ y < x ∧ cmpS x y = -1) ∨ (x = y ∧ cmpS x y = 0) ∨ (y < x ∧ ¬ x < y ∧ cmpS x y = 1) := by
  unfold cmpS
  by_cases h1 : x < y
  · exact Or.inl ⟨h1, fun h => List.lt_asymm h1 h, if_pos h1⟩
  · by_cases h2 : y < x
    · exact Or.inr (Or.inr ⟨h2, h1, by rw [if_neg h1, if_pos h2]⟩)
    · exact Or.inr (Or.inl ⟨List.le_antisymm (List.not_lt.1 h2) (List.not_lt.1 h1), by rw [if_neg h1, if_neg h2]⟩)
theorem cmpS_neg (x y : List UInt8) : cmpS x y = -cmpS y x := by
  rcases cmpS_cases x y with ⟨a, b, c⟩ | ⟨a, c⟩ | ⟨a, b, c⟩ <;> rcases cmpS_cases y x with ⟨a', b', c'⟩ | ⟨a', c'⟩ | ⟨a', b', c'⟩ <;> rw [c, c'] <;> first | rfl | contradiction | (subst a; exact absurd a' (List.lt_irrefl _)) | (subst a'; exact absurd a (List.lt_irrefl _))
theorem cmpS_zero (x y : List UInt8) : cmpS x y = 0 ↔ x = y := by
  rcases cmpS_cases x y with ⟨a, b, c⟩ | ⟨a, c⟩ | ⟨a, b, c⟩ <;> rw [c]
  · exact ⟨fun e => absurd e (by decide), fun e => by subst e; exact absurd a b⟩
  · exact ⟨fun _ => a, fun _ => rfl⟩
  · exact ⟨fun e => absurd e (by decide), fun e => by subst e; exact absurd a b⟩
theorem cmpS_le {x y : List UInt8} : cmpS x y ≤ 0 ↔ ¬ y < x := by
  rcases cmpS_cases x y with ⟨a, b, c⟩ | ⟨a, c⟩ | ⟨a, b, c⟩ <;> rw [c]
  · exact ⟨fun _ => b, fun _ => by decide⟩
  · exact ⟨fun _ => by subst a; exact List.lt_irrefl _, fun _ => by decide⟩
  · exact ⟨fun e => absurd e (by decide), fun e => absurd a e⟩
theorem cmpS_trans {x y z : List UInt8} (h1 : cmpS x y ≤ 0) (h2 : cmpS y z ≤ 0) : cmpS x z ≤ 0 := by
  rw [cmpS_le] at *
  exact List.not_lt.2 (List.le_trans (List.not_lt.1 h1) (List.not_lt.1 h2))
end Go.Proofs.YticdcnbeemkapaaGreatDoor
