/-
  UnqSteps, Unquote, Parse, Back, NumFacts, in one text.
-/
import Derived.Test.YtkoejkpjkcejcaaDoorGrAa
import Derived.WalkKit
import Derived.Test.YtkoejkpjkcejcaaDoorProg
import Derived.Lib.AtoiAllCases
import Derived.Lib.ItoaLen
namespace Go.Proofs.YtkoejkpjkcejcaaDoor
open Go.RowKit

/-- What is left from j on, ahead of the last byte. -/
def rest (s : ByteArray) (j : Nat) : List UInt8 := (s.data.toList.drop j).take (s.size - 1 - j)
theorem rest_cons (s : ByteArray) (j : Nat) (h : j + 1 < s.size) : rest s j = s[j] :: rest s (j + 1) := by
  have hl : j < s.data.toList.length := by simp; omega
  rw [rest, rest, List.drop_eq_getElem_cons hl, show s.size - 1 - j = (s.size - 1 - (j + 1)) + 1 from by omega, List.take_succ_cons]
  rfl
theorem rest_nil (s : ByteArray) (j : Nat) (h : s.size ≤ j + 1) : rest s j = [] := by
  rw [rest, show s.size - 1 - j = 0 from by omega, List.take_zero]
/-- So far l has been gathered. -/
def Got (s : ByteArray) (j : Nat) (l : List UInt8) : Prop := unq (rest s 1) = (unq (rest s j)).map (l ++ ·)
theorem got_start (s : ByteArray) : Got s 1 [] := by simp [Got]
theorem got_plain {s : ByteArray} {j : Nat} {l : List UInt8} (h : j + 1 < s.size) (hc : (s[j].toNat : Int) ≠ 39) (g : Got s j l) : Got s (j + 1) (l ++ [s[j]]) := by
  have hne : s[j] ≠ 39 := fun e => hc (by rw [e]; rfl)
  rw [Got, rest_cons s j h, unq_ne _ _ hne, Option.map_map] at g
  rw [Got, g]
  congr 1
  funext x
  simp
theorem got_two {s : ByteArray} {j : Nat} {l : List UInt8} (h : j + 2 < s.size) (hc : (s[j].toNat : Int) = 39) (hd : (s[j + 1].toNat : Int) = 39) (g : Got s j l) : Got s (j + 2) (l ++ [s[j + 1]]) := by
  have h1 : s[j] = 39 := UInt8.toNat_inj.1 (by rw [show (39 : UInt8).toNat = 39 from rfl]; omega)
  have h2 : s[j + 1] = 39 := UInt8.toNat_inj.1 (by rw [show (39 : UInt8).toNat = 39 from rfl]; omega)
  rw [Got, rest_cons s j (by omega), rest_cons s (j + 1) (by omega), h1, h2, unq_two, Option.map_map] at g
  rw [Got, g, h2]
  congr 1
  funext x
  simp
theorem got_one {s : ByteArray} {j : Nat} {l : List UInt8} (h : j + 2 = s.size) (hc : (s[j].toNat : Int) = 39) (g : Got s j l) : unq (rest s 1) = none := by
  have h1 : s[j] = 39 := UInt8.toNat_inj.1 (by rw [show (39 : UInt8).toNat = 39 from rfl]; omega)
  rw [Got, rest_cons s j (by omega), rest_nil s (j + 1) (by omega), h1, unq_one] at g
  rw [g]; rfl
theorem got_bad {s : ByteArray} {j : Nat} {l : List UInt8} (h : j + 2 < s.size) (hc : (s[j].toNat : Int) = 39) (hd : (s[j + 1].toNat : Int) ≠ 39) (g : Got s j l) : unq (rest s 1) = none := by
  have h1 : s[j] = 39 := UInt8.toNat_inj.1 (by rw [show (39 : UInt8).toNat = 39 from rfl]; omega)
  have h2 : s[j + 1] ≠ 39 := fun e => hd (by rw [e]; rfl)
  rw [Got, rest_cons s j (by omega), rest_cons s (j + 1) (by omega), h1, unq_bad _ _ h2] at g
  rw [g]; rfl
theorem got_end {s : ByteArray} {j : Nat} {l : List UInt8} (h : s.size ≤ j + 1) (g : Got s j l) : unq (rest s 1) = some l := by
  rw [Got, rest_nil s j h] at g
  rw [g]; simp [unq]
/-- A text taken apart; none: it is none between quotes. -/
def unqT (s : ByteArray) : Option (List UInt8) :=
  if h : 2 ≤ s.size then (if (s[0].toNat : Int) = 39 ∧ (s[s.size - 1].toNat : Int) = 39 then unq (rest s 1) else none) else none
def cellsOf (l : List UInt8) : List Value := l.map fun c => Value.int .u8 (c.toNat : Int)
theorem cells_snoc (l : List UInt8) (c : UInt8) : cellsOf (l ++ [c]) = cellsOf l ++ [Value.int .u8 (c.toNat : Int)] := by simp [cellsOf]
end Go.Proofs.YtkoejkpjkcejcaaDoor
namespace Go.Proofs.YtkoejkpjkcejcaaDoor
open Go.RowKit

theorem info_u8 : (Tryd.prog.info? 5).map (fun i => (i.zero, i.size, i.bytes)) = some (some (.int .u8 0), 1, 1) := by kernel_rfl

theorem rel_app {B : Nat} {l : List UInt8} {c : UInt8} {w wr w1 : World} {v v' : Value} {o : Obj} (hown : wr.ownsRow B 5 1 v l.length (cellsOf l)) (hnx : Below B w wr) (hB : B ≤ wr.heap.size)
    (hown' : w1.ownsRow B 5 1 v' (l.length + 1) (cellsOf l ++ [.int .u8 (c.toNat : Int)])) (hgrow : (wr.alloc o).grownBy w1 v.ownBlock) :
    w1.ownsRow B 5 1 v' (l ++ [c]).length (cellsOf (l ++ [c])) ∧ Below B w w1 :=
  ⟨by rw [cells_snoc, List.length_append]; exact hown', (hnx.alloc hB o).grown hgrow (by simp; omega) (fun j hj => (hown.lt j hj).1)⟩
theorem conv_nil (w : World) : (convert 137 9 (.slice none 0 0)).run Tryd.prog w = .ok (.string ⟨#[]⟩) w := by kernel_rfl
theorem conv_own {B : Nat} {l : List UInt8} {wr : World} {v : Value} (hown : wr.ownsRow B 5 1 v l.length (cellsOf l)) :
    (convert 137 9 v).run Tryd.prog wr = .ok (.string ⟨l.toArray⟩) wr := by
  have h := hown.2
  rcases h with ⟨rfl, hn⟩ | ⟨g, cap, cur, rfl, _, _, _, _, _, _⟩
  · obtain rfl : l = [] := List.length_eq_zero_iff.1 hn
    exact conv_nil wr
  · exact run_convert_bytes_back (P := Tryd.prog) wr 137 9 5 ⟨g, 0, none⟩ cap l Tryd.underlying137 Tryd.underlying5 Tryd.underlying9 (fun j hj => hown.cells (g := g) rfl j _ (by simp [cellsOf, hj]))

end Go.Proofs.YtkoejkpjkcejcaaDoor
namespace Go.Proofs.YtkoejkpjkcejcaaDoor
open Go.RowKit

theorem two_below {w w1 w2 : World} {o : Obj} (b1 : Below (w.alloc o).heap.size (w.alloc o) w1) (b2 : Below w1.heap.size w1 w2) : Below w.heap.size w w2 := by
  have := b1.size
  simp at this
  exact ((Below.refl _ _).alloc (Nat.le_refl _) _).trans ((b1.mono (by simp)).trans (b2.mono (by omega)))
theorem one_below {w w1 : World} {o : Obj} (b1 : Below (w.alloc o).heap.size (w.alloc o) w1) : Below w.heap.size w w1 :=
  ((Below.refl _ _).alloc (Nat.le_refl _) _).trans (b1.mono (by simp))

/-- What a text is read as: type, number, text; and the fault. -/
def readV (s : ByteArray) : Int × Int × List UInt8 × Int :=
  if s.data.toList = [116, 114, 117, 101] then (2, 1, [], 0)
  else if s.data.toList = [102, 97, 108, 115, 101] then (2, 0, [], 0)
  else if Lib.hasPrefix s.data.toList [39] = true then
    (match unqT s with
    | none => (0, 0, [], 2)
    | some l => if plainB l = false then (0, 0, [], 2) else if 40 < l.length then (0, 0, [], 4) else (3, 0, l, 0))
  else (match Lib.atoiAll s.data.toList with
    | .ok n => if Lib.itoa n = s.data.toList then (1, n, [], 0) else (0, 0, [], 2)
    | _ => (0, 0, [], 2))
def readR (r : Int × Int × List UInt8 × Int) : Value := .tuple #[.agg #[.int .i64 r.1, .int .i64 r.2.1, .string ⟨r.2.2.1.toArray⟩], errV r.2.2.2]

theorem unqT_len {s : ByteArray} {l : List UInt8} (h : unqT s = some l) : l.length ≤ s.size := by
  rw [unqT] at h
  split at h
  · split at h
    · have h1 := unq_len _ _ h
      rw [rest] at h1
      simp at h1
      omega
    · cases h
  · cases h
theorem atoi_bounds {s : ByteArray} {n : Int} (h : Lib.atoiAll s.data.toList = .ok n) : -9223372036854775808 ≤ n ∧ n ≤ 9223372036854775807 := by
  have := Lib.atoiAll_bounds h
  omega

theorem eq_of_list {s : ByteArray} {l : List UInt8} (h : s.data.toList = l) : s = ⟨l.toArray⟩ := by subst h; simp
end Go.Proofs.YtkoejkpjkcejcaaDoor
namespace Go.Proofs.YtkoejkpjkcejcaaDoor
open Go.RowKit

theorem unqT_quoted (l : List UInt8) (s : ByteArray) (h : s.data.toList = 39 :: (esc l ++ [39])) : unqT s = some l := by
  obtain rfl : s = ⟨(39 :: (esc l ++ [39])).toArray⟩ := eq_of_list h
  have hsz : (⟨(39 :: (esc l ++ [39])).toArray⟩ : ByteArray).size = (esc l).length + 2 := by
    show (39 :: (esc l ++ [39])).toArray.size = _
    simp
  have hr : rest ⟨(39 :: (esc l ++ [39])).toArray⟩ 1 = esc l := by
    rw [rest, hsz]
    simp
  rw [unqT, dif_pos (by omega), if_pos, hr, unq_esc]
  refine ⟨rfl, ?_⟩
  have h2 : ((⟨(39 :: (esc l ++ [39])).toArray⟩ : ByteArray)[(⟨(39 :: (esc l ++ [39])).toArray⟩ : ByteArray).size - 1]'(by omega)) = 39 := by
    show (39 :: (esc l ++ [39])).toArray[(39 :: (esc l ++ [39])).toArray.size - 1]'_ = 39
    simp
  rw [h2]; rfl
theorem quoted_unqT (l : List UInt8) (s : ByteArray) (h : unqT s = some l) : s.data.toList = 39 :: (esc l ++ [39]) := by
  rw [unqT] at h
  split at h
  · rename_i h2
    split at h
    · rename_i h3
      have he := esc_of_unq _ _ l (Nat.le_refl _) h
      have a0 : s[0] = 39 := UInt8.toNat_inj.1 (by rw [show (39 : UInt8).toNat = 39 from rfl]; omega)
      have az : s[s.size - 1] = 39 := UInt8.toNat_inj.1 (by rw [show (39 : UInt8).toNat = 39 from rfl]; omega)
      rw [← he, rest]
      have hl : s.data.toList.length = s.size := by simp
      apply List.ext_getElem
      · simp; omega
      · intro i h1 h4
        rcases Nat.eq_zero_or_pos i with rfl | hi
        · exact a0
        · obtain ⟨k, rfl⟩ : ∃ k, i = k + 1 := ⟨i - 1, by omega⟩
          by_cases hk : k + 2 < s.size
          · rw [List.getElem_cons_succ, List.getElem_append_left (by simp; omega)]
            simp
          · have hk2 : k + 1 = s.size - 1 := by omega
            rw [List.getElem_cons_succ, List.getElem_append_right (by simp; omega)]
            simp only [List.getElem_singleton]
            have : s.data.toList[k + 1] = s[s.size - 1] := by
              simp only [hk2]
              rfl
            rw [this, az]
    · cases h
  · cases h

theorem read_shown (t n : Int) (l : List UInt8) (s : ByteArray) (hn : -9223372036854775808 ≤ n ∧ n ≤ 9223372036854775807) (hc : chk t n l = 0) (h : s.data.toList = shown t n l) : readV s = (t, n, l, 0) := by
  rcases chk_type hc with ⟨rfl, rfl⟩ | ⟨rfl, rfl, hb⟩ | ⟨rfl, rfl, hl, hp⟩
  · rw [shown, if_pos rfl] at h
    obtain ⟨c, r, hr, hcc⟩ := itoa_head n
    have h1 : s.data.toList ≠ [116, 114, 117, 101] := by rw [h, hr]; intro e; injection e with e _; subst e; revert hcc; decide
    have h2 : s.data.toList ≠ [102, 97, 108, 115, 101] := by rw [h, hr]; intro e; injection e with e _; subst e; revert hcc; decide
    have h3 : ¬ Lib.hasPrefix s.data.toList [39] = true := by
      rw [h, hr]
      intro e
      have e' : (39 : UInt8) = c := by simpa [Lib.hasPrefix, List.isPrefixOf] using e
      subst e'; revert hcc; decide
    rw [readV, if_neg h1, if_neg h2, if_neg h3, h, atoi_itoa n hn]
    simp
  · rw [shown, if_neg (by decide), if_pos rfl] at h
    rcases hb with rfl | rfl
    · rw [if_neg (by decide)] at h
      rw [readV, if_neg (by rw [h]; decide), if_pos h]
    · rw [if_pos rfl] at h
      rw [readV, if_pos h]
  · rw [shown, if_neg (by decide), if_neg (by decide)] at h
    have h1 : s.data.toList ≠ [116, 114, 117, 101] := by rw [h]; intro e; injection e with e _; revert e; decide
    have h2 : s.data.toList ≠ [102, 97, 108, 115, 101] := by rw [h]; intro e; injection e with e _; revert e; decide
    have h3 : Lib.hasPrefix s.data.toList [39] = true := by rw [h]; simp [Lib.hasPrefix, List.isPrefixOf]
    rw [readV, if_neg h1, if_neg h2, if_pos h3, unqT_quoted l s h]
    simp only []
    rw [if_neg (by simp [hp]), if_neg (by omega)]
theorem shown_read (t n : Int) (l : List UInt8) (s : ByteArray) (h : readV s = (t, n, l, 0)) : chk t n l = 0 ∧ shown t n l = s.data.toList ∧ l.length ≤ 40 ∧ -9223372036854775808 ≤ n ∧ n ≤ 9223372036854775807 := by
  rw [readV] at h
  split at h
  · rename_i h1
    injection h with e1 h; injection h with e2 h; injection h with e3 _
    subst e1 e2 e3
    exact ⟨by decide, by rw [h1]; rfl, by simp, by decide, by decide⟩
  · split at h
    · rename_i h1
      injection h with e1 h; injection h with e2 h; injection h with e3 _
      subst e1 e2 e3
      exact ⟨by decide, by rw [h1]; rfl, by simp, by decide, by decide⟩
    · split at h
      · split at h
        · injection h with e1 h; injection h with e2 h; injection h with e3 e4
          exact absurd e4 (by decide)
        · rename_i l' hu
          split at h
          · injection h with e1 h; injection h with e2 h; injection h with e3 e4
            exact absurd e4 (by decide)
          · rename_i hp
            split at h
            · injection h with e1 h; injection h with e2 h; injection h with e3 e4
              exact absurd e4 (by decide)
            · rename_i hl
              injection h with e1 h; injection h with e2 h; injection h with e3 _
              subst e1 e2 e3
              refine ⟨?_, ?_, by omega, by decide, by decide⟩
              · rw [chk, if_neg (by omega), if_neg (fun e => hl e.2), if_neg (fun e => hp e.2), if_neg (by omega)]
              · rw [shown, if_neg (by decide), if_neg (by decide), quoted_unqT _ s hu]
      · split at h
        · rename_i m ha
          split at h
          · rename_i hi
            injection h with e1 h; injection h with e2 h; injection h with e3 _
            subst e1 e2 e3
            have hb := atoi_bounds ha
            refine ⟨?_, ?_, by simp, hb.1, hb.2⟩
            · rw [chk, if_neg (by omega), if_neg (by simp), if_neg (by decide), if_neg (by simp)]
            · rw [shown, if_pos rfl, hi]
          · injection h with e1 h; injection h with e2 h; injection h with e3 e4
            exact absurd e4 (by decide)
        · injection h with e1 h; injection h with e2 h; injection h with e3 e4
          exact absurd e4 (by decide)

theorem cmpI_neg (x y : Int) : cmpI x y = -cmpI y x := by unfold cmpI; split <;> split <;> omega
theorem cmpI_zero (x y : Int) : cmpI x y = 0 ↔ x = y := by unfold cmpI; split <;> (try split) <;> omega
theorem cmpI_trans {x y z : Int} (h1 : cmpI x y ≤ 0) (h2 : cmpI y z ≤ 0) : cmpI x z ≤ 0 := by
  unfold cmpI at *; (repeat' split at h1) <;> (repeat' split at h2) <;> (repeat' split) <;> omega
theorem cmpS_cases (x y : List UInt8) : (x < y ∧ ¬ y < x ∧ cmpS x y = -1) ∨ (x = y ∧ cmpS x y = 0) ∨ (y < x ∧ ¬ x < y ∧ cmpS x y = 1) := by
  unfold cmpS
  by_cases h1 : x < y
  · exact Or.inl ⟨h1, fun h => List.lt_asymm h1 h, if_pos h1⟩
  · by_cases h2 : y < x
    · exact Or.inr (Or.inr ⟨h2, h1, by rw [if_neg h1, if_pos h2]⟩)
    · exact Or.inr (Or.inl ⟨List.le_antisymm (List.not_lt.1 h2) (List.not_lt.1 h1), by rw [if_neg h1, if_neg h2]⟩)
theorem cmpS_neg (x y : List UInt8) : cmpS x y = -cmpS y x := by
  rcases cmpS_cases x y with ⟨a, b, c⟩ | ⟨a, c⟩ | ⟨a, b, c⟩ <;> rcases cmpS_cases y x with ⟨a', b', c'⟩ | ⟨a', c'⟩ | ⟨a', b', c'⟩ <;> rw [c, c'] <;> first | rfl | contradiction | (subst a; exact absurd a' (List.lt_irrefl _)) | (subst a'; exact absurd a (List.lt_irrefl _))
theorem cmpS_zero (x y : List UInt8) : cmpS x y = 0 ↔ x = y := by
  rcases cmpS_cases x y with ⟨a, b, c⟩ | ⟨a, c⟩ | ⟨a, b, c⟩ <;> rw [c]
  · exact ⟨fun e => absurd e (by decide), fun e => by subst e; exact absurd a b⟩
  · exact ⟨fun _ => a, fun _ => rfl⟩
  · exact ⟨fun e => absurd e (by decide), fun e => by subst e; exact absurd a b⟩
theorem cmpS_le {x y : List UInt8} : cmpS x y ≤ 0 ↔ ¬ y < x := by
  rcases cmpS_cases x y with ⟨a, b, c⟩ | ⟨a, c⟩ | ⟨a, b, c⟩ <;> rw [c]
  · exact ⟨fun _ => b, fun _ => by decide⟩
  · exact ⟨fun _ => by subst a; exact List.lt_irrefl _, fun _ => by decide⟩
  · exact ⟨fun e => absurd e (by decide), fun e => absurd a e⟩
theorem cmpS_trans {x y z : List UInt8} (h1 : cmpS x y ≤ 0) (h2 : cmpS y z ≤ 0) : cmpS x z ≤ 0 := by
  rw [cmpS_le] at *
  exact List.not_lt.2 (List.le_trans (List.not_lt.1 h1) (List.not_lt.1 h2))
end Go.Proofs.YtkoejkpjkcejcaaDoor
namespace Go.Proofs.YtkoejkpjkcejcaaDoor

def digB (c : UInt8) : Bool := decide (48 ≤ (c.toNat : Int)) && decide ((c.toNat : Int) ≤ 57)
def val10 (l : List UInt8) : Nat := l.foldl (fun a c => a * 10 + (c.toNat - 48)) 0
theorem val10_snoc (l : List UInt8) (c : UInt8) : val10 (l ++ [c]) = val10 l * 10 + (c.toNat - 48) := by simp [val10, List.foldl_append]
theorem digB_iff (c : UInt8) : digB c = true ↔ 48 ≤ c.toNat ∧ c.toNat ≤ 57 := by simp [digB]; omega
theorem val10_lt (k : Nat) : ∀ l : List UInt8, l.length = k → l.all digB = true → val10 l < 10 ^ k := by
  induction k with
  | zero => intro l hl _; rw [List.length_eq_zero_iff.1 hl]; decide
  | succ k ih =>
    intro l hl ha
    have hne : l ≠ [] := by intro e; rw [e] at hl; simp at hl
    rw [← List.dropLast_concat_getLast hne] at ha ⊢
    rw [List.all_append, Bool.and_eq_true] at ha
    have h1 := ih l.dropLast (by simp; omega) ha.1
    have h2 := (digB_iff (l.getLast hne)).1 (by simpa using ha.2)
    rw [val10_snoc, Nat.pow_succ]
    omega
theorem dec_val (k : Nat) : ∀ l : List UInt8, l.length = k + 1 → l.all digB = true → (∀ r, l = 48 :: r → r = []) → Lib.decDigits (val10 l) = l := by
  induction k with
  | zero =>
    intro l hl ha _
    obtain ⟨c, rfl⟩ := List.length_eq_one_iff.1 hl
    have h2 := (digB_iff c).1 (by simpa using ha)
    rw [show val10 [c] = c.toNat - 48 from by simp [val10], Lib.decDigits_one (by omega), show 48 + (c.toNat - 48) = c.toNat from by omega]
    simp
  | succ k ih =>
    intro l hl ha hz
    have hne : l ≠ [] := by intro e; rw [e] at hl; simp at hl
    obtain ⟨r, c, rfl⟩ : ∃ r c, l = r ++ [c] := ⟨l.dropLast, l.getLast hne, (List.dropLast_concat_getLast hne).symm⟩
    rw [List.all_append, Bool.and_eq_true] at ha
    have hrl : r.length = k + 1 := by simp at hl; omega
    have hz2 : ∀ q, r ≠ 48 :: q := fun q e => by
      have := hz (q ++ [c]) (by rw [e]; rfl)
      simp at this
    have h1 := ih r hrl ha.1 (fun q e => absurd e (hz2 q))
    have h2 := (digB_iff c).1 (by simpa using ha.2)
    have h3 : 1 ≤ val10 r := by
      rcases Nat.eq_zero_or_pos (val10 r) with h | h
      · rw [h, Lib.decDigits_one (by omega)] at h1
        exact absurd h1.symm (hz2 [])
      · exact h
    rw [val10_snoc, Lib.decDigits.eq_1, dif_neg (by omega), show (val10 r * 10 + (c.toNat - 48)) / 10 = val10 r from by omega, h1, show 48 + (val10 r * 10 + (c.toNat - 48)) % 10 = c.toNat from by omega]
    simp
theorem dec_digits (k : Nat) : ∀ u : Nat, u ≤ k → (Lib.decDigits u).all digB = true ∧ val10 (Lib.decDigits u) = u ∧ (∀ r, Lib.decDigits u = 48 :: r → r = []) := by
  induction k with
  | zero =>
    intro u hu
    obtain rfl : u = 0 := by omega
    rw [Lib.decDigits_one (by omega)]
    exact ⟨by decide, by decide, fun r e => by simpa using e.symm⟩
  | succ k ih =>
    intro u hu
    by_cases h : u < 10
    · rw [Lib.decDigits_one h]
      have e : (UInt8.ofNat (48 + u)).toNat = 48 + u := by simp; omega
      refine ⟨?_, ?_, fun r e => by simpa using (List.cons.inj e).2.symm⟩
      · rw [List.all_cons, List.all_nil, Bool.and_true, digB_iff, e]; omega
      · rw [show val10 [UInt8.ofNat (48 + u)] = (UInt8.ofNat (48 + u)).toNat - 48 from by simp [val10], e]; omega
    · obtain ⟨a1, a2, a3⟩ := ih (u / 10) (by omega)
      have e : (UInt8.ofNat (48 + u % 10)).toNat = 48 + u % 10 := by simp; omega
      rw [Lib.decDigits.eq_1, dif_neg h]
      refine ⟨?_, ?_, ?_⟩
      · rw [List.all_append, a1, List.all_cons, List.all_nil, Bool.and_true, Bool.true_and, digB_iff, e]; omega
      · rw [val10_snoc, a2, e]; omega
      · intro r hr
        exfalso
        cases hd : Lib.decDigits (u / 10) with
        | nil =>
          obtain ⟨c, q, hq, _⟩ := digits_head (u / 10) (u / 10) (Nat.le_refl _)
          rw [hd] at hq; cases hq
        | cons c q =>
          rw [hd, List.cons_append] at hr
          injection hr with hc _
          rw [hd, hc] at a3 a2
          have := a3 q rfl
          rw [this] at a2
          have : val10 [48] = 0 := by decide
          omega
theorem nd_le (k : Nat) : ∀ u : Nat, u < 10 ^ (k + 1) → Lib.nDigits u ≤ k + 1 := by
  induction k with
  | zero => intro u hu; rw [Lib.nDigits_small (by omega)]; omega
  | succ k ih =>
    intro u hu
    by_cases h : u < 10
    · rw [Lib.nDigits_small h]; omega
    · rw [Lib.nDigits_big h]
      have := ih (u / 10) (by rw [Nat.pow_succ] at hu; omega)
      omega
/-- A text of digits as a number; none: it is none. -/
def numL (l : List UInt8) : Option Nat :=
  if l = [] ∨ (l.head? = some 48 ∧ 1 < l.length) ∨ 19 < l.length then none
  else if l.all digB = true then (if 9223372036854775807 < val10 l then none else some (val10 l)) else none
theorem numL_some {l : List UInt8} {n : Nat} (h : numL l = some n) : l = Lib.decDigits n ∧ n ≤ 9223372036854775807 := by
  rw [numL] at h
  split at h
  · cases h
  · rename_i h1
    split at h
    · rename_i h2
      split at h
      · cases h
      · rename_i h3
        cases h
        have hl : l.length ≠ 0 := fun e => h1 (Or.inl (List.length_eq_zero_iff.1 e))
        exact ⟨(dec_val (l.length - 1) l (by omega) h2 (fun r e => Classical.byContradiction fun hr => h1 (Or.inr (Or.inl ⟨by rw [e]; rfl, by rw [e]; cases r with | nil => exact absurd rfl hr | cons _ _ => simp⟩)))).symm, by omega⟩
    · cases h
theorem numL_dec (n : Nat) (h : n ≤ 9223372036854775807) : numL (Lib.decDigits n) = some n := by
  obtain ⟨a1, a2, a3⟩ := dec_digits n n (Nat.le_refl _)
  have hl : (Lib.decDigits n).length ≤ 19 := by
    rw [Lib.decDigits_length]
    exact nd_le 18 n (by omega)
  rw [numL, if_neg, if_pos a1, a2, if_neg (by omega)]
  rintro (e | ⟨e, hr⟩ | e)
  · obtain ⟨c, q, hq, _⟩ := digits_head n n (Nat.le_refl _)
    rw [e] at hq; cases hq
  · cases hd : Lib.decDigits n with
    | nil => rw [hd] at hr; simp at hr
    | cons c q =>
      rw [hd] at e
      obtain rfl : c = 48 := by simpa using e
      rw [a3 q hd] at hd
      rw [hd] at hr; simp at hr
  · omega
end Go.Proofs.YtkoejkpjkcejcaaDoor
