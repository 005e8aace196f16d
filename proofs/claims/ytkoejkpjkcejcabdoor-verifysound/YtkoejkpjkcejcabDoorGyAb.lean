/-
  Text, Shelf, Print, UnqSteps, Unquote, in one text.
-/
import Derived.Lib.Replace
import Derived.Lib.AtoiAll
import Derived.Lib.ItoaNum
import Derived.Shelf.Strings.Builder1
import Derived.Shelf.Strings.Builder2
import Derived.Shelf.Small.Wraps
import Derived.Shelf.Strings.BuilderF
import Derived.Shelf.Strings.BuilderK
import Derived.Shelf.Utf8.RuneCount
import Derived.Shelf.Strings.Builder2Cap
import Derived.Shelf.Strconv.Itoa0
import Derived.Shelf.Strconv.Itoa1
import Derived.Shelf.LaysM
import Derived.Shelf.Strconv.Itoa2
import Derived.Shelf.Strconv.Itoa3
import Derived.Shelf.Strconv.Clone
import Derived.Shelf.Strings.Search1
import Derived.Shelf.Strings.Search2
import Derived.Shelf.Strings.Search3
import Derived.Shelf.Strings.Count
import Derived.Shelf.Strings.Shaped
import Derived.Shelf.Strings.Split
import Derived.Shelf.Strings.Replace
import Derived.Shelf.Strings.SplitShaped
import Derived.Shelf.Unicode.Decode
import Derived.Shelf.Strings.RuneCount
import Derived.Shelf.Unicode.DecodeSlow
import Derived.Shelf.Unicode.DecodeAny
import Derived.Shelf.Strings.BuilderCap
import Derived.Ground.Names2Prog
import Derived.Shelf.Slices.SearchI
import Derived.Test.YtkoejkpjkcejcabDoorProg
import Derived.Test.YtkoejkpjkcejcabDoorGyAa
import Derived.WalkSmall
import Derived.Lib.LaidTab
import Derived.Lib.AppendIntMem
import Derived.WalkKit
namespace Go.Proofs.YtkoejkpjkcejcabDoor

/-- Each quote twice. -/
def esc (l : List UInt8) : List UInt8 := l.flatMap fun c => if c = 39 then [39, 39] else [c]
theorem esc_cons (c : UInt8) (l : List UInt8) : esc (c :: l) = (if c = 39 then [39, 39] else [c]) ++ esc l := by simp [esc]
theorem esc_nil : esc [] = [] := rfl

theorem index_ne (c : UInt8) (l : List UInt8) (h : c ≠ 39) : Lib.index (c :: l) [39] = if Lib.index l [39] == -1 then -1 else Lib.index l [39] + 1 := by
  rw [Lib.index, if_neg]
  simp [List.isPrefixOf]
  exact fun e => h e.symm
theorem index_eq (l : List UInt8) : Lib.index (39 :: l) [39] = 0 := by
  rw [Lib.index, if_pos]
  simp [List.isPrefixOf]

theorem replace_ne (c : UInt8) (h : c ≠ 39) (k : Nat) (l : List UInt8) : Lib.replaceK [39] [39, 39] k (c :: l) = c :: Lib.replaceK [39] [39, 39] k l := by
  cases k with
  | zero => rfl
  | succ k =>
    rw [Lib.replaceK, Lib.replaceK, index_ne c l h]
    by_cases hm : Lib.index l [39] = -1
    · simp [hm]
    · have hge := Lib.index_ge l [39]
      have h1 : (Lib.index l [39] == -1) = false := by simpa using hm
      have h2 : (Lib.index l [39] + 1 == -1) = false := by simp; omega
      have h3 : (Lib.index l [39] + 1).toNat = (Lib.index l [39]).toNat + 1 := by omega
      rw [h1]
      simp only [Bool.false_eq_true, if_false]
      rw [h2]
      simp only [Bool.false_eq_true, if_false, h3]
      simp
theorem replace_eq (k : Nat) (l : List UInt8) : Lib.replaceK [39] [39, 39] (k + 1) (39 :: l) = 39 :: 39 :: Lib.replaceK [39] [39, 39] k l := by
  rw [Lib.replaceK, index_eq]
  simp
theorem replace_esc : ∀ (l : List UInt8) (k : Nat), l.count 39 ≤ k → Lib.replaceK [39] [39, 39] k l = esc l
  | [], k, _ => by
    cases k with
    | zero => rfl
    | succ k => rw [Lib.replaceK, Lib.index]; simp [esc]
  | c :: l, k, h => by
    by_cases hc : c = 39
    · subst hc
      rw [List.count_cons_self] at h
      obtain ⟨k', rfl⟩ : ∃ k', k = k' + 1 := ⟨k - 1, by omega⟩
      rw [replace_eq, replace_esc l k' (by omega), esc_cons, if_pos rfl]
      rfl
    · rw [List.count_cons_of_ne hc] at h
      rw [replace_ne c hc, replace_esc l k h, esc_cons, if_neg hc]
      rfl
theorem replaceAll_esc (l : List UInt8) : Lib.replaceAll l [39] [39, 39] = esc l := by
  have h0 : Lib.replaceNum l [39] (-1) = l.count 39 := by rw [Lib.replaceNum, if_pos (Or.inl (by decide)), Lib.count_one]
  rw [Lib.replaceAll, Lib.replace, if_neg (by decide), h0]
  exact replace_esc l _ (Nat.le_refl _)

/-- What stands between the quotes, taken apart; none: quotes do not stand in pairs. -/
def unq : List UInt8 → Option (List UInt8)
  | [] => some []
  | c :: l =>
    if c = 39 then
      match l with
      | [] => none
      | d :: r => if d = 39 then (unq r).map (39 :: ·) else none
    else (unq l).map (c :: ·)
theorem unq_ne (c : UInt8) (l : List UInt8) (h : c ≠ 39) : unq (c :: l) = (unq l).map (c :: ·) := by cases l <;> simp [unq, h]
theorem unq_two (r : List UInt8) : unq (39 :: 39 :: r) = (unq r).map (39 :: ·) := by simp [unq]
theorem unq_bad (d : UInt8) (r : List UInt8) (h : d ≠ 39) : unq (39 :: d :: r) = none := by simp [unq, h]
theorem unq_one : unq [39] = none := by simp [unq]
theorem unq_esc : ∀ l : List UInt8, unq (esc l) = some l
  | [] => by simp [esc, unq]
  | c :: l => by
    rw [esc_cons]
    by_cases hc : c = 39
    · subst hc; simp [unq, unq_esc l]
    · rw [if_neg hc, List.singleton_append, unq_ne c _ hc, unq_esc l]; rfl
theorem esc_of_unq : ∀ (n : Nat) (m l : List UInt8), m.length ≤ n → unq m = some l → m = esc l
  | _, [], l, _, h => by simp [unq] at h; subst h; rfl
  | 0, _ :: _, _, hn, _ => by simp at hn
  | n + 1, c :: m, l, hn, h => by
    by_cases hc : c = 39
    · subst hc
      cases m with
      | nil => simp [unq] at h
      | cons d r =>
        by_cases hd : d = 39
        · subst hd
          simp only [unq, if_true, Option.map_eq_some_iff] at h
          obtain ⟨l', hl, rfl⟩ := h
          rw [esc_cons, if_pos rfl, ← esc_of_unq n r l' (by simp at hn; omega) hl]
          rfl
        · simp [unq, hd] at h
    · rw [unq_ne c m hc, Option.map_eq_some_iff] at h
      obtain ⟨l', hl, rfl⟩ := h
      rw [esc_cons, if_neg hc, ← esc_of_unq n m l' (by simp at hn; omega) hl]
      rfl
theorem unq_len (m l : List UInt8) (h : unq m = some l) : l.length ≤ m.length := by
  rw [esc_of_unq m.length m l (Nat.le_refl _) h]
  clear h
  induction l with
  | nil => simp
  | cons c l ih =>
    rw [esc_cons]
    split <;> simp <;> omega

theorem parse_snoc : ∀ (l : List UInt8) (a u : Nat) (d : Nat), Lib.parseUint10 a l = .ok u → d < 10 → u * 10 + d < 18446744073709551616 → Lib.parseUint10 a (l ++ [UInt8.ofNat (48 + d)]) = .ok (u * 10 + d)
  | [], a, u, d, h, hd, hu => by
    simp only [Lib.parseUint10] at h
    injection h with h
    subst h
    have e : (UInt8.ofNat (48 + d)).toNat = 48 + d := by simp; omega
    simp only [List.nil_append, Lib.parseUint10, e]
    rw [if_pos (by omega), if_neg (by omega), if_neg (by omega), show 48 + d - 48 = d from by omega]
  | c :: r, a, u, d, h, hd, hu => by
    simp only [List.cons_append, Lib.parseUint10] at h ⊢
    split at h
    · rename_i h1
      rw [if_pos h1]
      split at h
      · cases h
      · rename_i h2
        rw [if_neg h2]
        split at h
        · cases h
        · rename_i h3
          rw [if_neg h3]
          exact parse_snoc r _ u d h hd hu
    · cases h
theorem parse_digits : ∀ (k u : Nat), u ≤ k → u < 18446744073709551616 → Lib.parseUint10 0 (Lib.decDigits u) = .ok u
  | k, u, hk, hu => by
    rw [Lib.decDigits]
    by_cases h : u < 10
    · rw [dif_pos h]
      have := parse_snoc [] 0 0 u rfl h (by omega)
      simpa using this
    · rw [dif_neg h]
      cases k with
      | zero => omega
      | succ k =>
        have := parse_snoc (Lib.decDigits (u / 10)) 0 (u / 10) (u % 10) (parse_digits k (u / 10) (by omega) (by omega)) (by omega) (by omega)
        rw [this]
        congr 1
        omega
theorem digits_head : ∀ (k u : Nat), u ≤ k → ∃ c r, Lib.decDigits u = c :: r ∧ 48 ≤ c.toNat ∧ c.toNat ≤ 57
  | k, u, hk => by
    rw [Lib.decDigits]
    by_cases h : u < 10
    · rw [dif_pos h]
      exact ⟨_, _, rfl, by simp; omega, by simp; omega⟩
    · rw [dif_neg h]
      cases k with
      | zero => omega
      | succ k =>
        obtain ⟨c, r, hr, h1, h2⟩ := digits_head k (u / 10) (by omega)
        rw [hr]
        exact ⟨c, _, rfl, h1, h2⟩
theorem itoa_head (n : Int) : ∃ c r, Lib.itoa n = c :: r ∧ (c.toNat = 45 ∨ 48 ≤ c.toNat ∧ c.toNat ≤ 57) := by
  rw [Lib.itoa]
  split
  · exact ⟨_, _, rfl, Or.inl rfl⟩
  · obtain ⟨c, r, hr, h⟩ := digits_head n.toNat n.toNat (Nat.le_refl _)
    exact ⟨c, r, hr, Or.inr h⟩
theorem atoi_itoa (n : Int) (h : -9223372036854775808 ≤ n ∧ n ≤ 9223372036854775807) : Lib.atoiAll (Lib.itoa n) = .ok n := by
  by_cases hn : n < 0
  · rw [Lib.itoa, if_pos hn]
    obtain ⟨c, r, hr, h1, h2⟩ := digits_head n.natAbs n.natAbs (Nat.le_refl _)
    have hp := parse_digits n.natAbs n.natAbs (Nat.le_refl _) (by omega)
    have hm : Lib.parseMag (Lib.decDigits n.natAbs) = .ok n.natAbs := by rw [Lib.parseMag, if_neg (by rw [hr]; simp), hp]
    simp only [Lib.atoiAll]
    rw [if_pos (Or.inr (by decide)), hm]
    simp only []
    rw [if_neg (by simp), if_neg (by omega), if_pos (by decide)]
    congr 1
    omega
  · rw [Lib.itoa, if_neg hn]
    obtain ⟨c, r, hr, h1, h2⟩ := digits_head n.toNat n.toNat (Nat.le_refl _)
    have hp := parse_digits n.toNat n.toNat (Nat.le_refl _) (by omega)
    have hm : Lib.parseMag (Lib.decDigits n.toNat) = .ok n.toNat := by rw [Lib.parseMag, if_neg (by rw [hr]; simp), hp]
    rw [hr] at hm ⊢
    simp only [Lib.atoiAll]
    rw [if_neg (by omega), hm]
    simp only []
    rw [if_neg (by omega), if_neg (by omega), if_neg (by omega)]
    congr 1
    omega
end Go.Proofs.YtkoejkpjkcejcabDoor
namespace Go.Proofs
open Go.Shelf
def Tryd.lays169_ren : Go.Shelf.Ren := ⟨fun | 169 => 39 | n => n, fun | 70 => 75 | 9 => 9 | 0 => 0 | 72 => 78 | 37 => 76 | 127 => 118 | 3 => 3 | 5 => 5 | n => n, fun | n => n⟩
theorem Tryd.lays169 : Go.Proofs.Lays.n169 Tryd.prog Tryd.lays169_ren := {
  mixed := by kernel_rfl
  f169 := Tryd.func39.trans (congrArg some (by kernel_rfl))
  t0 := Tryd.underlying0
  a0 := Tryd.isAgg0
  z0 := Tryd.sizeOf0
  v0 := Tryd.zeroValue0
  t3 := Tryd.underlying3
  a3 := Tryd.isAgg3
  z3 := Tryd.sizeOf3
  v3 := Tryd.zeroValue3
  t9 := Tryd.underlying9
  a9 := Tryd.isAgg9
  z9 := Tryd.sizeOf9
  v9 := Tryd.zeroValue9
  t37 := Tryd.underlying76
  a37 := Tryd.isAgg76
  z37 := Tryd.sizeOf76
  v37 := Tryd.zeroValue76
  t70 := Tryd.underlying75
  a70 := Tryd.isAgg75
  z70 := Tryd.sizeOf75
  v70 := Tryd.zeroValue75
  t72 := Tryd.underlying78
  a72 := Tryd.isAgg78
  z72 := Tryd.sizeOf78
  v72 := Tryd.zeroValue78
  t127 := Tryd.underlying118
  a127 := Tryd.isAgg118
  z127 := Tryd.sizeOf118
  v127 := Tryd.zeroValue118 }
theorem Tryd.Builder_Extra_169 : Builder.Extra Tryd.prog Tryd.lays169_ren := {
  sizeBuilder := by kernel_rfl
  liesBuilder := by kernel_rfl
  t5 := Tryd.underlying5
  a5 := Tryd.isAgg5
  z5 := Tryd.sizeOf5
  v5 := Tryd.zeroValue5
  infoByte := by kernel_rfl
  cellsByte := by kernel_rfl
  sizeByte := by kernel_rfl
  neB5 := by decide }
open Go.RowKit in
theorem Tryd.Builder_String_any (B b : Nat) (l : List UInt8) (w : World) (h : Lib.IsBuilder 78 5 B b (Lib.byteCells l) w) (hBw : B ≤ w.heap.size) :
    Calls Tryd.prog 39 #[.pointer (some ⟨b, 0, none⟩)] w fun e w' => e = .returned (.string ⟨l.toArray⟩) ∧ Below B w w' := Any.Builder_String_any Tryd.lays169 Tryd.Builder_Extra_169 B b l w h hBw
def Tryd.lays121_ren : Go.Shelf.Ren := ⟨fun | 121 => 94 | 214 => 120 | n => n, fun | 4 => 4 | 9 => 9 | n => n, fun | n => n⟩
theorem Tryd.lays121 : Go.Proofs.Lays.n121 Tryd.prog Tryd.lays121_ren := {
  mixed := by kernel_rfl
  f121 := Tryd.func94.trans (congrArg some (by kernel_rfl))
  f214 := Tryd.func120.trans (congrArg some (by kernel_rfl))
  t4 := Tryd.underlying4
  a4 := Tryd.isAgg4
  z4 := Tryd.sizeOf4
  v4 := Tryd.zeroValue4
  t9 := Tryd.underlying9
  a9 := Tryd.isAgg9
  z9 := Tryd.sizeOf9
  v9 := Tryd.zeroValue9 }
open Go.RowKit in
theorem Tryd.strconv_FormatBool (b : Bool) (w : World) :
    Calls Tryd.prog 94 #[.bool b] w fun e w' => e = .returned (.string ⟨(Lib.formatBool b).toArray⟩) ∧ w' = w := Any.strconv_FormatBool Tryd.lays121 b w
def Tryd.laysM171_ren : Go.Shelf.Ren := ⟨fun | 171 => 74 | 243 => 96 | 246 => 122 | 283 => 134 | 284 => 135 | 285 => 136 | 286 => 137 | 129 => 147 | 317 => 146 | 318 => 148 | 319 => 149 | 320 => 150 | 337 => 156 | 338 => 157 | n => n, fun | 3 => 3 | 9 => 9 | 2 => 2 | 4 => 4 | 171 => 195 | 0 => 0 | 53 => 115 | 37 => 76 | 5 => 5 | 173 => 198 | 212 => 206 | 51 => 207 | 20 => 20 | 213 => 208 | 46 => 209 | 232 => 219 | 233 => 220 | n => n, fun | 17 => 5 | 18 => 9 | 19 => 10 | n => n⟩
theorem Tryd.laysM171 : Go.Proofs.LaysM.n171 Tryd.prog Tryd.laysM171_ren := {
  mixed := by kernel_rfl
  f129 := Tryd.func147.trans (congrArg some (by kernel_rfl))
  f171 := Tryd.func74.trans (congrArg some (by kernel_rfl))
  f243 := Tryd.func96.trans (congrArg some (by kernel_rfl))
  f246 := Tryd.func122.trans (congrArg some (by kernel_rfl))
  f283 := Tryd.func134.trans (congrArg some (by kernel_rfl))
  f284 := Tryd.func135.trans (congrArg some (by kernel_rfl))
  f285 := Tryd.func136.trans (congrArg some (by kernel_rfl))
  f286 := Tryd.func137.trans (congrArg some (by kernel_rfl))
  f317 := Tryd.func146.trans (congrArg some (by kernel_rfl))
  f318 := Tryd.func148.trans (congrArg some (by kernel_rfl))
  f319 := Tryd.func149.trans (congrArg some (by kernel_rfl))
  f320 := Tryd.func150.trans (congrArg some (by kernel_rfl))
  f337 := Tryd.func156.trans (congrArg some (by kernel_rfl))
  f338 := Tryd.func157.trans (congrArg some (by kernel_rfl))
  t0 := Tryd.underlying0
  a0 := Tryd.isAgg0
  z0 := Tryd.sizeOf0
  v0 := Tryd.zeroValue0
  t2 := Tryd.underlying2
  a2 := Tryd.isAgg2
  z2 := Tryd.sizeOf2
  v2 := Tryd.zeroValue2
  t3 := Tryd.underlying3
  a3 := Tryd.isAgg3
  z3 := Tryd.sizeOf3
  v3 := Tryd.zeroValue3
  t4 := Tryd.underlying4
  a4 := Tryd.isAgg4
  z4 := Tryd.sizeOf4
  v4 := Tryd.zeroValue4
  t5 := Tryd.underlying5
  a5 := Tryd.isAgg5
  z5 := Tryd.sizeOf5
  v5 := Tryd.zeroValue5
  t9 := Tryd.underlying9
  a9 := Tryd.isAgg9
  z9 := Tryd.sizeOf9
  v9 := Tryd.zeroValue9
  t20 := Tryd.underlying20
  a20 := Tryd.isAgg20
  z20 := Tryd.sizeOf20
  v20 := Tryd.zeroValue20
  t37 := Tryd.underlying76
  a37 := Tryd.isAgg76
  z37 := Tryd.sizeOf76
  v37 := Tryd.zeroValue76
  t46 := Tryd.underlying209
  a46 := Tryd.isAgg209
  z46 := Tryd.sizeOf209
  v46 := Tryd.zeroValue209
  t51 := Tryd.underlying207
  a51 := Tryd.isAgg207
  z51 := Tryd.sizeOf207
  v51 := Tryd.zeroValue207
  t53 := Tryd.underlying115
  a53 := Tryd.isAgg115
  z53 := Tryd.sizeOf115
  v53 := Tryd.zeroValue115
  t171 := Tryd.underlying195
  a171 := Tryd.isAgg195
  z171 := Tryd.sizeOf195
  v171 := Tryd.zeroValue195
  t173 := Tryd.underlying198
  a173 := Tryd.isAgg198
  z173 := Tryd.sizeOf198
  v173 := Tryd.zeroValue198
  t212 := Tryd.underlying206
  a212 := Tryd.isAgg206
  z212 := Tryd.sizeOf206
  v212 := Tryd.zeroValue206
  t213 := Tryd.underlying208
  a213 := Tryd.isAgg208
  z213 := Tryd.sizeOf208
  t232 := Tryd.underlying219
  a232 := Tryd.isAgg219
  z232 := Tryd.sizeOf219
  v232 := Tryd.zeroValue219
  t233 := Tryd.underlying220
  a233 := Tryd.isAgg220
  z233 := Tryd.sizeOf220
  v233 := Tryd.zeroValue220
  g17 := by kernel_rfl
  g18 := by kernel_rfl
  g19 := by kernel_rfl
  i0 := by kernel_rfl
  i2 := by kernel_rfl
  i3 := by kernel_rfl
  i4 := by kernel_rfl
  i5 := by kernel_rfl
  i9 := by kernel_rfl
  i20 := by kernel_rfl
  i37 := by kernel_rfl
  i46 := by kernel_rfl
  i51 := by kernel_rfl
  i53 := by kernel_rfl
  i171 := by kernel_rfl
  i173 := by kernel_rfl
  i212 := by kernel_rfl
  i232 := by kernel_rfl
  i233 := by kernel_rfl
  m17 := by kernel_rfl
  m18 := by kernel_rfl
  m19 := by kernel_rfl }
open Go.RowKit Go.Sort Go.Lib in
theorem Tryd.strconv_Itoa (n : Int) (h0 : -9223372036854775808 ≤ n) (h1 : n ≤ 9223372036854775807) (w : World) (htab : Lib.TabIs Tryd.prog w "internal/strconv.uint64pow10" .u64 Lib.pow10Tab) :
    Calls Tryd.prog 74 #[.int .i64 n] w fun e w' => e = .returned (.string ⟨(Lib.itoa n).toArray⟩) ∧ ∃ k os, w' = grow (w.drewN k) os := Any.strconv_Itoa Tryd.laysM171 n h0 h1 w htab
def Tryd.laysM316_ren : Go.Shelf.Ren := ⟨fun | 316 => 80 | n => n, fun | 9 => 9 | 3 => 3 | 4 => 4 | 37 => 76 | 0 => 0 | 127 => 118 | 5 => 5 | n => n, fun | n => n⟩
theorem Tryd.laysM316 : Go.Proofs.LaysM.n316 Tryd.prog Tryd.laysM316_ren := {
  mixed := by kernel_rfl
  f316 := Tryd.func80.trans (congrArg some (by kernel_rfl))
  t0 := Tryd.underlying0
  a0 := Tryd.isAgg0
  z0 := Tryd.sizeOf0
  v0 := Tryd.zeroValue0
  t3 := Tryd.underlying3
  a3 := Tryd.isAgg3
  z3 := Tryd.sizeOf3
  v3 := Tryd.zeroValue3
  t4 := Tryd.underlying4
  a4 := Tryd.isAgg4
  z4 := Tryd.sizeOf4
  v4 := Tryd.zeroValue4
  t9 := Tryd.underlying9
  a9 := Tryd.isAgg9
  z9 := Tryd.sizeOf9
  v9 := Tryd.zeroValue9
  t37 := Tryd.underlying76
  a37 := Tryd.isAgg76
  z37 := Tryd.sizeOf76
  v37 := Tryd.zeroValue76
  t127 := Tryd.underlying118
  a127 := Tryd.isAgg118
  z127 := Tryd.sizeOf118
  v127 := Tryd.zeroValue118
  t5 := Tryd.underlying5
  a5 := Tryd.isAgg5
  z5 := Tryd.sizeOf5
  v5 := Tryd.zeroValue5
  i0 := by kernel_rfl
  i3 := by kernel_rfl
  i4 := by kernel_rfl
  i5 := by kernel_rfl
  i9 := by kernel_rfl
  i37 := by kernel_rfl
  i127 := by kernel_rfl }
open Go.RowKit in
theorem Tryd.stringslite_Clone (s : ByteArray) (w : World) (hlim : s.size ≤ 281474976710656) :
    Calls Tryd.prog 80 #[.string s] w fun e w' => e = .returned (.string s) ∧ Below w.heap.size w w' := Any.stringslite_Clone Tryd.laysM316 s w hlim
def Tryd.lays155_ren : Go.Shelf.Ren := ⟨fun | 155 => 95 | 154 => 121 | 138 => 130 | 165 => 131 | 143 => 132 | 166 => 36 | 197 => 133 | 169 => 39 | 195 => 141 | 218 => 142 | 240 => 71 | 241 => 143 | 219 => 144 | 260 => 145 | 276 => 93 | 277 => 151 | 217 => 152 | 225 => 153 | 224 => 154 | 267 => 155 | 266 => 158 | 314 => 159 | n => n, fun | 9 => 9 | 3 => 3 | 4 => 4 | 72 => 78 | 0 => 0 | 76 => 58 | 105 => 193 | 21 => 21 | 5 => 5 | 70 => 75 | 20 => 20 | 37 => 76 | 75 => 32 | 127 => 118 | 164 => 130 | 46 => 209 | 119 => 212 | 139 => 215 | 138 => 214 | 146 => 217 | 51 => 207 | 80 => 81 | n => n, fun | 1 => 6 | 3 => 7 | 4 => 8 | n => n⟩
theorem Tryd.lays155 : Go.Proofs.Lays.n155 Tryd.prog Tryd.lays155_ren := {
  mixed := by kernel_rfl
  f138 := Tryd.func130.trans (congrArg some (by kernel_rfl))
  f143 := Tryd.func132.trans (congrArg some (by kernel_rfl))
  f154 := Tryd.func121.trans (congrArg some (by kernel_rfl))
  f155 := Tryd.func95.trans (congrArg some (by kernel_rfl))
  f165 := Tryd.func131.trans (congrArg some (by kernel_rfl))
  f166 := Tryd.func36.trans (congrArg some (by kernel_rfl))
  f169 := Tryd.func39.trans (congrArg some (by kernel_rfl))
  f195 := Tryd.func141.trans (congrArg some (by kernel_rfl))
  f197 := Tryd.func133.trans (congrArg some (by kernel_rfl))
  f217 := Tryd.func152.trans (congrArg some (by kernel_rfl))
  f218 := Tryd.func142.trans (congrArg some (by kernel_rfl))
  f219 := Tryd.func144.trans (congrArg some (by kernel_rfl))
  f224 := Tryd.func154.trans (congrArg some (by kernel_rfl))
  f225 := Tryd.func153.trans (congrArg some (by kernel_rfl))
  f240 := Tryd.func71.trans (congrArg some (by kernel_rfl))
  f241 := Tryd.func143.trans (congrArg some (by kernel_rfl))
  f260 := Tryd.func145.trans (congrArg some (by kernel_rfl))
  f266 := Tryd.func158.trans (congrArg some (by kernel_rfl))
  f267 := Tryd.func155.trans (congrArg some (by kernel_rfl))
  f276 := Tryd.func93.trans (congrArg some (by kernel_rfl))
  f277 := Tryd.func151.trans (congrArg some (by kernel_rfl))
  f314 := Tryd.func159.trans (congrArg some (by kernel_rfl))
  t0 := Tryd.underlying0
  a0 := Tryd.isAgg0
  z0 := Tryd.sizeOf0
  v0 := Tryd.zeroValue0
  t3 := Tryd.underlying3
  a3 := Tryd.isAgg3
  z3 := Tryd.sizeOf3
  v3 := Tryd.zeroValue3
  t4 := Tryd.underlying4
  a4 := Tryd.isAgg4
  z4 := Tryd.sizeOf4
  v4 := Tryd.zeroValue4
  t5 := Tryd.underlying5
  a5 := Tryd.isAgg5
  z5 := Tryd.sizeOf5
  v5 := Tryd.zeroValue5
  t9 := Tryd.underlying9
  a9 := Tryd.isAgg9
  z9 := Tryd.sizeOf9
  v9 := Tryd.zeroValue9
  t20 := Tryd.underlying20
  a20 := Tryd.isAgg20
  z20 := Tryd.sizeOf20
  v20 := Tryd.zeroValue20
  t21 := Tryd.underlying21
  a21 := Tryd.isAgg21
  z21 := Tryd.sizeOf21
  v21 := Tryd.zeroValue21
  t37 := Tryd.underlying76
  a37 := Tryd.isAgg76
  z37 := Tryd.sizeOf76
  v37 := Tryd.zeroValue76
  t46 := Tryd.underlying209
  a46 := Tryd.isAgg209
  z46 := Tryd.sizeOf209
  v46 := Tryd.zeroValue209
  t51 := Tryd.underlying207
  a51 := Tryd.isAgg207
  z51 := Tryd.sizeOf207
  v51 := Tryd.zeroValue207
  t70 := Tryd.underlying75
  a70 := Tryd.isAgg75
  z70 := Tryd.sizeOf75
  v70 := Tryd.zeroValue75
  t72 := Tryd.underlying78
  a72 := Tryd.isAgg78
  z72 := Tryd.sizeOf78
  v72 := Tryd.zeroValue78
  t75 := Tryd.underlying32
  a75 := Tryd.isAgg32
  z75 := Tryd.sizeOf32
  v75 := Tryd.zeroValue32
  t76 := Tryd.underlying58
  a76 := Tryd.isAgg58
  z76 := Tryd.sizeOf58
  v76 := Tryd.zeroValue58
  t105 := Tryd.underlying193
  a105 := Tryd.isAgg193
  z105 := Tryd.sizeOf193
  v105 := Tryd.zeroValue193
  t119 := Tryd.underlying212
  a119 := Tryd.isAgg212
  z119 := Tryd.sizeOf212
  t127 := Tryd.underlying118
  a127 := Tryd.isAgg118
  z127 := Tryd.sizeOf118
  v127 := Tryd.zeroValue118
  t138 := Tryd.underlying214
  a138 := Tryd.isAgg214
  z138 := Tryd.sizeOf214
  v138 := Tryd.zeroValue214
  t139 := Tryd.underlying215
  a139 := Tryd.isAgg215
  z139 := Tryd.sizeOf215
  v139 := Tryd.zeroValue215
  t146 := Tryd.underlying217
  a146 := Tryd.isAgg217
  z146 := Tryd.sizeOf217
  v146 := Tryd.zeroValue217
  t164 := Tryd.underlying130
  a164 := Tryd.isAgg130
  z164 := Tryd.sizeOf130
  v164 := Tryd.zeroValue130
  g1 := by kernel_rfl
  g3 := by kernel_rfl
  g4 := by kernel_rfl }
theorem Tryd.Builder_Extra_155 : Builder.Extra Tryd.prog Tryd.lays155_ren := {
  sizeBuilder := by kernel_rfl
  liesBuilder := by kernel_rfl
  t5 := Tryd.underlying5
  a5 := Tryd.isAgg5
  z5 := Tryd.sizeOf5
  v5 := Tryd.zeroValue5
  infoByte := by kernel_rfl
  cellsByte := by kernel_rfl
  sizeByte := by kernel_rfl
  neB5 := by decide }
open Go.RowKit Go.Lib in
theorem Tryd.strings_ReplaceAll (s old new : ByteArray) (m : Int) (w : World) (hs : s.size < 4294967281) (hm : w.cell? ⟨6, 0, none⟩ = some (.int .i64 m)) (h1 : 1 ≤ old.size) (hlen : s.size + Lib.countB s old * new.size ≤ 140737488355328) :
    Calls Tryd.prog 95 #[.string s, .string old, .string new] w fun e w' =>
      e = .returned (.string ⟨(Lib.replaceAll s.data.toList old.data.toList new.data.toList).toArray⟩) ∧ Below w.heap.size w w' := Any.strings_ReplaceAll Tryd.lays155 Tryd.Builder_Extra_155 s old new m w hs hm h1 hlen
end Go.Proofs
namespace Go.Proofs.YtkoejkpjkcejcabDoor
open Go.RowKit

/-- What the library reads of its own variables. -/
structure Env (w : World) : Prop where
  tab : Lib.TabIs Tryd.prog w "internal/strconv.uint64pow10" .u64 Lib.pow10Tab
  mx : ∃ m : Int, w.cell? ⟨6, 0, none⟩ = some (.int .i64 m)
  big : 5 < w.heap.size ∧ 6 < w.heap.size
theorem g_tab : Tryd.prog.globalNamed "internal/strconv.uint64pow10" = some 5 := by kernel_rfl
theorem Env.on {w w' : World} (h : Env w) (hb : Below w.heap.size w w') : Env w' := by
  have hbig := h.big
  refine ⟨?_, ?_, ?_⟩
  · exact var?_below hb g_tab (by omega) h.tab
  · obtain ⟨m, hm⟩ := h.mx; exact ⟨m, by rw [hb.cell (p := ⟨6, 0, none⟩) (by simp; omega)]; exact hm⟩
  · have := hb.size; omega
theorem Env.alloc {w : World} (h : Env w) (o : Obj) : Env (w.alloc o) := h.on ((Below.refl _ _).alloc (Nat.le_refl _) o)

/-- The text of a value that is right. -/
def shown (t n : Int) (l : List UInt8) : List UInt8 :=
  if t = 1 then Lib.itoa n
  else if t = 2 then (if n = 1 then [116, 114, 117, 101] else [102, 97, 108, 115, 101])
  else 39 :: (esc l ++ [39])
def prS (t n : Int) (l : List UInt8) : List UInt8 := if chk t n l = 0 then shown t n l else []

theorem chk_type {t n : Int} {l : List UInt8} (h : chk t n l = 0) : (t = 1 ∧ l = []) ∨ (t = 2 ∧ l = [] ∧ (n = 0 ∨ n = 1)) ∨ (t = 3 ∧ n = 0 ∧ l.length ≤ 40 ∧ plainB l = true) := by
  rw [chk] at h
  split at h
  · omega
  · rename_i h1
    split at h
    · omega
    · rename_i h2
      split at h
      · omega
      · rename_i h3
        split at h
        · omega
        · rename_i h4
          by_cases e3 : t = 3
          · have h3' : plainB l = true := by
              cases hp : plainB l with
              | true => rfl
              | false => exact absurd ⟨e3, hp⟩ h3
            exact Or.inr (Or.inr ⟨e3, by omega, by omega, h3'⟩)
          · have hl : l = [] := Classical.byContradiction fun e => h4 (Or.inl ⟨e3, e⟩)
            by_cases e2 : t = 2
            · exact Or.inr (Or.inl ⟨e2, hl, by omega⟩)
            · exact Or.inl ⟨by omega, hl⟩

theorem grow_below {w w' : World} (h : ∃ k os, w' = Sort.grow (w.drewN k) os) : Below w.heap.size w w' := by
  obtain ⟨k, os, rfl⟩ := h
  exact Lib.below_grow _ w (Nat.le_refl _) k os
theorem esc_len (l : List UInt8) : (esc l).length ≤ 2 * l.length := by
  induction l with
  | nil => simp [esc]
  | cons c l ih =>
    rw [esc_cons]
    split <;> simp <;> omega
theorem quoted (l : List UInt8) : (⟨#[39]⟩ : ByteArray) ++ ⟨(esc l).toArray⟩ ++ ⟨#[39]⟩ = ⟨(39 :: (esc l ++ [39])).toArray⟩ := by
  rfl

set_option maxHeartbeats 1000000 in
theorem print_any (t n : Int) (s : ByteArray) (w : World) (hs : s.size ≤ maxLen) (hn : -9223372036854775808 ≤ n ∧ n ≤ 9223372036854775807) (henv : Env w) :
    Calls Tryd.prog 72 #[.agg #[.int .i64 t, .int .i64 n, .string s]] w fun e w' => e = .returned (.tuple #[.string ⟨(prS t n s.data.toList).toArray⟩, errV (chk t n s.data.toList)]) ∧ Below w.heap.size w w' := by
  by_cases h1 : chk t n s.data.toList = 0
  · have H1 : Hid (chk t n s.data.toList = 0) := h1
    rw [prS, if_pos h1, h1]
    rcases chk_type h1 with ⟨rfl, hl⟩ | ⟨rfl, hl, hb⟩ | ⟨rfl, rfl, hlen, hp⟩
    · clear h1 hl
      have hsh : shown 1 n s.data.toList = Lib.itoa n := by rw [shown, if_pos rfl]
      rw [hsh, errV, if_pos rfl]
      go_enter Tryd.func72, Tryd.ntmps72
      go_wp2_with fail
      refine (check_ok _ _ _ _ hs H1.out).mono ?_
      rintro e w1 ⟨rfl, b1⟩
      obtain ⟨hc, hf⟩ := bcell b1
      have hy : w.heap.size < w1.heap.size := by have := b1.size; simp at this; omega
      go_wp2_with fail
      refine (Tryd.strconv_Itoa n hn.1 hn.2 _ ((henv.alloc _).on b1).tab).mono ?_
      rintro e w2 ⟨rfl, h2⟩
      have b2 := grow_below h2
      clear h2
      go_wp2
      go_ret2
      refine ⟨rfl, ?_⟩
      exact ((Below.refl _ _).alloc (Nat.le_refl _) _).trans ((b1.mono (by simp)).trans (b2.mono (by omega)))
    · clear h1 hl
      have hsh : shown 2 n s.data.toList = if n = 1 then [116, 114, 117, 101] else [102, 97, 108, 115, 101] := by rw [shown, if_neg (by decide), if_pos rfl]
      rw [hsh, errV, if_pos rfl]
      clear hsh
      rcases hb with rfl | rfl
      all_goals
        go_enter Tryd.func72, Tryd.ntmps72
        go_wp2_with fail
        refine (check_ok _ _ _ _ hs H1.out).mono ?_
        rintro e w1 ⟨rfl, b1⟩
        obtain ⟨hc, hf⟩ := bcell b1
        have hy : w.heap.size < w1.heap.size := by have := b1.size; simp at this; omega
        go_wp2_with fail
        refine (Tryd.strconv_FormatBool _ _).mono ?_
        rintro e w2 ⟨rfl, rfl⟩
        go_wp2
        go_ret2
        refine ⟨rfl, ?_⟩
        exact ((Below.refl _ _).alloc (Nat.le_refl _) _).trans (b1.mono (by simp))
    · clear h1
      have hsh : shown 3 0 s.data.toList = 39 :: (esc s.data.toList ++ [39]) := by rw [shown, if_neg (by decide), if_neg (by decide)]
      rw [hsh, errV, if_pos rfl]
      clear hsh
      have hs40 : s.size ≤ 40 := by simpa using hlen
      have hcl : Lib.countB s ⟨#[39]⟩ ≤ s.size := Lib.countB_le ⟨#[39]⟩ (by decide) s.size s (Nat.le_refl _)
      have hel : (esc s.data.toList).length ≤ 80 := by have := esc_len s.data.toList; omega
      have HQ : Hid ((⟨#[39]⟩ : ByteArray) ++ ⟨(esc s.data.toList).toArray⟩ ++ ⟨#[39]⟩ = ⟨(39 :: (esc s.data.toList ++ [39])).toArray⟩) := quoted _
      have HR : Hid (Lib.replaceAll s.data.toList [39] [39, 39] = esc s.data.toList) := replaceAll_esc _
      generalize esc s.data.toList = E at HQ HR hel ⊢
      go_enter Tryd.func72, Tryd.ntmps72
      go_wp2_with fail
      refine (check_ok _ _ _ _ hs H1.out).mono ?_
      rintro e w1 ⟨rfl, b1⟩
      obtain ⟨hc, hf⟩ := bcell b1
      have hy : w.heap.size < w1.heap.size := by have := b1.size; simp at this; omega
      obtain ⟨m, hm⟩ := ((henv.alloc _).on b1).mx
      go_wp2_with fail
      refine (Tryd.strings_ReplaceAll s ⟨#[39]⟩ ⟨#[39, 39]⟩ m _ (by omega) hm (by decide) (by have : (⟨#[39, 39]⟩ : ByteArray).size = 2 := rfl; rw [this]; omega)).mono ?_
      rintro e w2 ⟨rfl, b2⟩
      rw [show Lib.replaceAll s.data.toList (⟨#[39]⟩ : ByteArray).data.toList (⟨#[39, 39]⟩ : ByteArray).data.toList = E from HR.out]
      go_wp2
      go_ret2
      refine ⟨by rw [HQ.out]; rfl, ?_⟩
      exact ((Below.refl _ _).alloc (Nat.le_refl _) _).trans ((b1.mono (by simp)).trans (b2.mono (by omega)))
  · have H1 : Hid (chk t n s.data.toList ≠ 0) := h1
    rw [prS, if_neg h1]
    clear h1
    go_enter Tryd.func72, Tryd.ntmps72
    go_wp2_with fail
    refine (check_bad _ _ _ _ hs H1.out).mono ?_
    rintro e w1 ⟨rfl, b1⟩
    go_wp2
    go_ret2
    refine ⟨by rw [errV, if_neg H1.out]; rfl, ?_⟩
    exact ((Below.refl _ _).alloc (Nat.le_refl _) _).trans (b1.mono (by simp))
end Go.Proofs.YtkoejkpjkcejcabDoor
namespace Go.Proofs.YtkoejkpjkcejcabDoor
open Go.RowKit

/-- What is left from j on, ahead of the last byte. -/
def rest (s : ByteArray) (j : Nat) : List UInt8 := (s.data.toList.drop j).take (s.size - 1 - j)
theorem rest_cons (s : ByteArray) (j : Nat) (h : j + 1 < s.size) : rest s j = s[j] :: rest s (j + 1) := by
  have hl : j < s.data.toList.length := by simp; omega
  rw [rest, rest, List.drop_eq_getElem_cons hl, show s.size - 1 - j = (s.size - 1 - (j + 1)) + 1 from by omega, List.take_succ_cons]
  rfl
theorem rest_nil (s : ByteArray) (j : Nat) (h : s.size ≤ j + 1) : rest s j = [] := by
  rw [rest, show s.size - 1 - j = 0 from by omega, List.take_zero]
/-- So far l has been gathered. -/
def Got (s : ByteArray) (j : Nat) (l : List UInt8) : Prop := unq (rest s 1) = (unq (rest s j)).map (l ++ ·)
theorem got_start (s : ByteArray) : Got s 1 [] := by simp [Got]
theorem got_plain {s : ByteArray} {j : Nat} {l : List UInt8} (h : j + 1 < s.size) (hc : (s[j].toNat : Int) ≠ 39) (g : Got s j l) : Got s (j + 1) (l ++ [s[j]]) := by
  have hne : s[j] ≠ 39 := fun e => hc (by rw [e]; rfl)
  rw [Got, rest_cons s j h, unq_ne _ _ hne, Option.map_map] at g
  rw [Got, g]
  congr 1
  funext x
  simp
theorem got_two {s : ByteArray} {j : Nat} {l : List UInt8} (h : j + 2 < s.size) (hc : (s[j].toNat : Int) = 39) (hd : (s[j + 1].toNat : Int) = 39) (g : Got s j l) : Got s (j + 2) (l ++ [s[j + 1]]) := by
  have h1 : s[j] = 39 := UInt8.toNat_inj.1 (by rw [show (39 : UInt8).toNat = 39 from rfl]; omega)
  have h2 : s[j + 1] = 39 := UInt8.toNat_inj.1 (by rw [show (39 : UInt8).toNat = 39 from rfl]; omega)
  rw [Got, rest_cons s j (by omega), rest_cons s (j + 1) (by omega), h1, h2, unq_two, Option.map_map] at g
  rw [Got, g, h2]
  congr 1
  funext x
  simp
theorem got_one {s : ByteArray} {j : Nat} {l : List UInt8} (h : j + 2 = s.size) (hc : (s[j].toNat : Int) = 39) (g : Got s j l) : unq (rest s 1) = none := by
  have h1 : s[j] = 39 := UInt8.toNat_inj.1 (by rw [show (39 : UInt8).toNat = 39 from rfl]; omega)
  rw [Got, rest_cons s j (by omega), rest_nil s (j + 1) (by omega), h1, unq_one] at g
  rw [g]; rfl
theorem got_bad {s : ByteArray} {j : Nat} {l : List UInt8} (h : j + 2 < s.size) (hc : (s[j].toNat : Int) = 39) (hd : (s[j + 1].toNat : Int) ≠ 39) (g : Got s j l) : unq (rest s 1) = none := by
  have h1 : s[j] = 39 := UInt8.toNat_inj.1 (by rw [show (39 : UInt8).toNat = 39 from rfl]; omega)
  have h2 : s[j + 1] ≠ 39 := fun e => hd (by rw [e]; rfl)
  rw [Got, rest_cons s j (by omega), rest_cons s (j + 1) (by omega), h1, unq_bad _ _ h2] at g
  rw [g]; rfl
theorem got_end {s : ByteArray} {j : Nat} {l : List UInt8} (h : s.size ≤ j + 1) (g : Got s j l) : unq (rest s 1) = some l := by
  rw [Got, rest_nil s j h] at g
  rw [g]; simp [unq]
/-- A text taken apart; none: it is none between quotes. -/
def unqT (s : ByteArray) : Option (List UInt8) :=
  if h : 2 ≤ s.size then (if (s[0].toNat : Int) = 39 ∧ (s[s.size - 1].toNat : Int) = 39 then unq (rest s 1) else none) else none
def cellsOf (l : List UInt8) : List Value := l.map fun c => Value.int .u8 (c.toNat : Int)
theorem cells_snoc (l : List UInt8) (c : UInt8) : cellsOf (l ++ [c]) = cellsOf l ++ [Value.int .u8 (c.toNat : Int)] := by simp [cellsOf]
end Go.Proofs.YtkoejkpjkcejcabDoor
namespace Go.Proofs.YtkoejkpjkcejcabDoor
open Go.RowKit

theorem info_u8 : (Tryd.prog.info? 5).map (fun i => (i.zero, i.size, i.bytes)) = some (some (.int .u8 0), 1, 1) := by kernel_rfl

theorem rel_app {B : Nat} {l : List UInt8} {c : UInt8} {w wr w1 : World} {v v' : Value} {o : Obj} (hown : wr.ownsRow B 5 1 v l.length (cellsOf l)) (hnx : Below B w wr) (hB : B ≤ wr.heap.size)
    (hown' : w1.ownsRow B 5 1 v' (l.length + 1) (cellsOf l ++ [.int .u8 (c.toNat : Int)])) (hgrow : (wr.alloc o).grownBy w1 v.ownBlock) :
    w1.ownsRow B 5 1 v' (l ++ [c]).length (cellsOf (l ++ [c])) ∧ Below B w w1 :=
  ⟨by rw [cells_snoc, List.length_append]; exact hown', (hnx.alloc hB o).grown hgrow (by simp; omega) (fun j hj => (hown.lt j hj).1)⟩
theorem conv_nil (w : World) : (convert 76 9 (.slice none 0 0)).run Tryd.prog w = .ok (.string ⟨#[]⟩) w := by kernel_rfl
theorem conv_own {B : Nat} {l : List UInt8} {wr : World} {v : Value} (hown : wr.ownsRow B 5 1 v l.length (cellsOf l)) :
    (convert 76 9 v).run Tryd.prog wr = .ok (.string ⟨l.toArray⟩) wr := by
  have h := hown.2
  rcases h with ⟨rfl, hn⟩ | ⟨g, cap, cur, rfl, _, _, _, _, _, _⟩
  · obtain rfl : l = [] := List.length_eq_zero_iff.1 hn
    exact conv_nil wr
  · exact run_convert_bytes_back (P := Tryd.prog) wr 76 9 5 ⟨g, 0, none⟩ cap l Tryd.underlying76 Tryd.underlying5 Tryd.underlying9 (fun j hj => hown.cells (g := g) rfl j _ (by simp [cellsOf, hj]))

end Go.Proofs.YtkoejkpjkcejcabDoor
