/-
  Plain facts on texts: a text between quotes, each quote in it twice, is taken apart again as it was; a number's digits are read as the number.
-/
import Derived.Lib.Replace
import Derived.Lib.AtoiAll
import Derived.Lib.ItoaNum
namespace Go.Proofs.YtnpinbpjfngknaaDoor

/-- Each quote twice. -/
def esc (l : List UInt8) : List UInt8 := l.flatMap fun c => if c = 39 then [39, 39] else [c]
theorem esc_cons (c : UInt8) (l : List UInt8) : esc (c :: l) = (if c = 39 then [39, 39] else [c]) ++ esc l := by simp [esc]
theorem esc_nil : esc [] = [] := rfl

theorem index_ne (c : UInt8) (l : List UInt8) (h : c ≠ 39) : Lib.index (c :: l) [39] = if Lib.index l [39] == -1 then -1 else Lib.index l [39] + 1 := by
  rw [Lib.index, if_neg]
  simp [List.isPrefixOf]
  exact fun e => h e.symm
theorem index_eq (l : List UInt8) : Lib.index (39 :: l) [39] = 0 := by
  rw [Lib.index, if_pos]
  simp [List.isPrefixOf]

theorem replace_ne (c : UInt8) (h : c ≠ 39) (k : Nat) (l : List UInt8) : Lib.replaceK [39] [39, 39] k (c :: l) = c :: Lib.replaceK [39] [39, 39] k l := by
  cases k with
  | zero => rfl
  | succ k =>
    rw [Lib.replaceK, Lib.replaceK, index_ne c l h]
    by_cases hm : Lib.index l [39] = -1
    · simp [hm]
    · have hge := Lib.index_ge l [39]
      have h1 : (Lib.index l [39] == -1) = false := by simpa using hm
      have h2 : (Lib.index l [39] + 1 == -1) = false := by simp; omega
      have h3 : (Lib.index l [39] + 1).toNat = (Lib.index l [39]).toNat + 1 := by omega
      rw [h1]
      simp only [Bool.false_eq_true, if_false]
      rw [h2]
      simp only [Bool.false_eq_true, if_false, h3]
      simp
theorem replace_eq (k : Nat) (l : List UInt8) : Lib.replaceK [39] [39, 39] (k + 1) (39 :: l) = 39 :: 39 :: Lib.replaceK [39] [39, 39] k l := by
  rw [Lib.replaceK, index_eq]
  simp
theorem replace_esc : ∀ (l : List UInt8) (k : Nat), l.count 39 ≤ k → Lib.replaceK [39] [39, 39] k l = esc l
  | [], k, _ => by
    cases k with
    | zero => rfl
    | succ k => rw [Lib.replaceK, Lib.index]; simp [esc]
  | c :: l, k, h => by
    by_cases hc : c = 39
    · subst hc
      rw [List.count_cons_self] at h
      obtain ⟨k', rfl⟩ : ∃ k', k = k' + 1 := ⟨k - 1, by omega⟩
      rw [replace_eq, replace_esc l k' (by omega), esc_cons, if_pos rfl]
      rfl
    · rw [List.count_cons_of_ne hc] at h
      rw [replace_ne c hc, replace_esc l k h, esc_cons, if_neg hc]
      rfl
theorem replaceAll_esc (l : List UInt8) : Lib.replaceAll l [39] [39, 39] = esc l := by
  have h0 : Lib.replaceNum l [39] (-1) = l.count 39 := by rw [Lib.replaceNum, if_pos (Or.inl (by decide)), Lib.count_one]
  rw [Lib.replaceAll, Lib.replace, if_neg (by decide), h0]
  exact replace_esc l _ (Nat.le_refl _)

/-- What stands between the quotes, taken apart; none: quotes do not stand in pairs. -/
def unq : List UInt8 → Option (List UInt8)
  | [] => some []
  | c :: l =>
    if c = 39 then
      match l with
      | [] => none
      | d :: r => if d = 39 then (unq r).map (39 :: ·) else none
    else (unq l).map (c :: ·)
theorem unq_ne (c : UInt8) (l : List UInt8) (h : c ≠ 39) : unq (c :: l) = (unq l).map (c :: ·) := by cases l <;> simp [unq, h]
theorem unq_two (r : List UInt8) : unq (39 :: 39 :: r) = (unq r).map (39 :: ·) := by simp [unq]
theorem unq_bad (d : UInt8) (r : List UInt8) (h : d ≠ 39) : unq (39 :: d :: r) = none := by simp [unq, h]
theorem unq_one : unq [39] = none := by simp [unq]
theorem unq_esc : ∀ l : List UInt8, unq (esc l) = some l
  | [] => by simp [esc, unq]
  | c :: l => by
    rw [esc_cons]
    by_cases hc : c = 39
    · subst hc; simp [unq, unq_esc l]
    · rw [if_neg hc, List.singleton_append, unq_ne c _ hc, unq_esc l]; rfl
theorem esc_of_unq : ∀ (n : Nat) (m l : List UInt8), m.length ≤ n → unq m = some l → m = esc l
  | _, [], l, _, h => by simp [unq] at h; subst h; rfl
  | 0, _ :: _, _, hn, _ => by simp at hn
  | n + 1, c :: m, l, hn, h => by
    by_cases hc : c = 39
    · subst hc
      cases m with
      | nil => simp [unq] at h
      | cons d r =>
        by_cases hd : d = 39
        · subst hd
          simp only [unq, if_true, Option.map_eq_some_iff] at h
          obtain ⟨l', hl, rfl⟩ := h
          rw [esc_cons, if_pos rfl, ← esc_of_unq n r l' (by simp at hn; omega) hl]
          rfl
        · simp [unq, hd] at h
    · rw [unq_ne c m hc, Option.map_eq_some_iff] at h
      obtain ⟨l', hl, rfl⟩ := h
      rw [esc_cons, if_neg hc, ← esc_of_unq n m l' (by simp at hn; omega) hl]
      rfl
theorem unq_len (m l : List UInt8) (h : unq m = some l) : l.length ≤ m.length := by
  rw [esc_of_unq m.length m l (Nat.le_refl _) h]
  clear h
  induction l with
  | nil => simp
  | cons c l ih =>
    rw [esc_cons]
    split <;> simp <;> omega

theorem parse_snoc : ∀ (l : List UInt8) (a u : Nat) (d : Nat), Lib.parseUint10 a l = .ok u → d < 10 → u * 10 + d < 18446744073709551616 → Lib.parseUint10 a (l ++ [UInt8.ofNat (48 + d)]) = .ok (u * 10 + d)
  | [], a, u, d, h, hd, hu => by
    simp only [Lib.parseUint10] at h
    injection h with h
    subst h
    have e : (UInt8.ofNat (48 + d)).toNat = 48 + d := by simp; omega
    simp only [List.nil_append, Lib.parseUint10, e]
    rw [if_pos (by omega), if_neg (by omega), if_neg (by omega), show 48 + d - 48 = d from by omega]
  | c :: r, a, u, d, h, hd, hu => by
    simp only [List.cons_append, Lib.parseUint10] at h ⊢
    split at h
    · rename_i h1
      rw [if_pos h1]
      split at h
      · cases h
      · rename_i h2
        rw [if_neg h2]
        split at h
        · cases h
        · rename_i h3
          rw [if_neg h3]
          exact parse_snoc r _ u d h hd hu
    · cases h
theorem parse_digits : ∀ (k u : Nat), u ≤ k → u < 18446744073709551616 → Lib.parseUint10 0 (Lib.decDigits u) = .ok u
  | k, u, hk, hu => by
    rw [Lib.decDigits]
    by_cases h : u < 10
    · rw [dif_pos h]
      have := parse_snoc [] 0 0 u rfl h (by omega)
      simpa using this
    · rw [dif_neg h]
      cases k with
      | zero => omega
      | succ k =>
        have := parse_snoc (Lib.decDigits (u / 10)) 0 (u / 10) (u % 10) (parse_digits k (u / 10) (by omega) (by omega)) (by omega) (by omega)
        rw [this]
        congr 1
        omega
theorem digits_head : ∀ (k u : Nat), u ≤ k → ∃ c r, Lib.decDigits u = c :: r ∧ 48 ≤ c.toNat ∧ c.toNat ≤ 57
  | k, u, hk => by
    rw [Lib.decDigits]
    by_cases h : u < 10
    · rw [dif_pos h]
      exact ⟨_, _, rfl, by simp; omega, by simp; omega⟩
    · rw [dif_neg h]
      cases k with
      | zero => omega
      | succ k =>
        obtain ⟨c, r, hr, h1, h2⟩ := digits_head k (u / 10) (by omega)
        rw [hr]
        exact ⟨c, _, rfl, h1, h2⟩
theorem itoa_head (n : Int) : ∃ c r, Lib.itoa n = c :: r ∧ (c.toNat = 45 ∨ 48 ≤ c.toNat ∧ c.toNat ≤ 57) := by
  rw [Lib.itoa]
  split
  · exact ⟨_, _, rfl, Or.inl rfl⟩
  · obtain ⟨c, r, hr, h⟩ := digits_head n.toNat n.toNat (Nat.le_refl _)
    exact ⟨c, r, hr, Or.inr h⟩
theorem atoi_itoa (n : Int) (h : -9223372036854775808 ≤ n ∧ n ≤ 9223372036854775807) : Lib.atoiAll (Lib.itoa n) = .ok n := by
  by_cases hn : n < 0
  · rw [Lib.itoa, if_pos hn]
    obtain ⟨c, r, hr, h1, h2⟩ := digits_head n.natAbs n.natAbs (Nat.le_refl _)
    have hp := parse_digits n.natAbs n.natAbs (Nat.le_refl _) (by omega)
    have hm : Lib.parseMag (Lib.decDigits n.natAbs) = .ok n.natAbs := by rw [Lib.parseMag, if_neg (by rw [hr]; simp), hp]
    simp only [Lib.atoiAll]
    rw [if_pos (Or.inr (by decide)), hm]
    simp only []
    rw [if_neg (by simp), if_neg (by omega), if_pos (by decide)]
    congr 1
    omega
  · rw [Lib.itoa, if_neg hn]
    obtain ⟨c, r, hr, h1, h2⟩ := digits_head n.toNat n.toNat (Nat.le_refl _)
    have hp := parse_digits n.toNat n.toNat (Nat.le_refl _) (by omega)
    have hm : Lib.parseMag (Lib.decDigits n.toNat) = .ok n.toNat := by rw [Lib.parseMag, if_neg (by rw [hr]; simp), hp]
    rw [hr] at hm ⊢
    simp only [Lib.atoiAll]
    rw [if_neg (by omega), hm]
    simp only []
    rw [if_neg (by omega), if_neg (by omega), if_neg (by omega)]
    congr 1
    omega
end Go.Proofs.YtnpinbpjfngknaaDoor
