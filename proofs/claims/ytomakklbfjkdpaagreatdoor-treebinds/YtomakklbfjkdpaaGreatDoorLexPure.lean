/-
  Plain facts on the words of a text: how far a text goes on so, which word it begins with, and all of them.
-/
import Derived.Test.YtomakklbfjkdpaaGreatDoorRdFacts
namespace Go.Proofs.YtomakklbfjkdpaaGreatDoor
--BEGIN
def blB (c : UInt8) : Bool := decide ((c.toNat : Int) = 32) || decide ((c.toNat : Int) = 10)
def letB (c : UInt8) : Bool := decide (97 ≤ (c.toNat : Int)) && decide ((c.toNat : Int) ≤ 122)
def ldB (c : UInt8) : Bool := letB c || digB c
/-- How many bytes from the left it is so of. -/
def goN (p : UInt8 → Bool) : List UInt8 → Nat
  | [] => 0
  | c :: l => if p c = true then goN p l + 1 else 0
theorem goN_yes {p : UInt8 → Bool} {c : UInt8} (l : List UInt8) (h : p c = true) : goN p (c :: l) = goN p l + 1 := by rw [goN, if_pos h]
theorem goN_no {p : UInt8 → Bool} {c : UInt8} (l : List UInt8) (h : p c = false) : goN p (c :: l) = 0 := by rw [goN, if_neg (by rw [h]; decide)]
theorem goN_le (p : UInt8 → Bool) : ∀ l : List UInt8, goN p l ≤ l.length
  | [] => Nat.le_refl _
  | c :: l => by
    rw [goN]
    split
    · have := goN_le p l; simp; omega
    · simp
theorem goN_all (p : UInt8 → Bool) : ∀ l : List UInt8, (l.take (goN p l)).all p = true
  | [] => rfl
  | c :: l => by
    by_cases h : p c = true
    · rw [goN_yes l h, List.take_succ_cons, List.all_cons, h, goN_all p l]; rfl
    · rw [goN_no l (by simpa using h)]; rfl
/-- Is it so of the first byte? -/
def hdB (p : UInt8 → Bool) : List UInt8 → Bool
  | [] => false
  | c :: _ => p c
theorem goN_stop (p : UInt8 → Bool) : ∀ l : List UInt8, hdB p (l.drop (goN p l)) = false
  | [] => rfl
  | c :: l => by
    by_cases h : p c = true
    · rw [goN_yes l h, List.drop_succ_cons]; exact goN_stop p l
    · have h' : p c = false := by simpa using h
      rw [goN_no l h', List.drop_zero]; exact h'
theorem goN_app (p : UInt8 → Bool) : ∀ (t r : List UInt8), t.all p = true → hdB p r = false → goN p (t ++ r) = t.length
  | [], [], _, _ => rfl
  | [], c :: r, _, h => goN_no r h
  | c :: t, r, ht, h => by
    rw [List.all_cons, Bool.and_eq_true] at ht
    rw [List.cons_append, goN_yes _ ht.1, goN_app p t r ht.2 h]; rfl
theorem goN_zero (p : UInt8 → Bool) (l : List UInt8) (h : hdB p l = false) : goN p l = 0 := by
  cases l with
  | nil => rfl
  | cons c l => exact goN_no l h
theorem goN_skip (p : UInt8 → Bool) : ∀ (t r : List UInt8), t.all p = true → goN p (t ++ r) = t.length + goN p r
  | [], r, _ => by simp
  | c :: t, r, ht => by
    rw [List.all_cons, Bool.and_eq_true] at ht
    rw [List.cons_append, goN_yes _ ht.1, goN_skip p t r ht.2, List.length_cons]; omega

/-- The signs, a longer one ahead of those with which it begins. -/
def signsL : List (List UInt8) := [[60, 62], [60, 61], [62, 61], [60], [62], [61], [40], [41], [44], [43], [45], [42], [47], [37]]
/-- How many bytes the first sign has with which a text begins; 0: there is none. -/
def sgN : List (List UInt8) → List UInt8 → Nat
  | [], _ => 0
  | g :: gs, l => if Lib.hasPrefix l g = true then g.length else sgN gs l
/-- How many bytes there are up to the end of a Quote, behind its first; none: it does not end. -/
def qscan : List UInt8 → Option Nat
  | [] => none
  | c :: l =>
    if c = 39 then
      match l with
      | [] => some 1
      | d :: r => if d = 39 then (qscan r).map (· + 2) else some 1
    else (qscan l).map (· + 1)
theorem qscan_ne (c : UInt8) (l : List UInt8) (h : c ≠ 39) : qscan (c :: l) = (qscan l).map (· + 1) := by cases l <;> simp [qscan, h]
theorem qscan_two (r : List UInt8) : qscan (39 :: 39 :: r) = (qscan r).map (· + 2) := by simp [qscan]
theorem qscan_end (l : List UInt8) (h : l.head? ≠ some 39) : qscan (39 :: l) = some 1 := by
  cases l with
  | nil => simp [qscan]
  | cons d r => simp at h; simp [qscan, h]
/-- The fault of what stands behind the first byte of a Quote, up to its end. -/
def qE (l : List UInt8) : Int := match rd l with
  | none => 2
  | some x => if plainB x = false then 2 else if 40 < x.length then 4 else 0
/-- How many bytes a Number has, and its fault. -/
def numTok (l : List UInt8) : Nat × Int :=
  if hdB letB (l.drop (goN digB l)) = true ∨ (1 < goN digB l ∧ l.head? = some 48) then (0, 2)
  else if 9223372036854775807 < val10 (l.take (goN digB l)) then (0, 1) else (goN digB l, 0)
/-- How many bytes a Quote has, by what stands behind its first one, and its fault. -/
def quoTok (l : List UInt8) : Nat × Int := match qscan l with
  | none => (0, 2)
  | some k => if qE (l.take k) = 0 then (k + 1, 0) else (0, qE (l.take k))
/-- The kind of the word with which a text begins, how many bytes it has, and its fault. -/
def tokAt : List UInt8 → Int × Nat × Int
  | [] => (4, 0, 2)
  | c :: l =>
    if letB c = true then (1, goN ldB (c :: l), 0)
    else if digB c = true then (2, numTok (c :: l))
    else if c = 39 then (3, quoTok l)
    else (4, sgN signsL (c :: l), if sgN signsL (c :: l) = 0 then 2 else 0)
abbrev Tok := Int × ByteArray × Nat
/-- The words of a text that does not begin with a blank; the fault, and where. -/
def lexN : Nat → Nat → List UInt8 → List Tok × Int × Nat
  | 0, _, _ => ([], 0, 0)
  | f + 1, a, l =>
    if l = [] then ([], 0, 0)
    else if (tokAt l).2.2 ≠ 0 then ([], (tokAt l).2.2, a)
    else
      if (lexN f (a + (tokAt l).2.1 + goN blB (l.drop (tokAt l).2.1)) ((l.drop (tokAt l).2.1).drop (goN blB (l.drop (tokAt l).2.1)))).2.1 = 0 then
        (((tokAt l).1, ⟨(l.take (tokAt l).2.1).toArray⟩, a) :: (lexN f (a + (tokAt l).2.1 + goN blB (l.drop (tokAt l).2.1)) ((l.drop (tokAt l).2.1).drop (goN blB (l.drop (tokAt l).2.1)))).1, 0, 0)
      else ([], (lexN f (a + (tokAt l).2.1 + goN blB (l.drop (tokAt l).2.1)) ((l.drop (tokAt l).2.1).drop (goN blB (l.drop (tokAt l).2.1)))).2)
/-- The words behind those that were read. -/
def lexA (f a : Nat) (l : List UInt8) (acc : List Tok) : List Tok × Int × Nat := if (lexN f a l).2.1 = 0 then (acc ++ (lexN f a l).1, 0, 0) else ([], (lexN f a l).2)
/-- The same, of a text that may begin with blanks. -/
def lexS (f a : Nat) (l : List UInt8) (acc : List Tok) : List Tok × Int × Nat := lexA f (a + goN blB l) (l.drop (goN blB l)) acc
/-- All words of a text. -/
def lexAll (l : List UInt8) : List Tok × Int × Nat := if 400 < l.length then ([], 4, 0) else lexS (l.length + 1) 0 l []
theorem lexA_nil (f a : Nat) (acc : List Tok) : lexA (f + 1) a [] acc = (acc, 0, 0) := by simp [lexA, lexN]
theorem lexA_bad (f a : Nat) (l : List UInt8) (acc : List Tok) (hl : l ≠ []) {k : Int} {n : Nat} {e : Int} (h : tokAt l = (k, n, e)) (he : e ≠ 0) : lexA (f + 1) a l acc = ([], e, a) := by
  have : lexN (f + 1) a l = ([], e, a) := by
    rw [lexN, if_neg hl, h, if_pos he]
  rw [lexA, this, if_neg he]
theorem lexA_tok (f a : Nat) (l : List UInt8) (acc : List Tok) (hl : l ≠ []) {k : Int} {n : Nat} (h : tokAt l = (k, n, 0)) : lexA (f + 1) a l acc = lexS f (a + n) (l.drop n) (acc ++ [(k, ⟨(l.take n).toArray⟩, a)]) := by
  have hN : lexN (f + 1) a l = if (lexN f (a + n + goN blB (l.drop n)) ((l.drop n).drop (goN blB (l.drop n)))).2.1 = 0 then ((k, ⟨(l.take n).toArray⟩, a) :: (lexN f (a + n + goN blB (l.drop n)) ((l.drop n).drop (goN blB (l.drop n)))).1, 0, 0) else ([], (lexN f (a + n + goN blB (l.drop n)) ((l.drop n).drop (goN blB (l.drop n)))).2) := by
    rw [lexN, if_neg hl, h, if_neg (by simp)]
  rw [lexS, lexA, lexA, hN]
  generalize lexN f (a + n + goN blB (l.drop n)) ((l.drop n).drop (goN blB (l.drop n))) = R
  by_cases h0 : R.2.1 = 0
  · simp only [if_pos h0, if_true, List.append_assoc, List.singleton_append]
  · simp only [if_neg h0]
theorem lexS_blank (f a : Nat) (c : UInt8) (l : List UInt8) (acc : List Tok) (h : blB c = true) : lexS f a (c :: l) acc = lexS f (a + 1) l acc := by
  rw [lexS, lexS, goN_yes l h, List.drop_succ_cons, show a + (goN blB l + 1) = a + 1 + goN blB l from by omega]
theorem lexS_no (f a : Nat) (l : List UInt8) (acc : List Tok) (h : hdB blB l = false) : lexS f a l acc = lexA f a l acc := by
  rw [lexS, goN_zero _ _ h]; rfl
theorem lexS_nil (f a : Nat) (acc : List Tok) : lexS (f + 1) a [] acc = (acc, 0, 0) := by rw [lexS_no _ _ _ _ rfl, lexA_nil]

theorem sgN_mem : ∀ (gs : List (List UInt8)) (l : List UInt8), sgN gs l ≠ 0 → ∃ g ∈ gs, Lib.hasPrefix l g = true ∧ sgN gs l = g.length
  | [], _, h => absurd rfl h
  | g :: gs, l, h => by
    rw [sgN] at h ⊢
    by_cases hp : Lib.hasPrefix l g = true
    · rw [if_pos hp]; exact ⟨g, List.mem_cons_self, hp, rfl⟩
    · rw [if_neg hp] at h ⊢
      obtain ⟨g', hm, h1, h2⟩ := sgN_mem gs l h
      exact ⟨g', List.mem_cons_of_mem _ hm, h1, h2⟩
theorem qscan_le : ∀ (n : Nat) (l : List UInt8) (k : Nat), l.length ≤ n → qscan l = some k → 1 ≤ k ∧ k ≤ l.length
  | _, [], k, _, h => by simp [qscan] at h
  | 0, _ :: _, _, hn, _ => by simp at hn
  | n + 1, c :: l, k, hn, h => by
    by_cases hc : c = 39
    · subst hc
      cases l with
      | nil => simp [qscan] at h; subst h; simp
      | cons d r =>
        by_cases hd : d = 39
        · subst hd
          rw [qscan_two, Option.map_eq_some_iff] at h
          obtain ⟨j, hj, rfl⟩ := h
          have := qscan_le n r j (by simp at hn; omega) hj
          simp; omega
        · rw [qscan_end _ (by simpa using hd)] at h
          cases h; simp
    · rw [qscan_ne c l hc, Option.map_eq_some_iff] at h
      obtain ⟨j, hj, rfl⟩ := h
      have := qscan_le n l j (by simp at hn; omega) hj
      simp; omega
theorem hasPre_len {l g : List UInt8} (h : Lib.hasPrefix l g = true) : g.length ≤ l.length ∧ l.take g.length = g := by
  have : g <+: l := List.isPrefixOf_iff_prefix.1 h
  exact ⟨this.length_le, (List.prefix_iff_eq_take.1 this).symm⟩
/-- A word that is right has a byte, and no more than there are. -/
theorem tokAt_len {l : List UInt8} {k : Int} {n : Nat} (h : tokAt l = (k, n, 0)) : 1 ≤ n ∧ n ≤ l.length := by
  cases l with
  | nil => simp [tokAt] at h
  | cons c l =>
    rw [tokAt] at h
    split at h
    · rename_i hc
      cases h
      have : ldB c = true := by simp [ldB, hc]
      rw [goN_yes l this]
      have := goN_le ldB l
      simp; omega
    · split at h
      · rename_i hd
        injection h with _ h
        rw [numTok] at h
        split at h
        · cases h
        · split at h
          · cases h
          · cases h
            rw [goN_yes l hd]
            have := goN_le digB l
            simp; omega
      · split at h
        · injection h with _ h
          rw [quoTok] at h
          split at h
          · cases h
          · rename_i j hj
            split at h
            · cases h
              have := qscan_le _ l j (Nat.le_refl _) hj
              simp; omega
            · rename_i h0
              exact absurd (Prod.mk.inj h).2 h0
        · injection h with _ h
          injection h with h1 h2
          subst h1
          have hne : sgN signsL (c :: l) ≠ 0 := fun e => by rw [if_pos e] at h2; cases h2
          obtain ⟨g, hm, hp, hl⟩ := sgN_mem _ _ hne
          rw [hl]
          have := (hasPre_len hp).1
          exact ⟨by omega, this⟩
theorem tokAt_fault {l : List UInt8} : (tokAt l).2.2 = 0 ∨ (tokAt l).2.2 = 1 ∨ (tokAt l).2.2 = 2 ∨ (tokAt l).2.2 = 4 := by
  have hq : ∀ x, qE x = 0 ∨ qE x = 2 ∨ qE x = 4 := fun x => by
    rw [qE]
    split
    · simp
    · split
      · simp
      · split <;> simp
  cases l with
  | nil => simp [tokAt]
  | cons c l =>
    rw [tokAt]
    split
    · simp
    · split
      · rw [numTok]
        split
        · simp
        · split <;> simp
      · split
        · rw [quoTok]
          split
          · simp
          · rename_i j _
            have := hq (l.take j)
            split
            · simp
            · simp only; omega
        · simp only
          split <;> simp
--END
end Go.Proofs.YtomakklbfjkdpaaGreatDoor
