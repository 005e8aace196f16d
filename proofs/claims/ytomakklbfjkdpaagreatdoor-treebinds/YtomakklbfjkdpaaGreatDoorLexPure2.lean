/-
  Plain facts on the words of a text: where they stand; and that, with blanks between, they are the same words.
-/
import Derived.Test.YtomakklbfjkdpaaGreatDoorLexPure
namespace Go.Proofs.YtomakklbfjkdpaaGreatDoor
--BEGIN
/-- Does a text begin with a blank, if it begins at all? -/
def sepB : List UInt8 → Bool
  | [] => true
  | c :: _ => blB c
theorem bl_cases {c : UInt8} (h : blB c = true) : c = 32 ∨ c = 10 := by
  simp only [blB, Bool.or_eq_true, decide_eq_true_eq] at h
  rcases h with h | h
  · exact Or.inl (UInt8.toNat_inj.1 (by rw [show (32 : UInt8).toNat = 32 from rfl]; omega))
  · exact Or.inr (UInt8.toNat_inj.1 (by rw [show (10 : UInt8).toNat = 10 from rfl]; omega))
theorem sep_hd (p : UInt8 → Bool) (h32 : p 32 = false) (h10 : p 10 = false) : ∀ r : List UInt8, sepB r = true → hdB p r = false
  | [], _ => rfl
  | c :: r, h => by
    rcases bl_cases h with rfl | rfl
    · exact h32
    · exact h10
theorem sign_again : ∀ g ∈ signsL, ∀ r : List UInt8, sepB r = true → sgN signsL (g ++ r) = g.length := by
  intro g hg r hr
  have key : r = [] ∨ (∃ q, r = 32 :: q) ∨ ∃ q, r = 10 :: q := by
    cases r with
    | nil => exact Or.inl rfl
    | cons c q =>
      rcases bl_cases hr with rfl | rfl
      · exact Or.inr (Or.inl ⟨q, rfl⟩)
      · exact Or.inr (Or.inr ⟨q, rfl⟩)
  simp only [signsL, List.mem_cons, List.not_mem_nil, or_false] at hg
  rcases key with rfl | ⟨q, rfl⟩ | ⟨q, rfl⟩ <;> rcases hg with rfl | rfl | rfl | rfl | rfl | rfl | rfl | rfl | rfl | rfl | rfl | rfl | rfl | rfl <;> simp [signsL, sgN, Lib.hasPrefix, List.isPrefixOf]
theorem qscan_again : ∀ (n : Nat) (l : List UInt8) (k : Nat) (r : List UInt8), l.length ≤ n → qscan l = some k → sepB r = true → qscan (l.take k ++ r) = some k
  | _, [], k, _, _, h, _ => by simp [qscan] at h
  | 0, _ :: _, _, _, hn, _, _ => by simp at hn
  | n + 1, c :: l, k, r, hn, h, hr => by
    by_cases hc : c = 39
    · subst hc
      have stop : qscan (39 :: r) = some 1 := qscan_end r (by
        cases r with
        | nil => simp
        | cons d q => rcases bl_cases hr with rfl | rfl <;> simp)
      cases l with
      | nil => simp [qscan] at h; subst h; exact stop
      | cons d q =>
        by_cases hd : d = 39
        · subst hd
          rw [qscan_two, Option.map_eq_some_iff] at h
          obtain ⟨j, hj, rfl⟩ := h
          have := qscan_again n q j r (by simp at hn; omega) hj hr
          rw [show (39 :: 39 :: q).take (j + 2) ++ r = 39 :: 39 :: (q.take j ++ r) from by simp, qscan_two, this]; rfl
        · rw [qscan_end _ (by simpa using hd)] at h
          cases h; exact stop
    · rw [qscan_ne c l hc, Option.map_eq_some_iff] at h
      obtain ⟨j, hj, rfl⟩ := h
      have := qscan_again n l j r (by simp at hn; omega) hj hr
      rw [show (c :: l).take (j + 1) ++ r = c :: (l.take j ++ r) from by simp, qscan_ne _ _ hc, this]; rfl
theorem take_len {l : List UInt8} {n : Nat} (h : n ≤ l.length) : (l.take n).length = n := by rw [List.length_take]; omega
/-- A word that is right is the same word ahead of a blank, or of nothing. -/
theorem tok_again {l : List UInt8} {k : Int} {n : Nat} (h : tokAt l = (k, n, 0)) (r : List UInt8) (hr : sepB r = true) : tokAt (l.take n ++ r) = (k, n, 0) := by
  obtain ⟨hn1, hn2⟩ := tokAt_len h
  have hlen := take_len hn2
  cases l with
  | nil => simp at hn2; omega
  | cons c l =>
    obtain ⟨m, rfl⟩ : ∃ m, n = m + 1 := ⟨n - 1, by omega⟩
    have hcons : (c :: l).take (m + 1) ++ r = c :: (l.take m ++ r) := by simp
    rw [hcons, tokAt]
    rw [tokAt] at h
    by_cases hc : letB c = true
    · rw [if_pos hc] at h ⊢
      injection h with h1 h
      injection h with h2 h3
      have ha := goN_all ldB (c :: l)
      rw [h2] at ha
      rw [← hcons, goN_app ldB _ r ha (sep_hd _ (by decide) (by decide) r hr), hlen, h1]
    · rw [if_neg hc] at h ⊢
      by_cases hd : digB c = true
      · rw [if_pos hd] at h ⊢
        injection h with h1 h
        rw [numTok] at h
        split at h
        · cases h
        · rename_i hz
          split at h
          · cases h
          · rename_i hv
            injection h with h2 h3
            rw [h2] at hz hv
            have ha := goN_all digB (c :: l)
            rw [h2] at ha
            have hg : goN digB (c :: (l.take m ++ r)) = m + 1 := by rw [← hcons, goN_app digB _ r ha (sep_hd _ (by decide) (by decide) r hr), hlen]
            have hdr : (c :: (l.take m ++ r)).drop (m + 1) = r := by
              rw [← hcons, List.drop_append_of_le_length (by omega), List.drop_of_length_le (by omega), List.nil_append]
            have htk : (c :: (l.take m ++ r)).take (m + 1) = (c :: l).take (m + 1) := by
              rw [← hcons, List.take_append_of_le_length (by omega), List.take_take, Nat.min_self]
            rw [numTok, hg, hdr, htk, if_neg, if_neg hv, h1]
            rintro (e | e)
            · rw [sep_hd letB (by decide) (by decide) r hr] at e; cases e
            · exact hz (Or.inr e)
      · rw [if_neg hd] at h ⊢
        by_cases hq : c = 39
        · rw [if_pos hq] at h ⊢
          injection h with h1 h
          rw [quoTok] at h
          split at h
          · cases h
          · rename_i j hj
            split at h
            · rename_i he
              injection h with h2 h3
              obtain rfl : j = m := by omega
              have hj2 := (qscan_le _ l j (Nat.le_refl _) hj).2
              have htk : (l.take j ++ r).take j = l.take j := by
                rw [List.take_append_of_le_length (by rw [take_len hj2]; omega), List.take_take, Nat.min_self]
              rw [quoTok, qscan_again _ l j r (Nat.le_refl _) hj hr]
              simp only
              rw [htk, if_pos he, h1]
            · rename_i h0
              exact absurd (Prod.mk.inj h).2 h0
        · rw [if_neg hq] at h ⊢
          injection h with h1 h
          injection h with h2 h3
          have hne : sgN signsL (c :: l) ≠ 0 := by omega
          obtain ⟨g, hm, hp, hl⟩ := sgN_mem _ _ hne
          have hg := (hasPre_len hp).2
          rw [← hl, h2] at hg
          have := sign_again g hm r hr
          rw [← hcons, hg, this, ← hl, h2, h1, if_neg (by omega)]
theorem tok_blank {c : UInt8} {l : List UInt8} (h : blB c = true) : (tokAt (c :: l)).2.2 ≠ 0 := by
  rcases bl_cases h with rfl | rfl
  · simp [tokAt, letB, digB, signsL, sgN, Lib.hasPrefix, List.isPrefixOf]
  · simp [tokAt, letB, digB, signsL, sgN, Lib.hasPrefix, List.isPrefixOf]
/-- A word that stays one, ahead of a blank or of nothing. -/
structure Good (k : Int) (t : List UInt8) : Prop where
  ne : t ≠ []
  hd : hdB blB t = false
  again : ∀ r : List UInt8, sepB r = true → tokAt (t ++ r) = (k, t.length, 0)
theorem good_tok {l : List UInt8} {k : Int} {n : Nat} (h : tokAt l = (k, n, 0)) : Good k (l.take n) := by
  obtain ⟨hn1, hn2⟩ := tokAt_len h
  have hlen := take_len hn2
  refine ⟨fun e => by rw [e] at hlen; simp at hlen; omega, ?_, fun r hr => by rw [hlen]; exact tok_again h r hr⟩
  cases l with
  | nil => simp at hn2; omega
  | cons c l =>
    obtain ⟨m, rfl⟩ : ∃ m, n = m + 1 := ⟨n - 1, by omega⟩
    rw [List.take_succ_cons]
    cases hb : blB c with
    | false => exact hb
    | true => exact absurd (by rw [h]) (tok_blank (l := l) hb)
/-- Blanks behind each, at least one but behind the last. -/
def Seps : List (Int × List UInt8 × List UInt8) → Prop
  | [] => True
  | p :: ps => p.2.2.all blB = true ∧ (ps ≠ [] → p.2.2 ≠ []) ∧ Seps ps
def sepT (ps : List (Int × List UInt8 × List UInt8)) : List UInt8 := ps.flatMap fun p => p.2.1 ++ p.2.2
theorem sepT_cons (p : Int × List UInt8 × List UInt8) (ps : List (Int × List UInt8 × List UInt8)) : sepT (p :: ps) = p.2.1 ++ (p.2.2 ++ sepT ps) := by simp [sepT]
theorem sepT_hd : ∀ ps : List (Int × List UInt8 × List UInt8), (∀ p ∈ ps, Good p.1 p.2.1) → hdB blB (sepT ps) = false
  | [], _ => rfl
  | p :: ps, h => by
    have g := h p List.mem_cons_self
    rw [sepT_cons]
    have h1 := g.ne
    have h2 := g.hd
    cases ht : p.2.1 with
    | nil => exact absurd ht h1
    | cons c t => rw [ht] at h2; exact h2
theorem relex : ∀ (ps : List (Int × List UInt8 × List UInt8)) (f a : Nat), ps.length < f → (∀ p ∈ ps, Good p.1 p.2.1) → Seps ps →
    ∃ ts, lexN f a (sepT ps) = (ts, 0, 0) ∧ ts.map (fun t => (t.1, t.2.1.data.toList)) = ps.map (fun p => (p.1, p.2.1))
  | [], f, a, hf, _, _ => by
    obtain ⟨g, rfl⟩ : ∃ g, f = g + 1 := ⟨f - 1, by simp at hf; omega⟩
    exact ⟨[], by simp [sepT, lexN], rfl⟩
  | p :: ps, f, a, hf, hg, hs => by
    obtain ⟨g, rfl⟩ : ∃ g, f = g + 1 := ⟨f - 1, by simp at hf; omega⟩
    obtain ⟨hb, hne, hrest⟩ := hs
    have G := hg p List.mem_cons_self
    have hsep : sepB (p.2.2 ++ sepT ps) = true := by
      cases hp : p.2.2 with
      | nil =>
        have : ps = [] := Classical.byContradiction fun e => hne e hp
        subst this; rfl
      | cons c q => rw [hp, List.all_cons, Bool.and_eq_true] at hb; exact hb.1
    have htok := G.again _ hsep
    have hgo : goN blB (p.2.2 ++ sepT ps) = p.2.2.length := by
      rw [goN_skip blB _ _ hb, goN_zero _ _ (sepT_hd ps (fun q hq => hg q (List.mem_cons_of_mem _ hq)))]; rfl
    have hd1 : (p.2.1 ++ (p.2.2 ++ sepT ps)).drop p.2.1.length = p.2.2 ++ sepT ps := List.drop_left
    have hd2 : (p.2.2 ++ sepT ps).drop p.2.2.length = sepT ps := List.drop_left
    have ht1 : (p.2.1 ++ (p.2.2 ++ sepT ps)).take p.2.1.length = p.2.1 := List.take_left
    obtain ⟨ts, h1, h2⟩ := relex ps g (a + p.2.1.length + p.2.2.length) (by simp at hf; omega) (fun q hq => hg q (List.mem_cons_of_mem _ hq)) hrest
    refine ⟨(p.1, ⟨p.2.1.toArray⟩, a) :: ts, ?_, ?_⟩
    · rw [sepT_cons, lexN, if_neg (by simp [G.ne]), htok, if_neg (by simp)]
      simp only
      rw [hd1, hgo, hd2, h1, ht1]
      simp
    · rw [List.map_cons, List.map_cons, h2]
/-- Words stand in a text, in their order, from p on, with blanks between. -/
def Stand (s : List UInt8) : Nat → List Tok → Prop
  | p, [] => ∀ c ∈ s.drop p, blB c = true
  | p, t :: ts => p ≤ t.2.2 ∧ t.2.2 + t.2.1.size ≤ s.length ∧ 0 < t.2.1.size ∧ (∀ c ∈ (s.drop p).take (t.2.2 - p), blB c = true) ∧ (s.drop t.2.2).take t.2.1.size = t.2.1.data.toList ∧ Stand s (t.2.2 + t.2.1.size) ts
theorem size_arr (l : List UInt8) : (⟨l.toArray⟩ : ByteArray).size = l.length := by rw [Lib.size_eq]
theorem lexN_ok {f a : Nat} {l : List UInt8} {ts : List Tok} {p : Nat} (h : lexN (f + 1) a l = (ts, 0, p)) :
    (l = [] ∧ ts = []) ∨ ∃ (k : Int) (n : Nat) (us : List Tok) (q : Nat), l ≠ [] ∧ tokAt l = (k, n, 0) ∧ lexN f (a + n + goN blB (l.drop n)) ((l.drop n).drop (goN blB (l.drop n))) = (us, 0, q) ∧ ts = (k, ⟨(l.take n).toArray⟩, a) :: us := by
  rw [lexN] at h
  split at h
  · rename_i hl
    cases h
    exact Or.inl ⟨hl, rfl⟩
  · rename_i hl
    obtain ⟨k, n, e, ht⟩ : ∃ k n e, tokAt l = (k, n, e) := ⟨_, _, _, rfl⟩
    rw [ht] at h
    simp only at h
    split at h
    · rename_i he
      injection h with _ h
      injection h with h _
      exact absurd h he
    · rename_i he
      obtain rfl : e = 0 := Classical.byContradiction he
      obtain ⟨us, e2, q, hr⟩ : ∃ us e2 q, lexN f (a + n + goN blB (l.drop n)) ((l.drop n).drop (goN blB (l.drop n))) = (us, e2, q) := ⟨_, _, _, rfl⟩
      rw [hr] at h
      simp only at h
      split at h
      · rename_i h0
        subst h0
        cases h
        exact Or.inr ⟨k, n, us, q, hl, ht, hr, rfl⟩
      · rename_i h0
        injection h with _ h
        injection h with h _
        exact absurd h h0
theorem lexN_stand (s : List UInt8) : ∀ (f a p : Nat) (ts : List Tok) (q : Nat), p ≤ a → a ≤ s.length → (s.drop a).length < f → (∀ c ∈ (s.drop p).take (a - p), blB c = true) → lexN f a (s.drop a) = (ts, 0, q) → Stand s p ts
  | 0, _, _, _, _, _, _, hf, _, _ => by omega
  | f + 1, a, p, ts, q, hpa, has, hf, hb, h => by
    rcases lexN_ok h with ⟨hl, rfl⟩ | ⟨k, n, us, q', hl, ht, hr, rfl⟩
    · show ∀ c ∈ s.drop p, blB c = true
      have hlen : (s.drop p).length ≤ a - p := by
        have : (s.drop a).length = 0 := by rw [hl]; rfl
        rw [List.length_drop] at this ⊢; omega
      rwa [List.take_of_length_le hlen] at hb
    · obtain ⟨hn1, hn2⟩ := tokAt_len ht
      have hz : (⟨((s.drop a).take n).toArray⟩ : ByteArray).size = n := by rw [size_arr, take_len hn2]
      rw [List.length_drop] at hn2 hf
      refine ⟨hpa, by rw [hz]; simp only; omega, by rw [hz]; omega, hb, by rw [hz], ?_⟩
      simp only
      rw [hz]
      have hg := goN_le blB ((s.drop a).drop n)
      rw [List.drop_drop] at hr hg
      rw [List.drop_drop] at hr
      rw [List.length_drop] at hg
      refine lexN_stand s f (a + n + goN blB (s.drop (a + n))) (a + n) us q' (by omega) (by omega) (by rw [List.length_drop]; omega) ?_ hr
      rw [show a + n + goN blB (s.drop (a + n)) - (a + n) = goN blB (s.drop (a + n)) from by omega]
      have := goN_all blB (s.drop (a + n))
      rwa [List.all_eq_true] at this
theorem lexN_good : ∀ (f a : Nat) (l : List UInt8) (ts : List Tok) (q : Nat), lexN f a l = (ts, 0, q) → ∀ t ∈ ts, Good t.1 t.2.1.data.toList
  | 0, _, _, ts, _, h => by
    simp [lexN] at h
    obtain ⟨rfl, _⟩ := h
    simp
  | f + 1, a, l, ts, q, h => by
    rcases lexN_ok h with ⟨hl, rfl⟩ | ⟨k, n, us, q', hl, ht, hr, rfl⟩
    · simp
    · intro t hm
      rcases List.mem_cons.1 hm with rfl | hm
      · exact good_tok ht
      · exact lexN_good f _ _ us q' hr t hm
theorem lexN_bad : ∀ (f a : Nat) (l : List UInt8) (ts : List Tok) (e : Int) (q : Nat), lexN f a l = (ts, e, q) → e ≠ 0 → ts = [] ∧ q ≤ a + l.length ∧ (e = 1 ∨ e = 2 ∨ e = 4)
  | 0, _, _, ts, e, _, h, he => by simp [lexN] at h; exact absurd h.2.1.symm he
  | f + 1, a, l, ts, e, q, h, he => by
    rw [lexN] at h
    split at h
    · cases h; exact absurd rfl he
    · obtain ⟨k, n, e1, ht⟩ : ∃ k n e, tokAt l = (k, n, e) := ⟨_, _, _, rfl⟩
      have hfa := tokAt_fault (l := l)
      rw [ht] at h hfa
      simp only at h hfa
      split at h
      · cases h
        exact ⟨rfl, by omega, by omega⟩
      · rename_i he1
        obtain rfl : e1 = 0 := Classical.byContradiction he1
        obtain ⟨hn1, hn2⟩ := tokAt_len ht
        obtain ⟨us, e2, q2, hr⟩ : ∃ us e2 q, lexN f (a + n + goN blB (l.drop n)) ((l.drop n).drop (goN blB (l.drop n))) = (us, e2, q) := ⟨_, _, _, rfl⟩
        rw [hr] at h
        simp only at h
        split at h
        · cases h; exact absurd rfl he
        · rename_i h0
          obtain ⟨ht0, h⟩ := Prod.mk.inj h
          obtain ⟨rfl, rfl⟩ := Prod.mk.inj h
          obtain ⟨_, h1, h2⟩ := lexN_bad f _ _ us _ _ hr h0
          have hg := goN_le blB (l.drop n)
          rw [List.length_drop] at h1 hg
          rw [List.length_drop] at h1
          exact ⟨ht0.symm, by omega, h2⟩
theorem stand_small (s : List UInt8) : ∀ (ts : List Tok) (p : Nat), p ≤ s.length → Stand s p ts → ts.length ≤ s.length - p ∧ ∀ t ∈ ts, t.2.1.size ≤ s.length ∧ t.2.2 ≤ s.length
  | [], p, _, _ => ⟨Nat.zero_le _, by simp⟩
  | t :: ts, p, hp, h => by
    obtain ⟨h1, h2, h3, _, _, h6⟩ := h
    obtain ⟨i1, i2⟩ := stand_small s ts _ h2 h6
    refine ⟨by rw [List.length_cons]; omega, fun u hu => ?_⟩
    rcases List.mem_cons.1 hu with rfl | hu
    · exact ⟨by omega, by omega⟩
    · exact i2 u hu
/-- All words that come of a text: what is to be known of them. -/
theorem lexAll_ok {s : List UInt8} {ts : List Tok} {q : Nat} (h : lexAll s = (ts, 0, q)) : s.length ≤ 400 ∧ q = 0 ∧ Stand s 0 ts ∧ (∀ t ∈ ts, Good t.1 t.2.1.data.toList) := by
  rw [lexAll] at h
  split at h
  · cases h
  · rename_i hl
    rw [lexS, lexA] at h
    obtain ⟨us, e2, q2, hr⟩ : ∃ us e2 q, lexN (s.length + 1) (0 + goN blB s) (s.drop (goN blB s)) = (us, e2, q) := ⟨_, _, _, rfl⟩
    rw [hr] at h
    simp only at h
    split at h
    · rename_i h0
      subst h0
      simp only [List.nil_append] at h
      cases h
      refine ⟨by omega, rfl, ?_, lexN_good _ _ _ _ _ hr⟩
      have hg := goN_le blB s
      rw [Nat.zero_add] at hr
      refine lexN_stand s _ _ 0 ts q2 (Nat.zero_le _) hg (by rw [List.length_drop]; omega) ?_ hr
      rw [List.drop_zero, Nat.sub_zero]
      have := goN_all blB s
      rwa [List.all_eq_true] at this
    · rename_i h0
      exact absurd (Prod.mk.inj (Prod.mk.inj h).2).1 h0
theorem lexAll_bad {s : List UInt8} {ts : List Tok} {e : Int} {q : Nat} (h : lexAll s = (ts, e, q)) (he : e ≠ 0) : ts = [] ∧ q ≤ s.length ∧ (e = 1 ∨ e = 2 ∨ e = 4) := by
  rw [lexAll] at h
  split at h
  · cases h
    exact ⟨rfl, by omega, by omega⟩
  · rename_i hl
    rw [lexS, lexA] at h
    obtain ⟨us, e2, q2, hr⟩ : ∃ us e2 q, lexN (s.length + 1) (0 + goN blB s) (s.drop (goN blB s)) = (us, e2, q) := ⟨_, _, _, rfl⟩
    rw [hr] at h
    simp only at h
    split at h
    · cases h; exact absurd rfl he
    · rename_i h0
      obtain ⟨ht0, h⟩ := Prod.mk.inj h
      obtain ⟨rfl, rfl⟩ := Prod.mk.inj h
      obtain ⟨_, h1, h2⟩ := lexN_bad _ _ _ us _ _ hr h0
      have hg := goN_le blB s
      rw [List.length_drop] at h1
      exact ⟨ht0.symm, by omega, h2⟩
theorem lexAll_full {s : List UInt8} (h : 400 < s.length) : lexAll s = ([], 4, 0) := by rw [lexAll, if_pos h]
theorem sepT_len : ∀ ps : List (Int × List UInt8 × List UInt8), (∀ p ∈ ps, Good p.1 p.2.1) → ps.length ≤ (sepT ps).length
  | [], _ => Nat.le_refl _
  | p :: ps, h => by
    have i := sepT_len ps (fun q hq => h q (List.mem_cons_of_mem _ hq))
    have g := (h p List.mem_cons_self).ne
    have : p.2.1.length ≠ 0 := fun e => g (List.length_eq_zero_iff.1 e)
    rw [sepT_cons, List.length_append, List.length_append, List.length_cons]; omega
/-- With blanks ahead and between, the words are the same, if there are not too many bytes. -/
theorem lexAll_again (bs : List UInt8) (ps : List (Int × List UInt8 × List UInt8)) (hb : bs.all blB = true) (hg : ∀ p ∈ ps, Good p.1 p.2.1) (hs : Seps ps) (hl : (bs ++ sepT ps).length ≤ 400) :
    ∃ ts, lexAll (bs ++ sepT ps) = (ts, 0, 0) ∧ ts.map (fun t => (t.1, t.2.1.data.toList)) = ps.map (fun p => (p.1, p.2.1)) := by
  have hgo : goN blB (bs ++ sepT ps) = bs.length := by rw [goN_skip blB _ _ hb, goN_zero _ _ (sepT_hd ps hg)]; rfl
  have hn := sepT_len ps hg
  obtain ⟨ts, h1, h2⟩ := relex ps ((bs ++ sepT ps).length + 1) (0 + bs.length) (by rw [List.length_append]; omega) hg hs
  refine ⟨ts, ?_, h2⟩
  rw [lexAll, if_neg (by omega), lexS, lexA, hgo, List.drop_left, h1]
  simp
/-- The texts of words, a blank between. -/
def joinL : List Tok → List UInt8
  | [] => []
  | t :: ts => t.2.1.data.toList ++ (if ts = [] then [] else 32 :: joinL ts)
theorem joinL_snoc : ∀ (ts : List Tok) (t : Tok), joinL (ts ++ [t]) = (if ts = [] then [] else joinL ts ++ [32]) ++ t.2.1.data.toList
  | [], t => by simp [joinL]
  | u :: us, t => by
    rw [List.cons_append, joinL, if_neg (by simp), joinL_snoc us t, joinL]
    cases us with
    | nil => simp
    | cons v vs => simp
/-- The texts of words, two blanks behind each. -/
def spacL (ts : List Tok) : List UInt8 := ts.flatMap fun t => t.2.1.data.toList ++ [32, 32]
theorem spacL_snoc (ts : List Tok) (t : Tok) : spacL (ts ++ [t]) = spacL ts ++ (t.2.1.data.toList ++ [32, 32]) := by simp [spacL]
def joinP : List Tok → List (Int × List UInt8 × List UInt8)
  | [] => []
  | t :: ts => (t.1, t.2.1.data.toList, if ts = [] then [] else [32]) :: joinP ts
theorem joinP_facts : ∀ ts : List Tok, sepT (joinP ts) = joinL ts ∧ Seps (joinP ts) ∧ (joinP ts).map (fun p => (p.1, p.2.1)) = ts.map (fun t => (t.1, t.2.1.data.toList))
  | [] => ⟨rfl, trivial, rfl⟩
  | t :: ts => by
    obtain ⟨h1, h2, h3⟩ := joinP_facts ts
    refine ⟨?_, ⟨?_, ?_, h2⟩, ?_⟩
    · rw [joinP, sepT_cons, h1, joinL]
      cases ts with
      | nil => simp [joinL]
      | cons u us => simp
    · cases ts with
      | nil => simp
      | cons u us => simp [blB]
    · cases ts with
      | nil => intro h; exact absurd rfl h
      | cons u us => intro _; simp
    · rw [joinP, List.map_cons, List.map_cons, h3]
def spacP (ts : List Tok) : List (Int × List UInt8 × List UInt8) := ts.map fun t => (t.1, t.2.1.data.toList, [32, 32])
theorem spacP_facts : ∀ ts : List Tok, sepT (spacP ts) = spacL ts ∧ Seps (spacP ts) ∧ (spacP ts).map (fun p => (p.1, p.2.1)) = ts.map (fun t => (t.1, t.2.1.data.toList))
  | [] => ⟨rfl, trivial, rfl⟩
  | t :: ts => by
    obtain ⟨h1, h2, h3⟩ := spacP_facts ts
    refine ⟨?_, ⟨by simp [blB], by intro _; simp, h2⟩, ?_⟩
    · rw [spacP, List.map_cons, sepT_cons, ← spacP, h1]; simp [spacL]
    · rw [spacP, List.map_cons, ← spacP, List.map_cons, List.map_cons, h3]
theorem good_of_map {ps : List (Int × List UInt8 × List UInt8)} {ts : List Tok} (h : ps.map (fun p => (p.1, p.2.1)) = ts.map (fun t => (t.1, t.2.1.data.toList))) (hg : ∀ t ∈ ts, Good t.1 t.2.1.data.toList) : ∀ p ∈ ps, Good p.1 p.2.1 := by
  intro p hp
  have : (p.1, p.2.1) ∈ ts.map (fun t => (t.1, t.2.1.data.toList)) := by rw [← h]; exact List.mem_map.2 ⟨p, hp, rfl⟩
  obtain ⟨t, ht, he⟩ := List.mem_map.1 this
  injection he with h1 h2
  rw [← h1, ← h2]; exact hg t ht
/-- Joined, they are the same words. -/
theorem join_back {ts : List Tok} (hg : ∀ t ∈ ts, Good t.1 t.2.1.data.toList) (hl : (joinL ts).length ≤ 400) :
    ∃ us, lexAll (joinL ts) = (us, 0, 0) ∧ us.map (fun t => (t.1, t.2.1.data.toList)) = ts.map (fun t => (t.1, t.2.1.data.toList)) := by
  obtain ⟨h1, h2, h3⟩ := joinP_facts ts
  obtain ⟨us, e1, e2⟩ := lexAll_again [] (joinP ts) rfl (good_of_map h3 hg) h2 (by rw [h1]; exact hl)
  rw [List.nil_append, h1] at e1
  exact ⟨us, e1, e2.trans h3⟩
/-- With blanks ahead, and two behind each, they are the same words. -/
theorem spac_back {ts : List Tok} (hg : ∀ t ∈ ts, Good t.1 t.2.1.data.toList) (hl : ([10, 32] ++ spacL ts).length ≤ 400) :
    ∃ us, lexAll ([10, 32] ++ spacL ts) = (us, 0, 0) ∧ us.map (fun t => (t.1, t.2.1.data.toList)) = ts.map (fun t => (t.1, t.2.1.data.toList)) := by
  obtain ⟨h1, h2, h3⟩ := spacP_facts ts
  obtain ⟨us, e1, e2⟩ := lexAll_again [10, 32] (spacP ts) (by decide) (good_of_map h3 hg) h2 (by rw [h1]; exact hl)
  rw [h1] at e1
  exact ⟨us, e1, e2.trans h3⟩
--END
end Go.Proofs.YtomakklbfjkdpaaGreatDoor
