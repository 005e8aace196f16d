/-
  TreeTg, TreePl, TreeQs, LexPure2, Clone, in one text.
-/
import Derived.Test.YtkoejkpjkcejcaaGreatDoorQTreeWk
import Derived.Test.YtkoejkpjkcejcaaGreatDoorGrAd
import Derived.Test.YtkoejkpjkcejcaaGreatDoorGrAc
import Derived.Test.YtkoejkpjkcejcaaGreatDoorGrAa
import Derived.WalkKit
import Derived.Below
namespace Go.Proofs.YtkoejkpjkcejcaaGreatDoor
open Go.RowKit Go.BigFrame
set_option linter.unusedVariables false

def ftg (s : Nat) (x : Ex) (d : Nat) : Nat × Bool := (s + 1, decide (s + 1 ≤ 200) && decide (d ≤ 30))
/-- Too many nodes, or too deep. -/
def tgB (x : Ex) : Bool := !(foldP ftg 0 (x.pre 1)).2
/-- A number that is counted on. -/
def CntIn (p : Nat) (W : World) (s : Nat) (m : Nat) : Prop := W.cell? ⟨p, 0, none⟩ = some (.int .i64 (s : Int)) ∧ W.frozen? ⟨p, 0, none⟩ = false ∧ p < W.heap.size ∧ s ≤ 200
set_option maxHeartbeats 1000000 in
set_option maxRecDepth 20000 in
theorem tg1_any (p : Nat) (W : World) (v : Value) (lo : Nat → Prop) (x : Ex) (d s m : Nat) (hx : ExIn W lo v x) (hd : d ≤ 1048577) (hs : CntIn p W s (m + 1)) :
    Calls Tryz.prog 48 #[v, .int .i64 (d : Int), .pointer (some ⟨p, 0, none⟩)] W fun e w' => e = .returned (.bool (ftg s x d).2) ∧ ((ftg s x d).2 = true → CntIn p w' (ftg s x d).1 m) ∧ ((ftg s x d).2 = false → True) ∧ But p W w' := by
  obtain ⟨o1, n1, t1, k1, s1, p1, m1, c1, a1, rfl⟩ := hx.agg
  obtain ⟨h1, h2, h3, h4⟩ := hs
  have bb := But.alloc (But.refl p W) (by omega) (.cells #[.string o1, .string n1, .int .i64 t1, .int .i64 k1, .string s1, .slice p1 m1 c1, .int .i64 a1] 26)
  have BF : Aside (∀ u, But p W ((W.setCell ⟨p, 0, none⟩ u).alloc (.cells #[.string o1, .string n1, .int .i64 t1, .int .i64 k1, .string s1, .slice p1 m1 c1, .int .i64 a1] 26))) := fun u => ((But.refl p W).set 0 u).alloc (by simp [World.setCell]; omega) _
  clear bb
  by_cases h200 : s + 1 ≤ 200
  · have h200z : (s : Int) + 1 ≤ 200 := by omega
    by_cases h30 : d ≤ 30
    · have h30z : (d : Int) ≤ 30 := by omega
      have hR : ftg s x d = (s + 1, true) := by rw [ftg, decide_eq_true h200, decide_eq_true h30]; rfl
      rw [hR]
      have hC : Aside (CntIn p ((W.setCell ⟨p, 0, none⟩ (.int .i64 ((s : Int) + 1))).alloc (.cells #[.string o1, .string n1, .int .i64 t1, .int .i64 k1, .string s1, .slice p1 m1 c1, .int .i64 a1] 26)) (s + 1) m) := by
        refine ⟨?_, ?_, by simp [World.setCell]; omega, by omega⟩
        · rw [World.cell?_alloc_past _ _ _ (by simpa [World.setCell] using h3), World.cell?_setCell_same W ⟨p, 0, none⟩ _ h1]
          rfl
        · rw [World.frozen?_alloc_past _ _ _ (by simpa [World.setCell] using h3)]
          simpa using h2
      clear hx hR h200 h30 h4
      generalize s + 1 = S2 at hC ⊢
      go_enter Tryz.func48, Tryz.ntmps48
      go_wp2
      go_ret
      first
        | exact ⟨ret_bool (by simp), fun _ => hC.out, fun _ => trivial, BF.out _⟩
        | exact ⟨ret_bool (by simp [h30z]), hC.out, BF.out _⟩
        | exact ⟨rfl, hC.out, BF.out _⟩
    · have h30z : ¬ (d : Int) ≤ 30 := by omega
      have hR : ftg s x d = (s + 1, false) := by rw [ftg, decide_eq_false h30, Bool.and_false]
      rw [hR]
      clear hx hR h200 h30 h4
      generalize s + 1 = S2
      go_enter Tryz.func48, Tryz.ntmps48
      go_wp2
      go_ret
      first
        | exact ⟨ret_bool (by simp), BF.out _⟩
        | exact ⟨ret_bool (by simp [h30z]), BF.out _⟩
        | exact ⟨rfl, BF.out _⟩
  · have h200z : ¬ (s : Int) + 1 ≤ 200 := by omega
    have hR : ftg s x d = (s + 1, false) := by rw [ftg, decide_eq_false h200, Bool.false_and]
    rw [hR]
    clear hx hR h200
    generalize s + 1 = S2
    go_enter Tryz.func48, Tryz.ntmps48
    go_wp2
    go_ret
    exact ⟨rfl, BF.out _⟩
set_option maxHeartbeats 1000000 in
theorem tooGreat_any (x : Ex) (lo : Nat → Prop) (v : Value) (w : World) (hx : ExIn w lo v x) (hsz : (x.pre 1).length ≤ 1048576) :
    Calls Tryz.prog 25 #[v] w fun e w' => e = .returned (.bool (tgB x)) ∧ Below w.heap.size w w' := by
  obtain ⟨o1, n1, t1, k1, s1, p1, m1, c1, a1, rfl⟩ := hx.agg
  have b1 : Below w.heap.size w ((w.alloc (.cells #[.string o1, .string n1, .int .i64 t1, .int .i64 k1, .string s1, .slice p1 m1 c1, .int .i64 a1] 26)).alloc (.cells #[.int .i64 0] 3)) := (al w _).trans ((al _ _).mono (by simp))
  have cW := walk_any ftg 48 (fun args W => by kernel_rfl) (w.heap.size + 1) (CntIn (w.heap.size + 1)) (fun _ _ => True) (fun b => lo b ∧ b < w.heap.size) _ _ x 0 (by simp) ((ExIn.low (fun b h1 h2 => ⟨h2, h1⟩) _ _ hx).on b1) (fun b h1 _ => by have := h1.2; omega) hsz
    (fun W v y d s m _ hy hd hs => tg1_any _ W v _ y d s m hy hd hs)
    (fun W W' s m hb hz hs => by
      obtain ⟨h1, h2, h3, h4⟩ := hs
      exact ⟨by rw [hb.cell (p := ⟨w.heap.size + 1, 0, none⟩) (by simp)]; exact h1, by rw [hb.frozen (p := ⟨w.heap.size + 1, 0, none⟩) (by simp)]; exact h2, by omega, h4⟩)
    ⟨by rw [World.cell?_alloc_at _ _ _ _ (by simp)]; rfl, by rw [World.frozen?_alloc_at _ _ _ _ (by simp)], by simp, by omega⟩
  rw [tgB]
  generalize foldP ftg 0 (x.pre 1) = T at cW
  obtain ⟨T1, T2⟩ := T
  simp only at cW ⊢
  go_enter Tryz.func25, Tryz.ntmps25
  go_wp2_with fail
  refine cW.mono ?_
  rintro e w2 ⟨rfl, _, _, b2⟩
  have b3 : Below w.heap.size w w2 := b1.trans (b2.below.mono (by omega))
  go_wp2
  go_ret
  exact ⟨rfl, b3⟩
end Go.Proofs.YtkoejkpjkcejcaaGreatDoor
namespace Go.Proofs.YtkoejkpjkcejcaaGreatDoor
set_option linter.unusedVariables false

/-- What the program reads of words: the expression, and what is left. -/
def readE (ts : List Tok) : Option Ex × List Tok := uE (ts.length * 8 + 8) 0 ts
/-- Where the next word stands; of none: the end. -/
def placeT (ts : List Tok) (en : Nat) : Nat := match ts with
  | [] => en
  | t :: _ => t.2.2
/-- What Parse says of a text: the expression, the fault, and where. -/
def parseP (l : List UInt8) : Ex × Int × Nat :=
  if (lexAll l).2.1 ≠ 0 then (ex0, (lexAll l).2.1, (lexAll l).2.2)
  else match readE (lexAll l).1 with
    | (some x, []) => if tgB x = true then (ex0, 4, 0) else (x, 0, 0)
    | (_, r) => (ex0, 2, placeT r l.length)
end Go.Proofs.YtkoejkpjkcejcaaGreatDoor
namespace Go.Proofs.YtkoejkpjkcejcaaGreatDoor
open Go.RowKit
set_option linter.unusedVariables false
--BEGIN
theorem pres_len_of {l : List Ex} (h : ∀ y ∈ l, ∀ d, (y.pre d).length = y.size) (d : Nat) : (Ex.pres d l).length = Ex.sizes l := by
  induction l with
  | nil => rw [Ex.pres, Ex.sizes]; rfl
  | cons x xs ih =>
    rw [Ex.pres, Ex.sizes, List.length_append, h x List.mem_cons_self, ih (fun y hy => h y (List.mem_cons_of_mem _ hy))]
theorem pre_len : ∀ (x : Ex) (d : Nat), (x.pre d).length = x.size := by
  refine Ex.ind fun op nm vt vn vs pos args ih d => ?_
  rw [Ex.pre, Ex.size, List.length_cons, pres_len_of ih]; omega
/-- No more nodes than words that were taken. -/
def Szd (sub : List Tok → Option Ex × List Tok) : Prop := ∀ ts y, (sub ts).1 = some y → y.size + (sub ts).2.length ≤ ts.length
theorem uLoop_szd {sub : List Tok → Option Ex × List Tok} (hs : Szd sub) (gs : List (List UInt8)) : ∀ (k : Nat) (e : Ex) (ts : List Tok) (y : Ex), (uLoop sub gs k e ts).1 = some y → y.size + (uLoop sub gs k e ts).2.length ≤ e.size + ts.length
  | 0, e, ts, y, h => by rw [uLoop] at h ⊢; simp only [Option.some.injEq] at h; subst h; exact Nat.le_refl _
  | k + 1, e, ts, y, h => by
    rw [uLoop] at h ⊢
    cases hn : nxT (sgT gs) ts with
    | none => rw [hn] at h; simp only [Option.some.injEq] at h; subst h; exact Nat.le_refl _
    | some q =>
      obtain ⟨t, r⟩ := q
      rw [hn] at h
      have h1 := (nxT_len hn).1
      subst h1
      simp only at h ⊢
      have h2 := hs r
      cases h3 : sub r with
      | mk o r2 =>
        rw [h3] at h h2
        cases o with
        | none => exact absurd h (by simp)
        | some b =>
          have h4 := h2 b rfl
          have h5 := uLoop_szd hs gs k (betT e t b) r2 y h
          rw [betT, Ex.size, Ex.sizes, Ex.sizes, Ex.sizes] at h5
          simp only [List.length_cons] at h4 ⊢
          simp only [betT] at h5 ⊢
          omega
theorem uSev_szd {sub : List Tok → Option Ex × List Tok} (hs : Szd sub) (gs : List (List UInt8)) : Szd (uSev sub gs) := by
  intro ts y h
  have h2 := hs ts
  rw [uSev] at h ⊢
  cases h3 : sub ts with
  | mk o r =>
    rw [h3] at h h2
    cases o with
    | none => exact absurd h (by simp)
    | some e =>
      have h4 := h2 e rfl
      have h5 := uLoop_szd hs gs (r.length + 1) e r y h
      simp only at h4 h5 ⊢
      omega
theorem uAhead_szd {sub other : List Tok → Option Ex × List Tok} (hs : Szd sub) (ho : Szd other) (op : List UInt8) (gs : List (List UInt8)) : Szd (uAhead op gs sub other) := by
  intro ts y h
  rw [uAhead] at h ⊢
  cases hn : nxT (sgT gs) ts with
  | none => rw [hn] at h; exact ho ts y h
  | some q =>
    obtain ⟨t, r⟩ := q
    rw [hn] at h
    have h1 := (nxT_len hn).1
    subst h1
    have h2 := hs r
    simp only at h ⊢
    cases h3 : sub r with
    | mk o r2 =>
      rw [h3] at h h2
      cases o with
      | none => exact absurd h (by simp)
      | some e =>
        have h4 := h2 e rfl
        simp only [Option.some.injEq] at h
        subst h
        rw [op1, Ex.size, Ex.sizes, Ex.sizes]
        simp only [List.length_cons] at h4 ⊢
        omega
theorem uCmp_szd {sub : List Tok → Option Ex × List Tok} (hs : Szd sub) : Szd (uCmp sub) := by
  intro ts y h
  have h2 := hs ts
  rw [uCmp] at h ⊢
  cases h3 : sub ts with
  | mk o r =>
    rw [h3] at h h2
    cases o with
    | none => exact absurd h (by simp)
    | some e =>
      have h4 := h2 e rfl
      simp only at h h4 ⊢
      cases hn : nxT (sgT cmpL) r with
      | none => rw [hn] at h; simp only [Option.some.injEq] at h; subst h; exact h4
      | some q =>
        obtain ⟨t, r2⟩ := q
        rw [hn] at h
        have h1 := (nxT_len hn).1
        subst h1
        have h5 := hs r2
        simp only at h ⊢
        cases h6 : sub r2 with
        | mk o r3 =>
          rw [h6] at h h5
          cases o with
          | none => exact absurd h (by simp)
          | some b =>
            have h7 := h5 b rfl
            simp only [Option.some.injEq] at h
            subst h
            rw [betT, Ex.size, Ex.sizes, Ex.sizes, Ex.sizes]
            simp only [List.length_cons] at h4 h7 ⊢
            omega
theorem sizes_app : ∀ (l m : List Ex), Ex.sizes (l ++ m) = Ex.sizes l + Ex.sizes m
  | [], m => by rw [Ex.sizes, List.nil_append]; omega
  | x :: l, m => by rw [List.cons_append, Ex.sizes, Ex.sizes, sizes_app l m]; omega
theorem uBr_szd {sub : List Tok → Option Ex × List Tok} (hs : Szd sub) : ∀ (k : Nat) (acc : List Ex) (ts : List Tok) (l : List Ex), (uBr sub k acc ts).1 = some l → Ex.sizes l + (uBr sub k acc ts).2.length + 1 ≤ Ex.sizes acc + ts.length
  | 0, acc, ts, l, h => by
    rw [uBr] at h ⊢
    cases hn : nxT (sgT [[41]]) ts with
    | none => rw [hn] at h; exact absurd h (by simp)
    | some q =>
      obtain ⟨t, r⟩ := q
      rw [hn] at h
      have h1 := (nxT_len hn).1
      subst h1
      simp only [Option.some.injEq] at h
      subst h
      simp only [List.length_cons]
      omega
  | k + 1, acc, ts, l, h => by
    rw [uBr] at h ⊢
    cases hn : nxT (sgT [if acc.length = 0 then [40] else [44]]) ts with
    | none => rw [hn] at h; exact absurd h (by simp)
    | some q =>
      obtain ⟨t, r⟩ := q
      rw [hn] at h
      have h1 := (nxT_len hn).1
      subst h1
      have h2 := hs r
      simp only at h ⊢
      cases h3 : sub r with
      | mk o r2 =>
        rw [h3] at h h2
        cases o with
        | none => exact absurd h (by simp)
        | some e =>
          have h4 := h2 e rfl
          have h5 := uBr_szd hs k (acc ++ [e]) r2 l h
          rw [sizes_app, Ex.sizes, Ex.sizes] at h5
          simp only [List.length_cons] at h4 h5 ⊢
          omega
theorem uOne_szd {sub : List Tok → Option Ex × List Tok} (hs : Szd sub) : Szd (uOne sub) := by
  intro ts y h
  cases hn : nxT (sgT lenIf) ts with
  | some q =>
    obtain ⟨t, r⟩ := q
    rw [uOne_call hn] at h ⊢
    have h1 := (nxT_len hn).1
    have h2 := uBr_szd hs (manyT t) [] r
    cases h3 : (uBr sub (manyT t) [] r).1 with
    | none => rw [h3] at h; exact absurd h (by simp)
    | some l =>
      rw [h3] at h
      simp only [Option.map_some, Option.some.injEq] at h
      have h4 := h2 l h3
      rw [← h, Ex.size, h1]
      rw [Ex.sizes] at h4
      simp only [List.length_cons]
      omega
  | none =>
    cases hv : nxT vlT ts with
    | some q =>
      obtain ⟨t, r⟩ := q
      rw [uOne_val hn hv] at h ⊢
      simp only [Option.some.injEq] at h
      rw [← h, valE, Ex.size, Ex.sizes, (nxT_len hv).1, List.length_cons]
      show 1 + 0 + r.length ≤ r.length + 1
      omega
    | none =>
      cases hc : nxT nmT ts with
      | some q =>
        obtain ⟨t, r⟩ := q
        rw [uOne_col hn hv hc] at h ⊢
        simp only [Option.some.injEq] at h
        rw [← h, colE1, Ex.size, Ex.sizes, (nxT_len hc).1, List.length_cons]
        show 1 + 0 + r.length ≤ r.length + 1
        omega
      | none =>
        rw [uOne_br hn hv hc] at h ⊢
        have h2 := uBr_szd hs 1 [] ts
        have h5 := uBr_len (sub := sub) 1 [] ts
        cases h3 : (uBr sub 1 [] ts).1 with
        | none => rw [h3] at h; exact absurd h (by simp)
        | some l =>
          rw [h3] at h
          have h4 := h2 l h3
          have h6 := h5 l h3
          match l, h6 with
          | [x], _ =>
            simp only [Option.bind_some, List.head?_cons, Option.some.injEq] at h
            subst h
            rw [Ex.sizes, Ex.sizes, Ex.sizes] at h4
            simp only
            omega
theorem uE_szd : ∀ (f lv : Nat), Szd (uE f lv)
  | 0, lv => fun ts y h => by rw [uE] at h; exact absurd h (by simp)
  | f + 1, lv => by
    have ih := fun lv => uE_szd f lv
    intro ts
    unfold uE
    split
    · exact uSev_szd (ih 1) _ ts
    · exact uSev_szd (ih 2) _ ts
    · exact uAhead_szd (ih 2) (ih 3) _ _ ts
    · exact uCmp_szd (ih 4) ts
    · exact uSev_szd (ih 5) _ ts
    · exact uSev_szd (ih 6) _ ts
    · exact uAhead_szd (ih 6) (ih 7) _ _ ts
    · exact uOne_szd (ih 0) ts
--END
end Go.Proofs.YtkoejkpjkcejcaaGreatDoor
namespace Go.Proofs.YtkoejkpjkcejcaaGreatDoor
--BEGIN
/-- Does a text begin with a blank, if it begins at all? -/
def sepB : List UInt8 → Bool
  | [] => true
  | c :: _ => blB c
theorem bl_cases {c : UInt8} (h : blB c = true) : c = 32 ∨ c = 10 := by
  simp only [blB, Bool.or_eq_true, decide_eq_true_eq] at h
  rcases h with h | h
  · exact Or.inl (UInt8.toNat_inj.1 (by rw [show (32 : UInt8).toNat = 32 from rfl]; omega))
  · exact Or.inr (UInt8.toNat_inj.1 (by rw [show (10 : UInt8).toNat = 10 from rfl]; omega))
theorem sep_hd (p : UInt8 → Bool) (h32 : p 32 = false) (h10 : p 10 = false) : ∀ r : List UInt8, sepB r = true → hdB p r = false
  | [], _ => rfl
  | c :: r, h => by
    rcases bl_cases h with rfl | rfl
    · exact h32
    · exact h10
theorem sign_again : ∀ g ∈ signsL, ∀ r : List UInt8, sepB r = true → sgN signsL (g ++ r) = g.length := by
  intro g hg r hr
  have key : r = [] ∨ (∃ q, r = 32 :: q) ∨ ∃ q, r = 10 :: q := by
    cases r with
    | nil => exact Or.inl rfl
    | cons c q =>
      rcases bl_cases hr with rfl | rfl
      · exact Or.inr (Or.inl ⟨q, rfl⟩)
      · exact Or.inr (Or.inr ⟨q, rfl⟩)
  simp only [signsL, List.mem_cons, List.not_mem_nil, or_false] at hg
  rcases key with rfl | ⟨q, rfl⟩ | ⟨q, rfl⟩ <;> rcases hg with rfl | rfl | rfl | rfl | rfl | rfl | rfl | rfl | rfl | rfl | rfl | rfl | rfl | rfl <;> simp [signsL, sgN, Lib.hasPrefix, List.isPrefixOf]
theorem qscan_again : ∀ (n : Nat) (l : List UInt8) (k : Nat) (r : List UInt8), l.length ≤ n → qscan l = some k → sepB r = true → qscan (l.take k ++ r) = some k
  | _, [], k, _, _, h, _ => by simp [qscan] at h
  | 0, _ :: _, _, _, hn, _, _ => by simp at hn
  | n + 1, c :: l, k, r, hn, h, hr => by
    by_cases hc : c = 39
    · subst hc
      have stop : qscan (39 :: r) = some 1 := qscan_end r (by
        cases r with
        | nil => simp
        | cons d q => rcases bl_cases hr with rfl | rfl <;> simp)
      cases l with
      | nil => simp [qscan] at h; subst h; exact stop
      | cons d q =>
        by_cases hd : d = 39
        · subst hd
          rw [qscan_two, Option.map_eq_some_iff] at h
          obtain ⟨j, hj, rfl⟩ := h
          have := qscan_again n q j r (by simp at hn; omega) hj hr
          rw [show (39 :: 39 :: q).take (j + 2) ++ r = 39 :: 39 :: (q.take j ++ r) from by simp, qscan_two, this]; rfl
        · rw [qscan_end _ (by simpa using hd)] at h
          cases h; exact stop
    · rw [qscan_ne c l hc, Option.map_eq_some_iff] at h
      obtain ⟨j, hj, rfl⟩ := h
      have := qscan_again n l j r (by simp at hn; omega) hj hr
      rw [show (c :: l).take (j + 1) ++ r = c :: (l.take j ++ r) from by simp, qscan_ne _ _ hc, this]; rfl
theorem take_len {l : List UInt8} {n : Nat} (h : n ≤ l.length) : (l.take n).length = n := by rw [List.length_take]; omega
/-- A word that is right is the same word ahead of a blank, or of nothing. -/
theorem tok_again {l : List UInt8} {k : Int} {n : Nat} (h : tokAt l = (k, n, 0)) (r : List UInt8) (hr : sepB r = true) : tokAt (l.take n ++ r) = (k, n, 0) := by
  obtain ⟨hn1, hn2⟩ := tokAt_len h
  have hlen := take_len hn2
  cases l with
  | nil => simp at hn2; omega
  | cons c l =>
    obtain ⟨m, rfl⟩ : ∃ m, n = m + 1 := ⟨n - 1, by omega⟩
    have hcons : (c :: l).take (m + 1) ++ r = c :: (l.take m ++ r) := by simp
    rw [hcons, tokAt]
    rw [tokAt] at h
    by_cases hc : letB c = true
    · rw [if_pos hc] at h ⊢
      injection h with h1 h
      injection h with h2 h3
      have ha := goN_all ldB (c :: l)
      rw [h2] at ha
      rw [← hcons, goN_app ldB _ r ha (sep_hd _ (by decide) (by decide) r hr), hlen, h1]
    · rw [if_neg hc] at h ⊢
      by_cases hd : digB c = true
      · rw [if_pos hd] at h ⊢
        injection h with h1 h
        rw [numTok] at h
        split at h
        · cases h
        · rename_i hz
          split at h
          · cases h
          · rename_i hv
            injection h with h2 h3
            rw [h2] at hz hv
            have ha := goN_all digB (c :: l)
            rw [h2] at ha
            have hg : goN digB (c :: (l.take m ++ r)) = m + 1 := by rw [← hcons, goN_app digB _ r ha (sep_hd _ (by decide) (by decide) r hr), hlen]
            have hdr : (c :: (l.take m ++ r)).drop (m + 1) = r := by
              rw [← hcons, List.drop_append_of_le_length (by omega), List.drop_of_length_le (by omega), List.nil_append]
            have htk : (c :: (l.take m ++ r)).take (m + 1) = (c :: l).take (m + 1) := by
              rw [← hcons, List.take_append_of_le_length (by omega), List.take_take, Nat.min_self]
            rw [numTok, hg, hdr, htk, if_neg, if_neg hv, h1]
            rintro (e | e)
            · rw [sep_hd letB (by decide) (by decide) r hr] at e; cases e
            · exact hz (Or.inr e)
      · rw [if_neg hd] at h ⊢
        by_cases hq : c = 39
        · rw [if_pos hq] at h ⊢
          injection h with h1 h
          rw [quoTok] at h
          split at h
          · cases h
          · rename_i j hj
            split at h
            · rename_i he
              injection h with h2 h3
              obtain rfl : j = m := by omega
              have hj2 := (qscan_le _ l j (Nat.le_refl _) hj).2
              have htk : (l.take j ++ r).take j = l.take j := by
                rw [List.take_append_of_le_length (by rw [take_len hj2]; omega), List.take_take, Nat.min_self]
              rw [quoTok, qscan_again _ l j r (Nat.le_refl _) hj hr]
              simp only
              rw [htk, if_pos he, h1]
            · rename_i h0
              exact absurd (Prod.mk.inj h).2 h0
        · rw [if_neg hq] at h ⊢
          injection h with h1 h
          injection h with h2 h3
          have hne : sgN signsL (c :: l) ≠ 0 := by omega
          obtain ⟨g, hm, hp, hl⟩ := sgN_mem _ _ hne
          have hg := (hasPre_len hp).2
          rw [← hl, h2] at hg
          have := sign_again g hm r hr
          rw [← hcons, hg, this, ← hl, h2, h1, if_neg (by omega)]
theorem tok_blank {c : UInt8} {l : List UInt8} (h : blB c = true) : (tokAt (c :: l)).2.2 ≠ 0 := by
  rcases bl_cases h with rfl | rfl
  · simp [tokAt, letB, digB, signsL, sgN, Lib.hasPrefix, List.isPrefixOf]
  · simp [tokAt, letB, digB, signsL, sgN, Lib.hasPrefix, List.isPrefixOf]
/-- A word that stays one, ahead of a blank or of nothing. -/
structure Good (k : Int) (t : List UInt8) : Prop where
  ne : t ≠ []
  hd : hdB blB t = false
  again : ∀ r : List UInt8, sepB r = true → tokAt (t ++ r) = (k, t.length, 0)
theorem good_tok {l : List UInt8} {k : Int} {n : Nat} (h : tokAt l = (k, n, 0)) : Good k (l.take n) := by
  obtain ⟨hn1, hn2⟩ := tokAt_len h
  have hlen := take_len hn2
  refine ⟨fun e => by rw [e] at hlen; simp at hlen; omega, ?_, fun r hr => by rw [hlen]; exact tok_again h r hr⟩
  cases l with
  | nil => simp at hn2; omega
  | cons c l =>
    obtain ⟨m, rfl⟩ : ∃ m, n = m + 1 := ⟨n - 1, by omega⟩
    rw [List.take_succ_cons]
    cases hb : blB c with
    | false => exact hb
    | true => exact absurd (by rw [h]) (tok_blank (l := l) hb)
/-- Blanks behind each, at least one but behind the last. -/
def Seps : List (Int × List UInt8 × List UInt8) → Prop
  | [] => True
  | p :: ps => p.2.2.all blB = true ∧ (ps ≠ [] → p.2.2 ≠ []) ∧ Seps ps
def sepT (ps : List (Int × List UInt8 × List UInt8)) : List UInt8 := ps.flatMap fun p => p.2.1 ++ p.2.2
theorem sepT_cons (p : Int × List UInt8 × List UInt8) (ps : List (Int × List UInt8 × List UInt8)) : sepT (p :: ps) = p.2.1 ++ (p.2.2 ++ sepT ps) := by simp [sepT]
theorem sepT_hd : ∀ ps : List (Int × List UInt8 × List UInt8), (∀ p ∈ ps, Good p.1 p.2.1) → hdB blB (sepT ps) = false
  | [], _ => rfl
  | p :: ps, h => by
    have g := h p List.mem_cons_self
    rw [sepT_cons]
    have h1 := g.ne
    have h2 := g.hd
    cases ht : p.2.1 with
    | nil => exact absurd ht h1
    | cons c t => rw [ht] at h2; exact h2
theorem relex : ∀ (ps : List (Int × List UInt8 × List UInt8)) (f a : Nat), ps.length < f → (∀ p ∈ ps, Good p.1 p.2.1) → Seps ps →
    ∃ ts, lexN f a (sepT ps) = (ts, 0, 0) ∧ ts.map (fun t => (t.1, t.2.1.data.toList)) = ps.map (fun p => (p.1, p.2.1))
  | [], f, a, hf, _, _ => by
    obtain ⟨g, rfl⟩ : ∃ g, f = g + 1 := ⟨f - 1, by simp at hf; omega⟩
    exact ⟨[], by simp [sepT, lexN], rfl⟩
  | p :: ps, f, a, hf, hg, hs => by
    obtain ⟨g, rfl⟩ : ∃ g, f = g + 1 := ⟨f - 1, by simp at hf; omega⟩
    obtain ⟨hb, hne, hrest⟩ := hs
    have G := hg p List.mem_cons_self
    have hsep : sepB (p.2.2 ++ sepT ps) = true := by
      cases hp : p.2.2 with
      | nil =>
        have : ps = [] := Classical.byContradiction fun e => hne e hp
        subst this; rfl
      | cons c q => rw [hp, List.all_cons, Bool.and_eq_true] at hb; exact hb.1
    have htok := G.again _ hsep
    have hgo : goN blB (p.2.2 ++ sepT ps) = p.2.2.length := by
      rw [goN_skip blB _ _ hb, goN_zero _ _ (sepT_hd ps (fun q hq => hg q (List.mem_cons_of_mem _ hq)))]; rfl
    have hd1 : (p.2.1 ++ (p.2.2 ++ sepT ps)).drop p.2.1.length = p.2.2 ++ sepT ps := List.drop_left
    have hd2 : (p.2.2 ++ sepT ps).drop p.2.2.length = sepT ps := List.drop_left
    have ht1 : (p.2.1 ++ (p.2.2 ++ sepT ps)).take p.2.1.length = p.2.1 := List.take_left
    obtain ⟨ts, h1, h2⟩ := relex ps g (a + p.2.1.length + p.2.2.length) (by simp at hf; omega) (fun q hq => hg q (List.mem_cons_of_mem _ hq)) hrest
    refine ⟨(p.1, ⟨p.2.1.toArray⟩, a) :: ts, ?_, ?_⟩
    · rw [sepT_cons, lexN, if_neg (by simp [G.ne]), htok, if_neg (by simp)]
      simp only
      rw [hd1, hgo, hd2, h1, ht1]
      simp
    · rw [List.map_cons, List.map_cons, h2]
/-- Words stand in a text, in their order, from p on, with blanks between. -/
def Stand (s : List UInt8) : Nat → List Tok → Prop
  | p, [] => ∀ c ∈ s.drop p, blB c = true
  | p, t :: ts => p ≤ t.2.2 ∧ t.2.2 + t.2.1.size ≤ s.length ∧ 0 < t.2.1.size ∧ (∀ c ∈ (s.drop p).take (t.2.2 - p), blB c = true) ∧ (s.drop t.2.2).take t.2.1.size = t.2.1.data.toList ∧ Stand s (t.2.2 + t.2.1.size) ts
theorem size_arr (l : List UInt8) : (⟨l.toArray⟩ : ByteArray).size = l.length := by rw [Lib.size_eq]
theorem lexN_ok {f a : Nat} {l : List UInt8} {ts : List Tok} {p : Nat} (h : lexN (f + 1) a l = (ts, 0, p)) :
    (l = [] ∧ ts = []) ∨ ∃ (k : Int) (n : Nat) (us : List Tok) (q : Nat), l ≠ [] ∧ tokAt l = (k, n, 0) ∧ lexN f (a + n + goN blB (l.drop n)) ((l.drop n).drop (goN blB (l.drop n))) = (us, 0, q) ∧ ts = (k, ⟨(l.take n).toArray⟩, a) :: us := by
  rw [lexN] at h
  split at h
  · rename_i hl
    cases h
    exact Or.inl ⟨hl, rfl⟩
  · rename_i hl
    obtain ⟨k, n, e, ht⟩ : ∃ k n e, tokAt l = (k, n, e) := ⟨_, _, _, rfl⟩
    rw [ht] at h
    simp only at h
    split at h
    · rename_i he
      injection h with _ h
      injection h with h _
      exact absurd h he
    · rename_i he
      obtain rfl : e = 0 := Classical.byContradiction he
      obtain ⟨us, e2, q, hr⟩ : ∃ us e2 q, lexN f (a + n + goN blB (l.drop n)) ((l.drop n).drop (goN blB (l.drop n))) = (us, e2, q) := ⟨_, _, _, rfl⟩
      rw [hr] at h
      simp only at h
      split at h
      · rename_i h0
        subst h0
        cases h
        exact Or.inr ⟨k, n, us, q, hl, ht, hr, rfl⟩
      · rename_i h0
        injection h with _ h
        injection h with h _
        exact absurd h h0
theorem lexN_stand (s : List UInt8) : ∀ (f a p : Nat) (ts : List Tok) (q : Nat), p ≤ a → a ≤ s.length → (s.drop a).length < f → (∀ c ∈ (s.drop p).take (a - p), blB c = true) → lexN f a (s.drop a) = (ts, 0, q) → Stand s p ts
  | 0, _, _, _, _, _, _, hf, _, _ => by omega
  | f + 1, a, p, ts, q, hpa, has, hf, hb, h => by
    rcases lexN_ok h with ⟨hl, rfl⟩ | ⟨k, n, us, q', hl, ht, hr, rfl⟩
    · show ∀ c ∈ s.drop p, blB c = true
      have hlen : (s.drop p).length ≤ a - p := by
        have : (s.drop a).length = 0 := by rw [hl]; rfl
        rw [List.length_drop] at this ⊢; omega
      rwa [List.take_of_length_le hlen] at hb
    · obtain ⟨hn1, hn2⟩ := tokAt_len ht
      have hz : (⟨((s.drop a).take n).toArray⟩ : ByteArray).size = n := by rw [size_arr, take_len hn2]
      rw [List.length_drop] at hn2 hf
      refine ⟨hpa, by rw [hz]; simp only; omega, by rw [hz]; omega, hb, by rw [hz], ?_⟩
      simp only
      rw [hz]
      have hg := goN_le blB ((s.drop a).drop n)
      rw [List.drop_drop] at hr hg
      rw [List.drop_drop] at hr
      rw [List.length_drop] at hg
      refine lexN_stand s f (a + n + goN blB (s.drop (a + n))) (a + n) us q' (by omega) (by omega) (by rw [List.length_drop]; omega) ?_ hr
      rw [show a + n + goN blB (s.drop (a + n)) - (a + n) = goN blB (s.drop (a + n)) from by omega]
      have := goN_all blB (s.drop (a + n))
      rwa [List.all_eq_true] at this
theorem lexN_good : ∀ (f a : Nat) (l : List UInt8) (ts : List Tok) (q : Nat), lexN f a l = (ts, 0, q) → ∀ t ∈ ts, Good t.1 t.2.1.data.toList
  | 0, _, _, ts, _, h => by
    simp [lexN] at h
    obtain ⟨rfl, _⟩ := h
    simp
  | f + 1, a, l, ts, q, h => by
    rcases lexN_ok h with ⟨hl, rfl⟩ | ⟨k, n, us, q', hl, ht, hr, rfl⟩
    · simp
    · intro t hm
      rcases List.mem_cons.1 hm with rfl | hm
      · exact good_tok ht
      · exact lexN_good f _ _ us q' hr t hm
theorem lexN_bad : ∀ (f a : Nat) (l : List UInt8) (ts : List Tok) (e : Int) (q : Nat), lexN f a l = (ts, e, q) → e ≠ 0 → ts = [] ∧ q ≤ a + l.length ∧ (e = 1 ∨ e = 2 ∨ e = 4)
  | 0, _, _, ts, e, _, h, he => by simp [lexN] at h; exact absurd h.2.1.symm he
  | f + 1, a, l, ts, e, q, h, he => by
    rw [lexN] at h
    split at h
    · cases h; exact absurd rfl he
    · obtain ⟨k, n, e1, ht⟩ : ∃ k n e, tokAt l = (k, n, e) := ⟨_, _, _, rfl⟩
      have hfa := tokAt_fault (l := l)
      rw [ht] at h hfa
      simp only at h hfa
      split at h
      · cases h
        exact ⟨rfl, by omega, by omega⟩
      · rename_i he1
        obtain rfl : e1 = 0 := Classical.byContradiction he1
        obtain ⟨hn1, hn2⟩ := tokAt_len ht
        obtain ⟨us, e2, q2, hr⟩ : ∃ us e2 q, lexN f (a + n + goN blB (l.drop n)) ((l.drop n).drop (goN blB (l.drop n))) = (us, e2, q) := ⟨_, _, _, rfl⟩
        rw [hr] at h
        simp only at h
        split at h
        · cases h; exact absurd rfl he
        · rename_i h0
          obtain ⟨ht0, h⟩ := Prod.mk.inj h
          obtain ⟨rfl, rfl⟩ := Prod.mk.inj h
          obtain ⟨_, h1, h2⟩ := lexN_bad f _ _ us _ _ hr h0
          have hg := goN_le blB (l.drop n)
          rw [List.length_drop] at h1 hg
          rw [List.length_drop] at h1
          exact ⟨ht0.symm, by omega, h2⟩
theorem stand_small (s : List UInt8) : ∀ (ts : List Tok) (p : Nat), p ≤ s.length → Stand s p ts → ts.length ≤ s.length - p ∧ ∀ t ∈ ts, t.2.1.size ≤ s.length ∧ t.2.2 ≤ s.length
  | [], p, _, _ => ⟨Nat.zero_le _, by simp⟩
  | t :: ts, p, hp, h => by
    obtain ⟨h1, h2, h3, _, _, h6⟩ := h
    obtain ⟨i1, i2⟩ := stand_small s ts _ h2 h6
    refine ⟨by rw [List.length_cons]; omega, fun u hu => ?_⟩
    rcases List.mem_cons.1 hu with rfl | hu
    · exact ⟨by omega, by omega⟩
    · exact i2 u hu
/-- All words that come of a text: what is to be known of them. -/
theorem lexAll_ok {s : List UInt8} {ts : List Tok} {q : Nat} (h : lexAll s = (ts, 0, q)) : s.length ≤ 400 ∧ q = 0 ∧ Stand s 0 ts ∧ (∀ t ∈ ts, Good t.1 t.2.1.data.toList) := by
  rw [lexAll] at h
  split at h
  · cases h
  · rename_i hl
    rw [lexS, lexA] at h
    obtain ⟨us, e2, q2, hr⟩ : ∃ us e2 q, lexN (s.length + 1) (0 + goN blB s) (s.drop (goN blB s)) = (us, e2, q) := ⟨_, _, _, rfl⟩
    rw [hr] at h
    simp only at h
    split at h
    · rename_i h0
      subst h0
      simp only [List.nil_append] at h
      cases h
      refine ⟨by omega, rfl, ?_, lexN_good _ _ _ _ _ hr⟩
      have hg := goN_le blB s
      rw [Nat.zero_add] at hr
      refine lexN_stand s _ _ 0 ts q2 (Nat.zero_le _) hg (by rw [List.length_drop]; omega) ?_ hr
      rw [List.drop_zero, Nat.sub_zero]
      have := goN_all blB s
      rwa [List.all_eq_true] at this
    · rename_i h0
      exact absurd (Prod.mk.inj (Prod.mk.inj h).2).1 h0
theorem lexAll_bad {s : List UInt8} {ts : List Tok} {e : Int} {q : Nat} (h : lexAll s = (ts, e, q)) (he : e ≠ 0) : ts = [] ∧ q ≤ s.length ∧ (e = 1 ∨ e = 2 ∨ e = 4) := by
  rw [lexAll] at h
  split at h
  · cases h
    exact ⟨rfl, by omega, by omega⟩
  · rename_i hl
    rw [lexS, lexA] at h
    obtain ⟨us, e2, q2, hr⟩ : ∃ us e2 q, lexN (s.length + 1) (0 + goN blB s) (s.drop (goN blB s)) = (us, e2, q) := ⟨_, _, _, rfl⟩
    rw [hr] at h
    simp only at h
    split at h
    · cases h; exact absurd rfl he
    · rename_i h0
      obtain ⟨ht0, h⟩ := Prod.mk.inj h
      obtain ⟨rfl, rfl⟩ := Prod.mk.inj h
      obtain ⟨_, h1, h2⟩ := lexN_bad _ _ _ us _ _ hr h0
      have hg := goN_le blB s
      rw [List.length_drop] at h1
      exact ⟨ht0.symm, by omega, h2⟩
theorem lexAll_full {s : List UInt8} (h : 400 < s.length) : lexAll s = ([], 4, 0) := by rw [lexAll, if_pos h]
theorem sepT_len : ∀ ps : List (Int × List UInt8 × List UInt8), (∀ p ∈ ps, Good p.1 p.2.1) → ps.length ≤ (sepT ps).length
  | [], _ => Nat.le_refl _
  | p :: ps, h => by
    have i := sepT_len ps (fun q hq => h q (List.mem_cons_of_mem _ hq))
    have g := (h p List.mem_cons_self).ne
    have : p.2.1.length ≠ 0 := fun e => g (List.length_eq_zero_iff.1 e)
    rw [sepT_cons, List.length_append, List.length_append, List.length_cons]; omega
/-- With blanks ahead and between, the words are the same, if there are not too many bytes. -/
theorem lexAll_again (bs : List UInt8) (ps : List (Int × List UInt8 × List UInt8)) (hb : bs.all blB = true) (hg : ∀ p ∈ ps, Good p.1 p.2.1) (hs : Seps ps) (hl : (bs ++ sepT ps).length ≤ 400) :
    ∃ ts, lexAll (bs ++ sepT ps) = (ts, 0, 0) ∧ ts.map (fun t => (t.1, t.2.1.data.toList)) = ps.map (fun p => (p.1, p.2.1)) := by
  have hgo : goN blB (bs ++ sepT ps) = bs.length := by rw [goN_skip blB _ _ hb, goN_zero _ _ (sepT_hd ps hg)]; rfl
  have hn := sepT_len ps hg
  obtain ⟨ts, h1, h2⟩ := relex ps ((bs ++ sepT ps).length + 1) (0 + bs.length) (by rw [List.length_append]; omega) hg hs
  refine ⟨ts, ?_, h2⟩
  rw [lexAll, if_neg (by omega), lexS, lexA, hgo, List.drop_left, h1]
  simp
/-- The texts of words, a blank between. -/
def joinL : List Tok → List UInt8
  | [] => []
  | t :: ts => t.2.1.data.toList ++ (if ts = [] then [] else 32 :: joinL ts)
theorem joinL_snoc : ∀ (ts : List Tok) (t : Tok), joinL (ts ++ [t]) = (if ts = [] then [] else joinL ts ++ [32]) ++ t.2.1.data.toList
  | [], t => by simp [joinL]
  | u :: us, t => by
    rw [List.cons_append, joinL, if_neg (by simp), joinL_snoc us t, joinL]
    cases us with
    | nil => simp
    | cons v vs => simp
/-- The texts of words, two blanks behind each. -/
def spacL (ts : List Tok) : List UInt8 := ts.flatMap fun t => t.2.1.data.toList ++ [32, 32]
theorem spacL_snoc (ts : List Tok) (t : Tok) : spacL (ts ++ [t]) = spacL ts ++ (t.2.1.data.toList ++ [32, 32]) := by simp [spacL]
def joinP : List Tok → List (Int × List UInt8 × List UInt8)
  | [] => []
  | t :: ts => (t.1, t.2.1.data.toList, if ts = [] then [] else [32]) :: joinP ts
theorem joinP_facts : ∀ ts : List Tok, sepT (joinP ts) = joinL ts ∧ Seps (joinP ts) ∧ (joinP ts).map (fun p => (p.1, p.2.1)) = ts.map (fun t => (t.1, t.2.1.data.toList))
  | [] => ⟨rfl, trivial, rfl⟩
  | t :: ts => by
    obtain ⟨h1, h2, h3⟩ := joinP_facts ts
    refine ⟨?_, ⟨?_, ?_, h2⟩, ?_⟩
    · rw [joinP, sepT_cons, h1, joinL]
      cases ts with
      | nil => simp [joinL]
      | cons u us => simp
    · cases ts with
      | nil => simp
      | cons u us => simp [blB]
    · cases ts with
      | nil => intro h; exact absurd rfl h
      | cons u us => intro _; simp
    · rw [joinP, List.map_cons, List.map_cons, h3]
def spacP (ts : List Tok) : List (Int × List UInt8 × List UInt8) := ts.map fun t => (t.1, t.2.1.data.toList, [32, 32])
theorem spacP_facts : ∀ ts : List Tok, sepT (spacP ts) = spacL ts ∧ Seps (spacP ts) ∧ (spacP ts).map (fun p => (p.1, p.2.1)) = ts.map (fun t => (t.1, t.2.1.data.toList))
  | [] => ⟨rfl, trivial, rfl⟩
  | t :: ts => by
    obtain ⟨h1, h2, h3⟩ := spacP_facts ts
    refine ⟨?_, ⟨by simp [blB], by intro _; simp, h2⟩, ?_⟩
    · rw [spacP, List.map_cons, sepT_cons, ← spacP, h1]; simp [spacL]
    · rw [spacP, List.map_cons, ← spacP, List.map_cons, List.map_cons, h3]
theorem good_of_map {ps : List (Int × List UInt8 × List UInt8)} {ts : List Tok} (h : ps.map (fun p => (p.1, p.2.1)) = ts.map (fun t => (t.1, t.2.1.data.toList))) (hg : ∀ t ∈ ts, Good t.1 t.2.1.data.toList) : ∀ p ∈ ps, Good p.1 p.2.1 := by
  intro p hp
  have : (p.1, p.2.1) ∈ ts.map (fun t => (t.1, t.2.1.data.toList)) := by rw [← h]; exact List.mem_map.2 ⟨p, hp, rfl⟩
  obtain ⟨t, ht, he⟩ := List.mem_map.1 this
  injection he with h1 h2
  rw [← h1, ← h2]; exact hg t ht
/-- Joined, they are the same words. -/
theorem join_back {ts : List Tok} (hg : ∀ t ∈ ts, Good t.1 t.2.1.data.toList) (hl : (joinL ts).length ≤ 400) :
    ∃ us, lexAll (joinL ts) = (us, 0, 0) ∧ us.map (fun t => (t.1, t.2.1.data.toList)) = ts.map (fun t => (t.1, t.2.1.data.toList)) := by
  obtain ⟨h1, h2, h3⟩ := joinP_facts ts
  obtain ⟨us, e1, e2⟩ := lexAll_again [] (joinP ts) rfl (good_of_map h3 hg) h2 (by rw [h1]; exact hl)
  rw [List.nil_append, h1] at e1
  exact ⟨us, e1, e2.trans h3⟩
/-- With blanks ahead, and two behind each, they are the same words. -/
theorem spac_back {ts : List Tok} (hg : ∀ t ∈ ts, Good t.1 t.2.1.data.toList) (hl : ([10, 32] ++ spacL ts).length ≤ 400) :
    ∃ us, lexAll ([10, 32] ++ spacL ts) = (us, 0, 0) ∧ us.map (fun t => (t.1, t.2.1.data.toList)) = ts.map (fun t => (t.1, t.2.1.data.toList)) := by
  obtain ⟨h1, h2, h3⟩ := spacP_facts ts
  obtain ⟨us, e1, e2⟩ := lexAll_again [10, 32] (spacP ts) (by decide) (good_of_map h3 hg) h2 (by rw [h1]; exact hl)
  rw [h1] at e1
  exact ⟨us, e1, e2.trans h3⟩
--END
end Go.Proofs.YtkoejkpjkcejcaaGreatDoor
namespace Go.Proofs.YtkoejkpjkcejcaaGreatDoor
open Go.RowKit

theorem clone_any (s : ByteArray) (w : World) (hs : s.size ≤ 281474976710656) :
    Calls Tryz.prog 68 #[.string s] w fun e w' => e = .returned (.string s) ∧ Below w.heap.size w w' := by
  go_enter Tryz.func68, Tryz.ntmps68
  go_wp2_with fail
  refine (Tryz.stringslite_Clone s _ hs).mono ?_
  rintro e w1 ⟨rfl, b1⟩
  go_wp2
  go_ret
  exact ⟨rfl, b1⟩
end Go.Proofs.YtkoejkpjkcejcaaGreatDoor
