/-
  What is read of words has at most as many nodes as there were words.
-/
import Derived.Test.YtomakklbfjkdpaaGreatDoorTreeWk
namespace Go.Proofs.YtomakklbfjkdpaaGreatDoor
open Go.RowKit
set_option linter.unusedVariables false
--BEGIN
theorem pres_len_of {l : List Ex} (h : ∀ y ∈ l, ∀ d, (y.pre d).length = y.size) (d : Nat) : (Ex.pres d l).length = Ex.sizes l := by
  induction l with
  | nil => rw [Ex.pres, Ex.sizes]; rfl
  | cons x xs ih =>
    rw [Ex.pres, Ex.sizes, List.length_append, h x List.mem_cons_self, ih (fun y hy => h y (List.mem_cons_of_mem _ hy))]
theorem pre_len : ∀ (x : Ex) (d : Nat), (x.pre d).length = x.size := by
  refine Ex.ind fun op nm vt vn vs pos args ih d => ?_
  rw [Ex.pre, Ex.size, List.length_cons, pres_len_of ih]; omega
/-- No more nodes than words that were taken. -/
def Szd (sub : List Tok → Option Ex × List Tok) : Prop := ∀ ts y, (sub ts).1 = some y → y.size + (sub ts).2.length ≤ ts.length
theorem uLoop_szd {sub : List Tok → Option Ex × List Tok} (hs : Szd sub) (gs : List (List UInt8)) : ∀ (k : Nat) (e : Ex) (ts : List Tok) (y : Ex), (uLoop sub gs k e ts).1 = some y → y.size + (uLoop sub gs k e ts).2.length ≤ e.size + ts.length
  | 0, e, ts, y, h => by rw [uLoop] at h ⊢; simp only [Option.some.injEq] at h; subst h; exact Nat.le_refl _
  | k + 1, e, ts, y, h => by
    rw [uLoop] at h ⊢
    cases hn : nxT (sgT gs) ts with
    | none => rw [hn] at h; simp only [Option.some.injEq] at h; subst h; exact Nat.le_refl _
    | some q =>
      obtain ⟨t, r⟩ := q
      rw [hn] at h
      have h1 := (nxT_len hn).1
      subst h1
      simp only at h ⊢
      have h2 := hs r
      cases h3 : sub r with
      | mk o r2 =>
        rw [h3] at h h2
        cases o with
        | none => exact absurd h (by simp)
        | some b =>
          have h4 := h2 b rfl
          have h5 := uLoop_szd hs gs k (betT e t b) r2 y h
          rw [betT, Ex.size, Ex.sizes, Ex.sizes, Ex.sizes] at h5
          simp only [List.length_cons] at h4 ⊢
          simp only [betT] at h5 ⊢
          omega
theorem uSev_szd {sub : List Tok → Option Ex × List Tok} (hs : Szd sub) (gs : List (List UInt8)) : Szd (uSev sub gs) := by
  intro ts y h
  have h2 := hs ts
  rw [uSev] at h ⊢
  cases h3 : sub ts with
  | mk o r =>
    rw [h3] at h h2
    cases o with
    | none => exact absurd h (by simp)
    | some e =>
      have h4 := h2 e rfl
      have h5 := uLoop_szd hs gs (r.length + 1) e r y h
      simp only at h4 h5 ⊢
      omega
theorem uAhead_szd {sub other : List Tok → Option Ex × List Tok} (hs : Szd sub) (ho : Szd other) (op : List UInt8) (gs : List (List UInt8)) : Szd (uAhead op gs sub other) := by
  intro ts y h
  rw [uAhead] at h ⊢
  cases hn : nxT (sgT gs) ts with
  | none => rw [hn] at h; exact ho ts y h
  | some q =>
    obtain ⟨t, r⟩ := q
    rw [hn] at h
    have h1 := (nxT_len hn).1
    subst h1
    have h2 := hs r
    simp only at h ⊢
    cases h3 : sub r with
    | mk o r2 =>
      rw [h3] at h h2
      cases o with
      | none => exact absurd h (by simp)
      | some e =>
        have h4 := h2 e rfl
        simp only [Option.some.injEq] at h
        subst h
        rw [op1, Ex.size, Ex.sizes, Ex.sizes]
        simp only [List.length_cons] at h4 ⊢
        omega
theorem uCmp_szd {sub : List Tok → Option Ex × List Tok} (hs : Szd sub) : Szd (uCmp sub) := by
  intro ts y h
  have h2 := hs ts
  rw [uCmp] at h ⊢
  cases h3 : sub ts with
  | mk o r =>
    rw [h3] at h h2
    cases o with
    | none => exact absurd h (by simp)
    | some e =>
      have h4 := h2 e rfl
      simp only at h h4 ⊢
      cases hn : nxT (sgT cmpL) r with
      | none => rw [hn] at h; simp only [Option.some.injEq] at h; subst h; exact h4
      | some q =>
        obtain ⟨t, r2⟩ := q
        rw [hn] at h
        have h1 := (nxT_len hn).1
        subst h1
        have h5 := hs r2
        simp only at h ⊢
        cases h6 : sub r2 with
        | mk o r3 =>
          rw [h6] at h h5
          cases o with
          | none => exact absurd h (by simp)
          | some b =>
            have h7 := h5 b rfl
            simp only [Option.some.injEq] at h
            subst h
            rw [betT, Ex.size, Ex.sizes, Ex.sizes, Ex.sizes]
            simp only [List.length_cons] at h4 h7 ⊢
            omega
theorem sizes_app : ∀ (l m : List Ex), Ex.sizes (l ++ m) = Ex.sizes l + Ex.sizes m
  | [], m => by rw [Ex.sizes, List.nil_append]; omega
  | x :: l, m => by rw [List.cons_append, Ex.sizes, Ex.sizes, sizes_app l m]; omega
theorem uBr_szd {sub : List Tok → Option Ex × List Tok} (hs : Szd sub) : ∀ (k : Nat) (acc : List Ex) (ts : List Tok) (l : List Ex), (uBr sub k acc ts).1 = some l → Ex.sizes l + (uBr sub k acc ts).2.length + 1 ≤ Ex.sizes acc + ts.length
  | 0, acc, ts, l, h => by
    rw [uBr] at h ⊢
    cases hn : nxT (sgT [[41]]) ts with
    | none => rw [hn] at h; exact absurd h (by simp)
    | some q =>
      obtain ⟨t, r⟩ := q
      rw [hn] at h
      have h1 := (nxT_len hn).1
      subst h1
      simp only [Option.some.injEq] at h
      subst h
      simp only [List.length_cons]
      omega
  | k + 1, acc, ts, l, h => by
    rw [uBr] at h ⊢
    cases hn : nxT (sgT [if acc.length = 0 then [40] else [44]]) ts with
    | none => rw [hn] at h; exact absurd h (by simp)
    | some q =>
      obtain ⟨t, r⟩ := q
      rw [hn] at h
      have h1 := (nxT_len hn).1
      subst h1
      have h2 := hs r
      simp only at h ⊢
      cases h3 : sub r with
      | mk o r2 =>
        rw [h3] at h h2
        cases o with
        | none => exact absurd h (by simp)
        | some e =>
          have h4 := h2 e rfl
          have h5 := uBr_szd hs k (acc ++ [e]) r2 l h
          rw [sizes_app, Ex.sizes, Ex.sizes] at h5
          simp only [List.length_cons] at h4 h5 ⊢
          omega
theorem uOne_szd {sub : List Tok → Option Ex × List Tok} (hs : Szd sub) : Szd (uOne sub) := by
  intro ts y h
  cases hn : nxT (sgT lenIf) ts with
  | some q =>
    obtain ⟨t, r⟩ := q
    rw [uOne_call hn] at h ⊢
    have h1 := (nxT_len hn).1
    have h2 := uBr_szd hs (manyT t) [] r
    cases h3 : (uBr sub (manyT t) [] r).1 with
    | none => rw [h3] at h; exact absurd h (by simp)
    | some l =>
      rw [h3] at h
      simp only [Option.map_some, Option.some.injEq] at h
      have h4 := h2 l h3
      rw [← h, Ex.size, h1]
      rw [Ex.sizes] at h4
      simp only [List.length_cons]
      omega
  | none =>
    cases hv : nxT vlT ts with
    | some q =>
      obtain ⟨t, r⟩ := q
      rw [uOne_val hn hv] at h ⊢
      simp only [Option.some.injEq] at h
      rw [← h, valE, Ex.size, Ex.sizes, (nxT_len hv).1, List.length_cons]
      show 1 + 0 + r.length ≤ r.length + 1
      omega
    | none =>
      cases hc : nxT nmT ts with
      | some q =>
        obtain ⟨t, r⟩ := q
        rw [uOne_col hn hv hc] at h ⊢
        simp only [Option.some.injEq] at h
        rw [← h, colE1, Ex.size, Ex.sizes, (nxT_len hc).1, List.length_cons]
        show 1 + 0 + r.length ≤ r.length + 1
        omega
      | none =>
        rw [uOne_br hn hv hc] at h ⊢
        have h2 := uBr_szd hs 1 [] ts
        have h5 := uBr_len (sub := sub) 1 [] ts
        cases h3 : (uBr sub 1 [] ts).1 with
        | none => rw [h3] at h; exact absurd h (by simp)
        | some l =>
          rw [h3] at h
          have h4 := h2 l h3
          have h6 := h5 l h3
          match l, h6 with
          | [x], _ =>
            simp only [Option.bind_some, List.head?_cons, Option.some.injEq] at h
            subst h
            rw [Ex.sizes, Ex.sizes, Ex.sizes] at h4
            simp only
            omega
theorem uE_szd : ∀ (f lv : Nat), Szd (uE f lv)
  | 0, lv => fun ts y h => by rw [uE] at h; exact absurd h (by simp)
  | f + 1, lv => by
    have ih := fun lv => uE_szd f lv
    intro ts
    unfold uE
    split
    · exact uSev_szd (ih 1) _ ts
    · exact uSev_szd (ih 2) _ ts
    · exact uAhead_szd (ih 2) (ih 3) _ _ ts
    · exact uCmp_szd (ih 4) ts
    · exact uSev_szd (ih 5) _ ts
    · exact uSev_szd (ih 6) _ ts
    · exact uAhead_szd (ih 6) (ih 7) _ _ ts
    · exact uOne_szd (ih 0) ts
--END
end Go.Proofs.YtomakklbfjkdpaaGreatDoor
