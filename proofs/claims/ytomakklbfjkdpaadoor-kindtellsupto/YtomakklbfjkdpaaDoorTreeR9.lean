/-
  The program's reader of words (package tree): bracketed.
-/
import Derived.Test.YtomakklbfjkdpaaDoorTreeAp
namespace Go.Proofs.YtomakklbfjkdpaaDoor
open Go.RowKit Go.BigFrame
set_option linter.unusedVariables false

/-- Expressions that are gathered in a slice of one's own, from block B on. -/
def ArgsOwn (w : World) (B : Nat) (v : Value) (xs : List Ex) : Prop := ∃ cs : List Value, w.ownsRow B 27 7 v xs.length cs ∧
  ∀ j (h : j < xs.length), ∃ a0 a1 a2 a3 a4 a5 a6, cs[j * 7]? = some a0 ∧ cs[j * 7 + 1]? = some a1 ∧ cs[j * 7 + 2]? = some a2 ∧ cs[j * 7 + 3]? = some a3 ∧ cs[j * 7 + 4]? = some a4 ∧ cs[j * 7 + 5]? = some a5 ∧ cs[j * 7 + 6]? = some a6 ∧ ExIn w (fun b => B ≤ b ∧ some b ≠ v.ownBlock) (.agg #[a0, a1, a2, a3, a4, a5, a6]) xs[j]
theorem argsOwn_nil (w : World) (B : Nat) : ArgsOwn w B (.slice none 0 0) [] := ⟨[], World.ownsRow_nil _ _ _ _, fun j h => absurd h (Nat.not_lt_zero _)⟩
theorem own_but {W W' : World} {r base : Nat} {e : TypeId} {size : Nat} {v : Value} {n : Nat} {xs : List Value} (h : W.ownsRow base e size v n xs) (hb : But r W W') (hr : r < base) : W'.ownsRow base e size v n xs := by
  refine ⟨h.1, ?_⟩
  rcases h.2 with hn | ⟨g, cap, cur, rfl, h1, hgg, rest⟩
  · exact .inl hn
  · exact .inr ⟨g, cap, cur, rfl, h1, by rw [hb.kept g (Array.getElem?_eq_some_iff.1 hgg).1 (by omega)]; exact hgg, rest⟩
theorem ArgsOwn.but {w w' : World} {r B : Nat} {v : Value} {xs : List Ex} (h : ArgsOwn w B v xs) (hb : But r w w') (hr : r < B) : ArgsOwn w' B v xs := by
  obtain ⟨cs, h1, h2⟩ := h
  refine ⟨cs, own_but h1 hb hr, fun j hj => ?_⟩
  obtain ⟨a0, a1, a2, a3, a4, a5, a6, e0, e1, e2, e3, e4, e5, e6, hx⟩ := h2 j hj
  exact ⟨a0, a1, a2, a3, a4, a5, a6, e0, e1, e2, e3, e4, e5, e6, hx.but hb (fun b hb => by have := hb.1; omega)⟩
theorem ArgsOwn.on {w w' : World} {B : Nat} {v : Value} {xs : List Ex} (h : ArgsOwn w B v xs) (hb : Below w.heap.size w w') : ArgsOwn w' B v xs := by
  obtain ⟨cs, h1, h2⟩ := h
  refine ⟨cs, lown_below h1 hb, fun j hj => ?_⟩
  obtain ⟨a0, a1, a2, a3, a4, a5, a6, e0, e1, e2, e3, e4, e5, e6, hx⟩ := h2 j hj
  exact ⟨a0, a1, a2, a3, a4, a5, a6, e0, e1, e2, e3, e4, e5, e6, hx.on hb⟩
theorem ArgsOwn.push {w w' : World} {B : Nat} {v v' : Value} {xs : List Ex} {cs : List Value} {a0 a1 a2 a3 a4 a5 a6 : Value} {x : Ex} (h1 : w.ownsRow B 27 7 v xs.length cs) (h2 : ∀ j (h : j < xs.length), ∃ a0 a1 a2 a3 a4 a5 a6, cs[j * 7]? = some a0 ∧ cs[j * 7 + 1]? = some a1 ∧ cs[j * 7 + 2]? = some a2 ∧ cs[j * 7 + 3]? = some a3 ∧ cs[j * 7 + 4]? = some a4 ∧ cs[j * 7 + 5]? = some a5 ∧ cs[j * 7 + 6]? = some a6 ∧ ExIn w (fun b => B ≤ b ∧ some b ≠ v.ownBlock) (.agg #[a0, a1, a2, a3, a4, a5, a6]) xs[j])
    (hx : ExIn w (fun b => B ≤ b ∧ some b ≠ v.ownBlock) (.agg #[a0, a1, a2, a3, a4, a5, a6]) x) (hown' : w'.ownsRow B 27 7 v' (xs.length + 1) (cs ++ [a0, a1, a2, a3, a4, a5, a6])) (hg : w.grownBy w' v.ownBlock) (hf : v'.ownBlock = v.ownBlock ∨ v'.ownBlock = some w.heap.size) : ArgsOwn w' B v' (xs ++ [x]) := by
  have key : ∀ (y : Ex) (u : Value), ExIn w (fun b => B ≤ b ∧ some b ≠ v.ownBlock) u y → ExIn w' (fun b => B ≤ b ∧ some b ≠ v'.ownBlock) u y := fun y u hy => by
    have h3 := ExIn.low (lo' := fun b => (B ≤ b ∧ some b ≠ v.ownBlock) ∧ b < w.heap.size) (fun b hb hb2 => ⟨hb2, hb⟩) _ _ hy
    have h4 := ExIn.keep (w' := w') hg.size (fun b o hb _ => by simp only [World.cell?, hg.block b hb.2 hb.1.2]) _ _ h3
    refine ExIn.low (fun b _ hb => ⟨hb.1.1, ?_⟩) _ _ h4
    rcases hf with hf | hf
    · rw [hf]; exact hb.1.2
    · rw [hf]; intro e; injection e with e; have := hb.2; omega
  have hlen := h1.1
  refine ⟨cs ++ [a0, a1, a2, a3, a4, a5, a6], by rw [List.length_append, List.length_singleton]; exact hown', fun j hj => ?_⟩
  rw [List.length_append, List.length_singleton] at hj
  by_cases hj2 : j < xs.length
  · obtain ⟨b0, b1, b2, b3, b4, b5, b6, e0, e1, e2, e3, e4, e5, e6, hy⟩ := h2 j hj2
    refine ⟨b0, b1, b2, b3, b4, b5, b6, ?_, ?_, ?_, ?_, ?_, ?_, ?_, ?_⟩
    · rw [List.getElem?_append_left (by omega)]; exact e0
    · rw [List.getElem?_append_left (by omega)]; exact e1
    · rw [List.getElem?_append_left (by omega)]; exact e2
    · rw [List.getElem?_append_left (by omega)]; exact e3
    · rw [List.getElem?_append_left (by omega)]; exact e4
    · rw [List.getElem?_append_left (by omega)]; exact e5
    · rw [List.getElem?_append_left (by omega)]; exact e6
    · rw [List.getElem_append_left hj2]; exact key _ _ hy
  · obtain rfl : j = xs.length := by omega
    refine ⟨a0, a1, a2, a3, a4, a5, a6, ?_, ?_, ?_, ?_, ?_, ?_, ?_, ?_⟩
    · rw [List.getElem?_append_right (by omega), show xs.length * 7 - cs.length = 0 by omega]; rfl
    · rw [List.getElem?_append_right (by omega), show xs.length * 7 + 1 - cs.length = 1 by omega]; rfl
    · rw [List.getElem?_append_right (by omega), show xs.length * 7 + 2 - cs.length = 2 by omega]; rfl
    · rw [List.getElem?_append_right (by omega), show xs.length * 7 + 3 - cs.length = 3 by omega]; rfl
    · rw [List.getElem?_append_right (by omega), show xs.length * 7 + 4 - cs.length = 4 by omega]; rfl
    · rw [List.getElem?_append_right (by omega), show xs.length * 7 + 5 - cs.length = 5 by omega]; rfl
    · rw [List.getElem?_append_right (by omega), show xs.length * 7 + 6 - cs.length = 6 by omega]; rfl
    · rw [List.getElem_append_right (Nat.le_refl _)]; simp only [Nat.sub_self, List.getElem_cons_zero]; exact key _ _ hx
/-- A slice of expressions, as a value. -/
def ArgsIs (w : World) (lo : Nat → Prop) (v : Value) (xs : List Ex) : Prop := ∃ p c, v = .slice p xs.length c ∧ (xs.length ≤ maxLen ∧ xs.length ≤ c) ∧ (xs.length = 0 ∨ ∃ b off, p = some ⟨b, off, none⟩ ∧ b < w.heap.size ∧ lo b ∧ ExsIn w lo b off xs)
theorem ArgsOwn.is {w : World} {B : Nat} {v : Value} {xs : List Ex} (h : ArgsOwn w B v xs) : ArgsIs w (B ≤ ·) v xs := by
  obtain ⟨cs, h1, h2⟩ := h
  rcases h1.2 with ⟨e, h0⟩ | ⟨g, cap, cur, e, hB, hgg, hcap, hmx, _, _⟩
  · exact ⟨none, 0, by rw [e, h0], ⟨by omega, by omega⟩, .inl h0⟩
  · refine ⟨_, cap, e, ⟨by omega, hcap⟩, .inr ⟨g, 0, rfl, (Array.getElem?_eq_some_iff.1 hgg).1, hB, exsIn_mk _ _ _ _ _ fun j hj => ?_⟩⟩
    obtain ⟨b0, b1, b2, b3, b4, b5, b6, e0, e1, e2, e3, e4, e5, e6, hy⟩ := h2 j hj
    have hc := fun k u hu => h1.cells (g := g) (by rw [e]; rfl) k u hu
    simp only [Go.WideShapes.add_plain] at hc
    refine ⟨b0, b1, b2, b3, b4, b5, b6, ?_, ?_, ?_, ?_, ?_, ?_, ?_, ExIn.low (fun b _ hb => hb.1) _ _ hy⟩
    · have := hc _ _ e0; simpa using this
    · have := hc _ _ e1; simpa [Nat.add_assoc] using this
    · have := hc _ _ e2; simpa [Nat.add_assoc] using this
    · have := hc _ _ e3; simpa [Nat.add_assoc] using this
    · have := hc _ _ e4; simpa [Nat.add_assoc] using this
    · have := hc _ _ e5; simpa [Nat.add_assoc] using this
    · have := hc _ _ e6; simpa [Nat.add_assoc] using this
theorem info_ex : (Tryd.prog.info? 27).map (fun i => (i.zero, i.size, i.bytes)) = some (some (.agg #[.string ⟨#[]⟩, .string ⟨#[]⟩, .int .i64 0, .int .i64 0, .string ⟨#[]⟩, .slice none 0 0, .int .i64 0]), 7, 96) := by kernel_rfl
theorem argsIs_nil (w : World) (lo : Nat → Prop) : ArgsIs w lo (.slice none 0 0) [] := ⟨none, 0, rfl, ⟨Nat.zero_le _, Nat.zero_le _⟩, .inl rfl⟩
theorem uBr_none {sub : List Tok → Option Ex × List Tok} {k : Nat} {acc : List Ex} {ts : List Tok} (h : nxT (sgT [if acc.length = 0 then [40] else [44]]) ts = none) : uBr sub (k + 1) acc ts = (none, ts) := by rw [uBr, h]
theorem uBr_bad {sub : List Tok → Option Ex × List Tok} {k : Nat} {acc : List Ex} {ts rs : List Tok} {t : Tok} (h : nxT (sgT [if acc.length = 0 then [40] else [44]]) ts = some (t, rs)) (hs : (sub rs).1 = none) : uBr sub (k + 1) acc ts = (none, (sub rs).2) := by
  rw [uBr, h]
  cases h3 : sub rs with
  | mk o r => rw [h3] at hs; simp only at hs; subst hs; simp only [h3]
theorem uBr_step {sub : List Tok → Option Ex × List Tok} {k : Nat} {acc : List Ex} {ts rs : List Tok} {t : Tok} {x : Ex} (h : nxT (sgT [if acc.length = 0 then [40] else [44]]) ts = some (t, rs)) (hs : (sub rs).1 = some x) : uBr sub (k + 1) acc ts = uBr sub k (acc ++ [x]) (sub rs).2 := by
  rw [uBr, h]
  cases h3 : sub rs with
  | mk o r => rw [h3] at hs; simp only at hs; subst hs; simp only [h3]
end Go.Proofs.YtomakklbfjkdpaaDoor
