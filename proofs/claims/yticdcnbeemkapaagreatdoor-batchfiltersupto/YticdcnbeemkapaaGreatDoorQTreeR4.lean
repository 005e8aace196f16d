/-
  The program's reader of words (package tree): several, over any part.
-/
import Derived.Test.YticdcnbeemkapaaGreatDoorGrAe
namespace Go.Proofs.YticdcnbeemkapaaGreatDoor
open Go.RowKit Go.BigFrame
set_option linter.unusedVariables false
variable {en : Nat}

/-- A function reads these words as the plain reading says: what comes, and what is left. -/
def Reads (f : FuncId) (sub : List Tok → Option Ex × List Tok) (ts : List Tok) : Prop := ∀ (w : World) (r : Nat) ⦃en : Nat⦄, RdAt en w r ts → TEnv w → 6 ≤ r →
  Calls Tryz.prog f #[.pointer (some ⟨r, 0, none⟩)] w fun e w' => ∃ v ok x, e = .returned (.tuple #[v, .bool ok]) ∧ Aside (ExIn w' (w.heap.size ≤ ·) v x) ∧ Aside (RdAt en w' r (sub ts).2) ∧ Aside (But r w w') ∧ Hid ((sub ts).1 = if ok = true then some x else none)
/-- Seven cells that may be written, in a block. -/
structure Box7 (w : World) (b : Nat) (a0 a1 a2 a3 a4 a5 a6 : Value) : Prop where
  c0 : w.cell? ⟨b, 0, none⟩ = some a0
  c1 : w.cell? ⟨b, 1, none⟩ = some a1
  c2 : w.cell? ⟨b, 2, none⟩ = some a2
  c3 : w.cell? ⟨b, 3, none⟩ = some a3
  c4 : w.cell? ⟨b, 4, none⟩ = some a4
  c5 : w.cell? ⟨b, 5, none⟩ = some a5
  c6 : w.cell? ⟨b, 6, none⟩ = some a6
  fz : ∀ o, w.frozen? ⟨b, o, none⟩ = false
  lt : b < w.heap.size
theorem Box7.but {w w' : World} {r b : Nat} {a0 a1 a2 a3 a4 a5 a6 : Value} (h : Box7 w b a0 a1 a2 a3 a4 a5 a6) (hb : But r w w') (hr : b ≠ r) : Box7 w' b a0 a1 a2 a3 a4 a5 a6 := by
  obtain ⟨c0, c1, c2, c3, c4, c5, c6, fz, lt⟩ := h
  refine ⟨?_, ?_, ?_, ?_, ?_, ?_, ?_, fun o => by rw [but_frozen hb o lt hr]; exact fz o, by have := hb.size; omega⟩
  all_goals (rw [hb.cell _ lt hr]; assumption)
theorem Box7.on {w w' : World} {b : Nat} {a0 a1 a2 a3 a4 a5 a6 : Value} (h : Box7 w b a0 a1 a2 a3 a4 a5 a6) (hb : Below w.heap.size w w') : Box7 w' b a0 a1 a2 a3 a4 a5 a6 := by
  obtain ⟨c0, c1, c2, c3, c4, c5, c6, fz, lt⟩ := h
  have hc := fun o => hb.cell (p := ⟨b, o, none⟩) lt
  have hf := fun o => hb.frozen (p := ⟨b, o, none⟩) lt
  refine ⟨?_, ?_, ?_, ?_, ?_, ?_, ?_, fun o => by rw [hf]; exact fz o, by have := hb.size; omega⟩
  all_goals (rw [hc]; assumption)
theorem box7_alloc (w : World) (a0 a1 a2 a3 a4 a5 a6 : Value) (t : TypeId) : Box7 (w.alloc (.cells #[a0, a1, a2, a3, a4, a5, a6] t)) w.heap.size a0 a1 a2 a3 a4 a5 a6 := by
  refine ⟨?_, ?_, ?_, ?_, ?_, ?_, ?_, fun o => World.frozen?_alloc_at _ _ _ _ rfl, by simp⟩
  all_goals (rw [World.cell?_alloc_at _ _ _ _ rfl]; rfl)
theorem box7_at (w : World) (n : Nat) (hn : n = w.heap.size) (a0 a1 a2 a3 a4 a5 a6 : Value) (t : TypeId) : Box7 (w.alloc (.cells #[a0, a1, a2, a3, a4, a5, a6] t)) n a0 a1 a2 a3 a4 a5 a6 := by
  subst hn
  exact box7_alloc w a0 a1 a2 a3 a4 a5 a6 t
theorem Box7.set {w : World} {b : Nat} {a0 a1 a2 a3 a4 a5 a6 : Value} (h : Box7 w b a0 a1 a2 a3 a4 a5 a6) (v0 v1 v2 v3 v4 v5 v6 : Value) : Box7 (((((((w.setCell ⟨b, 0, none⟩ v0).setCell ⟨b, 1, none⟩ v1).setCell ⟨b, 2, none⟩ v2).setCell ⟨b, 3, none⟩ v3).setCell ⟨b, 4, none⟩ v4).setCell ⟨b, 5, none⟩ v5).setCell ⟨b, 6, none⟩ v6) b v0 v1 v2 v3 v4 v5 v6 := by
  obtain ⟨c0, c1, c2, c3, c4, c5, c6, fz, lt⟩ := h
  refine ⟨?_, ?_, ?_, ?_, ?_, ?_, ?_, fun o => by simpa using fz o, by simpa [World.setCell] using lt⟩
  all_goals simp [World.cell?_setCell_other, World.cell?_setCell_same, c0, c1, c2, c3, c4, c5, c6]
theorem Box7.far {w : World} {b z : Nat} {a0 a1 a2 a3 a4 a5 a6 : Value} (h : Box7 w b a0 a1 a2 a3 a4 a5 a6) (hz : b ≠ z) (v0 v1 v2 v3 v4 v5 v6 : Value) : Box7 (((((((w.setCell ⟨z, 0, none⟩ v0).setCell ⟨z, 1, none⟩ v1).setCell ⟨z, 2, none⟩ v2).setCell ⟨z, 3, none⟩ v3).setCell ⟨z, 4, none⟩ v4).setCell ⟨z, 5, none⟩ v5).setCell ⟨z, 6, none⟩ v6) b a0 a1 a2 a3 a4 a5 a6 := by
  obtain ⟨c0, c1, c2, c3, c4, c5, c6, fz, lt⟩ := h
  refine ⟨?_, ?_, ?_, ?_, ?_, ?_, ?_, fun o => by simpa using fz o, by simpa [World.setCell] using lt⟩
  all_goals simp [World.cell?_setCell_other, c0, c1, c2, c3, c4, c5, c6]
theorem But.set7 {r : Nat} {w w1 : World} (h : But r w w1) {z : Nat} (hz : w.heap.size ≤ z) (hr : r ≤ z) (v0 v1 v2 v3 v4 v5 v6 : Value) : But r w (((((((w1.setCell ⟨z, 0, none⟩ v0).setCell ⟨z, 1, none⟩ v1).setCell ⟨z, 2, none⟩ v2).setCell ⟨z, 3, none⟩ v3).setCell ⟨z, 4, none⟩ v4).setCell ⟨z, 5, none⟩ v5).setCell ⟨z, 6, none⟩ v6) :=
  ((((((h.setNew z 0 hz hr v0).setNew z 1 hz hr v1).setNew z 2 hz hr v2).setNew z 3 hz hr v3).setNew z 4 hz hr v4).setNew z 5 hz hr v5).setNew z 6 hz hr v6
theorem ExIn.set7 {w : World} {lo : Nat → Prop} {v : Value} {x : Ex} (h : ExIn w lo v x) {z : Nat} (hz : ∀ b, lo b → b ≠ z) (v0 v1 v2 v3 v4 v5 v6 : Value) : ExIn (((((((w.setCell ⟨z, 0, none⟩ v0).setCell ⟨z, 1, none⟩ v1).setCell ⟨z, 2, none⟩ v2).setCell ⟨z, 3, none⟩ v3).setCell ⟨z, 4, none⟩ v4).setCell ⟨z, 5, none⟩ v5).setCell ⟨z, 6, none⟩ v6) lo v x :=
  ExIn.keep (by simp [World.setCell]) (fun b o h1 h2 => by have := hz b h1; simp [World.cell?_setCell_other]) x v h
theorem RdAt.set7 {w : World} {r : Nat} {ts : List Tok} (h : RdAt en w r ts) {z : Nat} (hz : r < z) (v0 v1 v2 v3 v4 v5 v6 : Value) : RdAt en (((((((w.setCell ⟨z, 0, none⟩ v0).setCell ⟨z, 1, none⟩ v1).setCell ⟨z, 2, none⟩ v2).setCell ⟨z, 3, none⟩ v3).setCell ⟨z, 4, none⟩ v4).setCell ⟨z, 5, none⟩ v5).setCell ⟨z, 6, none⟩ v6) r ts :=
  h.onB (((((((( Below.refl (r + 1) w).setCell (p := ⟨z, 0, none⟩) hz v0).setCell (p := ⟨z, 1, none⟩) hz v1).setCell (p := ⟨z, 2, none⟩) hz v2).setCell (p := ⟨z, 3, none⟩) hz v3).setCell (p := ⟨z, 4, none⟩) hz v4).setCell (p := ⟨z, 5, none⟩) hz v5).setCell (p := ⟨z, 6, none⟩) hz v6) (by simp [World.setCell])
theorem al (W : World) (o : Obj) : Below W.heap.size W (W.alloc o) := (Below.refl W.heap.size W).alloc (Nat.le_refl _) o
/-- Beyond a block, and not another one. -/
def Off (n e : Nat) (b : Nat) : Prop := n < b ∧ b ≠ e
/-- How far several has come. -/
def SevRel (sub : List Tok → Option Ex × List Tok) (gs : List (List UInt8)) (ts : List Tok) (gg : Nat) (ok : Bool) (x : Ex) (ts' : List Tok) : Prop :=
  ts' <:+ ts ∧ (ok = true → ts'.length < gg ∧ uSev sub gs ts = uLoop sub gs gg x ts') ∧ (ok = false → uSev sub gs ts = (none, ts'))
theorem sevRel_start {sub : List Tok → Option Ex × List Tok} {gs : List (List UInt8)} {ts : List Tok} {ok : Bool} {x : Ex} (hsuf : Suf sub) (h : (sub ts).1 = if ok = true then some x else none) : SevRel sub gs ts ((sub ts).2.length + 1) ok x (sub ts).2 := by
  refine ⟨hsuf ts, ?_, ?_⟩
  · rintro rfl
    rw [if_pos rfl] at h
    refine ⟨by omega, ?_⟩
    rw [uSev]
    cases h3 : sub ts with
    | mk o r => rw [h3] at h; simp only at h; subst h; rfl
  · rintro rfl
    rw [if_neg (by decide)] at h
    rw [uSev]
    cases h3 : sub ts with
    | mk o r => rw [h3] at h; simp only at h; subst h; rfl
theorem sevRel_end {sub : List Tok → Option Ex × List Tok} {gs : List (List UInt8)} {ts ts' : List Tok} {gg : Nat} {x : Ex} (h : SevRel sub gs ts gg true x ts') (hn : nxT (sgT gs) ts' = none) : uSev sub gs ts = (some x, ts') := by
  obtain ⟨_, h2, _⟩ := h
  obtain ⟨h3, h4⟩ := h2 rfl
  obtain ⟨g, rfl⟩ : ∃ g, gg = g + 1 := ⟨gg - 1, by omega⟩
  rw [h4, uLoop, hn]
theorem sevRel_step {sub : List Tok → Option Ex × List Tok} {gs : List (List UInt8)} {ts ts' rs : List Tok} {gg : Nat} {x y : Ex} {t : Tok} {ok : Bool} (hsuf : Suf sub) (h : SevRel sub gs ts gg true x ts') (hn : nxT (sgT gs) ts' = some (t, rs)) (hy : (sub rs).1 = if ok = true then some y else none) : SevRel sub gs ts (gg - 1) ok (betT x t y) (sub rs).2 := by
  obtain ⟨h1, h2, _⟩ := h
  obtain ⟨h3, h4⟩ := h2 rfl
  obtain ⟨g, rfl⟩ : ∃ g, gg = g + 1 := ⟨gg - 1, by omega⟩
  obtain ⟨rfl, _⟩ := nxT_len hn
  have h5 := hsuf rs
  have h6 := h5.length_le
  refine ⟨(h5.trans (List.suffix_cons t rs)).trans h1, ?_, ?_⟩
  · rintro rfl
    rw [if_pos rfl] at hy
    simp only [List.length_cons] at h3
    refine ⟨by omega, ?_⟩
    rw [h4, uLoop, hn]
    cases h7 : sub rs with
    | mk o r => rw [h7] at hy; simp only at hy; subst hy; simp only [Nat.add_sub_cancel]; rw [h7]
  · rintro rfl
    rw [if_neg (by decide)] at hy
    rw [h4, uLoop, hn]
    cases h7 : sub rs with
    | mk o r => rw [h7] at hy; simp only at hy; subst hy; simp only; rw [h7]
abbrev partV (f : FuncId) (r : Nat) : Value := .func (.func f) #[.pointer (some ⟨r, 0, none⟩)] #[]
end Go.Proofs.YticdcnbeemkapaaGreatDoor
