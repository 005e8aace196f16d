/-
  Same of package tree, at any two expressions.
-/
import Derived.Test.YtkbhmghdonomnaaGreatDoorGzAh
import Derived.Test.YtkbhmghdonomnaaGreatDoorZTreeSm
namespace Go.Proofs.YtkbhmghdonomnaaGreatDoor
open Go.RowKit Go.BigFrame
set_option linter.unusedVariables false
theorem tail_run {w : World} {lo : Nat → Prop} {pa : Option Addr} {ca : Nat} {y : Ex} {ys : List Ex} (h : ArgsIs w lo (.slice pa (ys.length + 1) ca) (y :: ys)) :
  ∃ pa' ca', (∀ W : World, Sem.run Tryz.prog (Instr.slice 24 (.slice pa (ys.length + 1) ca) (some (.int .i64 1)) none none) W = .ok (.slice pa' ys.length ca') W) ∧ ArgsIs w lo (.slice pa' ys.length ca') ys := by
 refine ⟨if ca = 1 then pa else pa.map (·.add (1 * 7)), ca - 1, fun W => ?_, h.tail rfl rfl⟩
 have h1 := run_slice_l (P := Tryz.prog) (w := W) 24 pa (ys.length + 1) ca (by kernel_rfl) .i64 1 (by omega) (by omega)
 rw [h1]
 have h2 : (sizeOf (Tryz.prog.elem 24)).run Tryz.prog W = .ok 7 W := by kernel_rfl
 rw [h2]
 rfl
def allSame (st : List (List Ex × List Ex)) : Bool := st.all fun q => sameL false q.1 q.2
def pairN (st : List (List Ex × List Ex)) : Nat := st.length + 2 * (st.map fun q => Ex.sizes q.1).sum
def pairC (st : List (Value × Value)) : List Value := st.flatMap fun q => [q.1, q.2]
theorem pairC_len (st : List (Value × Value)) : (pairC st).length = st.length * 2 := by
 induction st with
 | nil => rfl
 | cons q r ih => rw [pairC, List.flatMap_cons, List.length_append, ← pairC, ih, List.length_cons]; simp; omega
theorem pairC_snoc (st : List (Value × Value)) (q : Value × Value) : pairC (st ++ [q]) = pairC st ++ [q.1, q.2] := by simp [pairC]
theorem own2_pop {W : World} {B : Nat} {e : TypeId} {g cap : Nat} {vs : List (Value × Value)} {v : Value × Value} (h : W.ownsRow B e 2 (.slice (some ⟨g, 0, none⟩) (vs.length + 1) cap) (vs.length + 1) (pairC (vs ++ [v]))) : W.ownsRow B e 2 (.slice (some ⟨g, 0, none⟩) vs.length cap) vs.length (pairC vs) := by
 refine ⟨pairC_len vs, .inr ?_⟩
 rcases h.2 with ⟨e1, _⟩ | ⟨g', cap', cur, e1, hb, hg, hn, hm, hs, ht⟩
 ·injection e1 with e1; simp at e1
 ·injection e1 with e1 e2 e3
  injection e1 with e1
  injection e1 with e1
  subst e1 e3
  refine ⟨_, _, cur, rfl, hb, hg, by omega, hm, hs, ?_⟩
  have h3 : List.take (vs.length * 2) cur.toList = List.take (vs.length * 2) (pairC (vs ++ [v])) := by
   rw [← ht, List.take_take]
   congr 1
   omega
  rw [h3, pairC_snoc, ← pairC_len]
  exact List.take_left
theorem own2_top {W : World} {B : Nat} {e : TypeId} {g cap : Nat} {vs : List (Value × Value)} {v : Value × Value} (h : W.ownsRow B e 2 (.slice (some ⟨g, 0, none⟩) (vs.length + 1) cap) (vs.length + 1) (pairC (vs ++ [v]))) : W.cell? ⟨g, vs.length * 2, none⟩ = some v.1 ∧ W.cell? ⟨g, vs.length * 2 + 1, none⟩ = some v.2 ∧ W.frozen? ⟨g, vs.length * 2, none⟩ = false ∧ W.frozen? ⟨g, vs.length * 2 + 1, none⟩ = false ∧ g < W.heap.size ∧ B ≤ g ∧ vs.length + 1 ≤ cap := by
 rcases h.2 with ⟨e1, _⟩ | ⟨g', cap', cur, e1, hb, hg, hn, hm, hs, ht⟩
 ·injection e1 with e1; simp at e1
 ·injection e1 with e1 e2 e3
  injection e1 with e1
  injection e1 with e1
  subst e1 e3
  have hl := pairC_len vs
  refine ⟨?_, ?_, by simp [World.frozen?, hg], by simp [World.frozen?, hg], (Array.getElem?_eq_some_iff.1 hg).1, hb, hn⟩
  ·have h1 := h.cells (g := g) rfl (vs.length * 2) v.1 (by rw [pairC_snoc, List.getElem?_append_right (by omega), hl]; simp)
   rw [Go.WideShapes.add_plain] at h1
   simpa using h1
  ·have h1 := h.cells (g := g) rfl (vs.length * 2 + 1) v.2 (by rw [pairC_snoc, List.getElem?_append_right (by omega), hl]; simp)
   rw [Go.WideShapes.add_plain] at h1
   simpa [Nat.add_assoc] using h1
theorem own2_put {W : World} {B : Nat} {e : TypeId} {g cap : Nat} {vs : List (Value × Value)} {v u : Value × Value} (h : W.ownsRow B e 2 (.slice (some ⟨g, 0, none⟩) (vs.length + 1) cap) (vs.length + 1) (pairC (vs ++ [v]))) : ((W.setCell ⟨g, vs.length * 2, none⟩ u.1).setCell ⟨g, vs.length * 2 + 1, none⟩ u.2).ownsRow B e 2 (.slice (some ⟨g, 0, none⟩) (vs.length + 1) cap) (vs.length + 1) (pairC (vs ++ [u])) := by
 refine ⟨by rw [pairC_len]; simp, .inr ?_⟩
 rcases h.2 with ⟨e1, _⟩ | ⟨g', cap', cur, e1, hb, hg, hn, hm, hs, ht⟩
 ·injection e1 with e1; simp at e1
 ·injection e1 with e1 e2 e3
  injection e1 with e1
  injection e1 with e1
  subst e1 e3
  have hl := pairC_len vs
  have hg1 : (W.setCell ⟨g, vs.length * 2, none⟩ u.1).heap[g]? = some (.cells (cur.setIfInBounds (vs.length * 2) u.1) e (0, 0)) := by
   rw [setCell_eq_setRow W g _ cur e (0, 0) u.1 hg]
   exact setRow_heap W g cur _ e _ hg
  refine ⟨g, cap, (cur.setIfInBounds (vs.length * 2) u.1).setIfInBounds (vs.length * 2 + 1) u.2, rfl, hb, ?_, by omega, hm, by simpa using hs, ?_⟩
  ·rw [setCell_eq_setRow _ g _ _ e (0, 0) u.2 hg1]
   exact setRow_heap _ g _ _ e _ hg1
  ·rw [Array.toList_setIfInBounds, Array.toList_setIfInBounds, List.take_set, List.take_set, ht, pairC_snoc, pairC_snoc, ← hl, List.set_append_right _ _ (Nat.le_refl _), List.set_append_right _ _ (by omega)]
   simp
def StkP (w : World) (lo : Nat → Prop) : List (Value × Value) → List (List Ex × List Ex) → Prop
 | [], [] => True
 | v :: vs, q :: st => (ArgsIs w lo v.1 q.1 ∧ ArgsIs w lo v.2 q.2 ∧ q.1.length = q.2.length) ∧ StkP w lo vs st
 | _, _ => False
theorem StkP.keep {w w' : World} {lo : Nat → Prop} (hz : w.heap.size ≤ w'.heap.size) (hk : ∀ b o : Nat, lo b → b < w.heap.size → w'.cell? ⟨b, o, none⟩ = w.cell? ⟨b, o, none⟩) : ∀ {vs : List (Value × Value)} {st : List (List Ex × List Ex)}, StkP w lo vs st → StkP w' lo vs st
 | [], [], _ => trivial
 | v :: vs, q :: st, h => ⟨⟨h.1.1.keep hz hk, h.1.2.1.keep hz hk, h.1.2.2⟩, StkP.keep hz hk h.2⟩
 | [], _ :: _, h => absurd h id
 | _ :: _, [], h => absurd h id
theorem StkP.len {w : World} {lo : Nat → Prop} : ∀ {vs : List (Value × Value)} {st : List (List Ex × List Ex)}, StkP w lo vs st → vs.length = st.length
 | [], [], _ => rfl
 | v :: vs, q :: st, h => by rw [List.length_cons, List.length_cons, StkP.len h.2]
 | [], _ :: _, h => absurd h id
 | _ :: _, [], h => absurd h id
theorem StkP.front {w : World} {lo : Nat → Prop} : ∀ {vs : List (Value × Value)} {v : Value × Value} {st : List (List Ex × List Ex)} {q : List Ex × List Ex}, StkP w lo (vs ++ [v]) (st ++ [q]) → StkP w lo vs st ∧ ArgsIs w lo v.1 q.1 ∧ ArgsIs w lo v.2 q.2 ∧ q.1.length = q.2.length
 | [], v, [], q, h => ⟨trivial, h.1⟩
 | u :: vs, v, p :: st, q, h => by
  have := StkP.front (vs := vs) (st := st) h.2
  exact ⟨⟨h.1, this.1⟩, this.2⟩
 | [], v, p :: st, q, h => by have := StkP.len h; simp at this
 | u :: vs, v, [], q, h => by have := StkP.len h; simp at this
theorem StkP.snoc {w : World} {lo : Nat → Prop} {v : Value × Value} {q : List Ex × List Ex} (hv : ArgsIs w lo v.1 q.1 ∧ ArgsIs w lo v.2 q.2 ∧ q.1.length = q.2.length) : ∀ {vs : List (Value × Value)} {st : List (List Ex × List Ex)}, StkP w lo vs st → StkP w lo (vs ++ [v]) (st ++ [q])
 | [], [], h => ⟨hv, trivial⟩
 | u :: vs, p :: st, h => ⟨h.1, StkP.snoc hv h.2⟩
 | [], _ :: _, h => absurd h id
 | _ :: _, [], h => absurd h id
theorem pairN_nil (st : List (List Ex × List Ex)) (m : List Ex) : pairN (st ++ [([], m)]) = pairN st + 1 := by
 simp [pairN, Ex.sizes]; omega
theorem pairN_cons (st : List (List Ex × List Ex)) (x y : Ex) (xs ys : List Ex) : pairN (st ++ [(x :: xs, y :: ys)]) = pairN (st ++ [(xs, ys)] ++ [(x.args, y.args)]) + 1 := by
 cases x
 simp [pairN, Ex.sizes, Ex.size, Ex.args]; omega
theorem info_pr : (Tryz.prog.info? 153).map (fun i => (i.zero, i.size, i.bytes)) = some (some (.agg #[.slice none 0 0, .slice none 0 0]), 2, 48) := by kernel_rfl
theorem ExIn.parts {w : World} {lo : Nat → Prop} {o n s : ByteArray} {t k ps : Int} {p : Option Addr} {m c : Nat} {x : Ex} (h : ExIn w lo (.agg #[.string o, .string n, .int .i64 t, .int .i64 k, .string s, .slice p m c, .int .i64 ps]) x) : x = .node o n t k s ps x.args ∧ m = x.args.length := by
 cases x with
 | node op nm vt vn vs pos l =>
  rw [ExIn] at h
  obtain ⟨p', c', e, _⟩ := h
  injection e with e
  simp only [Array.mk.injEq, List.cons.injEq, and_true, Value.string.injEq, Value.int.injEq, true_and, Value.slice.injEq] at e
  obtain ⟨rfl, rfl, rfl, rfl, rfl, ⟨rfl, rfl, rfl⟩, rfl⟩ := e
  exact ⟨rfl, rfl⟩
theorem sameE_parts {o n s o2 n2 s2 : ByteArray} {t k ps t2 k2 ps2 : Int} {l l2 : List Ex} : sameE false (.node o n t k s ps l) (.node o2 n2 t2 k2 s2 ps2 l2) = ((o.toList == o2.toList) && ((n.toList == n2.toList) && (((t == t2) && ((k == k2) && (s.toList == s2.toList))) && sameL false l l2))) := by
 rw [sameE]; simp
theorem allSame_nil (st : List (List Ex × List Ex)) : allSame (st ++ [([], [])]) = allSame st := by
 rw [allSame, List.all_append]; simp [allSame, sameL]
theorem allSame_snoc (st : List (List Ex × List Ex)) (q : List Ex × List Ex) : allSame (st ++ [q]) = (allSame st && sameL false q.1 q.2) := by
 rw [allSame, List.all_append]; simp [allSame]
end Go.Proofs.YtkbhmghdonomnaaGreatDoor
