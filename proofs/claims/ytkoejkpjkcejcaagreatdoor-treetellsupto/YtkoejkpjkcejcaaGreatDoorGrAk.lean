/-
  TreeBd, TreeSa, TreeSame, TreeBn, in one text.
-/
import Derived.Test.YtkoejkpjkcejcaaGreatDoorGrAj
import Derived.Test.YtkoejkpjkcejcaaGreatDoorGrAi
import Derived.BigQuiet
import Derived.Deep.RegionHeld3
import Derived.Deep.QuietTactic
import Derived.RegionTactic
import Derived.ChangeAlike
namespace Go.Proofs.YtkoejkpjkcejcaaGreatDoor
open Go.RowKit
set_option linter.unusedVariables false
--BEGIN
def bdS : List (List UInt8) := [[111, 114], [97, 110, 100], [61], [60], [43], [45], [42], [47], [37]]
def bdL : List Nat := [0, 1, 2, 2, 3, 3, 4, 4, 4]
def bdT (s t : List UInt8) : List UInt8 := [120, 32] ++ s ++ [32, 121, 32] ++ t ++ [32, 122]
def bdU (s t : List UInt8) (r : Bool) : List UInt8 := if r then [120, 32] ++ s ++ [32, 40, 121, 32] ++ t ++ [32, 122, 41] else [40, 120, 32] ++ s ++ [32, 121, 41, 32] ++ t ++ [32, 122]
def bdC (s t : List UInt8) (a b : Nat) : Bool :=
  if a = 2 ∧ b = 2 then decide ((parseP (bdT s t)).2.1 = 2) && decide ((parseP (bdT s t)).2.2 = 5 + s.length)
  else decide ((parseP (bdT s t)).2.1 = 0) && (decide ((parseP (bdU s t (decide (a < b)))).2.1 = 0) && sameE false (parseP (bdT s t)).1 (parseP (bdU s t (decide (a < b)))).1)
def bdAll : Bool := (bdS.zip bdL).all fun p => (bdS.zip bdL).all fun q => bdC p.1 q.1 p.2 q.2
set_option maxRecDepth 100000 in
theorem bd_all : bdAll = true := by kernel_rfl
theorem bd_at (a b : Nat) (ha : a < 9) (hb : b < 9) : bdC (bdS[a]'ha) (bdS[b]'hb) (bdL[a]'ha) (bdL[b]'hb) = true := by
  have h := bd_all
  rw [bdAll, List.all_eq_true] at h
  have h1 := h (bdS[a]'ha, bdL[a]'ha) (by rw [List.mem_iff_getElem]; exact ⟨a, by simpa [bdS, bdL] using ha, by simp; exact ⟨rfl, rfl⟩⟩)
  rw [List.all_eq_true] at h1
  exact h1 (bdS[b]'hb, bdL[b]'hb) (by rw [List.mem_iff_getElem]; exact ⟨b, by simpa [bdS, bdL] using hb, by simp; exact ⟨rfl, rfl⟩⟩)
--END
end Go.Proofs.YtkoejkpjkcejcaaGreatDoor
namespace Go.Proofs.YtkoejkpjkcejcaaGreatDoor
open Go.RowKit Go.BigFrame
set_option linter.unusedVariables false

/-- A slice of expressions from the second on. -/
theorem tail_run {w : World} {lo : Nat → Prop} {pa : Option Addr} {ca : Nat} {y : Ex} {ys : List Ex} (h : ArgsIs w lo (.slice pa (ys.length + 1) ca) (y :: ys)) :
    ∃ pa' ca', (∀ W : World, Sem.run Tryz.prog (Instr.slice 24 (.slice pa (ys.length + 1) ca) (some (.int .i64 1)) none none) W = .ok (.slice pa' ys.length ca') W) ∧ ArgsIs w lo (.slice pa' ys.length ca') ys := by
  refine ⟨if ca = 1 then pa else pa.map (·.add (1 * 7)), ca - 1, fun W => ?_, h.tail rfl rfl⟩
  have h1 := run_slice_l (P := Tryz.prog) (w := W) 24 pa (ys.length + 1) ca (by kernel_rfl) .i64 1 (by omega) (by omega)
  rw [h1]
  have h2 : (sizeOf (Tryz.prog.elem 24)).run Tryz.prog W = .ok 7 W := by kernel_rfl
  rw [h2]
  rfl
/-- Pairs of lists that are left, and what there is still to hold against each other. -/
def allSame (st : List (List Ex × List Ex)) : Bool := st.all fun q => sameL false q.1 q.2
def pairN (st : List (List Ex × List Ex)) : Nat := st.length + 2 * (st.map fun q => Ex.sizes q.1).sum
def pairC (st : List (Value × Value)) : List Value := st.flatMap fun q => [q.1, q.2]
theorem pairC_len (st : List (Value × Value)) : (pairC st).length = st.length * 2 := by
  induction st with
  | nil => rfl
  | cons q r ih => rw [pairC, List.flatMap_cons, List.length_append, ← pairC, ih, List.length_cons]; simp; omega
theorem pairC_snoc (st : List (Value × Value)) (q : Value × Value) : pairC (st ++ [q]) = pairC st ++ [q.1, q.2] := by simp [pairC]
theorem own2_pop {W : World} {B : Nat} {e : TypeId} {g cap : Nat} {vs : List (Value × Value)} {v : Value × Value} (h : W.ownsRow B e 2 (.slice (some ⟨g, 0, none⟩) (vs.length + 1) cap) (vs.length + 1) (pairC (vs ++ [v]))) : W.ownsRow B e 2 (.slice (some ⟨g, 0, none⟩) vs.length cap) vs.length (pairC vs) := by
  refine ⟨pairC_len vs, .inr ?_⟩
  rcases h.2 with ⟨e1, _⟩ | ⟨g', cap', cur, e1, hb, hg, hn, hm, hs, ht⟩
  · injection e1 with e1; simp at e1
  · injection e1 with e1 e2 e3
    injection e1 with e1
    injection e1 with e1
    subst e1 e3
    refine ⟨_, _, cur, rfl, hb, hg, by omega, hm, hs, ?_⟩
    have h3 : List.take (vs.length * 2) cur.toList = List.take (vs.length * 2) (pairC (vs ++ [v])) := by
      rw [← ht, List.take_take]
      congr 1
      omega
    rw [h3, pairC_snoc, ← pairC_len]
    exact List.take_left
theorem own2_top {W : World} {B : Nat} {e : TypeId} {g cap : Nat} {vs : List (Value × Value)} {v : Value × Value} (h : W.ownsRow B e 2 (.slice (some ⟨g, 0, none⟩) (vs.length + 1) cap) (vs.length + 1) (pairC (vs ++ [v]))) : W.cell? ⟨g, vs.length * 2, none⟩ = some v.1 ∧ W.cell? ⟨g, vs.length * 2 + 1, none⟩ = some v.2 ∧ W.frozen? ⟨g, vs.length * 2, none⟩ = false ∧ W.frozen? ⟨g, vs.length * 2 + 1, none⟩ = false ∧ g < W.heap.size ∧ B ≤ g ∧ vs.length + 1 ≤ cap := by
  rcases h.2 with ⟨e1, _⟩ | ⟨g', cap', cur, e1, hb, hg, hn, hm, hs, ht⟩
  · injection e1 with e1; simp at e1
  · injection e1 with e1 e2 e3
    injection e1 with e1
    injection e1 with e1
    subst e1 e3
    have hl := pairC_len vs
    refine ⟨?_, ?_, by simp [World.frozen?, hg], by simp [World.frozen?, hg], (Array.getElem?_eq_some_iff.1 hg).1, hb, hn⟩
    · have h1 := h.cells (g := g) rfl (vs.length * 2) v.1 (by rw [pairC_snoc, List.getElem?_append_right (by omega), hl]; simp)
      rw [Go.WideShapes.add_plain] at h1
      simpa using h1
    · have h1 := h.cells (g := g) rfl (vs.length * 2 + 1) v.2 (by rw [pairC_snoc, List.getElem?_append_right (by omega), hl]; simp)
      rw [Go.WideShapes.add_plain] at h1
      simpa [Nat.add_assoc] using h1
theorem own2_put {W : World} {B : Nat} {e : TypeId} {g cap : Nat} {vs : List (Value × Value)} {v u : Value × Value} (h : W.ownsRow B e 2 (.slice (some ⟨g, 0, none⟩) (vs.length + 1) cap) (vs.length + 1) (pairC (vs ++ [v]))) : ((W.setCell ⟨g, vs.length * 2, none⟩ u.1).setCell ⟨g, vs.length * 2 + 1, none⟩ u.2).ownsRow B e 2 (.slice (some ⟨g, 0, none⟩) (vs.length + 1) cap) (vs.length + 1) (pairC (vs ++ [u])) := by
  refine ⟨by rw [pairC_len]; simp, .inr ?_⟩
  rcases h.2 with ⟨e1, _⟩ | ⟨g', cap', cur, e1, hb, hg, hn, hm, hs, ht⟩
  · injection e1 with e1; simp at e1
  · injection e1 with e1 e2 e3
    injection e1 with e1
    injection e1 with e1
    subst e1 e3
    have hl := pairC_len vs
    have hg1 : (W.setCell ⟨g, vs.length * 2, none⟩ u.1).heap[g]? = some (.cells (cur.setIfInBounds (vs.length * 2) u.1) e (0, 0)) := by
      rw [setCell_eq_setRow W g _ cur e (0, 0) u.1 hg]
      exact setRow_heap W g cur _ e _ hg
    refine ⟨g, cap, (cur.setIfInBounds (vs.length * 2) u.1).setIfInBounds (vs.length * 2 + 1) u.2, rfl, hb, ?_, by omega, hm, by simpa using hs, ?_⟩
    · rw [setCell_eq_setRow _ g _ _ e (0, 0) u.2 hg1]
      exact setRow_heap _ g _ _ e _ hg1
    · rw [Array.toList_setIfInBounds, Array.toList_setIfInBounds, List.take_set, List.take_set, ht, pairC_snoc, pairC_snoc, ← hl, List.set_append_right _ _ (Nat.le_refl _), List.set_append_right _ _ (by omega)]
      simp
/-- Slices of expressions, a pair to each pair of lists. -/
def StkP (w : World) (lo : Nat → Prop) : List (Value × Value) → List (List Ex × List Ex) → Prop
  | [], [] => True
  | v :: vs, q :: st => (ArgsIs w lo v.1 q.1 ∧ ArgsIs w lo v.2 q.2 ∧ q.1.length = q.2.length) ∧ StkP w lo vs st
  | _, _ => False
theorem StkP.keep {w w' : World} {lo : Nat → Prop} (hz : w.heap.size ≤ w'.heap.size) (hk : ∀ b o : Nat, lo b → b < w.heap.size → w'.cell? ⟨b, o, none⟩ = w.cell? ⟨b, o, none⟩) : ∀ {vs : List (Value × Value)} {st : List (List Ex × List Ex)}, StkP w lo vs st → StkP w' lo vs st
  | [], [], _ => trivial
  | v :: vs, q :: st, h => ⟨⟨h.1.1.keep hz hk, h.1.2.1.keep hz hk, h.1.2.2⟩, StkP.keep hz hk h.2⟩
  | [], _ :: _, h => absurd h id
  | _ :: _, [], h => absurd h id
theorem StkP.len {w : World} {lo : Nat → Prop} : ∀ {vs : List (Value × Value)} {st : List (List Ex × List Ex)}, StkP w lo vs st → vs.length = st.length
  | [], [], _ => rfl
  | v :: vs, q :: st, h => by rw [List.length_cons, List.length_cons, StkP.len h.2]
  | [], _ :: _, h => absurd h id
  | _ :: _, [], h => absurd h id
theorem StkP.front {w : World} {lo : Nat → Prop} : ∀ {vs : List (Value × Value)} {v : Value × Value} {st : List (List Ex × List Ex)} {q : List Ex × List Ex}, StkP w lo (vs ++ [v]) (st ++ [q]) → StkP w lo vs st ∧ ArgsIs w lo v.1 q.1 ∧ ArgsIs w lo v.2 q.2 ∧ q.1.length = q.2.length
  | [], v, [], q, h => ⟨trivial, h.1⟩
  | u :: vs, v, p :: st, q, h => by
    have := StkP.front (vs := vs) (st := st) h.2
    exact ⟨⟨h.1, this.1⟩, this.2⟩
  | [], v, p :: st, q, h => by have := StkP.len h; simp at this
  | u :: vs, v, [], q, h => by have := StkP.len h; simp at this
theorem StkP.snoc {w : World} {lo : Nat → Prop} {v : Value × Value} {q : List Ex × List Ex} (hv : ArgsIs w lo v.1 q.1 ∧ ArgsIs w lo v.2 q.2 ∧ q.1.length = q.2.length) : ∀ {vs : List (Value × Value)} {st : List (List Ex × List Ex)}, StkP w lo vs st → StkP w lo (vs ++ [v]) (st ++ [q])
  | [], [], h => ⟨hv, trivial⟩
  | u :: vs, p :: st, h => ⟨h.1, StkP.snoc hv h.2⟩
  | [], _ :: _, h => absurd h id
  | _ :: _, [], h => absurd h id
theorem pairN_nil (st : List (List Ex × List Ex)) (m : List Ex) : pairN (st ++ [([], m)]) = pairN st + 1 := by
  simp [pairN, Ex.sizes]; omega
theorem pairN_cons (st : List (List Ex × List Ex)) (x y : Ex) (xs ys : List Ex) : pairN (st ++ [(x :: xs, y :: ys)]) = pairN (st ++ [(xs, ys)] ++ [(x.args, y.args)]) + 1 := by
  cases x
  simp [pairN, Ex.sizes, Ex.size, Ex.args]; omega
theorem info_pr : (Tryz.prog.info? 75).map (fun i => (i.zero, i.size, i.bytes)) = some (some (.agg #[.slice none 0 0, .slice none 0 0]), 2, 48) := by kernel_rfl
theorem ExIn.parts {w : World} {lo : Nat → Prop} {o n s : ByteArray} {t k ps : Int} {p : Option Addr} {m c : Nat} {x : Ex} (h : ExIn w lo (.agg #[.string o, .string n, .int .i64 t, .int .i64 k, .string s, .slice p m c, .int .i64 ps]) x) : x = .node o n t k s ps x.args ∧ m = x.args.length := by
  cases x with
  | node op nm vt vn vs pos l =>
    rw [ExIn] at h
    obtain ⟨p', c', e, _⟩ := h
    injection e with e
    simp only [Array.mk.injEq, List.cons.injEq, and_true, Value.string.injEq, Value.int.injEq, true_and, Value.slice.injEq] at e
    obtain ⟨rfl, rfl, rfl, rfl, rfl, ⟨rfl, rfl, rfl⟩, rfl⟩ := e
    exact ⟨rfl, rfl⟩
theorem sameE_parts {o n s o2 n2 s2 : ByteArray} {t k ps t2 k2 ps2 : Int} {l l2 : List Ex} : sameE false (.node o n t k s ps l) (.node o2 n2 t2 k2 s2 ps2 l2) = ((o.toList == o2.toList) && ((n.toList == n2.toList) && (((t == t2) && ((k == k2) && (s.toList == s2.toList))) && sameL false l l2))) := by
  rw [sameE]; simp
theorem allSame_nil (st : List (List Ex × List Ex)) : allSame (st ++ [([], [])]) = allSame st := by
  rw [allSame, List.all_append]; simp [allSame, sameL]
theorem allSame_snoc (st : List (List Ex × List Ex)) (q : List Ex × List Ex) : allSame (st ++ [q]) = (allSame st && sameL false q.1 q.2) := by
  rw [allSame, List.all_append]; simp [allSame]
end Go.Proofs.YtkoejkpjkcejcaaGreatDoor
namespace Go.Proofs.YtkoejkpjkcejcaaGreatDoor
open Go.RowKit Go.BigFrame
set_option linter.unusedVariables false

theorem two_boxes (W : World) (ca cb : Array Value) (t : TypeId) : (∀ i, ((W.alloc (.cells ca t)).alloc (.cells cb t)).drew.cell? ⟨W.heap.size, i, none⟩ = ca[i]?) ∧ (∀ i, ((W.alloc (.cells ca t)).alloc (.cells cb t)).drew.cell? ⟨W.heap.size + 1, i, none⟩ = cb[i]?) ∧ ((W.alloc (.cells ca t)).alloc (.cells cb t)).drew.heap.size = W.heap.size + 2 ∧ Below W.heap.size W ((W.alloc (.cells ca t)).alloc (.cells cb t)).drew := by
  refine ⟨fun i => ?_, fun i => ?_, by simp, Below.drew (((Below.refl _ W).alloc (Nat.le_refl _) _).alloc (by simp) _)⟩
  · show ((W.alloc (.cells ca t)).alloc (.cells cb t)).cell? ⟨W.heap.size, i, none⟩ = _
    rw [World.cell?_alloc_lt _ _ _ (by simp), World.cell?_alloc_at _ _ _ _ rfl]
  · show ((W.alloc (.cells ca t)).alloc (.cells cb t)).cell? ⟨W.heap.size + 1, i, none⟩ = _
    rw [World.cell?_alloc_at _ _ _ _ (by simp)]
theorem start_boxes (w : World) (ca cb cp : Array Value) (t tp : TypeId) : (∀ i, (((((w.alloc (.cells ca t)).alloc (.cells cb t)).alloc (.cells ca t)).alloc (.cells cb t)).alloc (.cells cp tp)).cell? ⟨w.heap.size + 2, i, none⟩ = ca[i]?) ∧ (∀ i, (((((w.alloc (.cells ca t)).alloc (.cells cb t)).alloc (.cells ca t)).alloc (.cells cb t)).alloc (.cells cp tp)).cell? ⟨w.heap.size + 3, i, none⟩ = cb[i]?) ∧ (((((w.alloc (.cells ca t)).alloc (.cells cb t)).alloc (.cells ca t)).alloc (.cells cb t)).alloc (.cells cp tp)).heap[w.heap.size + 4]? = some (.cells cp tp) ∧ (((((w.alloc (.cells ca t)).alloc (.cells cb t)).alloc (.cells ca t)).alloc (.cells cb t)).alloc (.cells cp tp)).heap.size = w.heap.size + 5 ∧ Below w.heap.size w (((((w.alloc (.cells ca t)).alloc (.cells cb t)).alloc (.cells ca t)).alloc (.cells cb t)).alloc (.cells cp tp)) := by
  refine ⟨fun i => ?_, fun i => ?_, ?_, by simp, (((((Below.refl _ w).alloc (Nat.le_refl _) _).alloc (by simp) _).alloc (by simp <;> omega) _).alloc (by simp <;> omega) _).alloc (by simp <;> omega) _⟩
  · rw [World.cell?_alloc_lt _ _ _ (by simp <;> omega), World.cell?_alloc_lt _ _ _ (by simp), World.cell?_alloc_at _ _ _ _ (by simp)]
  · rw [World.cell?_alloc_lt _ _ _ (by simp), World.cell?_alloc_at _ _ _ _ (by simp)]
  · rw [show w.heap.size + 4 = ((((w.alloc (.cells ca t)).alloc (.cells cb t)).alloc (.cells ca t)).alloc (.cells cb t)).heap.size by simp]
    exact heap_alloc_new _ _
theorem argsIs_one {W : World} {lo : Nat → Prop} {b : Nat} {v0 v1 v2 v3 v4 v5 v6 : Value} {x : Ex} (hb : b < W.heap.size) (hlo : lo b) (hc : ∀ i, W.cell? ⟨b, i, none⟩ = (#[v0, v1, v2, v3, v4, v5, v6] : Array Value)[i]?) (hx : ExIn W lo (.agg #[v0, v1, v2, v3, v4, v5, v6]) x) : ArgsIs W lo (.slice (some ⟨b, 0, none⟩) 1 1) [x] := by
  refine ⟨some ⟨b, 0, none⟩, 1, rfl, ⟨by simp [maxLen], by simp⟩, .inr ⟨b, 0, rfl, hb, hlo, ?_⟩⟩
  rw [ExsIn, ExsIn]
  refine ⟨⟨_, _, _, _, _, _, _, ?_, ?_, ?_, ?_, ?_, ?_, ?_, hx⟩, trivial⟩
  all_goals (rw [hc]; rfl)
set_option maxHeartbeats 4000000 in
set_option maxRecDepth 20000 in
theorem treeSame_any (x y : Ex) (lo : Nat → Prop) (va vb : Value) (w : World) (hx : ExIn w lo va x) (hy : ExIn w lo vb y) (hsz : x.size ≤ 1048576) :
    Calls Tryz.prog 14 #[va, vb] w fun e w' => e = .returned (.bool (sameE false x y)) ∧ Below w.heap.size w w' := by
  obtain ⟨o1, n1, t1, k1, s1, p1, m1, c1, a1, rfl⟩ := hx.agg
  obtain ⟨o2, n2, t2, k2, s2, p2, m2, c2, a2, rfl⟩ := hy.agg
  obtain ⟨i0, hi, hz0, hz1, hzz⟩ := info_parts info_pr
  obtain ⟨T, hT⟩ : ∃ T, sameE false x y = T := ⟨_, rfl⟩
  have HT : Hid (sameE false x y = T) := hT
  have HX : Aside (ExIn w (· < w.heap.size + 4) (.agg #[.string o1, .string n1, .int .i64 t1, .int .i64 k1, .string s1, .slice p1 m1 c1, .int .i64 a1]) x) := ExIn.low (fun b h1 _ => (show b < w.heap.size + 4 by omega)) _ _ hx
  have HY : Aside (ExIn w (· < w.heap.size + 4) (.agg #[.string o2, .string n2, .int .i64 t2, .int .i64 k2, .string s2, .slice p2 m2 c2, .int .i64 a2]) y) := ExIn.low (fun b h1 _ => (show b < w.heap.size + 4 by omega)) _ _ hy
  have HZ : Hid (x.size ≤ 1048576) := hsz
  rw [hT]
  clear hx hy hT hsz
  go_enter Tryz.func14, Tryz.ntmps14
  go_wp2
  go_loopg [5, 6, 7, 8, 9] (2 * x.size + 2) (fun gg s5 _ _ _ _ wr => ∃ (st : List (List Ex × List Ex)) (vs : List (Value × Value)) (q : Option Addr) (c : Nat), s5 = .slice q vs.length c ∧ Hid (pairN st < gg ∧ pairN st ≤ 2097153) ∧ Aside (wr.ownsRow (w.heap.size + 4) 75 2 (.slice q vs.length c) vs.length (pairC vs)) ∧ Aside (StkP wr (· < w.heap.size + 4) vs st) ∧ Aside (Below w.heap.size w wr) ∧ Hid (allSame st = T))
  case atStart =>
    obtain ⟨h1, h2, h3, h4, h5⟩ := start_boxes w #[.string o1, .string n1, .int .i64 t1, .int .i64 k1, .string s1, .slice p1 m1 c1, .int .i64 a1] #[.string o2, .string n2, .int .i64 t2, .int .i64 k2, .string s2, .slice p2 m2 c2, .int .i64 a2] #[.slice (some ⟨w.heap.size + 2, 0, none⟩) 1 1, .slice (some ⟨w.heap.size + 3, 0, none⟩) 1 1] 26 75
    refine ⟨[([x], [y])], [(.slice (some ⟨w.heap.size + 2, 0, none⟩) 1 1, .slice (some ⟨w.heap.size + 3, 0, none⟩) 1 1)], some ⟨w.heap.size + 4, 0, none⟩, 1, rfl, ?_, ?_, ?_, ?_, ?_⟩
    · show _ ∧ _
      have h := HZ.out
      simp [pairN, Ex.sizes]
      omega
    · exact ⟨rfl, .inr ⟨w.heap.size + 4, 1, #[.slice (some ⟨w.heap.size + 2, 0, none⟩) 1 1, .slice (some ⟨w.heap.size + 3, 0, none⟩) 1 1], rfl, Nat.le_refl _, h3, Nat.le_refl _, by decide, rfl, rfl⟩⟩
    · exact ⟨⟨argsIs_one (by rw [h4]; omega) (by show _ < _; omega) h1 (HX.out.on h5), argsIs_one (by rw [h4]; omega) (by show _ < _; omega) h2 (HY.out.on h5), rfl⟩, trivial⟩
    · exact h5
    · show _ = _
      rw [← HT.out]
      simp [allSame, sameL]
  case round =>
    obtain ⟨st, vs, q, c, rfl, HB, OW, SK, BW, HF⟩ := hrel
    clear HX HY HT
    have hz := BW.out.size
    have hlen := SK.out.len
    rcases List.eq_nil_or_concat st with rfl | ⟨st', l, rfl⟩
    · obtain rfl : vs = [] := List.eq_nil_of_length_eq_zero hlen
      have HT2 : Hid (true = T) := HF.out
      go_wp2
      go_ret
      have hT := HT2.out
      subst hT
      exact ⟨rfl, BW.out⟩
    · obtain ⟨vs', v, rfl⟩ : ∃ vs' v, vs = vs' ++ [v] := by
        rcases List.eq_nil_or_concat vs with rfl | ⟨vs', v, rfl⟩
        · simp at hlen
        · exact ⟨vs', v, by simp⟩
      simp only [List.concat_eq_append] at *
      obtain ⟨SK1, AI, AJ, hll⟩ := SK.out.front
      have OW2 := OW.out
      simp only [List.length_append, List.length_singleton] at OW2 hlen
      obtain ⟨g, rfl⟩ : ∃ g, q = some ⟨g, 0, none⟩ := by
        rcases OW2.2 with ⟨e1, _⟩ | ⟨g, _, _, e1, _⟩
        · injection e1 with e1 e2; simp at e2
        · injection e1 with e1; exact ⟨g, e1⟩
      obtain ⟨ct, ct2, cf, cf2, gl, gB, gc⟩ := own2_top OW2
      obtain ⟨l, m⟩ := l
      obtain ⟨va, vb⟩ := v
      simp only at AI AJ hll ct ct2
      have hN : vs'.length ≤ 2097153 := by
        have h1 := HB.out.2
        rw [pairN, List.length_append, List.length_singleton] at h1
        omega
      have hNz : (vs'.length : Int) ≤ 2097153 := by omega
      have hN0 : (0 : Int) ≤ (vs'.length : Int) := by omega
      have hlenz : (((vs' ++ [(va, vb)]).length : Nat) : Int) = (vs'.length : Int) + 1 := by simp
      clear hlen OW SK
      obtain ⟨pa, ca, rfl, ⟨hm1, hm2⟩, hA⟩ := id AI
      obtain ⟨pb, cb, rfl, ⟨hk1, hk2⟩, hB⟩ := id AJ
      cases l with
      | nil =>
        obtain rfl : m = [] := List.eq_nil_of_length_eq_zero hll.symm
        have ow := own2_pop OW2
        have HB2 : Hid (pairN st' < gk - 1 ∧ pairN st' ≤ 2097153 ∧ 0 < gk) := by
          show _ ∧ _
          have h1 := HB.out
          rw [pairN_nil] at h1
          omega
        have HF3 : Hid (allSame st' = T) := by show _ = _; rw [← HF.out, allSame_nil]
        have BP := BW.out.alloc (by omega) (.cells #[.slice pa 0 ca, .slice pb 0 cb] 75)
        clear OW2 AI AJ HB HF hA hB
        simp only [List.length_nil] at ct ct2
        go_wp2
        go_roundg (gk - 1)
        case measure => have := HB2.out; omega
        case rel => exact ⟨st', vs', _, c, rfl, (show Hid _ from ⟨HB2.out.1, HB2.out.2.1⟩), (show Aside _ from ow.alloc _), (show Aside _ from SK1.keep (by simp) (fun b o _ h2 => World.cell?_alloc_past _ _ _ h2)), (show Aside _ from BP), HF3⟩
      | cons a l =>
        obtain ⟨b, m, rfl⟩ : ∃ b m', m = b :: m' := by
          cases m with
          | nil => simp at hll
          | cons b m => exact ⟨b, m, rfl⟩
        simp only [List.length_cons] at AI AJ ct ct2 hll
        obtain ⟨pa', ca', hsa, AI2⟩ := tail_run AI
        obtain ⟨pb', cb', hsb, AJ2⟩ := tail_run AJ
        have HLL : Hid (l.length = m.length) := by show _ = _; omega
        have hlz : ((l.length : Int) + 1 == 0) = false := by simp; omega
        have hmz : ((m.length : Int) + 1 == 0) = false := by simp; omega
        clear hll
        have OP := own2_put (u := (Value.slice pa' l.length ca', Value.slice pb' m.length cb')) OW2
        have OP2 := OP.alloc (.cells #[.slice pa (l.length + 1) ca, .slice pb (m.length + 1) cb] 75)
        have bw1 : Below (w.heap.size + 4) wr ((((wr.setCell ⟨g, vs'.length * 2, none⟩ (.slice pa' l.length ca')).setCell ⟨g, vs'.length * 2 + 1, none⟩ (.slice pb' m.length cb')).alloc (.cells #[.slice pa (l.length + 1) ca, .slice pb (m.length + 1) cb] 75)).drew) := Below.drew ((((Below.refl _ wr).setCell (p := ⟨g, vs'.length * 2, none⟩) gB _).setCell (p := ⟨g, vs'.length * 2 + 1, none⟩) gB _).alloc (by simp [World.setCell]; omega) _)
        rcases hA with hA | ⟨ba, oa, rfl, hbla, hloa, hA⟩
        · simp at hA
        rcases hB with hB | ⟨bb, ob, rfl, hblb, hlob, hB⟩
        · simp at hB
        rw [ExsIn] at hA hB
        obtain ⟨⟨v0, v1, v2, v3, v4, v5, v6, e0, e1, e2, e3, e4, e5, e6, hxa⟩, _⟩ := hA
        obtain ⟨⟨z0, z1, z2, z3, z4, z5, z6, f0, f1, f2, f3, f4, f5, f6, hxb⟩, _⟩ := hB
        obtain ⟨u0, u1, u2, u3, u4, u5, u6, u7, u8, huu⟩ := hxa.agg
        injection huu with huu
        simp only [Array.mk.injEq, List.cons.injEq, and_true] at huu
        obtain ⟨rfl, rfl, rfl, rfl, rfl, rfl, rfl⟩ := huu
        obtain ⟨q0, q1, q2, q3, q4, q5, q6, q7, q8, hqq⟩ := hxb.agg
        injection hqq with hqq
        simp only [Array.mk.injEq, List.cons.injEq, and_true] at hqq
        obtain ⟨rfl, rfl, rfl, rfl, rfl, rfl, rfl⟩ := hqq
        have hloa : ba < w.heap.size + 4 := hloa
        have hlob : bb < w.heap.size + 4 := hlob
        have kA : ∀ o, _ = wr.cell? ⟨ba, o, none⟩ := fun o => bw1.cell (p := ⟨ba, o, none⟩) hloa
        have kB : ∀ o, _ = wr.cell? ⟨bb, o, none⟩ := fun o => bw1.cell (p := ⟨bb, o, none⟩) hlob
        rw [← kA] at e0 e1 e2 e3 e4 e5 e6
        rw [← kB] at f0 f1 f2 f3 f4 f5 f6
        have hP : ∀ i, ((((wr.setCell ⟨g, vs'.length * 2, none⟩ (.slice pa' l.length ca')).setCell ⟨g, vs'.length * 2 + 1, none⟩ (.slice pb' m.length cb')).alloc (.cells #[.slice (some ⟨ba, oa, none⟩) (l.length + 1) ca, .slice (some ⟨bb, ob, none⟩) (m.length + 1) cb] 75)).drew).cell? ⟨wr.heap.size, i, none⟩ = (#[.slice (some ⟨ba, oa, none⟩) (l.length + 1) ca, .slice (some ⟨bb, ob, none⟩) (m.length + 1) cb] : Array Value)[i]? := fun i => World.cell?_alloc_at _ _ _ _ (by simp [World.setCell])
        have P0 : _ = some (Value.slice (some ⟨ba, oa, none⟩) (l.length + 1) ca) := hP 0
        have P1 : _ = some (Value.slice (some ⟨bb, ob, none⟩) (m.length + 1) cb) := hP 1
        have hWz : wr.heap.size < ((((wr.setCell ⟨g, vs'.length * 2, none⟩ (.slice pa' l.length ca')).setCell ⟨g, vs'.length * 2 + 1, none⟩ (.slice pb' m.length cb')).alloc (.cells #[.slice (some ⟨ba, oa, none⟩) (l.length + 1) ca, .slice (some ⟨bb, ob, none⟩) (m.length + 1) cb] 75)).drew).heap.size := by simp [World.setCell]
        have OP3 : ((((wr.setCell ⟨g, vs'.length * 2, none⟩ (.slice pa' l.length ca')).setCell ⟨g, vs'.length * 2 + 1, none⟩ (.slice pb' m.length cb')).alloc (.cells #[.slice (some ⟨ba, oa, none⟩) (l.length + 1) ca, .slice (some ⟨bb, ob, none⟩) (m.length + 1) cb] 75)).drew).ownsRow (w.heap.size + 4) 75 2 (.slice (some ⟨g, 0, none⟩) (vs'.length + 1) c) (vs'.length + 1) (pairC (vs' ++ [(Value.slice pa' l.length ca', Value.slice pb' m.length cb')])) := OP2
        clear OP OP2 OW2 kA kB hP
        go_wp2
        go_region
        generalize ((((wr.setCell ⟨g, vs'.length * 2, none⟩ (.slice pa' l.length ca')).setCell ⟨g, vs'.length * 2 + 1, none⟩ (.slice pb' m.length cb')).alloc (.cells #[.slice (some ⟨ba, oa, none⟩) (l.length + 1) ca, .slice (some ⟨bb, ob, none⟩) (m.length + 1) cb] 75)).drew) = W at *
        have hblaW : ba < W.heap.size := by omega
        have hblbW : bb < W.heap.size := by omega
        have hva := val_neq u2 u3 q2 q3 u4 q4
        have HSM : Hid ((allSame st' && (sameE false a b && sameL false l m)) = T) := by
          show _ = _
          rw [← HF.out, allSame_snoc]
          simp only
          rw [sameL]
        obtain ⟨hpa, hla⟩ := hxa.parts
        obtain ⟨hpb, hlb⟩ := hxb.parts
        have HSE : Hid (sameE false a b = ((u0.toList == q0.toList) && ((u1.toList == q1.toList) && (((u2 == q2) && ((u3 == q3) && (u4.toList == q4.toList))) && sameL false a.args b.args)))) := by
          show _ = _
          rw [hpa, hpb, sameE_parts]
          rfl
        have HLA : Hid (u6 = a.args.length ∧ q6 = b.args.length) := ⟨hla, hlb⟩
        have aa := hxa.args
        have ab := hxb.args
        clear HF hpa hpb hla hlb hxa hxb
        generalize hc1 : (u0.toList == q0.toList) = C1 at HSE
        generalize hc2 : (u1.toList == q1.toList) = C2 at HSE
        generalize hc3 : ((u2 == q2) && ((u3 == q3) && (u4.toList == q4.toList))) = C3 at hva HSE
        have BWW : Below w.heap.size w W := BW.out.trans (bw1.mono (by omega))
        have hWs : w.heap.size + 4 ≤ W.heap.size := by omega
        have e0 := e0
        go_upto_region 8 with fail
        go_cut [8, 9] (fun s8 s9 wc => ∃ bx by' : Nat, s8 = .pointer (some ⟨bx, 0, none⟩) ∧ s9 = .pointer (some ⟨by', 0, none⟩) ∧ (wc.cell? ⟨bx, 0, none⟩ = some (.string u0) ∧ wc.cell? ⟨bx, 1, none⟩ = some (.string u1) ∧ wc.cell? ⟨bx, 2, none⟩ = some (.int .i64 u2) ∧ wc.cell? ⟨bx, 3, none⟩ = some (.int .i64 u3) ∧ wc.cell? ⟨bx, 4, none⟩ = some (.string u4) ∧ wc.cell? ⟨bx, 5, none⟩ = some (.slice u5 u6 u7)) ∧ (wc.cell? ⟨by', 0, none⟩ = some (.string q0) ∧ wc.cell? ⟨by', 1, none⟩ = some (.string q1) ∧ wc.cell? ⟨by', 2, none⟩ = some (.int .i64 q2) ∧ wc.cell? ⟨by', 3, none⟩ = some (.int .i64 q3) ∧ wc.cell? ⟨by', 4, none⟩ = some (.string q4) ∧ wc.cell? ⟨by', 5, none⟩ = some (.slice q5 q6 q7)) ∧ bx < wc.heap.size ∧ by' < wc.heap.size ∧ Below W.heap.size W wc ∧ W.heap.size + 2 ≤ wc.heap.size)
        case first => as_aux_lemma =>
          go_region
          all_goals
            go_wp2_with fail
            go_meet
            case rel =>
              first
                | (obtain ⟨h1, h2, h3, h4⟩ := two_boxes W #[.string u0, .string u1, .int .i64 u2, .int .i64 u3, .string u4, .slice u5 u6 u7, .int .i64 u8] #[.string q0, .string q1, .int .i64 q2, .int .i64 q3, .string q4, .slice q5 q6 q7, .int .i64 q8] 26
                   exact ⟨W.heap.size, W.heap.size + 1, rfl, rfl, ⟨h1 0, h1 1, h1 2, h1 3, h1 4, h1 5⟩, ⟨h2 0, h2 1, h2 2, h2 3, h2 4, h2 5⟩, by rw [h3]; omega, by rw [h3]; omega, h4, by rw [h3]; omega⟩)
                | (obtain ⟨h2, h1, h3, h4⟩ := two_boxes W #[.string q0, .string q1, .int .i64 q2, .int .i64 q3, .string q4, .slice q5 q6 q7, .int .i64 q8] #[.string u0, .string u1, .int .i64 u2, .int .i64 u3, .string u4, .slice u5 u6 u7, .int .i64 u8] 26
                   exact ⟨W.heap.size + 1, W.heap.size, rfl, rfl, ⟨h1 0, h1 1, h1 2, h1 3, h1 4, h1 5⟩, ⟨h2 0, h2 1, h2 2, h2 3, h2 4, h2 5⟩, by rw [h3]; omega, by rw [h3]; omega, h4, by rw [h3]; omega⟩)
        case rest =>
          obtain ⟨bx, by', rfl, rfl, ⟨x0, x1, x2, x3, x4, x5⟩, ⟨y0, y1, y2, y3, y4, y5⟩, hbx, hby, BC, hWc⟩ := hcut
          have BWc : Below w.heap.size w wc := BWW.trans (BC.mono (by omega))
          have OWc := own_but OP3 (But.of_below' (r := 0) BC (Nat.zero_le _)) (by omega)
          have BWA : Aside (Below w.heap.size w wc) := BWc
          have BRC : Aside (Below (w.heap.size + 4) wr wc) := bw1.trans (BC.mono (by omega))
          have OWA : Aside (wc.ownsRow (w.heap.size + 4) 75 2 (.slice (some ⟨g, 0, none⟩) (vs'.length + 1) c) (vs'.length + 1) (pairC (vs' ++ [(Value.slice pa' l.length ca', Value.slice pb' m.length cb')]))) := OWc
          have hrc : wr.heap.size ≤ wc.heap.size := by omega
          clear BW BWW BWc OWc BC bw1 OP3 e0 e1 e2 e3 e4 e5 e6 f0 f1 f2 f3 f4 f5 f6 P0 P1 ct ct2 cf cf2 hWz hblaW hblbW hloa hlob hsa hsb AI AJ
          cases C1
          · as_aux_lemma =>
            have HT2 : Hid (false = T) := by show _ = _; rw [← HSM.out, HSE.out]; simp
            go_wp2
            go_ret
            have hT := HT2.out
            subst hT
            exact ⟨rfl, BWA.out⟩
          · cases C2
            · as_aux_lemma =>
              have HT2 : Hid (false = T) := by show _ = _; rw [← HSM.out, HSE.out]; simp
              go_wp2
              go_ret
              have hT := HT2.out
              subst hT
              exact ⟨rfl, BWA.out⟩
            · cases C3
              · as_aux_lemma =>
                have HT2 : Hid (false = T) := by show _ = _; rw [← HSM.out, HSE.out]; simp
                go_wp2
                go_ret
                have hT := HT2.out
                subst hT
                exact ⟨rfl, BWA.out⟩
              · by_cases h6 : u6 = q6
                · subst h6
                  have h6z : ((u6 : Int) != (u6 : Int)) = false := by simp
                  have HB2 : Hid (pairN (st' ++ [(l, m)] ++ [(a.args, b.args)]) < gk - 1 ∧ pairN (st' ++ [(l, m)] ++ [(a.args, b.args)]) ≤ 2097153 ∧ 0 < gk) := by
                    show _ ∧ _
                    have h1 := HB.out
                    rw [pairN_cons] at h1
                    omega
                  have HF4 : Hid (allSame (st' ++ [(l, m)] ++ [(a.args, b.args)]) = T) := by
                    show _ = _
                    rw [← HSM.out, HSE.out, allSame_snoc, allSame_snoc]
                    simp only [Bool.true_and]
                    rw [Bool.and_assoc, Bool.and_comm (sameL false l m)]
                  have SKA : Aside (StkP wr (· < w.heap.size + 4) (vs' ++ [(Value.slice pa' l.length ca', Value.slice pb' m.length cb')] ++ [(Value.slice u5 u6 u7, Value.slice q5 u6 q7)]) (st' ++ [(l, m)] ++ [(a.args, b.args)])) := StkP.snoc ⟨aa, ab, HLA.out.1.symm.trans HLA.out.2⟩ (StkP.snoc ⟨AI2, AJ2, HLL.out⟩ SK1)
                  have OWB : wc.ownsRow (w.heap.size + 4) 75 2 (.slice (some ⟨g, 0, none⟩) (vs' ++ [(Value.slice (some ⟨ba, oa, none⟩) (a :: l).length ca, Value.slice (some ⟨bb, ob, none⟩) (b :: m).length cb)]).length c) (vs'.length + 1) (pairC (vs' ++ [(Value.slice pa' l.length ca', Value.slice pb' m.length cb')])) := by
                    have h1 : (vs' ++ [(Value.slice (some ⟨ba, oa, none⟩) (a :: l).length ca, Value.slice (some ⟨bb, ob, none⟩) (b :: m).length cb)]).length = vs'.length + 1 := by simp
                    rw [h1]; exact OWA.out
                  clear HB HSM HSE HLA HLL aa ab AI2 AJ2 SK1 OWA
                  go_wp2_with (at_builtin; refine wpList_append_own _ rfl _ _ 76 rfl (w.heap.size + 4) 75 i0 (.agg #[.slice none 0 0, .slice none 0 0]) 2 48 Tryz.underlying76 hi hz0 hz1 hzz rfl (by decide) _ _ _ rfl (OWB.alloc _) ⟨wc.heap.size, 0, none⟩ 1 1 [.slice u5 u6 u7, .slice q5 u6 q7] rfl rfl ?c1 ?c2 ?c3 ?c4 ?c5 ?_)
                  case c1 =>
                    intro i u hu
                    rw [Go.WideShapes.add_plain, World.cell?_alloc_at _ _ _ _ (by simp)]
                    simpa using hu
                  case c2 =>
                    intro u hu
                    simp at hu
                    rcases hu with rfl | rfl <;> rfl
                  case c3 => simp [maxLen]; omega
                  case c4 => omega
                  case c5 => simp; omega
                  · intro v' w3 hown' hgrow _
                    have hlo3 : ∀ j, (Value.slice (some ⟨g, 0, none⟩) (vs' ++ [(Value.slice (some ⟨ba, oa, none⟩) (a :: l).length ca, Value.slice (some ⟨bb, ob, none⟩) (b :: m).length cb)]).length c).ownBlock = some j → w.heap.size + 4 ≤ j := fun j hj => (OWB.lt j hj).1
                    have bg : Below (w.heap.size + 4) wc w3 := ((Below.refl _ wc).alloc (by omega) _).grown hgrow (by simp; omega) hlo3
                    have zg : wc.heap.size ≤ w3.heap.size := by have := hgrow.size; simp at this; omega
                    have BR3 : Below (w.heap.size + 4) wr w3 := BRC.out.trans bg
                    have SK4 := SKA.out.keep (by omega) (fun bb' oo hb _ => BR3.cell (p := ⟨bb', oo, none⟩) hb)
                    have BB3 : Below w.heap.size w w3 := BWA.out.trans (bg.mono (by omega))
                    obtain ⟨q5', c5', rfl⟩ := lown_slice hown'
                    have ow5 : w3.ownsRow (w.heap.size + 4) 75 2 (.slice q5' (vs' ++ [(Value.slice pa' l.length ca', Value.slice pb' m.length cb')] ++ [(Value.slice u5 u6 u7, Value.slice q5 u6 q7)]).length c5') (vs' ++ [(Value.slice pa' l.length ca', Value.slice pb' m.length cb')] ++ [(Value.slice u5 u6 u7, Value.slice q5 u6 q7)]).length (pairC (vs' ++ [(Value.slice pa' l.length ca', Value.slice pb' m.length cb')] ++ [(Value.slice u5 u6 u7, Value.slice q5 u6 q7)])) := by
                      have h1 : (vs' ++ [(Value.slice pa' l.length ca', Value.slice pb' m.length cb')] ++ [(Value.slice u5 u6 u7, Value.slice q5 u6 q7)]).length = vs'.length + 1 + 1 := by simp
                      rw [h1, pairC_snoc]; exact hown'
                    clear hown' hgrow SKA BWA OWB bg BRC
                    go_wp2
                    go_roundg (gk - 1)
                    case measure => have := HB2.out; omega
                    case rel => exact ⟨st' ++ [(l, m)] ++ [(a.args, b.args)], _, q5', c5', by simp, (show Hid _ from ⟨HB2.out.1, HB2.out.2.1⟩), (show Aside _ from ow5), (show Aside _ from SK4), (show Aside _ from BB3), HF4⟩
                · as_aux_lemma =>
                  have h6z : ((u6 : Int) == (q6 : Int)) = false := by simp; omega
                  have h6n : ((u6 : Int) != (q6 : Int)) = true := by simp; omega
                  have HT2 : Hid (false = T) := by
                    show _ = _
                    rw [← HSM.out, HSE.out, sameL_len (by have := HLA.out; omega)]; simp
                  clear h6
                  go_wp2
                  go_ret
                  have hT := HT2.out
                  subst hT
                  exact ⟨rfl, BWA.out⟩
end Go.Proofs.YtkoejkpjkcejcaaGreatDoor
namespace Go.Proofs.YtkoejkpjkcejcaaGreatDoor
open Go.RowKit Go.BigFrame
set_option linter.unusedVariables false

def sgV : Array Value := #[.string ⟨#[111, 114]⟩, .string ⟨#[97, 110, 100]⟩, .string ⟨#[61]⟩, .string ⟨#[60]⟩, .string ⟨#[43]⟩, .string ⟨#[45]⟩, .string ⟨#[42]⟩, .string ⟨#[47]⟩, .string ⟨#[37]⟩]
def lvV : Array Value := #[.int .i64 0, .int .i64 1, .int .i64 2, .int .i64 2, .int .i64 3, .int .i64 3, .int .i64 4, .int .i64 4, .int .i64 4]
theorem sg_at : ∀ (k : Nat) (h : k < 9), ∃ S : ByteArray, sgV[k]? = some (.string S) ∧ S.data.toList = bdS[k]'h ∧ S.size ≤ 3
  | 0, _ => ⟨_, rfl, rfl, by decide⟩
  | 1, _ => ⟨_, rfl, rfl, by decide⟩
  | 2, _ => ⟨_, rfl, rfl, by decide⟩
  | 3, _ => ⟨_, rfl, rfl, by decide⟩
  | 4, _ => ⟨_, rfl, rfl, by decide⟩
  | 5, _ => ⟨_, rfl, rfl, by decide⟩
  | 6, _ => ⟨_, rfl, rfl, by decide⟩
  | 7, _ => ⟨_, rfl, rfl, by decide⟩
  | 8, _ => ⟨_, rfl, rfl, by decide⟩
  | k + 9, h => absurd h (by omega)
theorem lv_at : ∀ (k : Nat) (h : k < 9), ∃ L : Nat, lvV[k]? = some (.int .i64 (L : Int)) ∧ bdL[k]'h = L ∧ L ≤ 4
  | 0, _ => ⟨0, rfl, rfl, by decide⟩
  | 1, _ => ⟨1, rfl, rfl, by decide⟩
  | 2, _ => ⟨2, rfl, rfl, by decide⟩
  | 3, _ => ⟨2, rfl, rfl, by decide⟩
  | 4, _ => ⟨3, rfl, rfl, by decide⟩
  | 5, _ => ⟨3, rfl, rfl, by decide⟩
  | 6, _ => ⟨4, rfl, rfl, by decide⟩
  | 7, _ => ⟨4, rfl, rfl, by decide⟩
  | 8, _ => ⟨4, rfl, rfl, by decide⟩
  | k + 9, h => absurd h (by omega)
theorem box2_at (w : World) (n : Nat) (hn : n = w.heap.size) (a0 a1 : Value) (t : TypeId) : Bx2 (w.alloc (.cells #[a0, a1] t)) n a0 a1 := by
  subst hn
  refine ⟨?_, ?_, fun o => World.frozen?_alloc_at _ _ _ _ rfl, by simp⟩
  all_goals (rw [World.cell?_alloc_at _ _ _ _ rfl]; rfl)
theorem Bx2.drew {w : World} {b : Nat} {a0 a1 : Value} (h : Bx2 w b a0 a1) : Bx2 w.drew b a0 a1 := ⟨h.c0, h.c1, h.fz, h.lt⟩
theorem Box7.drew {w : World} {b : Nat} {a0 a1 a2 a3 a4 a5 a6 : Value} (h : Box7 w b a0 a1 a2 a3 a4 a5 a6) : Box7 w.drew b a0 a1 a2 a3 a4 a5 a6 := ⟨h.c0, h.c1, h.c2, h.c3, h.c4, h.c5, h.c6, h.fz, h.lt⟩
theorem size_al (w : World) (o : Obj) : w.heap.size + 1 = (w.alloc o).heap.size := by simp
/-- Two results of a call, each in its own variable: the cells, and that all the rest is kept. -/
def Rel5 (W2 wc : World) (be bf : Nat) (A : Array Value) (E : Int) (P : Nat) (X : Ex) : Prop := (∀ i, i < 7 → wc.cell? ⟨be, i, none⟩ = A[i]?) ∧ wc.cell? ⟨bf, 0, none⟩ = some (.int .i64 E) ∧ wc.cell? ⟨bf, 1, none⟩ = some (.int .i64 (P : Nat)) ∧ be < wc.heap.size ∧ bf < wc.heap.size ∧ ExIn wc (W2.heap.size ≤ ·) (.agg A) X ∧ Below W2.heap.size W2 wc
theorem box7_cells {w : World} {b : Nat} {a0 a1 a2 a3 a4 a5 a6 : Value} (h : Box7 w b a0 a1 a2 a3 a4 a5 a6) : ∀ i, i < 7 → w.cell? ⟨b, i, none⟩ = (#[a0, a1, a2, a3, a4, a5, a6] : Array Value)[i]?
  | 0, _ => h.c0
  | 1, _ => h.c1
  | 2, _ => h.c2
  | 3, _ => h.c3
  | 4, _ => h.c4
  | 5, _ => h.c5
  | 6, _ => h.c6
  | i + 7, h => absurd h (by omega)
theorem far1 {w : World} {z b i o : Nat} (h : b ≠ z) (v : Value) : (w.setCell ⟨z, i, none⟩ v).cell? ⟨b, o, none⟩ = w.cell? ⟨b, o, none⟩ := World.cell?_setCell_far w ⟨z, i, none⟩ ⟨b, o, none⟩ v (fun e => h e.symm)
theorem Bx2.set {w : World} {b : Nat} {a0 a1 : Value} (h : Bx2 w b a0 a1) (v0 v1 : Value) : Bx2 ((w.setCell ⟨b, 0, none⟩ v0).setCell ⟨b, 1, none⟩ v1) b v0 v1 := by
  obtain ⟨c0, c1, fz, lt⟩ := h
  refine ⟨?_, ?_, fun o => by simpa using fz o, by simpa [World.setCell] using lt⟩
  all_goals simp [World.cell?_setCell_other, World.cell?_setCell_same, c0, c1]
theorem Bx2.far7 {w : World} {b z : Nat} {a0 a1 : Value} (h : Bx2 w b a0 a1) (hz : b ≠ z) (v0 v1 v2 v3 v4 v5 v6 : Value) : Bx2 (((((((w.setCell ⟨z, 0, none⟩ v0).setCell ⟨z, 1, none⟩ v1).setCell ⟨z, 2, none⟩ v2).setCell ⟨z, 3, none⟩ v3).setCell ⟨z, 4, none⟩ v4).setCell ⟨z, 5, none⟩ v5).setCell ⟨z, 6, none⟩ v6) b a0 a1 := by
  obtain ⟨c0, c1, fz, lt⟩ := h
  refine ⟨?_, ?_, fun o => by simpa using fz o, by simpa [World.setCell] using lt⟩
  all_goals (rw [far1 hz, far1 hz, far1 hz, far1 hz, far1 hz, far1 hz, far1 hz]; assumption)
theorem Box7.far2 {w : World} {b z : Nat} {a0 a1 a2 a3 a4 a5 a6 : Value} (h : Box7 w b a0 a1 a2 a3 a4 a5 a6) (hz : b ≠ z) (v0 v1 : Value) : Box7 ((w.setCell ⟨z, 0, none⟩ v0).setCell ⟨z, 1, none⟩ v1) b a0 a1 a2 a3 a4 a5 a6 := by
  obtain ⟨c0, c1, c2, c3, c4, c5, c6, fz, lt⟩ := h
  refine ⟨?_, ?_, ?_, ?_, ?_, ?_, ?_, fun o => by simpa using fz o, by simpa [World.setCell] using lt⟩
  all_goals (rw [far1 hz, far1 hz]; assumption)
theorem rel5_1 {W2 w1 : World} {o n s : ByteArray} {t k q E1 : Int} {p : Option Addr} {m c P1 : Nat} {X1 : Ex} (hx : ExIn w1 (W2.heap.size ≤ ·) (.agg #[.string o, .string n, .int .i64 t, .int .i64 k, .string s, .slice p m c, .int .i64 q]) X1) (hb : Below W2.heap.size W2 w1) : Rel5 W2 ((w1.alloc (.cells #[.string o, .string n, .int .i64 t, .int .i64 k, .string s, .slice p m c, .int .i64 q] 26)).alloc (.cells #[.int .i64 E1, .int .i64 (P1 : Nat)] 31)) w1.heap.size (w1.heap.size + 1) #[.string o, .string n, .int .i64 t, .int .i64 k, .string s, .slice p m c, .int .i64 q] E1 P1 X1 := by
  have B1 : Below w1.heap.size w1 ((w1.alloc (.cells #[.string o, .string n, .int .i64 t, .int .i64 k, .string s, .slice p m c, .int .i64 q] 26)).alloc (.cells #[.int .i64 E1, .int .i64 (P1 : Nat)] 31)) := ((Below.refl _ _).alloc (Nat.le_refl _) _).alloc (by simp) _
  have F := box2_at (w1.alloc (.cells #[.string o, .string n, .int .i64 t, .int .i64 k, .string s, .slice p m c, .int .i64 q] 26)) (w1.heap.size + 1) (size_al _ _) (.int .i64 E1) (.int .i64 (P1 : Nat)) 31
  exact ⟨box7_cells (Box7.on (box7_at w1 w1.heap.size rfl (.string o) (.string n) (.int .i64 t) (.int .i64 k) (.string s) (.slice p m c) (.int .i64 q) _) (al _ _)), F.c0, F.c1, by simp; omega, F.lt, hx.on B1, hb.trans (B1.mono hb.size)⟩
theorem rel5_2 {W2 w1 : World} {o n s : ByteArray} {t k q E1 : Int} {p : Option Addr} {m c P1 : Nat} {X1 : Ex} (hx : ExIn w1 (W2.heap.size ≤ ·) (.agg #[.string o, .string n, .int .i64 t, .int .i64 k, .string s, .slice p m c, .int .i64 q]) X1) (hb : Below W2.heap.size W2 w1) : Rel5 W2 ((w1.alloc (.cells #[.int .i64 E1, .int .i64 (P1 : Nat)] 31)).alloc (.cells #[.string o, .string n, .int .i64 t, .int .i64 k, .string s, .slice p m c, .int .i64 q] 26)) (w1.heap.size + 1) w1.heap.size #[.string o, .string n, .int .i64 t, .int .i64 k, .string s, .slice p m c, .int .i64 q] E1 P1 X1 := by
  have B1 : Below w1.heap.size w1 ((w1.alloc (.cells #[.int .i64 E1, .int .i64 (P1 : Nat)] 31)).alloc (.cells #[.string o, .string n, .int .i64 t, .int .i64 k, .string s, .slice p m c, .int .i64 q] 26)) := ((Below.refl _ _).alloc (Nat.le_refl _) _).alloc (by simp) _
  have F := Bx2.on (box2_at w1 w1.heap.size rfl (.int .i64 E1) (.int .i64 (P1 : Nat)) 31) (al _ (.cells #[.string o, .string n, .int .i64 t, .int .i64 k, .string s, .slice p m c, .int .i64 q] 26))
  have G := box7_at (w1.alloc (.cells #[.int .i64 E1, .int .i64 (P1 : Nat)] 31)) (w1.heap.size + 1) (size_al _ _) (.string o) (.string n) (.int .i64 t) (.int .i64 k) (.string s) (.slice p m c) (.int .i64 q) 26
  exact ⟨box7_cells G, F.c0, F.c1, G.lt, F.lt, hx.on B1, hb.trans (B1.mono hb.size)⟩
theorem rel5_3 {W2 w1 : World} {o n s : ByteArray} {t k q E1 : Int} {p : Option Addr} {m c P1 : Nat} {X1 : Ex} (hx : ExIn w1 (W2.heap.size + 1 ≤ ·) (.agg #[.string o, .string n, .int .i64 t, .int .i64 k, .string s, .slice p m c, .int .i64 q]) X1) (hb : Below W2.heap.size W2 w1) (h7 : Box7 w1 W2.heap.size (.string ⟨#[]⟩) (.string ⟨#[]⟩) (.int .i64 0) (.int .i64 0) (.string ⟨#[]⟩) (.slice none 0 0) (.int .i64 0)) : Rel5 W2 ((((((((w1.setCell ⟨W2.heap.size, 0, none⟩ (.string o)).setCell ⟨W2.heap.size, 1, none⟩ (.string n)).setCell ⟨W2.heap.size, 2, none⟩ (.int .i64 t)).setCell ⟨W2.heap.size, 3, none⟩ (.int .i64 k)).setCell ⟨W2.heap.size, 4, none⟩ (.string s)).setCell ⟨W2.heap.size, 5, none⟩ (.slice p m c)).setCell ⟨W2.heap.size, 6, none⟩ (.int .i64 q)).alloc (.cells #[.int .i64 E1, .int .i64 (P1 : Nat)] 31)) W2.heap.size w1.heap.size #[.string o, .string n, .int .i64 t, .int .i64 k, .string s, .slice p m c, .int .i64 q] E1 P1 X1 := by
  have hz : (((((((w1.setCell ⟨W2.heap.size, 0, none⟩ (.string o)).setCell ⟨W2.heap.size, 1, none⟩ (.string n)).setCell ⟨W2.heap.size, 2, none⟩ (.int .i64 t)).setCell ⟨W2.heap.size, 3, none⟩ (.int .i64 k)).setCell ⟨W2.heap.size, 4, none⟩ (.string s)).setCell ⟨W2.heap.size, 5, none⟩ (.slice p m c)).setCell ⟨W2.heap.size, 6, none⟩ (.int .i64 q)).heap.size = w1.heap.size := by simp [World.setCell]
  have B1 := below_set7 hb (Nat.le_refl _) (.string o) (.string n) (.int .i64 t) (.int .i64 k) (.string s) (.slice p m c) (.int .i64 q)
  have G := Box7.on (Box7.set h7 (.string o) (.string n) (.int .i64 t) (.int .i64 k) (.string s) (.slice p m c) (.int .i64 q)) (al _ (.cells #[.int .i64 E1, .int .i64 (P1 : Nat)] 31))
  have F := box2_at (((((((w1.setCell ⟨W2.heap.size, 0, none⟩ (.string o)).setCell ⟨W2.heap.size, 1, none⟩ (.string n)).setCell ⟨W2.heap.size, 2, none⟩ (.int .i64 t)).setCell ⟨W2.heap.size, 3, none⟩ (.int .i64 k)).setCell ⟨W2.heap.size, 4, none⟩ (.string s)).setCell ⟨W2.heap.size, 5, none⟩ (.slice p m c)).setCell ⟨W2.heap.size, 6, none⟩ (.int .i64 q)) w1.heap.size hz.symm (.int .i64 E1) (.int .i64 (P1 : Nat)) 31
  refine ⟨box7_cells G, F.c0, F.c1, G.lt, F.lt, ExIn.low (fun b h1 h2 => Nat.le_trans (Nat.le_succ _) h2) _ _ ((ExIn.keep (Nat.le_of_eq hz.symm) (fun b o h1 _ => ?_) _ _ hx).on (al _ _)), B1.trans ((al _ _).mono (by rw [hz]; exact hb.size))⟩
  have hne : b ≠ W2.heap.size := by have h1 : W2.heap.size + 1 ≤ b := h1; omega
  rw [far1 hne, far1 hne, far1 hne, far1 hne, far1 hne, far1 hne, far1 hne]
theorem rel5_4 {W2 w1 : World} {o n s : ByteArray} {t k q E1 : Int} {p : Option Addr} {m c P1 : Nat} {X1 : Ex} (hx : ExIn w1 (W2.heap.size + 2 ≤ ·) (.agg #[.string o, .string n, .int .i64 t, .int .i64 k, .string s, .slice p m c, .int .i64 q]) X1) (hb : Below W2.heap.size W2 w1) (h7 : Box7 w1 W2.heap.size (.string ⟨#[]⟩) (.string ⟨#[]⟩) (.int .i64 0) (.int .i64 0) (.string ⟨#[]⟩) (.slice none 0 0) (.int .i64 0)) (h2 : Bx2 w1 (W2.heap.size + 1) (.int .i64 0) (.int .i64 0)) : Rel5 W2 (((((((((w1.setCell ⟨W2.heap.size, 0, none⟩ (.string o)).setCell ⟨W2.heap.size, 1, none⟩ (.string n)).setCell ⟨W2.heap.size, 2, none⟩ (.int .i64 t)).setCell ⟨W2.heap.size, 3, none⟩ (.int .i64 k)).setCell ⟨W2.heap.size, 4, none⟩ (.string s)).setCell ⟨W2.heap.size, 5, none⟩ (.slice p m c)).setCell ⟨W2.heap.size, 6, none⟩ (.int .i64 q)).setCell ⟨W2.heap.size + 1, 0, none⟩ (.int .i64 E1)).setCell ⟨W2.heap.size + 1, 1, none⟩ (.int .i64 (P1 : Nat))) W2.heap.size (W2.heap.size + 1) #[.string o, .string n, .int .i64 t, .int .i64 k, .string s, .slice p m c, .int .i64 q] E1 P1 X1 := by
  have hz : (((((((((w1.setCell ⟨W2.heap.size, 0, none⟩ (.string o)).setCell ⟨W2.heap.size, 1, none⟩ (.string n)).setCell ⟨W2.heap.size, 2, none⟩ (.int .i64 t)).setCell ⟨W2.heap.size, 3, none⟩ (.int .i64 k)).setCell ⟨W2.heap.size, 4, none⟩ (.string s)).setCell ⟨W2.heap.size, 5, none⟩ (.slice p m c)).setCell ⟨W2.heap.size, 6, none⟩ (.int .i64 q)).setCell ⟨W2.heap.size + 1, 0, none⟩ (.int .i64 E1)).setCell ⟨W2.heap.size + 1, 1, none⟩ (.int .i64 (P1 : Nat))).heap.size = w1.heap.size := by simp [World.setCell]
  have B1 := below_set7 hb (Nat.le_refl _) (.string o) (.string n) (.int .i64 t) (.int .i64 k) (.string s) (.slice p m c) (.int .i64 q)
  have G := Box7.far2 (z := W2.heap.size + 1) (Box7.set h7 (.string o) (.string n) (.int .i64 t) (.int .i64 k) (.string s) (.slice p m c) (.int .i64 q)) (by omega) (.int .i64 E1) (.int .i64 (P1 : Nat))
  have F := Bx2.set (Bx2.far7 (z := W2.heap.size) h2 (by omega) (.string o) (.string n) (.int .i64 t) (.int .i64 k) (.string s) (.slice p m c) (.int .i64 q)) (.int .i64 E1) (.int .i64 (P1 : Nat))
  refine ⟨box7_cells G, F.c0, F.c1, G.lt, F.lt, ExIn.low (fun b h1 h2 => Nat.le_trans (Nat.le_add_right _ 2) h2) _ _ (ExIn.keep (Nat.le_of_eq hz.symm) (fun b o h1 _ => ?_) _ _ hx), (B1.setCell (p := ⟨W2.heap.size + 1, 0, none⟩) (by simp) _).setCell (p := ⟨W2.heap.size + 1, 1, none⟩) (by simp) _⟩
  have h1 : W2.heap.size + 2 ≤ b := h1
  have hne : b ≠ W2.heap.size := by omega
  have hne' : b ≠ W2.heap.size + 1 := by omega
  rw [far1 hne', far1 hne', far1 hne, far1 hne, far1 hne, far1 hne, far1 hne, far1 hne, far1 hne]
theorem rel5_5 {W2 w1 : World} {o n s : ByteArray} {t k q E1 : Int} {p : Option Addr} {m c P1 : Nat} {X1 : Ex} (hx : ExIn w1 (W2.heap.size + 1 ≤ ·) (.agg #[.string o, .string n, .int .i64 t, .int .i64 k, .string s, .slice p m c, .int .i64 q]) X1) (hb : Below W2.heap.size W2 w1) (h2 : Bx2 w1 W2.heap.size (.int .i64 0) (.int .i64 0)) : Rel5 W2 (((w1.setCell ⟨W2.heap.size, 0, none⟩ (.int .i64 E1)).setCell ⟨W2.heap.size, 1, none⟩ (.int .i64 (P1 : Nat))).alloc (.cells #[.string o, .string n, .int .i64 t, .int .i64 k, .string s, .slice p m c, .int .i64 q] 26)) w1.heap.size W2.heap.size #[.string o, .string n, .int .i64 t, .int .i64 k, .string s, .slice p m c, .int .i64 q] E1 P1 X1 := by
  have hz : ((w1.setCell ⟨W2.heap.size, 0, none⟩ (.int .i64 E1)).setCell ⟨W2.heap.size, 1, none⟩ (.int .i64 (P1 : Nat))).heap.size = w1.heap.size := by simp [World.setCell]
  have B1 : Below W2.heap.size W2 ((w1.setCell ⟨W2.heap.size, 0, none⟩ (.int .i64 E1)).setCell ⟨W2.heap.size, 1, none⟩ (.int .i64 (P1 : Nat))) := (hb.setCell (p := ⟨W2.heap.size, 0, none⟩) (by simp) _).setCell (p := ⟨W2.heap.size, 1, none⟩) (by simp) _
  have F := Bx2.on (Bx2.set h2 (.int .i64 E1) (.int .i64 (P1 : Nat))) (al _ (.cells #[.string o, .string n, .int .i64 t, .int .i64 k, .string s, .slice p m c, .int .i64 q] 26))
  have G := box7_at ((w1.setCell ⟨W2.heap.size, 0, none⟩ (.int .i64 E1)).setCell ⟨W2.heap.size, 1, none⟩ (.int .i64 (P1 : Nat))) w1.heap.size hz.symm (.string o) (.string n) (.int .i64 t) (.int .i64 k) (.string s) (.slice p m c) (.int .i64 q) 26
  refine ⟨box7_cells G, F.c0, F.c1, G.lt, F.lt, ExIn.low (fun b h1 h2 => Nat.le_trans (Nat.le_succ _) h2) _ _ ((ExIn.keep (Nat.le_of_eq hz.symm) (fun b o h1 _ => ?_) _ _ hx).on (al _ _)), B1.trans ((al _ _).mono (by rw [hz]; exact hb.size))⟩
  have hne : b ≠ W2.heap.size := by have h1 : W2.heap.size + 1 ≤ b := h1; omega
  rw [far1 hne, far1 hne]
theorem rel5_6 {W2 w1 : World} {o n s : ByteArray} {t k q E1 : Int} {p : Option Addr} {m c P1 : Nat} {X1 : Ex} (hx : ExIn w1 (W2.heap.size + 2 ≤ ·) (.agg #[.string o, .string n, .int .i64 t, .int .i64 k, .string s, .slice p m c, .int .i64 q]) X1) (hb : Below W2.heap.size W2 w1) (h7 : Box7 w1 (W2.heap.size + 1) (.string ⟨#[]⟩) (.string ⟨#[]⟩) (.int .i64 0) (.int .i64 0) (.string ⟨#[]⟩) (.slice none 0 0) (.int .i64 0)) (h2 : Bx2 w1 W2.heap.size (.int .i64 0) (.int .i64 0)) : Rel5 W2 (((((((((w1.setCell ⟨W2.heap.size + 1, 0, none⟩ (.string o)).setCell ⟨W2.heap.size + 1, 1, none⟩ (.string n)).setCell ⟨W2.heap.size + 1, 2, none⟩ (.int .i64 t)).setCell ⟨W2.heap.size + 1, 3, none⟩ (.int .i64 k)).setCell ⟨W2.heap.size + 1, 4, none⟩ (.string s)).setCell ⟨W2.heap.size + 1, 5, none⟩ (.slice p m c)).setCell ⟨W2.heap.size + 1, 6, none⟩ (.int .i64 q)).setCell ⟨W2.heap.size, 0, none⟩ (.int .i64 E1)).setCell ⟨W2.heap.size, 1, none⟩ (.int .i64 (P1 : Nat))) (W2.heap.size + 1) W2.heap.size #[.string o, .string n, .int .i64 t, .int .i64 k, .string s, .slice p m c, .int .i64 q] E1 P1 X1 := by
  have hz : (((((((((w1.setCell ⟨W2.heap.size + 1, 0, none⟩ (.string o)).setCell ⟨W2.heap.size + 1, 1, none⟩ (.string n)).setCell ⟨W2.heap.size + 1, 2, none⟩ (.int .i64 t)).setCell ⟨W2.heap.size + 1, 3, none⟩ (.int .i64 k)).setCell ⟨W2.heap.size + 1, 4, none⟩ (.string s)).setCell ⟨W2.heap.size + 1, 5, none⟩ (.slice p m c)).setCell ⟨W2.heap.size + 1, 6, none⟩ (.int .i64 q)).setCell ⟨W2.heap.size, 0, none⟩ (.int .i64 E1)).setCell ⟨W2.heap.size, 1, none⟩ (.int .i64 (P1 : Nat))).heap.size = w1.heap.size := by simp [World.setCell]
  have B1 := below_set7 (z := W2.heap.size + 1) hb (Nat.le_succ _) (.string o) (.string n) (.int .i64 t) (.int .i64 k) (.string s) (.slice p m c) (.int .i64 q)
  have G := Box7.far2 (z := W2.heap.size) (Box7.set h7 (.string o) (.string n) (.int .i64 t) (.int .i64 k) (.string s) (.slice p m c) (.int .i64 q)) (by omega) (.int .i64 E1) (.int .i64 (P1 : Nat))
  have F := Bx2.set (Bx2.far7 (z := W2.heap.size + 1) h2 (by omega) (.string o) (.string n) (.int .i64 t) (.int .i64 k) (.string s) (.slice p m c) (.int .i64 q)) (.int .i64 E1) (.int .i64 (P1 : Nat))
  refine ⟨box7_cells G, F.c0, F.c1, G.lt, F.lt, ExIn.low (fun b h1 h2 => Nat.le_trans (Nat.le_add_right _ 2) h2) _ _ (ExIn.keep (Nat.le_of_eq hz.symm) (fun b o h1 _ => ?_) _ _ hx), (B1.setCell (p := ⟨W2.heap.size, 0, none⟩) (by simp) _).setCell (p := ⟨W2.heap.size, 1, none⟩) (by simp) _⟩
  have h1 : W2.heap.size + 2 ≤ b := h1
  have hne : b ≠ W2.heap.size + 1 := by omega
  have hne' : b ≠ W2.heap.size := by omega
  rw [far1 hne', far1 hne', far1 hne, far1 hne, far1 hne, far1 hne, far1 hne, far1 hne, far1 hne]
theorem lt_al1 (W : World) (o : Obj) : W.heap.size < (W.alloc o).drew.heap.size := by simp
theorem lt_al2 (W : World) (o o' : Obj) : W.heap.size < ((W.alloc o).alloc o').drew.heap.size := by simp; omega
theorem lt_al3 (W : World) (o o' : Obj) : W.heap.size + 1 < ((W.alloc o).alloc o').drew.heap.size := by simp
theorem bdT_of (S T : ByteArray) : ((((⟨#[120, 32]⟩ : ByteArray) ++ S ++ ⟨#[32, 121, 32]⟩) ++ T) ++ ⟨#[32, 122]⟩).data.toList = bdT S.data.toList T.data.toList := by
  simp [bdT]
theorem bdU_of (S T : ByteArray) : ((((⟨#[40, 120, 32]⟩ : ByteArray) ++ S ++ ⟨#[32, 121, 41, 32]⟩) ++ T) ++ ⟨#[32, 122]⟩).data.toList = bdU S.data.toList T.data.toList false := by
  simp [bdU]
theorem bdU_of' (S T : ByteArray) : ((((⟨#[120, 32]⟩ : ByteArray) ++ S ++ ⟨#[32, 40, 121, 32]⟩) ++ T) ++ ⟨#[32, 122, 41]⟩).data.toList = bdU S.data.toList T.data.toList true := by
  simp [bdU]
def bdZ : Bool := bdS.all fun p => bdS.all fun q => decide ((parseP (bdT p q)).1.size ≤ 1000)
set_option maxRecDepth 100000 in
theorem bd_z : bdZ = true := by kernel_rfl
theorem bd_size (a b : Nat) (ha : a < 9) (hb : b < 9) : (parseP (bdT (bdS[a]'ha) (bdS[b]'hb))).1.size ≤ 1000 := by
  have h := bd_z
  rw [bdZ, List.all_eq_true] at h
  have h1 := h (bdS[a]'ha) (List.getElem_mem ha)
  rw [List.all_eq_true] at h1
  exact of_decide_eq_true (h1 (bdS[b]'hb) (List.getElem_mem hb))
set_option maxHeartbeats 4000000 in
set_option maxRecDepth 20000 in
theorem binds_out (a b : Int) (w : World) (h : a < 0 ∨ 8 < a ∨ b < 0 ∨ 8 < b) :
    Calls Tryz.prog 5 #[.int .i64 a, .int .i64 b] w fun e w' => e = .returned (.bool true) ∧ Below w.heap.size w w' := by
  have BB : ∀ o1 o2, Below w.heap.size w ((w.alloc o1).alloc o2) := fun o1 o2 => (((Below.refl _ w).alloc (Nat.le_refl _) o1).alloc (by simp) o2)
  by_cases h1 : a < 0
  · clear h
    go_enter Tryz.func5, Tryz.ntmps5
    go_wp2
    go_ret
    exact ⟨rfl, BB _ _⟩
  · by_cases h2 : 8 < a
    · clear h
      go_enter Tryz.func5, Tryz.ntmps5
      go_wp2
      go_ret
      exact ⟨rfl, BB _ _⟩
    · by_cases h3 : b < 0
      · clear h
        go_enter Tryz.func5, Tryz.ntmps5
        go_wp2
        go_ret
        exact ⟨rfl, BB _ _⟩
      · have h4 : 8 < b := by omega
        clear h
        go_enter Tryz.func5, Tryz.ntmps5
        go_wp2
        go_ret
        exact ⟨rfl, BB _ _⟩
set_option maxHeartbeats 4000000 in
set_option maxRecDepth 20000 in
theorem binds_in (a b : Nat) (w : World) (henv : TEnv w) (hw : SG w) (ha : a < 9) (hb : b < 9) :
    Calls Tryz.prog 5 #[.int .i64 (a : Int), .int .i64 (b : Int)] w fun e w' => e = .returned (.bool true) ∧ Below w.heap.size w w' := by
  have ha8 : (a : Int) ≤ 8 := by omega
  have hb8 : (b : Int) ≤ 8 := by omega
  have ha0 : (0 : Int) ≤ (a : Int) := by omega
  have hb0 : (0 : Int) ≤ (b : Int) := by omega
  obtain ⟨SA, hA, hA1, hA2⟩ := sg_at a ha
  obtain ⟨SB, hB, hB1, hB2⟩ := sg_at b hb
  obtain ⟨LA, hLA, hLA1, hLA2⟩ := lv_at a ha
  obtain ⟨LB, hLB, hLB1, hLB2⟩ := lv_at b hb
  have HBD : Hid (bdC SA.data.toList SB.data.toList LA LB = true) := by
    show _ = _
    rw [hA1, hB1, ← hLA1, ← hLB1]; exact bd_at a b ha hb
  have HZ1 : Hid ((parseP (bdT SA.data.toList SB.data.toList)).1.size ≤ 1000) := by
    show _ ≤ _
    rw [hA1, hB1]; exact bd_size a b ha hb
  have B2 : Below w.heap.size w ((w.alloc (.cells sgV 9)).alloc (.cells lvV 3)) := ((Below.refl _ w).alloc (Nat.le_refl _) _).alloc (by simp) _
  have cSA : ((w.alloc (.cells sgV 9)).alloc (.cells lvV 3)).cell? ⟨w.heap.size, a, none⟩ = some (.string SA) := by
    rw [World.cell?_alloc_lt _ _ _ (by simp), World.cell?_alloc_at _ _ _ _ rfl]; exact hA
  have cSB : ((w.alloc (.cells sgV 9)).alloc (.cells lvV 3)).cell? ⟨w.heap.size, b, none⟩ = some (.string SB) := by
    rw [World.cell?_alloc_lt _ _ _ (by simp), World.cell?_alloc_at _ _ _ _ rfl]; exact hB
  have cLA : ((w.alloc (.cells sgV 9)).alloc (.cells lvV 3)).cell? ⟨w.heap.size + 1, a, none⟩ = some (.int .i64 (LA : Int)) := by
    rw [World.cell?_alloc_at _ _ _ _ (by simp)]; exact hLA
  have cLB : ((w.alloc (.cells sgV 9)).alloc (.cells lvV 3)).cell? ⟨w.heap.size + 1, b, none⟩ = some (.int .i64 (LB : Int)) := by
    rw [World.cell?_alloc_at _ _ _ _ (by simp)]; exact hLB
  have hz2 : w.heap.size + 2 ≤ ((w.alloc (.cells sgV 9)).alloc (.cells lvV 3)).heap.size := by simp
  clear hA hB hLA hLB hA1 hB1 hLA1 hLB1
  have TE := henv.on B2
  have TG := hw.on B2
  clear henv hw
  go_enter Tryz.func5, Tryz.ntmps5
  go_upto_region 5 with fail
  rw [sgV, lvV] at *
  generalize ((w.alloc (.cells #[.string ⟨#[111, 114]⟩, .string ⟨#[97, 110, 100]⟩, .string ⟨#[61]⟩, .string ⟨#[60]⟩, .string ⟨#[43]⟩, .string ⟨#[45]⟩, .string ⟨#[42]⟩, .string ⟨#[47]⟩, .string ⟨#[37]⟩] 9)).alloc (.cells #[.int .i64 0, .int .i64 1, .int .i64 2, .int .i64 2, .int .i64 3, .int .i64 3, .int .i64 4, .int .i64 4, .int .i64 4] 3)) = W2 at *
  have hzA : w.heap.size < W2.heap.size := by omega
  have hzB : w.heap.size + 1 < W2.heap.size := by omega
  have e9a : (a : Int) < 9 := by omega
  have e9b : (b : Int) < 9 := by omega
  have e8a : ¬ (8 : Int) < (a : Int) := by omega
  have e8b : ¬ (8 : Int) < (b : Int) := by omega
  obtain ⟨X1, E1, P1, hP1⟩ : ∃ x E P, parseP ((((⟨#[120, 32]⟩ : ByteArray) ++ SA ++ ⟨#[32, 121, 32]⟩) ++ SB) ++ ⟨#[32, 122]⟩).data.toList = (x, E, P) := ⟨_, _, _, rfl⟩
  have hT1 : ((((⟨#[120, 32]⟩ : ByteArray) ++ SA ++ ⟨#[32, 121, 32]⟩) ++ SB) ++ ⟨#[32, 122]⟩).size ≤ maxLen := by
    simp only [ByteArray.size_append, maxLen, show (⟨#[120, 32]⟩ : ByteArray).size = 2 from rfl, show (⟨#[32, 121, 32]⟩ : ByteArray).size = 3 from rfl, show (⟨#[32, 122]⟩ : ByteArray).size = 2 from rfl]
    omega
  have cP : ∀ W, Below W2.heap.size W2 W → Calls Tryz.prog 7 #[.string ((((⟨#[120, 32]⟩ : ByteArray) ++ SA ++ ⟨#[32, 121, 32]⟩) ++ SB) ++ ⟨#[32, 122]⟩)] W fun e w' => (∃ o n t k s p m c q, e = .returned (.tuple #[.agg #[.string o, .string n, .int .i64 t, .int .i64 k, .string s, .slice p m c, .int .i64 q], .agg #[.int .i64 E1, .int .i64 (P1 : Nat)]]) ∧ Aside (ExIn w' (W.heap.size ≤ ·) (.agg #[.string o, .string n, .int .i64 t, .int .i64 k, .string s, .slice p m c, .int .i64 q]) X1)) ∧ w'.cell? ⟨w.heap.size, a, none⟩ = some (.string SA) ∧ w'.cell? ⟨w.heap.size, b, none⟩ = some (.string SB) ∧ Below W.heap.size W w' := by
    intro W hb
    refine (parse_tree _ W (TE.on hb) (TG.on hb) X1 E1 P1 hP1 hT1).mono ?_
    rintro e w' ⟨⟨v, rfl, hx⟩, b1⟩
    obtain ⟨o, n, t, k, s, p, m, c, q, rfl⟩ := hx.out.agg
    have hs := hb.size
    exact ⟨⟨o, n, t, k, s, p, m, c, q, rfl, hx⟩, by rw [b1.cell (p := ⟨w.heap.size, a, none⟩) (by show w.heap.size < _; omega), hb.cell (p := ⟨w.heap.size, a, none⟩) hzA]; exact cSA, by rw [b1.cell (p := ⟨w.heap.size, b, none⟩) (by show w.heap.size < _; omega), hb.cell (p := ⟨w.heap.size, b, none⟩) hzA]; exact cSB, b1⟩
  have al1 : ∀ o, Below W2.heap.size W2 (W2.alloc o) := fun o => (Below.refl _ _).alloc (Nat.le_refl _) o
  have al2 : ∀ o o', Below W2.heap.size W2 ((W2.alloc o).alloc o') := fun o o' => ((Below.refl _ _).alloc (Nat.le_refl _) o).alloc (by simp) o'
  have cPa : Calls Tryz.prog 7 #[.string ((((⟨#[120, 32]⟩ : ByteArray) ++ SA ++ ⟨#[32, 121, 32]⟩) ++ SB) ++ ⟨#[32, 122]⟩)] W2.drew fun e w' => (∃ o n t k s p m c q, e = .returned (.tuple #[.agg #[.string o, .string n, .int .i64 t, .int .i64 k, .string s, .slice p m c, .int .i64 q], .agg #[.int .i64 E1, .int .i64 (P1 : Nat)]]) ∧ Aside (ExIn w' (W2.heap.size ≤ ·) (.agg #[.string o, .string n, .int .i64 t, .int .i64 k, .string s, .slice p m c, .int .i64 q]) X1)) ∧ w'.cell? ⟨w.heap.size, a, none⟩ = some (.string SA) ∧ w'.cell? ⟨w.heap.size, b, none⟩ = some (.string SB) ∧ Below W2.drew.heap.size W2.drew w' := cP _ (Below.drew (Below.refl _ _))
  have cPb : Calls Tryz.prog 7 #[.string ((((⟨#[120, 32]⟩ : ByteArray) ++ SA ++ ⟨#[32, 121, 32]⟩) ++ SB) ++ ⟨#[32, 122]⟩)] (W2.alloc (.cells #[.string ⟨#[]⟩, .string ⟨#[]⟩, .int .i64 0, .int .i64 0, .string ⟨#[]⟩, .slice none 0 0, .int .i64 0] 26)).drew fun e w' => (∃ o n t k s p m c q, e = .returned (.tuple #[.agg #[.string o, .string n, .int .i64 t, .int .i64 k, .string s, .slice p m c, .int .i64 q], .agg #[.int .i64 E1, .int .i64 (P1 : Nat)]]) ∧ Aside (ExIn w' (W2.heap.size + 1 ≤ ·) (.agg #[.string o, .string n, .int .i64 t, .int .i64 k, .string s, .slice p m c, .int .i64 q]) X1)) ∧ Box7 w' W2.heap.size (.string ⟨#[]⟩) (.string ⟨#[]⟩) (.int .i64 0) (.int .i64 0) (.string ⟨#[]⟩) (.slice none 0 0) (.int .i64 0) ∧ w'.cell? ⟨w.heap.size, a, none⟩ = some (.string SA) ∧ w'.cell? ⟨w.heap.size, b, none⟩ = some (.string SB) ∧ Below (W2.alloc (.cells #[.string ⟨#[]⟩, .string ⟨#[]⟩, .int .i64 0, .int .i64 0, .string ⟨#[]⟩, .slice none 0 0, .int .i64 0] 26)).drew.heap.size (W2.alloc (.cells #[.string ⟨#[]⟩, .string ⟨#[]⟩, .int .i64 0, .int .i64 0, .string ⟨#[]⟩, .slice none 0 0, .int .i64 0] 26)).drew w' := by
    refine (cP _ (Below.drew (al1 _))).mono ?_
    rintro e w' ⟨⟨o, n, t, k, s, p, m, c, q, rfl, hx⟩, c1, c2, b1⟩
    exact ⟨⟨o, n, t, k, s, p, m, c, q, rfl, ExIn.low (fun b h1 h2 => Nat.le_trans (Nat.le_of_eq (by simp)) h2) _ _ hx.out⟩, Box7.on (Box7.drew (box7_at W2 W2.heap.size rfl _ _ _ _ _ _ _ _)) b1, c1, c2, b1⟩
  have cPc : Calls Tryz.prog 7 #[.string ((((⟨#[120, 32]⟩ : ByteArray) ++ SA ++ ⟨#[32, 121, 32]⟩) ++ SB) ++ ⟨#[32, 122]⟩)] (W2.alloc (.cells #[.int .i64 0, .int .i64 0] 31)).drew fun e w' => (∃ o n t k s p m c q, e = .returned (.tuple #[.agg #[.string o, .string n, .int .i64 t, .int .i64 k, .string s, .slice p m c, .int .i64 q], .agg #[.int .i64 E1, .int .i64 (P1 : Nat)]]) ∧ Aside (ExIn w' (W2.heap.size + 1 ≤ ·) (.agg #[.string o, .string n, .int .i64 t, .int .i64 k, .string s, .slice p m c, .int .i64 q]) X1)) ∧ Bx2 w' W2.heap.size (.int .i64 0) (.int .i64 0) ∧ w'.cell? ⟨w.heap.size, a, none⟩ = some (.string SA) ∧ w'.cell? ⟨w.heap.size, b, none⟩ = some (.string SB) ∧ Below (W2.alloc (.cells #[.int .i64 0, .int .i64 0] 31)).drew.heap.size (W2.alloc (.cells #[.int .i64 0, .int .i64 0] 31)).drew w' := by
    refine (cP _ (Below.drew (al1 _))).mono ?_
    rintro e w' ⟨⟨o, n, t, k, s, p, m, c, q, rfl, hx⟩, c1, c2, b1⟩
    exact ⟨⟨o, n, t, k, s, p, m, c, q, rfl, ExIn.low (fun b h1 h2 => Nat.le_trans (Nat.le_of_eq (by simp)) h2) _ _ hx.out⟩, Bx2.on (Bx2.drew (box2_at W2 W2.heap.size rfl _ _ _)) b1, c1, c2, b1⟩
  have cPd : Calls Tryz.prog 7 #[.string ((((⟨#[120, 32]⟩ : ByteArray) ++ SA ++ ⟨#[32, 121, 32]⟩) ++ SB) ++ ⟨#[32, 122]⟩)] ((W2.alloc (.cells #[.string ⟨#[]⟩, .string ⟨#[]⟩, .int .i64 0, .int .i64 0, .string ⟨#[]⟩, .slice none 0 0, .int .i64 0] 26)).alloc (.cells #[.int .i64 0, .int .i64 0] 31)).drew fun e w' => (∃ o n t k s p m c q, e = .returned (.tuple #[.agg #[.string o, .string n, .int .i64 t, .int .i64 k, .string s, .slice p m c, .int .i64 q], .agg #[.int .i64 E1, .int .i64 (P1 : Nat)]]) ∧ Aside (ExIn w' (W2.heap.size + 2 ≤ ·) (.agg #[.string o, .string n, .int .i64 t, .int .i64 k, .string s, .slice p m c, .int .i64 q]) X1)) ∧ Box7 w' W2.heap.size (.string ⟨#[]⟩) (.string ⟨#[]⟩) (.int .i64 0) (.int .i64 0) (.string ⟨#[]⟩) (.slice none 0 0) (.int .i64 0) ∧ Bx2 w' (W2.heap.size + 1) (.int .i64 0) (.int .i64 0) ∧ w'.cell? ⟨w.heap.size, a, none⟩ = some (.string SA) ∧ w'.cell? ⟨w.heap.size, b, none⟩ = some (.string SB) ∧ Below ((W2.alloc (.cells #[.string ⟨#[]⟩, .string ⟨#[]⟩, .int .i64 0, .int .i64 0, .string ⟨#[]⟩, .slice none 0 0, .int .i64 0] 26)).alloc (.cells #[.int .i64 0, .int .i64 0] 31)).drew.heap.size ((W2.alloc (.cells #[.string ⟨#[]⟩, .string ⟨#[]⟩, .int .i64 0, .int .i64 0, .string ⟨#[]⟩, .slice none 0 0, .int .i64 0] 26)).alloc (.cells #[.int .i64 0, .int .i64 0] 31)).drew w' := by
    refine (cP _ (Below.drew (al2 _ _))).mono ?_
    rintro e w' ⟨⟨o, n, t, k, s, p, m, c, q, rfl, hx⟩, c1, c2, b1⟩
    exact ⟨⟨o, n, t, k, s, p, m, c, q, rfl, ExIn.low (fun b h1 h2 => Nat.le_trans (Nat.le_of_eq (by simp)) h2) _ _ hx.out⟩, Box7.on (Box7.drew (Box7.on (box7_at W2 W2.heap.size rfl _ _ _ _ _ _ _ _) (al _ _))) b1, Bx2.on (Bx2.drew (box2_at _ (W2.heap.size + 1) (size_al _ _) _ _ _)) b1, c1, c2, b1⟩
  have cPe : Calls Tryz.prog 7 #[.string ((((⟨#[120, 32]⟩ : ByteArray) ++ SA ++ ⟨#[32, 121, 32]⟩) ++ SB) ++ ⟨#[32, 122]⟩)] ((W2.alloc (.cells #[.int .i64 0, .int .i64 0] 31)).alloc (.cells #[.string ⟨#[]⟩, .string ⟨#[]⟩, .int .i64 0, .int .i64 0, .string ⟨#[]⟩, .slice none 0 0, .int .i64 0] 26)).drew fun e w' => (∃ o n t k s p m c q, e = .returned (.tuple #[.agg #[.string o, .string n, .int .i64 t, .int .i64 k, .string s, .slice p m c, .int .i64 q], .agg #[.int .i64 E1, .int .i64 (P1 : Nat)]]) ∧ Aside (ExIn w' (W2.heap.size + 2 ≤ ·) (.agg #[.string o, .string n, .int .i64 t, .int .i64 k, .string s, .slice p m c, .int .i64 q]) X1)) ∧ Box7 w' (W2.heap.size + 1) (.string ⟨#[]⟩) (.string ⟨#[]⟩) (.int .i64 0) (.int .i64 0) (.string ⟨#[]⟩) (.slice none 0 0) (.int .i64 0) ∧ Bx2 w' W2.heap.size (.int .i64 0) (.int .i64 0) ∧ w'.cell? ⟨w.heap.size, a, none⟩ = some (.string SA) ∧ w'.cell? ⟨w.heap.size, b, none⟩ = some (.string SB) ∧ Below ((W2.alloc (.cells #[.int .i64 0, .int .i64 0] 31)).alloc (.cells #[.string ⟨#[]⟩, .string ⟨#[]⟩, .int .i64 0, .int .i64 0, .string ⟨#[]⟩, .slice none 0 0, .int .i64 0] 26)).drew.heap.size ((W2.alloc (.cells #[.int .i64 0, .int .i64 0] 31)).alloc (.cells #[.string ⟨#[]⟩, .string ⟨#[]⟩, .int .i64 0, .int .i64 0, .string ⟨#[]⟩, .slice none 0 0, .int .i64 0] 26)).drew w' := by
    refine (cP _ (Below.drew (al2 _ _))).mono ?_
    rintro e w' ⟨⟨o, n, t, k, s, p, m, c, q, rfl, hx⟩, c1, c2, b1⟩
    exact ⟨⟨o, n, t, k, s, p, m, c, q, rfl, ExIn.low (fun b h1 h2 => Nat.le_trans (Nat.le_of_eq (by simp)) h2) _ _ hx.out⟩, Box7.on (Box7.drew (box7_at _ (W2.heap.size + 1) (size_al _ _) _ _ _ _ _ _ _ _)) b1, Bx2.on (Bx2.drew (Bx2.on (box2_at W2 W2.heap.size rfl _ _ _) (al _ _))) b1, c1, c2, b1⟩
  go_cut [7, 8] (fun s7 s8 wc => ∃ (be bf : Nat) (o n : ByteArray) (t k : Int) (s : ByteArray) (p : Option Addr) (m c : Nat) (q : Int), s7 = .pointer (some ⟨be, 0, none⟩) ∧ s8 = .pointer (some ⟨bf, 0, none⟩) ∧ Aside (∀ i, i < 7 → wc.cell? ⟨be, i, none⟩ = (#[.string o, .string n, .int .i64 t, .int .i64 k, .string s, .slice p m c, .int .i64 q] : Array Value)[i]?) ∧ wc.cell? ⟨bf, 0, none⟩ = some (.int .i64 E1) ∧ wc.cell? ⟨bf, 1, none⟩ = some (.int .i64 (P1 : Nat)) ∧ be < wc.heap.size ∧ bf < wc.heap.size ∧ Aside (ExIn wc (W2.heap.size ≤ ·) (.agg #[.string o, .string n, .int .i64 t, .int .i64 k, .string s, .slice p m c, .int .i64 q]) X1) ∧ Aside (Below W2.heap.size W2 wc))
  case first =>
    have hne : W2.heap.size ≠ w.heap.size := by omega
    have hne1 : W2.heap.size + 1 ≠ w.heap.size := by omega
    have n1 : ¬ 9223372036854775807 < 2 + SA.size := by omega
    have n2 : ¬ 9223372036854775807 < 2 + SA.size + 3 := by omega
    have n3 : ¬ 9223372036854775807 < 2 + SA.size + 3 + SB.size := by omega
    have n4 : ¬ 9223372036854775807 < 2 + SA.size + 3 + SB.size + 2 := by omega
    go_region_held3 (fun w' => w'.cell? ⟨w.heap.size, a, none⟩ = some (.string SA) ∧ w'.cell? ⟨w.heap.size, b, none⟩ = some (.string SB)) (go_keep) (first | (go_at_call 7; first | (refine cPa.mono ?_; rintro e w1 ⟨⟨o, n, t, k, s, p, m, c, q, rfl, hx⟩, c1, c2, b1⟩) | (refine cPb.mono ?_; rintro e w1 ⟨⟨o, n, t, k, s, p, m, c, q, rfl, hx⟩, ⟨x0, x1, x2, x3, x4, x5, x6, xf, xl⟩, c1, c2, b1⟩) | (refine cPc.mono ?_; rintro e w1 ⟨⟨o, n, t, k, s, p, m, c, q, rfl, hx⟩, ⟨y0, y1, yf, yl⟩, c1, c2, b1⟩) | (refine cPd.mono ?_; rintro e w1 ⟨⟨o, n, t, k, s, p, m, c, q, rfl, hx⟩, ⟨x0, x1, x2, x3, x4, x5, x6, xf, xl⟩, ⟨y0, y1, yf, yl⟩, c1, c2, b1⟩) | (refine cPe.mono ?_; rintro e w1 ⟨⟨o, n, t, k, s, p, m, c, q, rfl, hx⟩, ⟨x0, x1, x2, x3, x4, x5, x6, xf, xl⟩, ⟨y0, y1, yf, yl⟩, c1, c2, b1⟩)))
    · go_wp2_with fail
      go_meet
      case rel =>
        obtain ⟨g1, g2, g3, g4, g5, g6, g7⟩ := rel5_1 (W2 := W2) (E1 := E1) (P1 := P1) hx.out ((Below.drew (Below.refl _ _)).trans b1)
        exact ⟨_, _, o, n, t, k, s, p, m, c, q, rfl, rfl, (show Aside _ from g1), g2, g3, g4, g5, (show Aside _ from g6), (show Aside _ from g7)⟩
    · go_wp2_with fail
      go_meet
      case rel =>
        obtain ⟨g1, g2, g3, g4, g5, g6, g7⟩ := rel5_2 (W2 := W2) (E1 := E1) (P1 := P1) hx.out ((Below.drew (Below.refl _ _)).trans b1)
        exact ⟨_, _, o, n, t, k, s, p, m, c, q, rfl, rfl, (show Aside _ from g1), g2, g3, g4, g5, (show Aside _ from g6), (show Aside _ from g7)⟩
    · go_wp2_with fail
      go_meet
      case rel =>
        obtain ⟨g1, g2, g3, g4, g5, g6, g7⟩ := rel5_3 (W2 := W2) (E1 := E1) (P1 := P1) hx.out ((Below.drew (al1 _)).trans (b1.mono (al1 _).size)) ⟨x0, x1, x2, x3, x4, x5, x6, xf, xl⟩
        exact ⟨_, _, o, n, t, k, s, p, m, c, q, rfl, rfl, (show Aside _ from g1), g2, g3, g4, g5, (show Aside _ from g6), (show Aside _ from g7)⟩
    · go_wp2_with fail
      go_meet
      case rel =>
        obtain ⟨g1, g2, g3, g4, g5, g6, g7⟩ := rel5_4 (W2 := W2) (E1 := E1) (P1 := P1) hx.out ((Below.drew (al2 _ _)).trans (b1.mono (al2 _ _).size)) ⟨x0, x1, x2, x3, x4, x5, x6, xf, xl⟩ ⟨y0, y1, yf, yl⟩
        exact ⟨_, _, o, n, t, k, s, p, m, c, q, rfl, rfl, (show Aside _ from g1), g2, g3, g4, g5, (show Aside _ from g6), (show Aside _ from g7)⟩
    · go_wp2_with fail
      go_meet
      case rel =>
        obtain ⟨g1, g2, g3, g4, g5, g6, g7⟩ := rel5_5 (W2 := W2) (E1 := E1) (P1 := P1) hx.out ((Below.drew (al1 _)).trans (b1.mono (al1 _).size)) ⟨y0, y1, yf, yl⟩
        exact ⟨_, _, o, n, t, k, s, p, m, c, q, rfl, rfl, (show Aside _ from g1), g2, g3, g4, g5, (show Aside _ from g6), (show Aside _ from g7)⟩
    · go_wp2_with fail
      go_meet
      case rel =>
        obtain ⟨g1, g2, g3, g4, g5, g6, g7⟩ := rel5_6 (W2 := W2) (E1 := E1) (P1 := P1) hx.out ((Below.drew (al2 _ _)).trans (b1.mono (al2 _ _).size)) ⟨x0, x1, x2, x3, x4, x5, x6, xf, xl⟩ ⟨y0, y1, yf, yl⟩
        exact ⟨_, _, o, n, t, k, s, p, m, c, q, rfl, rfl, (show Aside _ from g1), g2, g3, g4, g5, (show Aside _ from g6), (show Aside _ from g7)⟩
  case rest =>
    obtain ⟨be, bf, o, n, t, k, s, p, m, c, q, rfl, rfl, HC, f0, f1, hbe, hbf, HX, HB⟩ := hcut
    have b2 := HB.out
    have hwz : w.heap.size + 2 ≤ wc.heap.size := by have := b2.size; omega
    have dSA : wc.cell? ⟨w.heap.size, a, none⟩ = some (.string SA) := by rw [b2.cell (p := ⟨w.heap.size, a, none⟩) (by show w.heap.size < _; omega)]; exact cSA
    have dSB : wc.cell? ⟨w.heap.size, b, none⟩ = some (.string SB) := by rw [b2.cell (p := ⟨w.heap.size, b, none⟩) (by show w.heap.size < _; omega)]; exact cSB
    have dLA : wc.cell? ⟨w.heap.size + 1, a, none⟩ = some (.int .i64 (LA : Int)) := by rw [b2.cell (p := ⟨w.heap.size + 1, a, none⟩) (by show w.heap.size + 1 < _; omega)]; exact cLA
    have dLB : wc.cell? ⟨w.heap.size + 1, b, none⟩ = some (.int .i64 (LB : Int)) := by rw [b2.cell (p := ⟨w.heap.size + 1, b, none⟩) (by show w.heap.size + 1 < _; omega)]; exact cLB
    have hz0 : w.heap.size < wc.heap.size := by omega
    have hz1 : w.heap.size + 1 < wc.heap.size := by omega
    have BC : Aside (Below w.heap.size w wc) := B2.trans (b2.mono (by omega))
    have TEc : Aside (TEnv wc) := TE.on b2
    have TGc : Aside (SG wc) := TG.on b2
    have HP1 : Hid (parseP (bdT SA.data.toList SB.data.toList) = (X1, E1, P1)) := by show _ = _; rw [← bdT_of]; exact hP1
    clear b2 HB cSA cSB cLA cLB cP cPa cPb cPc cPd cPe al1 al2 TE TG hP1 hT1 B2
    by_cases h22 : LA = 2 ∧ LB = 2
    · obtain ⟨h1, h2⟩ := h22
      have hbd := HBD.out
      rw [bdC, if_pos ⟨h1, h2⟩, HP1.out, Bool.and_eq_true, decide_eq_true_eq, decide_eq_true_eq] at hbd
      have hE : E1 = 2 := hbd.1
      have hPP : P1 = 5 + SA.data.toList.length := hbd.2
      subst hE
      have hsl : SA.data.toList.length = SA.size := by simp
      rw [hsl] at hPP
      have q1 : ((LA : Int) == 2) = true := by rw [h1]; rfl
      have q2 : ((LB : Int) == 2) = true := by rw [h2]; rfl
      have q3 : ((P1 : Int) == 5 + (SA.size : Int)) = true := by simp; omega
      have hPI : (P1 : Int) = 5 + (SA.size : Int) := by omega
      clear HBD hbd hsl h1 h2 HC HX TEc TGc HP1 HZ1 hPP
      go_wp2
      go_quiet (fail)
      go_wp2
      go_ret
      exact ⟨rfl, below_drewN BC.out _⟩
    · have hbd := HBD.out
      rw [bdC, if_neg h22, HP1.out, Bool.and_eq_true, Bool.and_eq_true, decide_eq_true_eq, decide_eq_true_eq] at hbd
      obtain ⟨hE, hE2, hSM⟩ := hbd
      have hE : E1 = 0 := hE
      subst hE
      have HX1 : Hid (X1.size ≤ 1048576) := by show _ ≤ _; have h := HZ1.out; rw [HP1.out] at h; exact Nat.le_trans h (by decide)
      obtain ⟨X2, E2, P2, hP2⟩ : ∃ x E P, parseP (bdU SA.data.toList SB.data.toList (decide (LA < LB))) = (x, E, P) := ⟨_, _, _, rfl⟩
      rw [hP2] at hE2 hSM
      have hE2 : E2 = 0 := hE2
      subst hE2
      have HSM : Hid (sameE false X1 X2 = true) := hSM
      have c0 : wc.cell? ⟨be, 0, none⟩ = some (.string o) := HC.out 0 (by decide)
      have c1 : wc.cell? ⟨be, 1, none⟩ = some (.string n) := HC.out 1 (by decide)
      have c2 : wc.cell? ⟨be, 2, none⟩ = some (.int .i64 t) := HC.out 2 (by decide)
      have c3 : wc.cell? ⟨be, 3, none⟩ = some (.int .i64 k) := HC.out 3 (by decide)
      have c4 : wc.cell? ⟨be, 4, none⟩ = some (.string s) := HC.out 4 (by decide)
      have c5 : wc.cell? ⟨be, 5, none⟩ = some (.slice p m c) := HC.out 5 (by decide)
      have c6 : wc.cell? ⟨be, 6, none⟩ = some (.int .i64 q) := HC.out 6 (by decide)
      have cQ : ∀ (T : ByteArray) (W : World), T.size ≤ maxLen → parseP T.data.toList = (X2, 0, P2) → Below wc.heap.size wc W → Calls Tryz.prog 7 #[.string T] W fun e w' => (∃ o2 n2 t2 k2 s2 p2 m2 c2' q2, e = .returned (.tuple #[.agg #[.string o2, .string n2, .int .i64 t2, .int .i64 k2, .string s2, .slice p2 m2 c2', .int .i64 q2], .agg #[.int .i64 0, .int .i64 (P2 : Nat)]]) ∧ Aside (ExIn w' (fun _ => True) (.agg #[.string o2, .string n2, .int .i64 t2, .int .i64 k2, .string s2, .slice p2 m2 c2', .int .i64 q2]) X2)) ∧ Below wc.heap.size wc w' := by
        intro T W hT hp hb
        refine (parse_tree T W (TEc.out.on hb) (TGc.out.on hb) X2 0 P2 hp hT).mono ?_
        rintro e w' ⟨⟨v, rfl, hx⟩, b1⟩
        obtain ⟨o2, n2, t2, k2, s2, p2, m2, c2', q2, rfl⟩ := hx.out.agg
        exact ⟨⟨o2, n2, t2, k2, s2, p2, m2, c2', q2, rfl, ExIn.low (fun _ _ _ => trivial) _ _ hx.out⟩, hb.trans (b1.mono hb.size)⟩
      have XA : Aside (ExIn wc (fun _ => True) (.agg #[.string o, .string n, .int .i64 t, .int .i64 k, .string s, .slice p m c, .int .i64 q]) X1) := ExIn.low (fun _ _ _ => trivial) _ _ HX.out
      have CQ : Aside _ := cQ
      have sz1 : ∀ x y z : ByteArray, x.size ≤ 10 → y.size ≤ 10 → z.size ≤ 10 → ((((x ++ SA) ++ y) ++ SB) ++ z).size ≤ maxLen := fun x y z h1 h2 h3 => by
        simp only [ByteArray.size_append, maxLen]; omega
      clear HBD HZ1 HP1 HC HX TEc TGc hSM cQ
      by_cases hlt : LA < LB
      · have hP3 : parseP ((((⟨#[120, 32]⟩ : ByteArray) ++ SA ++ ⟨#[32, 40, 121, 32]⟩) ++ SB) ++ ⟨#[32, 122, 41]⟩).data.toList = (X2, 0, P2) := by rw [bdU_of', ← hP2, decide_eq_true hlt]
        have hz := sz1 ⟨#[120, 32]⟩ ⟨#[32, 40, 121, 32]⟩ ⟨#[32, 122, 41]⟩ (by decide) (by decide) (by decide)
        have HQ3 : Hid (parseP ((((⟨#[120, 32]⟩ : ByteArray) ++ SA ++ ⟨#[32, 40, 121, 32]⟩) ++ SB) ++ ⟨#[32, 122, 41]⟩).data.toList = (X2, 0, P2)) := hP3
        have HQZ : Hid (((((⟨#[120, 32]⟩ : ByteArray) ++ SA ++ ⟨#[32, 40, 121, 32]⟩) ++ SB) ++ ⟨#[32, 122, 41]⟩).size ≤ maxLen) := hz
        have hltz : (LA : Int) < (LB : Int) := by omega
        clear hP2 hP3 hz sz1 hlt
        by_cases hla : LA = 2
        · have q1 : ((LA : Int) == 2) = true := by rw [hla]; rfl
          have q2 : ((LB : Int) == 2) = false := by simp; omega
          clear hla h22
          go_wp2
          go_quiet (fail)
          go_wp2
          go_quiet (fail)
          go_wp2
          go_quiet (fail)
          go_wp2_with fail
          refine (CQ.out _ _ HQZ.out HQ3.out (below_drewN (Below.refl _ _) _)).mono ?_
          rintro e w4 ⟨⟨o2, n2, t2, k2, s2, p2, m2, c2', q2, rfl, hx2⟩, b4⟩
          have hz4 := b4.size
          have hbe4 : be < w4.heap.size := by omega
          have d0 : w4.cell? ⟨be, 0, none⟩ = some (.string o) := by rw [b4.cell (p := ⟨be, 0, none⟩) hbe]; exact c0
          have d1 : w4.cell? ⟨be, 1, none⟩ = some (.string n) := by rw [b4.cell (p := ⟨be, 1, none⟩) hbe]; exact c1
          have d2 : w4.cell? ⟨be, 2, none⟩ = some (.int .i64 t) := by rw [b4.cell (p := ⟨be, 2, none⟩) hbe]; exact c2
          have d3 : w4.cell? ⟨be, 3, none⟩ = some (.int .i64 k) := by rw [b4.cell (p := ⟨be, 3, none⟩) hbe]; exact c3
          have d4 : w4.cell? ⟨be, 4, none⟩ = some (.string s) := by rw [b4.cell (p := ⟨be, 4, none⟩) hbe]; exact c4
          have d5 : w4.cell? ⟨be, 5, none⟩ = some (.slice p m c) := by rw [b4.cell (p := ⟨be, 5, none⟩) hbe]; exact c5
          have d6 : w4.cell? ⟨be, 6, none⟩ = some (.int .i64 q) := by rw [b4.cell (p := ⟨be, 6, none⟩) hbe]; exact c6
          have cS : ∀ W, Below w4.heap.size w4 W → Calls Tryz.prog 14 #[.agg #[.string o, .string n, .int .i64 t, .int .i64 k, .string s, .slice p m c, .int .i64 q], .agg #[.string o2, .string n2, .int .i64 t2, .int .i64 k2, .string s2, .slice p2 m2 c2', .int .i64 q2]] W fun e w' => e = .returned (.bool true) ∧ Below w.heap.size w w' := by
            intro W hb
            refine (treeSame_any X1 X2 (fun _ => True) _ _ W ((XA.out.on b4).on hb) (hx2.out.on hb) HX1.out).mono ?_
            rintro e w' ⟨rfl, b5⟩
            exact ⟨by rw [HSM.out], BC.out.trans ((b4.trans ((hb.mono hz4).trans (b5.mono (Nat.le_trans hz4 hb.size)))).mono BC.out.size)⟩
          clear XA hx2 b4 CQ HQ3 HQZ HSM HX1 c0 c1 c2 c3 c4 c5 c6
          go_wp2_with fail
          refine (cS _ (((Below.refl _ _).alloc (Nat.le_refl _) _).alloc (by simp) _)).mono ?_
          rintro e w5 ⟨rfl, b5⟩
          go_wp2
          go_ret
          exact ⟨rfl, b5⟩
        · have q1 : ((LA : Int) == 2) = false := by simp; omega
          clear hla h22
          go_wp2
          go_quiet (fail)
          go_wp2
          go_quiet (fail)
          go_wp2
          go_quiet (fail)
          go_wp2_with fail
          refine (CQ.out _ _ HQZ.out HQ3.out (below_drewN (Below.refl _ _) _)).mono ?_
          rintro e w4 ⟨⟨o2, n2, t2, k2, s2, p2, m2, c2', q2, rfl, hx2⟩, b4⟩
          have hz4 := b4.size
          have hbe4 : be < w4.heap.size := by omega
          have d0 : w4.cell? ⟨be, 0, none⟩ = some (.string o) := by rw [b4.cell (p := ⟨be, 0, none⟩) hbe]; exact c0
          have d1 : w4.cell? ⟨be, 1, none⟩ = some (.string n) := by rw [b4.cell (p := ⟨be, 1, none⟩) hbe]; exact c1
          have d2 : w4.cell? ⟨be, 2, none⟩ = some (.int .i64 t) := by rw [b4.cell (p := ⟨be, 2, none⟩) hbe]; exact c2
          have d3 : w4.cell? ⟨be, 3, none⟩ = some (.int .i64 k) := by rw [b4.cell (p := ⟨be, 3, none⟩) hbe]; exact c3
          have d4 : w4.cell? ⟨be, 4, none⟩ = some (.string s) := by rw [b4.cell (p := ⟨be, 4, none⟩) hbe]; exact c4
          have d5 : w4.cell? ⟨be, 5, none⟩ = some (.slice p m c) := by rw [b4.cell (p := ⟨be, 5, none⟩) hbe]; exact c5
          have d6 : w4.cell? ⟨be, 6, none⟩ = some (.int .i64 q) := by rw [b4.cell (p := ⟨be, 6, none⟩) hbe]; exact c6
          have cS : ∀ W, Below w4.heap.size w4 W → Calls Tryz.prog 14 #[.agg #[.string o, .string n, .int .i64 t, .int .i64 k, .string s, .slice p m c, .int .i64 q], .agg #[.string o2, .string n2, .int .i64 t2, .int .i64 k2, .string s2, .slice p2 m2 c2', .int .i64 q2]] W fun e w' => e = .returned (.bool true) ∧ Below w.heap.size w w' := by
            intro W hb
            refine (treeSame_any X1 X2 (fun _ => True) _ _ W ((XA.out.on b4).on hb) (hx2.out.on hb) HX1.out).mono ?_
            rintro e w' ⟨rfl, b5⟩
            exact ⟨by rw [HSM.out], BC.out.trans ((b4.trans ((hb.mono hz4).trans (b5.mono (Nat.le_trans hz4 hb.size)))).mono BC.out.size)⟩
          clear XA hx2 b4 CQ HQ3 HQZ HSM HX1 c0 c1 c2 c3 c4 c5 c6
          go_wp2_with fail
          refine (cS _ (((Below.refl _ _).alloc (Nat.le_refl _) _).alloc (by simp) _)).mono ?_
          rintro e w5 ⟨rfl, b5⟩
          go_wp2
          go_ret
          exact ⟨rfl, b5⟩
      · have hP3 : parseP ((((⟨#[40, 120, 32]⟩ : ByteArray) ++ SA ++ ⟨#[32, 121, 41, 32]⟩) ++ SB) ++ ⟨#[32, 122]⟩).data.toList = (X2, 0, P2) := by rw [bdU_of, ← hP2, decide_eq_false hlt]
        have hz := sz1 ⟨#[40, 120, 32]⟩ ⟨#[32, 121, 41, 32]⟩ ⟨#[32, 122]⟩ (by decide) (by decide) (by decide)
        have HQ3 : Hid (parseP ((((⟨#[40, 120, 32]⟩ : ByteArray) ++ SA ++ ⟨#[32, 121, 41, 32]⟩) ++ SB) ++ ⟨#[32, 122]⟩).data.toList = (X2, 0, P2)) := hP3
        have HQZ : Hid (((((⟨#[40, 120, 32]⟩ : ByteArray) ++ SA ++ ⟨#[32, 121, 41, 32]⟩) ++ SB) ++ ⟨#[32, 122]⟩).size ≤ maxLen) := hz
        have hltz : ¬ (LA : Int) < (LB : Int) := by omega
        clear hP2 hP3 hz sz1 hlt
        by_cases hla : LA = 2
        · have q1 : ((LA : Int) == 2) = true := by rw [hla]; rfl
          have q2 : ((LB : Int) == 2) = false := by simp; omega
          clear hla h22
          go_wp2
          go_quiet (fail)
          go_wp2
          go_quiet (fail)
          go_wp2_with fail
          refine (CQ.out _ _ HQZ.out HQ3.out (below_drewN (Below.refl _ _) _)).mono ?_
          rintro e w4 ⟨⟨o2, n2, t2, k2, s2, p2, m2, c2', q2, rfl, hx2⟩, b4⟩
          have hz4 := b4.size
          have hbe4 : be < w4.heap.size := by omega
          have d0 : w4.cell? ⟨be, 0, none⟩ = some (.string o) := by rw [b4.cell (p := ⟨be, 0, none⟩) hbe]; exact c0
          have d1 : w4.cell? ⟨be, 1, none⟩ = some (.string n) := by rw [b4.cell (p := ⟨be, 1, none⟩) hbe]; exact c1
          have d2 : w4.cell? ⟨be, 2, none⟩ = some (.int .i64 t) := by rw [b4.cell (p := ⟨be, 2, none⟩) hbe]; exact c2
          have d3 : w4.cell? ⟨be, 3, none⟩ = some (.int .i64 k) := by rw [b4.cell (p := ⟨be, 3, none⟩) hbe]; exact c3
          have d4 : w4.cell? ⟨be, 4, none⟩ = some (.string s) := by rw [b4.cell (p := ⟨be, 4, none⟩) hbe]; exact c4
          have d5 : w4.cell? ⟨be, 5, none⟩ = some (.slice p m c) := by rw [b4.cell (p := ⟨be, 5, none⟩) hbe]; exact c5
          have d6 : w4.cell? ⟨be, 6, none⟩ = some (.int .i64 q) := by rw [b4.cell (p := ⟨be, 6, none⟩) hbe]; exact c6
          have cS : ∀ W, Below w4.heap.size w4 W → Calls Tryz.prog 14 #[.agg #[.string o, .string n, .int .i64 t, .int .i64 k, .string s, .slice p m c, .int .i64 q], .agg #[.string o2, .string n2, .int .i64 t2, .int .i64 k2, .string s2, .slice p2 m2 c2', .int .i64 q2]] W fun e w' => e = .returned (.bool true) ∧ Below w.heap.size w w' := by
            intro W hb
            refine (treeSame_any X1 X2 (fun _ => True) _ _ W ((XA.out.on b4).on hb) (hx2.out.on hb) HX1.out).mono ?_
            rintro e w' ⟨rfl, b5⟩
            exact ⟨by rw [HSM.out], BC.out.trans ((b4.trans ((hb.mono hz4).trans (b5.mono (Nat.le_trans hz4 hb.size)))).mono BC.out.size)⟩
          clear XA hx2 b4 CQ HQ3 HQZ HSM HX1 c0 c1 c2 c3 c4 c5 c6
          go_wp2_with fail
          refine (cS _ (((Below.refl _ _).alloc (Nat.le_refl _) _).alloc (by simp) _)).mono ?_
          rintro e w5 ⟨rfl, b5⟩
          go_wp2
          go_ret
          exact ⟨rfl, b5⟩
        · have q1 : ((LA : Int) == 2) = false := by simp; omega
          clear hla h22
          go_wp2
          go_quiet (fail)
          go_wp2
          go_quiet (fail)
          go_wp2_with fail
          refine (CQ.out _ _ HQZ.out HQ3.out (below_drewN (Below.refl _ _) _)).mono ?_
          rintro e w4 ⟨⟨o2, n2, t2, k2, s2, p2, m2, c2', q2, rfl, hx2⟩, b4⟩
          have hz4 := b4.size
          have hbe4 : be < w4.heap.size := by omega
          have d0 : w4.cell? ⟨be, 0, none⟩ = some (.string o) := by rw [b4.cell (p := ⟨be, 0, none⟩) hbe]; exact c0
          have d1 : w4.cell? ⟨be, 1, none⟩ = some (.string n) := by rw [b4.cell (p := ⟨be, 1, none⟩) hbe]; exact c1
          have d2 : w4.cell? ⟨be, 2, none⟩ = some (.int .i64 t) := by rw [b4.cell (p := ⟨be, 2, none⟩) hbe]; exact c2
          have d3 : w4.cell? ⟨be, 3, none⟩ = some (.int .i64 k) := by rw [b4.cell (p := ⟨be, 3, none⟩) hbe]; exact c3
          have d4 : w4.cell? ⟨be, 4, none⟩ = some (.string s) := by rw [b4.cell (p := ⟨be, 4, none⟩) hbe]; exact c4
          have d5 : w4.cell? ⟨be, 5, none⟩ = some (.slice p m c) := by rw [b4.cell (p := ⟨be, 5, none⟩) hbe]; exact c5
          have d6 : w4.cell? ⟨be, 6, none⟩ = some (.int .i64 q) := by rw [b4.cell (p := ⟨be, 6, none⟩) hbe]; exact c6
          have cS : ∀ W, Below w4.heap.size w4 W → Calls Tryz.prog 14 #[.agg #[.string o, .string n, .int .i64 t, .int .i64 k, .string s, .slice p m c, .int .i64 q], .agg #[.string o2, .string n2, .int .i64 t2, .int .i64 k2, .string s2, .slice p2 m2 c2', .int .i64 q2]] W fun e w' => e = .returned (.bool true) ∧ Below w.heap.size w w' := by
            intro W hb
            refine (treeSame_any X1 X2 (fun _ => True) _ _ W ((XA.out.on b4).on hb) (hx2.out.on hb) HX1.out).mono ?_
            rintro e w' ⟨rfl, b5⟩
            exact ⟨by rw [HSM.out], BC.out.trans ((b4.trans ((hb.mono hz4).trans (b5.mono (Nat.le_trans hz4 hb.size)))).mono BC.out.size)⟩
          clear XA hx2 b4 CQ HQ3 HQZ HSM HX1 c0 c1 c2 c3 c4 c5 c6
          go_wp2_with fail
          refine (cS _ (((Below.refl _ _).alloc (Nat.le_refl _) _).alloc (by simp) _)).mono ?_
          rintro e w5 ⟨rfl, b5⟩
          go_wp2
          go_ret
          exact ⟨rfl, b5⟩
theorem binds_any (a b : Int) (w : World) (henv : TEnv w) (hw : SG w) :
    Calls Tryz.prog 5 #[.int .i64 a, .int .i64 b] w fun e w' => e = .returned (.bool true) ∧ Below w.heap.size w w' := by
  by_cases h : a < 0 ∨ 8 < a ∨ b < 0 ∨ 8 < b
  · exact binds_out a b w h
  · obtain ⟨na, rfl⟩ : ∃ na : Nat, a = na := ⟨a.toNat, by omega⟩
    obtain ⟨nb, rfl⟩ : ∃ nb : Nat, b = nb := ⟨b.toNat, by omega⟩
    exact binds_in na nb w henv hw (by omega) (by omega)
end Go.Proofs.YtkoejkpjkcejcaaGreatDoor
