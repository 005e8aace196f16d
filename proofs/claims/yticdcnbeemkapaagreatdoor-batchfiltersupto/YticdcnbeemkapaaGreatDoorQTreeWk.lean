/-
  The program's walk over an expression (package tree), with any function that is asked at each node.
-/
import Derived.Test.YticdcnbeemkapaaGreatDoorGrAf
namespace Go.Proofs.YticdcnbeemkapaaGreatDoor
open Go.RowKit Go.BigFrame
set_option linter.unusedVariables false

mutual
/-- The nodes of an expression, each ahead of its parts, and how deep each lies. -/
def Ex.pre (d : Nat) : Ex → List (Ex × Nat)
  | .node op nm vt vn vs pos l => (.node op nm vt vn vs pos l, d) :: Ex.pres (d + 1) l
def Ex.pres (d : Nat) : List Ex → List (Ex × Nat)
  | [] => []
  | x :: xs => x.pre d ++ Ex.pres d xs
end
theorem pre_eq (d : Nat) (x : Ex) : x.pre d = (x, d) :: Ex.pres (d + 1) x.args := by cases x; rw [Ex.pre, Ex.args]
/-- What is left to be asked: the topmost list first. -/
def flatR : List (List Ex) → List (Ex × Nat)
  | [] => []
  | l :: rest => Ex.pres (rest.length + 1) l ++ flatR rest
def flatB (st : List (List Ex)) : List (Ex × Nat) := flatR st.reverse
theorem flatB_snoc (st : List (List Ex)) (l : List Ex) : flatB (st ++ [l]) = Ex.pres (st.length + 1) l ++ flatB st := by
  rw [flatB, List.reverse_append]
  simp [flatR, flatB]
theorem flatB_nil (st : List (List Ex)) : flatB (st ++ [[]]) = flatB st := by rw [flatB_snoc, Ex.pres, List.nil_append]
theorem flatB_cons (st : List (List Ex)) (x : Ex) (xs : List Ex) : flatB (st ++ [x :: xs]) = (x, st.length + 1) :: flatB (st ++ [xs] ++ [x.args]) := by
  rw [flatB_snoc, flatB_snoc, flatB_snoc, Ex.pres, pre_eq, List.length_append, List.length_singleton, List.cons_append, List.cons_append, List.append_assoc]
variable {σ : Type}
def foldP (F : σ → Ex → Nat → σ × Bool) : σ → List (Ex × Nat) → σ × Bool
  | s, [] => (s, true)
  | s, q :: r => if (F s q.1 q.2).2 = true then foldP F (F s q.1 q.2).1 r else ((F s q.1 q.2).1, false)
/-- How many lists, and nodes twice. -/
def costB (st : List (List Ex)) : Nat := st.length + 2 * (flatB st).length
theorem costB_nil (st : List (List Ex)) : costB (st ++ [[]]) = costB st + 1 := by
  rw [costB, costB, flatB_nil, List.length_append, List.length_singleton]; omega
theorem costB_cons (st : List (List Ex)) (x : Ex) (xs : List Ex) : costB (st ++ [x :: xs]) = costB (st ++ [xs] ++ [x.args]) + 1 := by
  rw [costB, costB, flatB_cons]; simp only [List.length_append, List.length_cons, List.length_nil]; omega
/-- Slices of expressions, one to each list. -/
def StkIn (w : World) (lo : Nat → Prop) (vs : List Value) (st : List (List Ex)) : Prop := vs.length = st.length ∧ ∀ j (h : j < st.length) (h2 : j < vs.length), ArgsIs w lo vs[j] st[j]
theorem ExsIn.keep' {w w' : World} {lo : Nat → Prop} (hz : w.heap.size ≤ w'.heap.size) (hk : ∀ b o : Nat, lo b → b < w.heap.size → w'.cell? ⟨b, o, none⟩ = w.cell? ⟨b, o, none⟩) {b : Nat} (hb : b < w.heap.size) (hlo : lo b) {off : Nat} {xs : List Ex} (h : ExsIn w lo b off xs) : ExsIn w' lo b off xs := by
  refine exsIn_mk _ _ _ _ _ fun j hj => ?_
  obtain ⟨v0, v1, v2, v3, v4, v5, v6, e0, e1, e2, e3, e4, e5, e6, hx⟩ := exsIn_at w lo b xs off h j hj
  have key : ∀ o : Nat, w'.cell? ⟨b, o, none⟩ = w.cell? ⟨b, o, none⟩ := fun o => hk b o hlo hb
  exact ⟨v0, v1, v2, v3, v4, v5, v6, by rw [key]; exact e0, by rw [key]; exact e1, by rw [key]; exact e2, by rw [key]; exact e3, by rw [key]; exact e4, by rw [key]; exact e5, by rw [key]; exact e6, hx.keep hz hk⟩
theorem ArgsIs.keep {w w' : World} {lo : Nat → Prop} (hz : w.heap.size ≤ w'.heap.size) (hk : ∀ b o : Nat, lo b → b < w.heap.size → w'.cell? ⟨b, o, none⟩ = w.cell? ⟨b, o, none⟩) {v : Value} {xs : List Ex} (h : ArgsIs w lo v xs) : ArgsIs w' lo v xs := by
  obtain ⟨p, c, e, h1, h2⟩ := h
  refine ⟨p, c, e, h1, ?_⟩
  rcases h2 with h2 | ⟨b, off, e2, hb, hlo, h3⟩
  · exact .inl h2
  · exact .inr ⟨b, off, e2, by omega, hlo, h3.keep' hz hk hb hlo⟩
theorem StkIn.keep {w w' : World} {lo : Nat → Prop} (hz : w.heap.size ≤ w'.heap.size) (hk : ∀ b o : Nat, lo b → b < w.heap.size → w'.cell? ⟨b, o, none⟩ = w.cell? ⟨b, o, none⟩) {vs : List Value} {st : List (List Ex)} (h : StkIn w lo vs st) : StkIn w' lo vs st := ⟨h.1, fun j h1 h2 => (h.2 j h1 h2).keep hz hk⟩
theorem StkIn.front {w : World} {lo : Nat → Prop} {vs : List Value} {v : Value} {st : List (List Ex)} {l : List Ex} (h : StkIn w lo (vs ++ [v]) (st ++ [l])) : StkIn w lo vs st ∧ ArgsIs w lo v l := by
  have hl : vs.length = st.length := by have := h.1; simpa using this
  refine ⟨⟨hl, fun j h1 h2 => ?_⟩, ?_⟩
  · have := h.2 j (by rw [List.length_append]; omega) (by rw [List.length_append]; omega)
    rwa [List.getElem_append_left h2, List.getElem_append_left h1] at this
  · have := h.2 st.length (by simp) (by simp; omega)
    rw [List.getElem_append_right (by omega), List.getElem_append_right (Nat.le_refl _)] at this
    simpa [hl] using this
theorem StkIn.snoc {w : World} {lo : Nat → Prop} {vs : List Value} {v : Value} {st : List (List Ex)} {l : List Ex} (h : StkIn w lo vs st) (hv : ArgsIs w lo v l) : StkIn w lo (vs ++ [v]) (st ++ [l]) := by
  refine ⟨by simp [h.1], fun j h1 h2 => ?_⟩
  by_cases hj : j < st.length
  · rw [List.getElem_append_left (by rw [h.1]; exact hj), List.getElem_append_left hj]; exact h.2 j hj (by rw [h.1]; exact hj)
  · have : j = st.length := by rw [List.length_append, List.length_singleton] at h1; omega
    subst this
    rw [List.getElem_append_right (by rw [h.1]; exact Nat.le_refl _), List.getElem_append_right (Nat.le_refl _)]
    simpa [h.1] using hv
/-- The list from the second on. -/
theorem ArgsIs.tail {w : World} {lo : Nat → Prop} {p p' : Option Addr} {n c c' : Nat} {x : Ex} {xs : List Ex} (h : ArgsIs w lo (.slice p n c) (x :: xs)) (hp : p' = if c = 1 then p else p.map (·.add (1 * 7))) (hc : c' = c - 1) : ArgsIs w lo (.slice p' xs.length c') xs := by
  obtain ⟨q, d, e, ⟨h1, h2⟩, h3⟩ := h
  injection e with e1 e2 e3
  subst e1 e3
  simp only [List.length_cons] at h1 h2
  refine ⟨p', c', rfl, ⟨by omega, by omega⟩, ?_⟩
  rcases Nat.eq_zero_or_pos xs.length with h0 | h0
  · exact .inl h0
  · rcases h3 with h3 | ⟨b, off, rfl, hb, hlo, h3⟩
    · simp at h3
    · rw [ExsIn] at h3
      refine .inr ⟨b, off + 7, ?_, hb, hlo, h3.2⟩
      rw [hp, if_neg (by omega)]; rfl
theorem ExIn.args {w : World} {lo : Nat → Prop} {a0 a1 a2 a3 a4 a5 a6 : Value} {x : Ex} (h : ExIn w lo (.agg #[a0, a1, a2, a3, a4, a5, a6]) x) : ArgsIs w lo a5 x.args := by
  cases x with
  | node op nm vt vn vs pos l =>
    rw [ExIn] at h
    obtain ⟨p, c, e, h1, _, _, _, h5⟩ := h
    injection e with e
    simp only [Array.mk.injEq, List.cons.injEq, and_true] at e
    obtain ⟨rfl, rfl, rfl, rfl, rfl, rfl, rfl⟩ := e
    exact ⟨p, c, rfl, h1, h5⟩
theorem own_pop {W : World} {B : Nat} {e : TypeId} {g cap : Nat} {vs : List Value} {v : Value} (h : W.ownsRow B e 1 (.slice (some ⟨g, 0, none⟩) (vs ++ [v]).length cap) (vs ++ [v]).length (vs ++ [v])) : W.ownsRow B e 1 (.slice (some ⟨g, 0, none⟩) vs.length cap) vs.length vs := by
  refine ⟨by omega, .inr ?_⟩
  rcases h.2 with ⟨e1, _⟩ | ⟨g', cap', cur, e1, hb, hg, hn, hm, hs, ht⟩
  · injection e1 with e1; simp at e1
  · injection e1 with e1 e2 e3
    injection e1 with e1
    injection e1 with e1
    subst e1 e3
    rw [List.length_append, List.length_singleton] at hn
    refine ⟨_, _, cur, rfl, hb, hg, by omega, hm, hs, ?_⟩
    have h3 : List.take (vs.length * 1) cur.toList = List.take (vs.length * 1) (vs ++ [v]) := by
      rw [← ht, List.take_take, List.length_append, List.length_singleton]
      congr 1
      omega
    rw [h3]
    simp
theorem own_top {W : World} {B : Nat} {e : TypeId} {g cap : Nat} {vs : List Value} {v : Value} (h : W.ownsRow B e 1 (.slice (some ⟨g, 0, none⟩) (vs ++ [v]).length cap) (vs ++ [v]).length (vs ++ [v])) : W.cell? ⟨g, vs.length, none⟩ = some v ∧ W.frozen? ⟨g, vs.length, none⟩ = false ∧ g < W.heap.size ∧ B ≤ g ∧ vs.length + 1 ≤ cap := by
  rcases h.2 with ⟨e1, _⟩ | ⟨g', cap', cur, e1, hb, hg, hn, hm, hs, ht⟩
  · injection e1 with e1; simp at e1
  · injection e1 with e1 e2 e3
    injection e1 with e1
    injection e1 with e1
    subst e1 e3
    rw [List.length_append, List.length_singleton] at hn
    refine ⟨?_, by simp [World.frozen?, hg], (Array.getElem?_eq_some_iff.1 hg).1, hb, hn⟩
    have h1 := h.cells (g := g) rfl vs.length v (by simp)
    rw [Go.WideShapes.add_plain] at h1
    simpa using h1
theorem own_put {W : World} {B : Nat} {e : TypeId} {g cap : Nat} {vs : List Value} {v u : Value} (h : W.ownsRow B e 1 (.slice (some ⟨g, 0, none⟩) (vs ++ [v]).length cap) (vs ++ [v]).length (vs ++ [v])) : (W.setCell ⟨g, vs.length, none⟩ u).ownsRow B e 1 (.slice (some ⟨g, 0, none⟩) (vs ++ [u]).length cap) (vs ++ [u]).length (vs ++ [u]) := by
  refine ⟨by omega, .inr ?_⟩
  rcases h.2 with ⟨e1, _⟩ | ⟨g', cap', cur, e1, hb, hg, hn, hm, hs, ht⟩
  · injection e1 with e1; simp at e1
  · injection e1 with e1 e2 e3
    injection e1 with e1
    injection e1 with e1
    subst e1 e3
    rw [List.length_append, List.length_singleton] at hn
    refine ⟨g, cap, cur.setIfInBounds vs.length u, rfl, hb, ?_, by rw [List.length_append, List.length_singleton]; omega, hm, by simpa using hs, ?_⟩
    · rw [setCell_eq_setRow W g vs.length cur e (0, 0) u hg]
      exact setRow_heap W g cur _ e _ hg
    · rw [List.length_append, List.length_singleton] at ht ⊢
      rw [Array.toList_setIfInBounds]
      simp only [Nat.mul_one] at ht ⊢
      rw [List.take_set, ht]
      simp
theorem info_sl : (Tryz.prog.info? 24).map (fun i => (i.zero, i.size, i.bytes)) = some (some (.slice none 0 0), 1, 24) := by kernel_rfl
/-- The blocks in which what is walked over lies. -/
def Wlo (p n : Nat) (b : Nat) : Prop := b ≠ p ∧ b < n
set_option maxHeartbeats 4000000 in
set_option maxRecDepth 20000 in
/-- The walk asks each node, until it is not so. -/
theorem walk_any (F : σ → Ex → Nat → σ × Bool) (f : FuncId) (hent : ∀ (args : Array Value) (W : World), Sem.run Tryz.prog (callFunc f args) W = .ok (.enter f args) W) (p : Nat) (St : World → σ → Nat → Prop) (End : World → σ → Prop) (lo : Nat → Prop) (w : World) (v : Value) (x : Ex) (s : σ)
    (hp : p < w.heap.size) (hx : ExIn w lo v x) (hlo : ∀ b, lo b → b < w.heap.size → b ≠ p) (hsz : (x.pre 1).length ≤ 1048576)
    (hso : ∀ (W : World) (v : Value) (x : Ex) (d : Nat) (s : σ) (m : Nat), w.heap.size ≤ W.heap.size → ExIn W (Wlo p (w.heap.size + 2)) v x → d ≤ 1048577 → St W s (m + 1) → Calls Tryz.prog f #[v, .int .i64 (d : Int), .pointer (some ⟨p, 0, none⟩)] W fun e w' => e = .returned (.bool (F s x d).2) ∧ ((F s x d).2 = true → St w' (F s x d).1 m) ∧ ((F s x d).2 = false → End w' (F s x d).1) ∧ But p W w')
    (hst : ∀ W W' s m, Below w.heap.size W W' → W.heap.size ≤ W'.heap.size → St W s m → St W' s m) (h0 : St w s (x.pre 1).length) :
    Calls Tryz.prog 15 #[v, .func (.func f) #[] #[.pointer (some ⟨p, 0, none⟩)]] w fun e w' => e = .returned (.bool (foldP F s (x.pre 1)).2) ∧ ((foldP F s (x.pre 1)).2 = true → St w' (foldP F s (x.pre 1)).1 0) ∧ ((foldP F s (x.pre 1)).2 = false → End w' (foldP F s (x.pre 1)).1) ∧ But p w w' := by
  obtain ⟨o1, n1, t1, k1, s1, p1, m1, c1, a1, rfl⟩ := hx.agg
  obtain ⟨i0, hi, hz0, hz1, hzz⟩ := info_parts info_sl
  have HX : Aside (ExIn w (Wlo p (w.heap.size + 2)) (.agg #[.string o1, .string n1, .int .i64 t1, .int .i64 k1, .string s1, .slice p1 m1 c1, .int .i64 a1]) x) := ExIn.low (fun b h1 h2 => ⟨hlo b h2 h1, by omega⟩) _ _ hx
  have HO : Aside (∀ (W : World) (v : Value) (x : Ex) (d : Nat) (s : σ) (m : Nat), w.heap.size ≤ W.heap.size → ExIn W (Wlo p (w.heap.size + 2)) v x → d ≤ 1048577 → St W s (m + 1) → Calls Tryz.prog f #[v, .int .i64 (d : Int), .pointer (some ⟨p, 0, none⟩)] W fun e w' => e = .returned (.bool (F s x d).2) ∧ ((F s x d).2 = true → St w' (F s x d).1 m) ∧ ((F s x d).2 = false → End w' (F s x d).1) ∧ But p W w') := hso
  have HT : Aside (∀ W W' s m, Below w.heap.size W W' → W.heap.size ≤ W'.heap.size → St W s m → St W' s m) := hst
  have HS : Aside (St w s (x.pre 1).length) := h0
  obtain ⟨T, hT⟩ : ∃ T, foldP F s (x.pre 1) = T := ⟨_, rfl⟩
  have HF : Hid (foldP F s (x.pre 1) = T) := hT
  rw [hT]
  have HZ : Hid ((x.pre 1).length ≤ 1048576) := hsz
  clear hx hso hst h0 hT hlo hsz
  have b1 : Below w.heap.size w _ := ((al w (.cells #[.string o1, .string n1, .int .i64 t1, .int .i64 k1, .string s1, .slice p1 m1 c1, .int .i64 a1] 26)).trans ((al _ (.cells #[.string o1, .string n1, .int .i64 t1, .int .i64 k1, .string s1, .slice p1 m1 c1, .int .i64 a1] 26)).mono (by simp))).trans ((al _ (.cells #[.slice (some ⟨w.heap.size + 1, 0, none⟩) 1 1] 24)).mono (by simp; omega))
  go_enter Tryz.func15, Tryz.ntmps15
  go_wp2
  go_loopg [5, 6, 7] (2 * (x.pre 1).length + 2) (fun gg s5 _ _ wr => ∃ (st : List (List Ex)) (vs : List Value) (s' : σ) (q : Option Addr) (c : Nat), s5 = .slice q vs.length c ∧ Hid (costB st < gg ∧ st.length + (flatB st).length ≤ 1048577) ∧ Aside (wr.ownsRow (w.heap.size + 2) 24 1 (.slice q vs.length c) vs.length vs) ∧ Aside (StkIn wr (Wlo p (w.heap.size + 2)) vs st) ∧ Aside (St wr s' (flatB st).length) ∧ Aside (But p w wr) ∧ Hid (foldP F s' (flatB st) = T))
  case atStart =>
    refine ⟨[[x]], [.slice (some ⟨w.heap.size + 1, 0, none⟩) 1 1], s, some ⟨w.heap.size + 2, 0, none⟩, 1, rfl, ?_, ?_, ?_, ?_, ?_, ?_⟩
    · show _ ∧ _
      have h1 := HZ.out
      have h2 : flatB [[x]] = x.pre 1 := by rw [show ([[x]] : List (List Ex)) = [] ++ [[x]] from rfl, flatB_snoc, Ex.pres, Ex.pres, List.append_nil]; simp [flatB, flatR]
      rw [costB, h2]
      simp only [List.length_singleton]
      omega
    · refine ⟨rfl, .inr ⟨w.heap.size + 2, 1, #[.slice (some ⟨w.heap.size + 1, 0, none⟩) 1 1], rfl, Nat.le_refl _, ?_, Nat.le_refl _, by decide, rfl, rfl⟩⟩
      rw [show w.heap.size + 2 = ((w.alloc (.cells #[.string o1, .string n1, .int .i64 t1, .int .i64 k1, .string s1, .slice p1 m1 c1, .int .i64 a1] 26)).alloc (.cells #[.string o1, .string n1, .int .i64 t1, .int .i64 k1, .string s1, .slice p1 m1 c1, .int .i64 a1] 26)).heap.size by simp]
      exact heap_alloc_new _ _
    · refine ⟨rfl, fun j h1 h2 => ?_⟩
      obtain rfl : j = 0 := by simp at h1; exact h1
      refine ⟨some ⟨w.heap.size + 1, 0, none⟩, 1, rfl, ⟨by simp [maxLen], by simp⟩, .inr ⟨w.heap.size + 1, 0, rfl, by simp, ⟨by omega, by omega⟩, ?_⟩⟩
      simp only [List.getElem_cons_zero]
      rw [ExsIn, ExsIn]
      have hc : ∀ i, ((((w.alloc (.cells #[.string o1, .string n1, .int .i64 t1, .int .i64 k1, .string s1, .slice p1 m1 c1, .int .i64 a1] 26)).alloc (.cells #[.string o1, .string n1, .int .i64 t1, .int .i64 k1, .string s1, .slice p1 m1 c1, .int .i64 a1] 26)).alloc (.cells #[.slice (some ⟨w.heap.size + 1, 0, none⟩) 1 1] 24)).cell? ⟨w.heap.size + 1, i, none⟩) = (#[.string o1, .string n1, .int .i64 t1, .int .i64 k1, .string s1, .slice p1 m1 c1, .int .i64 a1] : Array Value)[i]? := fun i => by
        rw [World.cell?_alloc_past _ _ _ (by simp), World.cell?_alloc_at _ _ _ _ (by simp)]
      refine ⟨⟨_, _, _, _, _, _, _, ?_, ?_, ?_, ?_, ?_, ?_, ?_, HX.out.on b1⟩, trivial⟩
      all_goals (rw [hc]; rfl)
    · have h2 : flatB [[x]] = x.pre 1 := by rw [show ([[x]] : List (List Ex)) = [] ++ [[x]] from rfl, flatB_snoc, Ex.pres, Ex.pres, List.append_nil]; simp [flatB, flatR]
      rw [h2]
      exact HT.out _ _ _ _ b1 b1.size HS.out
    · exact But.of_below' b1 (by omega)
    · have h2 : flatB [[x]] = x.pre 1 := by rw [show ([[x]] : List (List Ex)) = [] ++ [[x]] from rfl, flatB_snoc, Ex.pres, Ex.pres, List.append_nil]; simp [flatB, flatR]
      rw [h2]
      exact HF
  case round =>
    obtain ⟨st, vs, s', q, c, rfl, HB, OW, SK, SS, BW, HF2⟩ := hrel
    clear HS HX HF b1
    have hz := BW.out.size
    have hlen := SK.out.1
    rcases List.eq_nil_or_concat st with rfl | ⟨st', l, rfl⟩
    · obtain rfl : vs = [] := List.eq_nil_of_length_eq_zero hlen
      have HT2 : Hid ((s', true) = T) := HF2.out
      go_wp2
      go_ret
      have hT := HT2.out
      subst hT
      exact ⟨rfl, fun _ => SS.out, fun h => absurd h (by simp), BW.out⟩
    · obtain ⟨vs', v, rfl⟩ : ∃ vs' v, vs = vs' ++ [v] := by
        rcases List.eq_nil_or_concat vs with rfl | ⟨vs', v, rfl⟩
        · simp at hlen
        · exact ⟨vs', v, by simp⟩
      simp only [List.concat_eq_append] at *
      obtain ⟨SK1, AI⟩ := SK.out.front
      obtain ⟨g, rfl⟩ : ∃ g, q = some ⟨g, 0, none⟩ := by
        rcases OW.out.2 with ⟨e1, _⟩ | ⟨g, _, _, e1, _⟩
        · injection e1 with e1 e2; simp at e2
        · injection e1 with e1; exact ⟨g, e1⟩
      obtain ⟨ct, cf, gl, gB, gc⟩ := own_top OW.out
      have hAI := AI
      obtain ⟨pa, ca, rfl, ⟨hm1, hm2⟩, hA⟩ := hAI
      have hN : vs'.length ≤ 1048576 := by
        have h1 := HB.out.2
        rw [List.length_append, List.length_singleton] at h1
        simp only [List.length_append, List.length_singleton] at hlen
        omega
      have HL : Hid (vs'.length = st'.length) := by simp only [List.length_append, List.length_singleton] at hlen; exact (by omega : vs'.length = st'.length)
      have hNz : (vs'.length : Int) ≤ 1048576 := by omega
      have hN0 : (0 : Int) ≤ (vs'.length : Int) := by omega
      have hlenz : (((vs' ++ [Value.slice pa l.length ca]).length : Nat) : Int) = (vs'.length : Int) + 1 := by simp
      clear hlen
      cases l with
      | nil =>
        have ow := own_pop OW.out
        have HB2 : Hid (costB st' < gk - 1 ∧ st'.length + (flatB st').length ≤ 1048577 ∧ 0 < gk) := by
          show _ ∧ _
          have h1 := HB.out
          rw [costB_nil, flatB_nil, List.length_append, List.length_singleton] at h1
          omega
        have HF3 : Hid (foldP F s' (flatB st') = T) := by show _ = _; rw [← HF2.out, flatB_nil]
        have SS2 : Aside (St wr s' (flatB st').length) := by show St _ _ _; rw [← flatB_nil]; exact SS.out
        clear OW SK AI HB HF2 SS hA
        simp only [List.length_nil] at ct cf hm1 hm2
        go_wp2
        go_roundg (gk - 1)
        case measure => have := HB2.out; omega
        case rel => exact ⟨st', vs', s', _, c, rfl, (show Hid _ from ⟨HB2.out.1, HB2.out.2.1⟩), (show Aside _ from ow), (show Aside _ from SK1), SS2, BW, HF3⟩
      | cons y ys =>
        rcases hA with hA | ⟨b, off, rfl, hbl, hblo, hA⟩
        · simp at hA
        rw [ExsIn] at hA
        obtain ⟨⟨v0, v1, v2, v3, v4, v5, v6, e0, e1, e2, e3, e4, e5, e6, hy⟩, _⟩ := hA
        obtain ⟨u0, u1, u2, u3, u4, u5, u6, u7, u8, huu⟩ := hy.agg
        injection huu with huu
        simp only [Array.mk.injEq, List.cons.injEq, and_true] at huu
        obtain ⟨rfl, rfl, rfl, rfl, rfl, rfl, rfl⟩ := huu
        have hbg : b ≠ g := by have := hblo.2; omega
        have hAr := hy.args
        have HB2 : Hid (costB (st' ++ [ys] ++ [y.args]) < gk - 1 ∧ (st' ++ [ys] ++ [y.args]).length + (flatB (st' ++ [ys] ++ [y.args])).length ≤ 1048577 ∧ 0 < gk) := by
          show _ ∧ _
          have h1 := HB.out
          rw [costB_cons, flatB_cons] at h1
          simp only [List.length_append, List.length_cons, List.length_nil] at h1 ⊢
          omega
        have HF3 : Hid (foldP F s' ((y, vs'.length + 1) :: flatB (st' ++ [ys] ++ [y.args])) = T) := by show _ = _; rw [← HF2.out, flatB_cons, HL.out]
        have SS2 : St wr s' ((flatB (st' ++ [ys] ++ [y.args])).length + 1) := by have := SS.out; rw [flatB_cons, List.length_cons] at this; exact this
        have hdz : ((vs'.length + 1 : Nat) : Int) = (vs'.length : Int) + 1 := by omega
        have OP := fun u => own_put (u := u) OW.out
        clear HB HF2 SS SK OW
        by_cases hca : ca = 1
        · subst hca
          have AT := AI.tail (p' := some ⟨b, off, none⟩) (c' := 0) (by simp) (by omega)
          have ow1 := OP (.slice (some ⟨b, off, none⟩) ys.length (0))
          have bw1 : Below (w.heap.size + 2) wr ((wr.setCell ⟨g, vs'.length, none⟩ (.slice (some ⟨b, off, none⟩) ys.length (0))).alloc (.cells #[.string u0, .string u1, .int .i64 u2, .int .i64 u3, .string u4, .slice u5 u6 u7, .int .i64 u8] 26)) := ((Below.refl _ wr).setCell (p := ⟨g, vs'.length, none⟩) gB _).alloc (by simp [World.setCell]; omega) _
          have kp : ∀ bb oo : Nat, Wlo p (w.heap.size + 2) bb → bb < wr.heap.size → ((wr.setCell ⟨g, vs'.length, none⟩ (.slice (some ⟨b, off, none⟩) ys.length (0))).alloc (.cells #[.string u0, .string u1, .int .i64 u2, .int .i64 u3, .string u4, .slice u5 u6 u7, .int .i64 u8] 26)).cell? ⟨bb, oo, none⟩ = wr.cell? ⟨bb, oo, none⟩ := fun bb oo hb _ => bw1.cell (p := ⟨bb, oo, none⟩) hb.2
          have ks : wr.heap.size ≤ ((wr.setCell ⟨g, vs'.length, none⟩ (.slice (some ⟨b, off, none⟩) ys.length (0))).alloc (.cells #[.string u0, .string u1, .int .i64 u2, .int .i64 u3, .string u4, .slice u5 u6 u7, .int .i64 u8] 26)).heap.size := by simp [World.setCell]
          have SK2 := (SK1.snoc AT).keep ks kp
          have AR2 := hAr.keep ks kp
          have BB1 : But p w ((wr.setCell ⟨g, vs'.length, none⟩ (.slice (some ⟨b, off, none⟩) ys.length (0))).alloc (.cells #[.string u0, .string u1, .int .i64 u2, .int .i64 u3, .string u4, .slice u5 u6 u7, .int .i64 u8] 26)) := (BW.out.setNew g vs'.length (by omega) (by omega) _).alloc (by simp [World.setCell]; omega) _
          have ow2 := ow1.alloc (.cells #[.string u0, .string u1, .int .i64 u2, .int .i64 u3, .string u4, .slice u5 u6 u7, .int .i64 u8] 26)
          have cS := HO.out _ _ y (vs'.length + 1) s' (flatB (st' ++ [ys] ++ [y.args])).length (by simp [World.setCell]; omega) (hy.keep ks kp) (by omega) (HT.out _ _ _ _ (bw1.mono (by omega)) ks SS2)
          rw [hdz] at cS
          generalize hFy : F s' y (vs'.length + 1) = Fy at cS
          have HFy : Hid (F s' y (vs'.length + 1) = Fy) := hFy
          obtain ⟨s2, B2⟩ := Fy
          simp only at cS
          clear hFy kp ks SK1 AI AT hAr hy OP SS2 bw1 ow1
          go_wp2_with fail
          refine cS.mono ?_
          rintro e w2 ⟨rfl, hs1, hs2, b2⟩
          have HS1 : Hid (B2 = true → St w2 s2 (flatB (st' ++ [ys] ++ [y.args])).length) := hs1
          have HS2 : Hid (B2 = false → End w2 s2) := hs2
          clear hs1 hs2 cS
          cases B2
          · have HT2 : Hid ((s2, false) = T) := by
              show _ = _
              rw [← HF3.out, foldP, HFy.out]; simp
            go_wp2
            go_ret
            have hT := HT2.out
            subst hT
            exact ⟨rfl, fun h => absurd h (by simp), fun _ => HS2.out (by simp), BB1.trans b2⟩
          · have HF4 : Hid (foldP F s2 (flatB (st' ++ [ys] ++ [y.args])) = T) := by
              show _ = _
              rw [← HF3.out, foldP, HFy.out]; simp
            have hz2 : wr.heap.size + 1 ≤ w2.heap.size := by have := b2.size; simpa [World.setCell] using this
            have g5 : w2.cell? ⟨wr.heap.size, 5, none⟩ = some (.slice u5 u6 u7) := by
              rw [b2.cell _ (by simp [World.setCell]) (by omega), World.cell?_alloc_at _ _ _ _ (by simp [World.setCell])]; rfl
            have hlt5 : wr.heap.size < w2.heap.size := by omega
            have kp2 : ∀ bb oo : Nat, Wlo p (w.heap.size + 2) bb → bb < ((wr.setCell ⟨g, vs'.length, none⟩ (.slice (some ⟨b, off, none⟩) ys.length (0))).alloc (.cells #[.string u0, .string u1, .int .i64 u2, .int .i64 u3, .string u4, .slice u5 u6 u7, .int .i64 u8] 26)).heap.size → w2.cell? ⟨bb, oo, none⟩ = _ := fun bb oo hb h2 => b2.cell oo h2 hb.1
            have SK3 := SK2.keep b2.size kp2
            have AR3 := AR2.keep b2.size kp2
            have ow3 := own_but ow2 b2 (by omega)
            rw [List.length_append, List.length_singleton] at ow3
            have BB2 := BB1.trans b2
            clear SK2 AR2 ow2 BB1 b2 kp2 HF3 HFy HS2
            go_wp2_with (at_builtin; refine wpList_append_own _ rfl _ _ 79 rfl (w.heap.size + 2) 24 i0 (.slice none 0 0) 1 24 Tryz.underlying79 hi hz0 hz1 hzz rfl (by decide) _ _ _ rfl (ow3.alloc _) ⟨w2.heap.size, 0, none⟩ 1 1 [.slice u5 u6 u7] rfl rfl ?c1 ?c2 ?c3 ?c4 ?c5 ?_)
            case c1 =>
              intro i u hu
              rw [Go.WideShapes.add_plain, World.cell?_alloc_at _ _ _ _ (by simp)]
              simpa using hu
            case c2 =>
              intro u hu
              simp at hu
              subst hu; rfl
            case c3 => simp [maxLen]; omega
            case c4 => omega
            case c5 => simp; omega
            · intro v' w3 hown' hgrow _
              have hlo3 : ∀ j, (Value.slice (some ⟨g, 0, none⟩) (vs'.length + 1) c).ownBlock = some j → w.heap.size + 2 ≤ j := fun j hj => (ow3.lt j hj).1
              have bg : Below (w.heap.size + 2) w2 w3 := ((Below.refl _ w2).alloc (by omega) _).grown hgrow (by simp; omega) hlo3
              have zg : w2.heap.size ≤ w3.heap.size := by have := hgrow.size; simp at this; omega
              have SK4 := (SK3.snoc AR3).keep zg (fun bb oo hb _ => bg.cell (p := ⟨bb, oo, none⟩) hb.2)
              have SS4 : St w3 s2 (flatB (st' ++ [ys] ++ [y.args])).length := HT.out _ _ _ _ (bg.mono (by omega)) zg (HS1.out (by simp))
              have BB3 : But p w w3 := ⟨BB2.below.trans (bg.mono (by omega)), by have := BB2.size; omega, fun j hj hjp => by rw [bg.block j (by omega)]; exact BB2.kept j hj hjp⟩
              obtain ⟨q5, c5, rfl⟩ := lown_slice hown'
              have ow5 : w3.ownsRow (w.heap.size + 2) 24 1 (.slice q5 (vs' ++ [Value.slice (some ⟨b, off, none⟩) ys.length 0] ++ [Value.slice u5 u6 u7]).length c5) (vs' ++ [Value.slice (some ⟨b, off, none⟩) ys.length 0] ++ [Value.slice u5 u6 u7]).length (vs' ++ [Value.slice (some ⟨b, off, none⟩) ys.length 0] ++ [Value.slice u5 u6 u7]) := by
                have h1 : (vs' ++ [Value.slice (some ⟨b, off, none⟩) ys.length 0] ++ [Value.slice u5 u6 u7]).length = vs'.length + 1 + 1 := by simp
                rw [h1, List.append_assoc]; exact hown'
              clear hown' hgrow SK3 AR3 BB2 ow3 bg
              go_wp2
              go_roundg (gk - 1)
              case measure => have := HB2.out; omega
              case rel => exact ⟨st' ++ [ys] ++ [y.args], _, s2, q5, c5, by simp, (show Hid _ from ⟨HB2.out.1, HB2.out.2.1⟩), (show Aside _ from ow5), (show Aside _ from SK4), (show Aside _ from SS4), (show Aside _ from BB3), HF4⟩
        · have AT := AI.tail (p' := some ⟨b, off + 7, none⟩) (c' := ca - 1) (by rw [if_neg hca]; rfl) rfl
          have ow1 := OP (.slice (some ⟨b, off + 7, none⟩) ys.length (ca - 1))
          have bw1 : Below (w.heap.size + 2) wr ((wr.setCell ⟨g, vs'.length, none⟩ (.slice (some ⟨b, off + 7, none⟩) ys.length (ca - 1))).alloc (.cells #[.string u0, .string u1, .int .i64 u2, .int .i64 u3, .string u4, .slice u5 u6 u7, .int .i64 u8] 26)) := ((Below.refl _ wr).setCell (p := ⟨g, vs'.length, none⟩) gB _).alloc (by simp [World.setCell]; omega) _
          have kp : ∀ bb oo : Nat, Wlo p (w.heap.size + 2) bb → bb < wr.heap.size → ((wr.setCell ⟨g, vs'.length, none⟩ (.slice (some ⟨b, off + 7, none⟩) ys.length (ca - 1))).alloc (.cells #[.string u0, .string u1, .int .i64 u2, .int .i64 u3, .string u4, .slice u5 u6 u7, .int .i64 u8] 26)).cell? ⟨bb, oo, none⟩ = wr.cell? ⟨bb, oo, none⟩ := fun bb oo hb _ => bw1.cell (p := ⟨bb, oo, none⟩) hb.2
          have ks : wr.heap.size ≤ ((wr.setCell ⟨g, vs'.length, none⟩ (.slice (some ⟨b, off + 7, none⟩) ys.length (ca - 1))).alloc (.cells #[.string u0, .string u1, .int .i64 u2, .int .i64 u3, .string u4, .slice u5 u6 u7, .int .i64 u8] 26)).heap.size := by simp [World.setCell]
          have SK2 := (SK1.snoc AT).keep ks kp
          have AR2 := hAr.keep ks kp
          have BB1 : But p w ((wr.setCell ⟨g, vs'.length, none⟩ (.slice (some ⟨b, off + 7, none⟩) ys.length (ca - 1))).alloc (.cells #[.string u0, .string u1, .int .i64 u2, .int .i64 u3, .string u4, .slice u5 u6 u7, .int .i64 u8] 26)) := (BW.out.setNew g vs'.length (by omega) (by omega) _).alloc (by simp [World.setCell]; omega) _
          have ow2 := ow1.alloc (.cells #[.string u0, .string u1, .int .i64 u2, .int .i64 u3, .string u4, .slice u5 u6 u7, .int .i64 u8] 26)
          have cS := HO.out _ _ y (vs'.length + 1) s' (flatB (st' ++ [ys] ++ [y.args])).length (by simp [World.setCell]; omega) (hy.keep ks kp) (by omega) (HT.out _ _ _ _ (bw1.mono (by omega)) ks SS2)
          rw [hdz] at cS
          generalize hFy : F s' y (vs'.length + 1) = Fy at cS
          have HFy : Hid (F s' y (vs'.length + 1) = Fy) := hFy
          obtain ⟨s2, B2⟩ := Fy
          simp only at cS
          clear hFy kp ks SK1 AI AT hAr hy OP SS2 bw1 ow1
          go_wp2_with fail
          refine cS.mono ?_
          rintro e w2 ⟨rfl, hs1, hs2, b2⟩
          have HS1 : Hid (B2 = true → St w2 s2 (flatB (st' ++ [ys] ++ [y.args])).length) := hs1
          have HS2 : Hid (B2 = false → End w2 s2) := hs2
          clear hs1 hs2 cS
          cases B2
          · have HT2 : Hid ((s2, false) = T) := by
              show _ = _
              rw [← HF3.out, foldP, HFy.out]; simp
            go_wp2
            go_ret
            have hT := HT2.out
            subst hT
            exact ⟨rfl, fun h => absurd h (by simp), fun _ => HS2.out (by simp), BB1.trans b2⟩
          · have HF4 : Hid (foldP F s2 (flatB (st' ++ [ys] ++ [y.args])) = T) := by
              show _ = _
              rw [← HF3.out, foldP, HFy.out]; simp
            have hz2 : wr.heap.size + 1 ≤ w2.heap.size := by have := b2.size; simpa [World.setCell] using this
            have g5 : w2.cell? ⟨wr.heap.size, 5, none⟩ = some (.slice u5 u6 u7) := by
              rw [b2.cell _ (by simp [World.setCell]) (by omega), World.cell?_alloc_at _ _ _ _ (by simp [World.setCell])]; rfl
            have hlt5 : wr.heap.size < w2.heap.size := by omega
            have kp2 : ∀ bb oo : Nat, Wlo p (w.heap.size + 2) bb → bb < ((wr.setCell ⟨g, vs'.length, none⟩ (.slice (some ⟨b, off + 7, none⟩) ys.length (ca - 1))).alloc (.cells #[.string u0, .string u1, .int .i64 u2, .int .i64 u3, .string u4, .slice u5 u6 u7, .int .i64 u8] 26)).heap.size → w2.cell? ⟨bb, oo, none⟩ = _ := fun bb oo hb h2 => b2.cell oo h2 hb.1
            have SK3 := SK2.keep b2.size kp2
            have AR3 := AR2.keep b2.size kp2
            have ow3 := own_but ow2 b2 (by omega)
            rw [List.length_append, List.length_singleton] at ow3
            have BB2 := BB1.trans b2
            clear SK2 AR2 ow2 BB1 b2 kp2 HF3 HFy HS2
            go_wp2_with (at_builtin; refine wpList_append_own _ rfl _ _ 79 rfl (w.heap.size + 2) 24 i0 (.slice none 0 0) 1 24 Tryz.underlying79 hi hz0 hz1 hzz rfl (by decide) _ _ _ rfl (ow3.alloc _) ⟨w2.heap.size, 0, none⟩ 1 1 [.slice u5 u6 u7] rfl rfl ?c1 ?c2 ?c3 ?c4 ?c5 ?_)
            case c1 =>
              intro i u hu
              rw [Go.WideShapes.add_plain, World.cell?_alloc_at _ _ _ _ (by simp)]
              simpa using hu
            case c2 =>
              intro u hu
              simp at hu
              subst hu; rfl
            case c3 => simp [maxLen]; omega
            case c4 => omega
            case c5 => simp; omega
            · intro v' w3 hown' hgrow _
              have hlo3 : ∀ j, (Value.slice (some ⟨g, 0, none⟩) (vs'.length + 1) c).ownBlock = some j → w.heap.size + 2 ≤ j := fun j hj => (ow3.lt j hj).1
              have bg : Below (w.heap.size + 2) w2 w3 := ((Below.refl _ w2).alloc (by omega) _).grown hgrow (by simp; omega) hlo3
              have zg : w2.heap.size ≤ w3.heap.size := by have := hgrow.size; simp at this; omega
              have SK4 := (SK3.snoc AR3).keep zg (fun bb oo hb _ => bg.cell (p := ⟨bb, oo, none⟩) hb.2)
              have SS4 : St w3 s2 (flatB (st' ++ [ys] ++ [y.args])).length := HT.out _ _ _ _ (bg.mono (by omega)) zg (HS1.out (by simp))
              have BB3 : But p w w3 := ⟨BB2.below.trans (bg.mono (by omega)), by have := BB2.size; omega, fun j hj hjp => by rw [bg.block j (by omega)]; exact BB2.kept j hj hjp⟩
              obtain ⟨q5, c5, rfl⟩ := lown_slice hown'
              have ow5 : w3.ownsRow (w.heap.size + 2) 24 1 (.slice q5 (vs' ++ [Value.slice (some ⟨b, off + 7, none⟩) ys.length (ca - 1)] ++ [Value.slice u5 u6 u7]).length c5) (vs' ++ [Value.slice (some ⟨b, off + 7, none⟩) ys.length (ca - 1)] ++ [Value.slice u5 u6 u7]).length (vs' ++ [Value.slice (some ⟨b, off + 7, none⟩) ys.length (ca - 1)] ++ [Value.slice u5 u6 u7]) := by
                have h1 : (vs' ++ [Value.slice (some ⟨b, off + 7, none⟩) ys.length (ca - 1)] ++ [Value.slice u5 u6 u7]).length = vs'.length + 1 + 1 := by simp
                rw [h1, List.append_assoc]; exact hown'
              clear hown' hgrow SK3 AR3 BB2 ow3 bg
              go_wp2
              go_roundg (gk - 1)
              case measure => have := HB2.out; omega
              case rel => exact ⟨st' ++ [ys] ++ [y.args], _, s2, q5, c5, by simp, (show Hid _ from ⟨HB2.out.1, HB2.out.2.1⟩), (show Aside _ from ow5), (show Aside _ from SK4), (show Aside _ from SS4), (show Aside _ from BB3), HF4⟩
end Go.Proofs.YticdcnbeemkapaaGreatDoor
