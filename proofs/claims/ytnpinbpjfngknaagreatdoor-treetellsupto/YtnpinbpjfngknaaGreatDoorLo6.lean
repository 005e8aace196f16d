/-
  TreeWk, TreeTg, TreeQs, TreeCk, TreeCh, in one text.
-/
import Derived.Test.YtnpinbpjfngknaaGreatDoorLoX
import Derived.Laws.StructEq
namespace Go.Proofs.YtnpinbpjfngknaaGreatDoor
open Go.RowKit Go.BigFrame
set_option linter.unusedVariables false

mutual
/-- The nodes of an expression, each ahead of its parts, and how deep each lies. -/
def Ex.pre (d : Nat) : Ex → List (Ex × Nat)
  | .node op nm vt vn vs pos l => (.node op nm vt vn vs pos l, d) :: Ex.pres (d + 1) l
def Ex.pres (d : Nat) : List Ex → List (Ex × Nat)
  | [] => []
  | x :: xs => x.pre d ++ Ex.pres d xs
end
theorem pre_eq (d : Nat) (x : Ex) : x.pre d = (x, d) :: Ex.pres (d + 1) x.args := by cases x; rw [Ex.pre, Ex.args]
/-- What is left to be asked: the topmost list first. -/
def flatR : List (List Ex) → List (Ex × Nat)
  | [] => []
  | l :: rest => Ex.pres (rest.length + 1) l ++ flatR rest
def flatB (st : List (List Ex)) : List (Ex × Nat) := flatR st.reverse
theorem flatB_snoc (st : List (List Ex)) (l : List Ex) : flatB (st ++ [l]) = Ex.pres (st.length + 1) l ++ flatB st := by
  rw [flatB, List.reverse_append]
  simp [flatR, flatB]
theorem flatB_nil (st : List (List Ex)) : flatB (st ++ [[]]) = flatB st := by rw [flatB_snoc, Ex.pres, List.nil_append]
theorem flatB_cons (st : List (List Ex)) (x : Ex) (xs : List Ex) : flatB (st ++ [x :: xs]) = (x, st.length + 1) :: flatB (st ++ [xs] ++ [x.args]) := by
  rw [flatB_snoc, flatB_snoc, flatB_snoc, Ex.pres, pre_eq, List.length_append, List.length_singleton, List.cons_append, List.cons_append, List.append_assoc]
variable {σ : Type}
def foldP (F : σ → Ex → Nat → σ × Bool) : σ → List (Ex × Nat) → σ × Bool
  | s, [] => (s, true)
  | s, q :: r => if (F s q.1 q.2).2 = true then foldP F (F s q.1 q.2).1 r else ((F s q.1 q.2).1, false)
/-- How many lists, and nodes twice. -/
def costB (st : List (List Ex)) : Nat := st.length + 2 * (flatB st).length
theorem costB_nil (st : List (List Ex)) : costB (st ++ [[]]) = costB st + 1 := by
  rw [costB, costB, flatB_nil, List.length_append, List.length_singleton]; omega
theorem costB_cons (st : List (List Ex)) (x : Ex) (xs : List Ex) : costB (st ++ [x :: xs]) = costB (st ++ [xs] ++ [x.args]) + 1 := by
  rw [costB, costB, flatB_cons]; simp only [List.length_append, List.length_cons, List.length_nil]; omega
/-- Slices of expressions, one to each list. -/
def StkIn (w : World) (lo : Nat → Prop) (vs : List Value) (st : List (List Ex)) : Prop := vs.length = st.length ∧ ∀ j (h : j < st.length) (h2 : j < vs.length), ArgsIs w lo vs[j] st[j]
theorem ExsIn.keep' {w w' : World} {lo : Nat → Prop} (hz : w.heap.size ≤ w'.heap.size) (hk : ∀ b o : Nat, lo b → b < w.heap.size → w'.cell? ⟨b, o, none⟩ = w.cell? ⟨b, o, none⟩) {b : Nat} (hb : b < w.heap.size) (hlo : lo b) {off : Nat} {xs : List Ex} (h : ExsIn w lo b off xs) : ExsIn w' lo b off xs := by
  refine exsIn_mk _ _ _ _ _ fun j hj => ?_
  obtain ⟨v0, v1, v2, v3, v4, v5, v6, e0, e1, e2, e3, e4, e5, e6, hx⟩ := exsIn_at w lo b xs off h j hj
  have key : ∀ o : Nat, w'.cell? ⟨b, o, none⟩ = w.cell? ⟨b, o, none⟩ := fun o => hk b o hlo hb
  exact ⟨v0, v1, v2, v3, v4, v5, v6, by rw [key]; exact e0, by rw [key]; exact e1, by rw [key]; exact e2, by rw [key]; exact e3, by rw [key]; exact e4, by rw [key]; exact e5, by rw [key]; exact e6, hx.keep hz hk⟩
theorem ArgsIs.keep {w w' : World} {lo : Nat → Prop} (hz : w.heap.size ≤ w'.heap.size) (hk : ∀ b o : Nat, lo b → b < w.heap.size → w'.cell? ⟨b, o, none⟩ = w.cell? ⟨b, o, none⟩) {v : Value} {xs : List Ex} (h : ArgsIs w lo v xs) : ArgsIs w' lo v xs := by
  obtain ⟨p, c, e, h1, h2⟩ := h
  refine ⟨p, c, e, h1, ?_⟩
  rcases h2 with h2 | ⟨b, off, e2, hb, hlo, h3⟩
  · exact .inl h2
  · exact .inr ⟨b, off, e2, by omega, hlo, h3.keep' hz hk hb hlo⟩
theorem StkIn.keep {w w' : World} {lo : Nat → Prop} (hz : w.heap.size ≤ w'.heap.size) (hk : ∀ b o : Nat, lo b → b < w.heap.size → w'.cell? ⟨b, o, none⟩ = w.cell? ⟨b, o, none⟩) {vs : List Value} {st : List (List Ex)} (h : StkIn w lo vs st) : StkIn w' lo vs st := ⟨h.1, fun j h1 h2 => (h.2 j h1 h2).keep hz hk⟩
theorem StkIn.front {w : World} {lo : Nat → Prop} {vs : List Value} {v : Value} {st : List (List Ex)} {l : List Ex} (h : StkIn w lo (vs ++ [v]) (st ++ [l])) : StkIn w lo vs st ∧ ArgsIs w lo v l := by
  have hl : vs.length = st.length := by have := h.1; simpa using this
  refine ⟨⟨hl, fun j h1 h2 => ?_⟩, ?_⟩
  · have := h.2 j (by rw [List.length_append]; omega) (by rw [List.length_append]; omega)
    rwa [List.getElem_append_left h2, List.getElem_append_left h1] at this
  · have := h.2 st.length (by simp) (by simp; omega)
    rw [List.getElem_append_right (by omega), List.getElem_append_right (Nat.le_refl _)] at this
    simpa [hl] using this
theorem StkIn.snoc {w : World} {lo : Nat → Prop} {vs : List Value} {v : Value} {st : List (List Ex)} {l : List Ex} (h : StkIn w lo vs st) (hv : ArgsIs w lo v l) : StkIn w lo (vs ++ [v]) (st ++ [l]) := by
  refine ⟨by simp [h.1], fun j h1 h2 => ?_⟩
  by_cases hj : j < st.length
  · rw [List.getElem_append_left (by rw [h.1]; exact hj), List.getElem_append_left hj]; exact h.2 j hj (by rw [h.1]; exact hj)
  · have : j = st.length := by rw [List.length_append, List.length_singleton] at h1; omega
    subst this
    rw [List.getElem_append_right (by rw [h.1]; exact Nat.le_refl _), List.getElem_append_right (Nat.le_refl _)]
    simpa [h.1] using hv
/-- The list from the second on. -/
theorem ArgsIs.tail {w : World} {lo : Nat → Prop} {p p' : Option Addr} {n c c' : Nat} {x : Ex} {xs : List Ex} (h : ArgsIs w lo (.slice p n c) (x :: xs)) (hp : p' = if c = 1 then p else p.map (·.add (1 * 7))) (hc : c' = c - 1) : ArgsIs w lo (.slice p' xs.length c') xs := by
  obtain ⟨q, d, e, ⟨h1, h2⟩, h3⟩ := h
  injection e with e1 e2 e3
  subst e1 e3
  simp only [List.length_cons] at h1 h2
  refine ⟨p', c', rfl, ⟨by omega, by omega⟩, ?_⟩
  rcases Nat.eq_zero_or_pos xs.length with h0 | h0
  · exact .inl h0
  · rcases h3 with h3 | ⟨b, off, rfl, hb, hlo, h3⟩
    · simp at h3
    · rw [ExsIn] at h3
      refine .inr ⟨b, off + 7, ?_, hb, hlo, h3.2⟩
      rw [hp, if_neg (by omega)]; rfl
theorem ExIn.args {w : World} {lo : Nat → Prop} {a0 a1 a2 a3 a4 a5 a6 : Value} {x : Ex} (h : ExIn w lo (.agg #[a0, a1, a2, a3, a4, a5, a6]) x) : ArgsIs w lo a5 x.args := by
  cases x with
  | node op nm vt vn vs pos l =>
    rw [ExIn] at h
    obtain ⟨p, c, e, h1, _, _, _, h5⟩ := h
    injection e with e
    simp only [Array.mk.injEq, List.cons.injEq, and_true] at e
    obtain ⟨rfl, rfl, rfl, rfl, rfl, rfl, rfl⟩ := e
    exact ⟨p, c, rfl, h1, h5⟩
theorem own_pop {W : World} {B : Nat} {e : TypeId} {g cap : Nat} {vs : List Value} {v : Value} (h : W.ownsRow B e 1 (.slice (some ⟨g, 0, none⟩) (vs ++ [v]).length cap) (vs ++ [v]).length (vs ++ [v])) : W.ownsRow B e 1 (.slice (some ⟨g, 0, none⟩) vs.length cap) vs.length vs := by
  refine ⟨by omega, .inr ?_⟩
  rcases h.2 with ⟨e1, _⟩ | ⟨g', cap', cur, e1, hb, hg, hn, hm, hs, ht⟩
  · injection e1 with e1; simp at e1
  · injection e1 with e1 e2 e3
    injection e1 with e1
    injection e1 with e1
    subst e1 e3
    rw [List.length_append, List.length_singleton] at hn
    refine ⟨_, _, cur, rfl, hb, hg, by omega, hm, hs, ?_⟩
    have h3 : List.take (vs.length * 1) cur.toList = List.take (vs.length * 1) (vs ++ [v]) := by
      rw [← ht, List.take_take, List.length_append, List.length_singleton]
      congr 1
      omega
    rw [h3]
    simp
theorem own_top {W : World} {B : Nat} {e : TypeId} {g cap : Nat} {vs : List Value} {v : Value} (h : W.ownsRow B e 1 (.slice (some ⟨g, 0, none⟩) (vs ++ [v]).length cap) (vs ++ [v]).length (vs ++ [v])) : W.cell? ⟨g, vs.length, none⟩ = some v ∧ W.frozen? ⟨g, vs.length, none⟩ = false ∧ g < W.heap.size ∧ B ≤ g ∧ vs.length + 1 ≤ cap := by
  rcases h.2 with ⟨e1, _⟩ | ⟨g', cap', cur, e1, hb, hg, hn, hm, hs, ht⟩
  · injection e1 with e1; simp at e1
  · injection e1 with e1 e2 e3
    injection e1 with e1
    injection e1 with e1
    subst e1 e3
    rw [List.length_append, List.length_singleton] at hn
    refine ⟨?_, by simp [World.frozen?, hg], (Array.getElem?_eq_some_iff.1 hg).1, hb, hn⟩
    have h1 := h.cells (g := g) rfl vs.length v (by simp)
    rw [Go.WideShapes.add_plain] at h1
    simpa using h1
theorem own_put {W : World} {B : Nat} {e : TypeId} {g cap : Nat} {vs : List Value} {v u : Value} (h : W.ownsRow B e 1 (.slice (some ⟨g, 0, none⟩) (vs ++ [v]).length cap) (vs ++ [v]).length (vs ++ [v])) : (W.setCell ⟨g, vs.length, none⟩ u).ownsRow B e 1 (.slice (some ⟨g, 0, none⟩) (vs ++ [u]).length cap) (vs ++ [u]).length (vs ++ [u]) := by
  refine ⟨by omega, .inr ?_⟩
  rcases h.2 with ⟨e1, _⟩ | ⟨g', cap', cur, e1, hb, hg, hn, hm, hs, ht⟩
  · injection e1 with e1; simp at e1
  · injection e1 with e1 e2 e3
    injection e1 with e1
    injection e1 with e1
    subst e1 e3
    rw [List.length_append, List.length_singleton] at hn
    refine ⟨g, cap, cur.setIfInBounds vs.length u, rfl, hb, ?_, by rw [List.length_append, List.length_singleton]; omega, hm, by simpa using hs, ?_⟩
    · rw [setCell_eq_setRow W g vs.length cur e (0, 0) u hg]
      exact setRow_heap W g cur _ e _ hg
    · rw [List.length_append, List.length_singleton] at ht ⊢
      rw [Array.toList_setIfInBounds]
      simp only [Nat.mul_one] at ht ⊢
      rw [List.take_set, ht]
      simp
theorem info_sl : (Tryz.prog.info? 24).map (fun i => (i.zero, i.size, i.bytes)) = some (some (.slice none 0 0), 1, 24) := by kernel_rfl
/-- The blocks in which what is walked over lies. -/
def Wlo (p n : Nat) (b : Nat) : Prop := b ≠ p ∧ b < n
set_option maxHeartbeats 4000000 in
set_option maxRecDepth 20000 in
/-- The walk asks each node, until it is not so. -/
theorem walk_any (F : σ → Ex → Nat → σ × Bool) (f : FuncId) (hent : ∀ (args : Array Value) (W : World), Sem.run Tryz.prog (callFunc f args) W = .ok (.enter f args) W) (p : Nat) (St : World → σ → Nat → Prop) (End : World → σ → Prop) (lo : Nat → Prop) (w : World) (v : Value) (x : Ex) (s : σ)
    (hp : p < w.heap.size) (hx : ExIn w lo v x) (hlo : ∀ b, lo b → b < w.heap.size → b ≠ p) (hsz : (x.pre 1).length ≤ 1048576)
    (hso : ∀ (W : World) (v : Value) (x : Ex) (d : Nat) (s : σ) (m : Nat), w.heap.size ≤ W.heap.size → ExIn W (Wlo p (w.heap.size + 2)) v x → d ≤ 1048577 → St W s (m + 1) → Calls Tryz.prog f #[v, .int .i64 (d : Int), .pointer (some ⟨p, 0, none⟩)] W fun e w' => e = .returned (.bool (F s x d).2) ∧ ((F s x d).2 = true → St w' (F s x d).1 m) ∧ ((F s x d).2 = false → End w' (F s x d).1) ∧ But p W w')
    (hst : ∀ W W' s m, Below w.heap.size W W' → W.heap.size ≤ W'.heap.size → St W s m → St W' s m) (h0 : St w s (x.pre 1).length) :
    Calls Tryz.prog 25 #[v, .func (.func f) #[] #[.pointer (some ⟨p, 0, none⟩)]] w fun e w' => e = .returned (.bool (foldP F s (x.pre 1)).2) ∧ ((foldP F s (x.pre 1)).2 = true → St w' (foldP F s (x.pre 1)).1 0) ∧ ((foldP F s (x.pre 1)).2 = false → End w' (foldP F s (x.pre 1)).1) ∧ But p w w' := by
  obtain ⟨o1, n1, t1, k1, s1, p1, m1, c1, a1, rfl⟩ := hx.agg
  obtain ⟨i0, hi, hz0, hz1, hzz⟩ := info_parts info_sl
  have HX : Aside (ExIn w (Wlo p (w.heap.size + 2)) (.agg #[.string o1, .string n1, .int .i64 t1, .int .i64 k1, .string s1, .slice p1 m1 c1, .int .i64 a1]) x) := ExIn.low (fun b h1 h2 => ⟨hlo b h2 h1, by omega⟩) _ _ hx
  have HO : Aside (∀ (W : World) (v : Value) (x : Ex) (d : Nat) (s : σ) (m : Nat), w.heap.size ≤ W.heap.size → ExIn W (Wlo p (w.heap.size + 2)) v x → d ≤ 1048577 → St W s (m + 1) → Calls Tryz.prog f #[v, .int .i64 (d : Int), .pointer (some ⟨p, 0, none⟩)] W fun e w' => e = .returned (.bool (F s x d).2) ∧ ((F s x d).2 = true → St w' (F s x d).1 m) ∧ ((F s x d).2 = false → End w' (F s x d).1) ∧ But p W w') := hso
  have HT : Aside (∀ W W' s m, Below w.heap.size W W' → W.heap.size ≤ W'.heap.size → St W s m → St W' s m) := hst
  have HS : Aside (St w s (x.pre 1).length) := h0
  obtain ⟨T, hT⟩ : ∃ T, foldP F s (x.pre 1) = T := ⟨_, rfl⟩
  have HF : Hid (foldP F s (x.pre 1) = T) := hT
  rw [hT]
  have HZ : Hid ((x.pre 1).length ≤ 1048576) := hsz
  clear hx hso hst h0 hT hlo hsz
  have b1 : Below w.heap.size w _ := ((al w (.cells #[.string o1, .string n1, .int .i64 t1, .int .i64 k1, .string s1, .slice p1 m1 c1, .int .i64 a1] 26)).trans ((al _ (.cells #[.string o1, .string n1, .int .i64 t1, .int .i64 k1, .string s1, .slice p1 m1 c1, .int .i64 a1] 26)).mono (by simp))).trans ((al _ (.cells #[.slice (some ⟨w.heap.size + 1, 0, none⟩) 1 1] 24)).mono (by simp; omega))
  go_enter Tryz.func25, Tryz.ntmps25
  go_wp2
  go_loopg [5, 6, 7] (2 * (x.pre 1).length + 2) (fun gg s5 _ _ wr => ∃ (st : List (List Ex)) (vs : List Value) (s' : σ) (q : Option Addr) (c : Nat), s5 = .slice q vs.length c ∧ Hid (costB st < gg ∧ st.length + (flatB st).length ≤ 1048577) ∧ Aside (wr.ownsRow (w.heap.size + 2) 24 1 (.slice q vs.length c) vs.length vs) ∧ Aside (StkIn wr (Wlo p (w.heap.size + 2)) vs st) ∧ Aside (St wr s' (flatB st).length) ∧ Aside (But p w wr) ∧ Hid (foldP F s' (flatB st) = T))
  case atStart =>
    refine ⟨[[x]], [.slice (some ⟨w.heap.size + 1, 0, none⟩) 1 1], s, some ⟨w.heap.size + 2, 0, none⟩, 1, rfl, ?_, ?_, ?_, ?_, ?_, ?_⟩
    · show _ ∧ _
      have h1 := HZ.out
      have h2 : flatB [[x]] = x.pre 1 := by rw [show ([[x]] : List (List Ex)) = [] ++ [[x]] from rfl, flatB_snoc, Ex.pres, Ex.pres, List.append_nil]; simp [flatB, flatR]
      rw [costB, h2]
      simp only [List.length_singleton]
      omega
    · refine ⟨rfl, .inr ⟨w.heap.size + 2, 1, #[.slice (some ⟨w.heap.size + 1, 0, none⟩) 1 1], rfl, Nat.le_refl _, ?_, Nat.le_refl _, by decide, rfl, rfl⟩⟩
      rw [show w.heap.size + 2 = ((w.alloc (.cells #[.string o1, .string n1, .int .i64 t1, .int .i64 k1, .string s1, .slice p1 m1 c1, .int .i64 a1] 26)).alloc (.cells #[.string o1, .string n1, .int .i64 t1, .int .i64 k1, .string s1, .slice p1 m1 c1, .int .i64 a1] 26)).heap.size by simp]
      exact heap_alloc_new _ _
    · refine ⟨rfl, fun j h1 h2 => ?_⟩
      obtain rfl : j = 0 := by simp at h1; exact h1
      refine ⟨some ⟨w.heap.size + 1, 0, none⟩, 1, rfl, ⟨by simp [maxLen], by simp⟩, .inr ⟨w.heap.size + 1, 0, rfl, by simp, ⟨by omega, by omega⟩, ?_⟩⟩
      simp only [List.getElem_cons_zero]
      rw [ExsIn, ExsIn]
      have hc : ∀ i, ((((w.alloc (.cells #[.string o1, .string n1, .int .i64 t1, .int .i64 k1, .string s1, .slice p1 m1 c1, .int .i64 a1] 26)).alloc (.cells #[.string o1, .string n1, .int .i64 t1, .int .i64 k1, .string s1, .slice p1 m1 c1, .int .i64 a1] 26)).alloc (.cells #[.slice (some ⟨w.heap.size + 1, 0, none⟩) 1 1] 24)).cell? ⟨w.heap.size + 1, i, none⟩) = (#[.string o1, .string n1, .int .i64 t1, .int .i64 k1, .string s1, .slice p1 m1 c1, .int .i64 a1] : Array Value)[i]? := fun i => by
        rw [World.cell?_alloc_past _ _ _ (by simp), World.cell?_alloc_at _ _ _ _ (by simp)]
      refine ⟨⟨_, _, _, _, _, _, _, ?_, ?_, ?_, ?_, ?_, ?_, ?_, HX.out.on b1⟩, trivial⟩
      all_goals (rw [hc]; rfl)
    · have h2 : flatB [[x]] = x.pre 1 := by rw [show ([[x]] : List (List Ex)) = [] ++ [[x]] from rfl, flatB_snoc, Ex.pres, Ex.pres, List.append_nil]; simp [flatB, flatR]
      rw [h2]
      exact HT.out _ _ _ _ b1 b1.size HS.out
    · exact But.of_below' b1 (by omega)
    · have h2 : flatB [[x]] = x.pre 1 := by rw [show ([[x]] : List (List Ex)) = [] ++ [[x]] from rfl, flatB_snoc, Ex.pres, Ex.pres, List.append_nil]; simp [flatB, flatR]
      rw [h2]
      exact HF
  case round =>
    obtain ⟨st, vs, s', q, c, rfl, HB, OW, SK, SS, BW, HF2⟩ := hrel
    clear HS HX HF b1
    have hz := BW.out.size
    have hlen := SK.out.1
    rcases List.eq_nil_or_concat st with rfl | ⟨st', l, rfl⟩
    · obtain rfl : vs = [] := List.eq_nil_of_length_eq_zero hlen
      have HT2 : Hid ((s', true) = T) := HF2.out
      go_wp2
      go_ret
      have hT := HT2.out
      subst hT
      exact ⟨rfl, fun _ => SS.out, fun h => absurd h (by simp), BW.out⟩
    · obtain ⟨vs', v, rfl⟩ : ∃ vs' v, vs = vs' ++ [v] := by
        rcases List.eq_nil_or_concat vs with rfl | ⟨vs', v, rfl⟩
        · simp at hlen
        · exact ⟨vs', v, by simp⟩
      simp only [List.concat_eq_append] at *
      obtain ⟨SK1, AI⟩ := SK.out.front
      obtain ⟨g, rfl⟩ : ∃ g, q = some ⟨g, 0, none⟩ := by
        rcases OW.out.2 with ⟨e1, _⟩ | ⟨g, _, _, e1, _⟩
        · injection e1 with e1 e2; simp at e2
        · injection e1 with e1; exact ⟨g, e1⟩
      obtain ⟨ct, cf, gl, gB, gc⟩ := own_top OW.out
      have hAI := AI
      obtain ⟨pa, ca, rfl, ⟨hm1, hm2⟩, hA⟩ := hAI
      have hN : vs'.length ≤ 1048576 := by
        have h1 := HB.out.2
        rw [List.length_append, List.length_singleton] at h1
        simp only [List.length_append, List.length_singleton] at hlen
        omega
      have HL : Hid (vs'.length = st'.length) := by simp only [List.length_append, List.length_singleton] at hlen; exact (by omega : vs'.length = st'.length)
      have hNz : (vs'.length : Int) ≤ 1048576 := by omega
      have hN0 : (0 : Int) ≤ (vs'.length : Int) := by omega
      have hlenz : (((vs' ++ [Value.slice pa l.length ca]).length : Nat) : Int) = (vs'.length : Int) + 1 := by simp
      clear hlen
      cases l with
      | nil =>
        have ow := own_pop OW.out
        have HB2 : Hid (costB st' < gk - 1 ∧ st'.length + (flatB st').length ≤ 1048577 ∧ 0 < gk) := by
          show _ ∧ _
          have h1 := HB.out
          rw [costB_nil, flatB_nil, List.length_append, List.length_singleton] at h1
          omega
        have HF3 : Hid (foldP F s' (flatB st') = T) := by show _ = _; rw [← HF2.out, flatB_nil]
        have SS2 : Aside (St wr s' (flatB st').length) := by show St _ _ _; rw [← flatB_nil]; exact SS.out
        clear OW SK AI HB HF2 SS hA
        simp only [List.length_nil] at ct cf hm1 hm2
        go_wp2
        go_roundg (gk - 1)
        case measure => have := HB2.out; omega
        case rel => exact ⟨st', vs', s', _, c, rfl, (show Hid _ from ⟨HB2.out.1, HB2.out.2.1⟩), (show Aside _ from ow), (show Aside _ from SK1), SS2, BW, HF3⟩
      | cons y ys =>
        rcases hA with hA | ⟨b, off, rfl, hbl, hblo, hA⟩
        · simp at hA
        rw [ExsIn] at hA
        obtain ⟨⟨v0, v1, v2, v3, v4, v5, v6, e0, e1, e2, e3, e4, e5, e6, hy⟩, _⟩ := hA
        obtain ⟨u0, u1, u2, u3, u4, u5, u6, u7, u8, huu⟩ := hy.agg
        injection huu with huu
        simp only [Array.mk.injEq, List.cons.injEq, and_true] at huu
        obtain ⟨rfl, rfl, rfl, rfl, rfl, rfl, rfl⟩ := huu
        have hbg : b ≠ g := by have := hblo.2; omega
        have hAr := hy.args
        have HB2 : Hid (costB (st' ++ [ys] ++ [y.args]) < gk - 1 ∧ (st' ++ [ys] ++ [y.args]).length + (flatB (st' ++ [ys] ++ [y.args])).length ≤ 1048577 ∧ 0 < gk) := by
          show _ ∧ _
          have h1 := HB.out
          rw [costB_cons, flatB_cons] at h1
          simp only [List.length_append, List.length_cons, List.length_nil] at h1 ⊢
          omega
        have HF3 : Hid (foldP F s' ((y, vs'.length + 1) :: flatB (st' ++ [ys] ++ [y.args])) = T) := by show _ = _; rw [← HF2.out, flatB_cons, HL.out]
        have SS2 : St wr s' ((flatB (st' ++ [ys] ++ [y.args])).length + 1) := by have := SS.out; rw [flatB_cons, List.length_cons] at this; exact this
        have hdz : ((vs'.length + 1 : Nat) : Int) = (vs'.length : Int) + 1 := by omega
        have OP := fun u => own_put (u := u) OW.out
        clear HB HF2 SS SK OW
        by_cases hca : ca = 1
        · subst hca
          have AT := AI.tail (p' := some ⟨b, off, none⟩) (c' := 0) (by simp) (by omega)
          have ow1 := OP (.slice (some ⟨b, off, none⟩) ys.length (0))
          have bw1 : Below (w.heap.size + 2) wr ((wr.setCell ⟨g, vs'.length, none⟩ (.slice (some ⟨b, off, none⟩) ys.length (0))).alloc (.cells #[.string u0, .string u1, .int .i64 u2, .int .i64 u3, .string u4, .slice u5 u6 u7, .int .i64 u8] 26)) := ((Below.refl _ wr).setCell (p := ⟨g, vs'.length, none⟩) gB _).alloc (by simp [World.setCell]; omega) _
          have kp : ∀ bb oo : Nat, Wlo p (w.heap.size + 2) bb → bb < wr.heap.size → ((wr.setCell ⟨g, vs'.length, none⟩ (.slice (some ⟨b, off, none⟩) ys.length (0))).alloc (.cells #[.string u0, .string u1, .int .i64 u2, .int .i64 u3, .string u4, .slice u5 u6 u7, .int .i64 u8] 26)).cell? ⟨bb, oo, none⟩ = wr.cell? ⟨bb, oo, none⟩ := fun bb oo hb _ => bw1.cell (p := ⟨bb, oo, none⟩) hb.2
          have ks : wr.heap.size ≤ ((wr.setCell ⟨g, vs'.length, none⟩ (.slice (some ⟨b, off, none⟩) ys.length (0))).alloc (.cells #[.string u0, .string u1, .int .i64 u2, .int .i64 u3, .string u4, .slice u5 u6 u7, .int .i64 u8] 26)).heap.size := by simp [World.setCell]
          have SK2 := (SK1.snoc AT).keep ks kp
          have AR2 := hAr.keep ks kp
          have BB1 : But p w ((wr.setCell ⟨g, vs'.length, none⟩ (.slice (some ⟨b, off, none⟩) ys.length (0))).alloc (.cells #[.string u0, .string u1, .int .i64 u2, .int .i64 u3, .string u4, .slice u5 u6 u7, .int .i64 u8] 26)) := (BW.out.setNew g vs'.length (by omega) (by omega) _).alloc (by simp [World.setCell]; omega) _
          have ow2 := ow1.alloc (.cells #[.string u0, .string u1, .int .i64 u2, .int .i64 u3, .string u4, .slice u5 u6 u7, .int .i64 u8] 26)
          have cS := HO.out _ _ y (vs'.length + 1) s' (flatB (st' ++ [ys] ++ [y.args])).length (by simp [World.setCell]; omega) (hy.keep ks kp) (by omega) (HT.out _ _ _ _ (bw1.mono (by omega)) ks SS2)
          rw [hdz] at cS
          generalize hFy : F s' y (vs'.length + 1) = Fy at cS
          have HFy : Hid (F s' y (vs'.length + 1) = Fy) := hFy
          obtain ⟨s2, B2⟩ := Fy
          simp only at cS
          clear hFy kp ks SK1 AI AT hAr hy OP SS2 bw1 ow1
          go_wp2_with fail
          refine cS.mono ?_
          rintro e w2 ⟨rfl, hs1, hs2, b2⟩
          have HS1 : Hid (B2 = true → St w2 s2 (flatB (st' ++ [ys] ++ [y.args])).length) := hs1
          have HS2 : Hid (B2 = false → End w2 s2) := hs2
          clear hs1 hs2 cS
          cases B2
          · have HT2 : Hid ((s2, false) = T) := by
              show _ = _
              rw [← HF3.out, foldP, HFy.out]; simp
            go_wp2
            go_ret
            have hT := HT2.out
            subst hT
            exact ⟨rfl, fun h => absurd h (by simp), fun _ => HS2.out (by simp), BB1.trans b2⟩
          · have HF4 : Hid (foldP F s2 (flatB (st' ++ [ys] ++ [y.args])) = T) := by
              show _ = _
              rw [← HF3.out, foldP, HFy.out]; simp
            have hz2 : wr.heap.size + 1 ≤ w2.heap.size := by have := b2.size; simpa [World.setCell] using this
            have g5 : w2.cell? ⟨wr.heap.size, 5, none⟩ = some (.slice u5 u6 u7) := by
              rw [b2.cell _ (by simp [World.setCell]) (by omega), World.cell?_alloc_at _ _ _ _ (by simp [World.setCell])]; rfl
            have hlt5 : wr.heap.size < w2.heap.size := by omega
            have kp2 : ∀ bb oo : Nat, Wlo p (w.heap.size + 2) bb → bb < ((wr.setCell ⟨g, vs'.length, none⟩ (.slice (some ⟨b, off, none⟩) ys.length (0))).alloc (.cells #[.string u0, .string u1, .int .i64 u2, .int .i64 u3, .string u4, .slice u5 u6 u7, .int .i64 u8] 26)).heap.size → w2.cell? ⟨bb, oo, none⟩ = _ := fun bb oo hb h2 => b2.cell oo h2 hb.1
            have SK3 := SK2.keep b2.size kp2
            have AR3 := AR2.keep b2.size kp2
            have ow3 := own_but ow2 b2 (by omega)
            rw [List.length_append, List.length_singleton] at ow3
            have BB2 := BB1.trans b2
            clear SK2 AR2 ow2 BB1 b2 kp2 HF3 HFy HS2
            go_wp2_with (at_builtin; refine wpList_append_own _ rfl _ _ 97 rfl (w.heap.size + 2) 24 i0 (.slice none 0 0) 1 24 Tryz.underlying97 hi hz0 hz1 hzz rfl (by decide) _ _ _ rfl (ow3.alloc _) ⟨w2.heap.size, 0, none⟩ 1 1 [.slice u5 u6 u7] rfl rfl ?c1 ?c2 ?c3 ?c4 ?c5 ?_)
            case c1 =>
              intro i u hu
              rw [Go.WideShapes.add_plain, World.cell?_alloc_at _ _ _ _ (by simp)]
              simpa using hu
            case c2 =>
              intro u hu
              simp at hu
              subst hu; rfl
            case c3 => simp [maxLen]; omega
            case c4 => omega
            case c5 => simp; omega
            · intro v' w3 hown' hgrow _
              have hlo3 : ∀ j, (Value.slice (some ⟨g, 0, none⟩) (vs'.length + 1) c).ownBlock = some j → w.heap.size + 2 ≤ j := fun j hj => (ow3.lt j hj).1
              have bg : Below (w.heap.size + 2) w2 w3 := ((Below.refl _ w2).alloc (by omega) _).grown hgrow (by simp; omega) hlo3
              have zg : w2.heap.size ≤ w3.heap.size := by have := hgrow.size; simp at this; omega
              have SK4 := (SK3.snoc AR3).keep zg (fun bb oo hb _ => bg.cell (p := ⟨bb, oo, none⟩) hb.2)
              have SS4 : St w3 s2 (flatB (st' ++ [ys] ++ [y.args])).length := HT.out _ _ _ _ (bg.mono (by omega)) zg (HS1.out (by simp))
              have BB3 : But p w w3 := ⟨BB2.below.trans (bg.mono (by omega)), by have := BB2.size; omega, fun j hj hjp => by rw [bg.block j (by omega)]; exact BB2.kept j hj hjp⟩
              obtain ⟨q5, c5, rfl⟩ := lown_slice hown'
              have ow5 : w3.ownsRow (w.heap.size + 2) 24 1 (.slice q5 (vs' ++ [Value.slice (some ⟨b, off, none⟩) ys.length 0] ++ [Value.slice u5 u6 u7]).length c5) (vs' ++ [Value.slice (some ⟨b, off, none⟩) ys.length 0] ++ [Value.slice u5 u6 u7]).length (vs' ++ [Value.slice (some ⟨b, off, none⟩) ys.length 0] ++ [Value.slice u5 u6 u7]) := by
                have h1 : (vs' ++ [Value.slice (some ⟨b, off, none⟩) ys.length 0] ++ [Value.slice u5 u6 u7]).length = vs'.length + 1 + 1 := by simp
                rw [h1, List.append_assoc]; exact hown'
              clear hown' hgrow SK3 AR3 BB2 ow3 bg
              go_wp2
              go_roundg (gk - 1)
              case measure => have := HB2.out; omega
              case rel => exact ⟨st' ++ [ys] ++ [y.args], _, s2, q5, c5, by simp, (show Hid _ from ⟨HB2.out.1, HB2.out.2.1⟩), (show Aside _ from ow5), (show Aside _ from SK4), (show Aside _ from SS4), (show Aside _ from BB3), HF4⟩
        · have AT := AI.tail (p' := some ⟨b, off + 7, none⟩) (c' := ca - 1) (by rw [if_neg hca]; rfl) rfl
          have ow1 := OP (.slice (some ⟨b, off + 7, none⟩) ys.length (ca - 1))
          have bw1 : Below (w.heap.size + 2) wr ((wr.setCell ⟨g, vs'.length, none⟩ (.slice (some ⟨b, off + 7, none⟩) ys.length (ca - 1))).alloc (.cells #[.string u0, .string u1, .int .i64 u2, .int .i64 u3, .string u4, .slice u5 u6 u7, .int .i64 u8] 26)) := ((Below.refl _ wr).setCell (p := ⟨g, vs'.length, none⟩) gB _).alloc (by simp [World.setCell]; omega) _
          have kp : ∀ bb oo : Nat, Wlo p (w.heap.size + 2) bb → bb < wr.heap.size → ((wr.setCell ⟨g, vs'.length, none⟩ (.slice (some ⟨b, off + 7, none⟩) ys.length (ca - 1))).alloc (.cells #[.string u0, .string u1, .int .i64 u2, .int .i64 u3, .string u4, .slice u5 u6 u7, .int .i64 u8] 26)).cell? ⟨bb, oo, none⟩ = wr.cell? ⟨bb, oo, none⟩ := fun bb oo hb _ => bw1.cell (p := ⟨bb, oo, none⟩) hb.2
          have ks : wr.heap.size ≤ ((wr.setCell ⟨g, vs'.length, none⟩ (.slice (some ⟨b, off + 7, none⟩) ys.length (ca - 1))).alloc (.cells #[.string u0, .string u1, .int .i64 u2, .int .i64 u3, .string u4, .slice u5 u6 u7, .int .i64 u8] 26)).heap.size := by simp [World.setCell]
          have SK2 := (SK1.snoc AT).keep ks kp
          have AR2 := hAr.keep ks kp
          have BB1 : But p w ((wr.setCell ⟨g, vs'.length, none⟩ (.slice (some ⟨b, off + 7, none⟩) ys.length (ca - 1))).alloc (.cells #[.string u0, .string u1, .int .i64 u2, .int .i64 u3, .string u4, .slice u5 u6 u7, .int .i64 u8] 26)) := (BW.out.setNew g vs'.length (by omega) (by omega) _).alloc (by simp [World.setCell]; omega) _
          have ow2 := ow1.alloc (.cells #[.string u0, .string u1, .int .i64 u2, .int .i64 u3, .string u4, .slice u5 u6 u7, .int .i64 u8] 26)
          have cS := HO.out _ _ y (vs'.length + 1) s' (flatB (st' ++ [ys] ++ [y.args])).length (by simp [World.setCell]; omega) (hy.keep ks kp) (by omega) (HT.out _ _ _ _ (bw1.mono (by omega)) ks SS2)
          rw [hdz] at cS
          generalize hFy : F s' y (vs'.length + 1) = Fy at cS
          have HFy : Hid (F s' y (vs'.length + 1) = Fy) := hFy
          obtain ⟨s2, B2⟩ := Fy
          simp only at cS
          clear hFy kp ks SK1 AI AT hAr hy OP SS2 bw1 ow1
          go_wp2_with fail
          refine cS.mono ?_
          rintro e w2 ⟨rfl, hs1, hs2, b2⟩
          have HS1 : Hid (B2 = true → St w2 s2 (flatB (st' ++ [ys] ++ [y.args])).length) := hs1
          have HS2 : Hid (B2 = false → End w2 s2) := hs2
          clear hs1 hs2 cS
          cases B2
          · have HT2 : Hid ((s2, false) = T) := by
              show _ = _
              rw [← HF3.out, foldP, HFy.out]; simp
            go_wp2
            go_ret
            have hT := HT2.out
            subst hT
            exact ⟨rfl, fun h => absurd h (by simp), fun _ => HS2.out (by simp), BB1.trans b2⟩
          · have HF4 : Hid (foldP F s2 (flatB (st' ++ [ys] ++ [y.args])) = T) := by
              show _ = _
              rw [← HF3.out, foldP, HFy.out]; simp
            have hz2 : wr.heap.size + 1 ≤ w2.heap.size := by have := b2.size; simpa [World.setCell] using this
            have g5 : w2.cell? ⟨wr.heap.size, 5, none⟩ = some (.slice u5 u6 u7) := by
              rw [b2.cell _ (by simp [World.setCell]) (by omega), World.cell?_alloc_at _ _ _ _ (by simp [World.setCell])]; rfl
            have hlt5 : wr.heap.size < w2.heap.size := by omega
            have kp2 : ∀ bb oo : Nat, Wlo p (w.heap.size + 2) bb → bb < ((wr.setCell ⟨g, vs'.length, none⟩ (.slice (some ⟨b, off + 7, none⟩) ys.length (ca - 1))).alloc (.cells #[.string u0, .string u1, .int .i64 u2, .int .i64 u3, .string u4, .slice u5 u6 u7, .int .i64 u8] 26)).heap.size → w2.cell? ⟨bb, oo, none⟩ = _ := fun bb oo hb h2 => b2.cell oo h2 hb.1
            have SK3 := SK2.keep b2.size kp2
            have AR3 := AR2.keep b2.size kp2
            have ow3 := own_but ow2 b2 (by omega)
            rw [List.length_append, List.length_singleton] at ow3
            have BB2 := BB1.trans b2
            clear SK2 AR2 ow2 BB1 b2 kp2 HF3 HFy HS2
            go_wp2_with (at_builtin; refine wpList_append_own _ rfl _ _ 97 rfl (w.heap.size + 2) 24 i0 (.slice none 0 0) 1 24 Tryz.underlying97 hi hz0 hz1 hzz rfl (by decide) _ _ _ rfl (ow3.alloc _) ⟨w2.heap.size, 0, none⟩ 1 1 [.slice u5 u6 u7] rfl rfl ?c1 ?c2 ?c3 ?c4 ?c5 ?_)
            case c1 =>
              intro i u hu
              rw [Go.WideShapes.add_plain, World.cell?_alloc_at _ _ _ _ (by simp)]
              simpa using hu
            case c2 =>
              intro u hu
              simp at hu
              subst hu; rfl
            case c3 => simp [maxLen]; omega
            case c4 => omega
            case c5 => simp; omega
            · intro v' w3 hown' hgrow _
              have hlo3 : ∀ j, (Value.slice (some ⟨g, 0, none⟩) (vs'.length + 1) c).ownBlock = some j → w.heap.size + 2 ≤ j := fun j hj => (ow3.lt j hj).1
              have bg : Below (w.heap.size + 2) w2 w3 := ((Below.refl _ w2).alloc (by omega) _).grown hgrow (by simp; omega) hlo3
              have zg : w2.heap.size ≤ w3.heap.size := by have := hgrow.size; simp at this; omega
              have SK4 := (SK3.snoc AR3).keep zg (fun bb oo hb _ => bg.cell (p := ⟨bb, oo, none⟩) hb.2)
              have SS4 : St w3 s2 (flatB (st' ++ [ys] ++ [y.args])).length := HT.out _ _ _ _ (bg.mono (by omega)) zg (HS1.out (by simp))
              have BB3 : But p w w3 := ⟨BB2.below.trans (bg.mono (by omega)), by have := BB2.size; omega, fun j hj hjp => by rw [bg.block j (by omega)]; exact BB2.kept j hj hjp⟩
              obtain ⟨q5, c5, rfl⟩ := lown_slice hown'
              have ow5 : w3.ownsRow (w.heap.size + 2) 24 1 (.slice q5 (vs' ++ [Value.slice (some ⟨b, off + 7, none⟩) ys.length (ca - 1)] ++ [Value.slice u5 u6 u7]).length c5) (vs' ++ [Value.slice (some ⟨b, off + 7, none⟩) ys.length (ca - 1)] ++ [Value.slice u5 u6 u7]).length (vs' ++ [Value.slice (some ⟨b, off + 7, none⟩) ys.length (ca - 1)] ++ [Value.slice u5 u6 u7]) := by
                have h1 : (vs' ++ [Value.slice (some ⟨b, off + 7, none⟩) ys.length (ca - 1)] ++ [Value.slice u5 u6 u7]).length = vs'.length + 1 + 1 := by simp
                rw [h1, List.append_assoc]; exact hown'
              clear hown' hgrow SK3 AR3 BB2 ow3 bg
              go_wp2
              go_roundg (gk - 1)
              case measure => have := HB2.out; omega
              case rel => exact ⟨st' ++ [ys] ++ [y.args], _, s2, q5, c5, by simp, (show Hid _ from ⟨HB2.out.1, HB2.out.2.1⟩), (show Aside _ from ow5), (show Aside _ from SK4), (show Aside _ from SS4), (show Aside _ from BB3), HF4⟩
end Go.Proofs.YtnpinbpjfngknaaGreatDoor
namespace Go.Proofs.YtnpinbpjfngknaaGreatDoor
open Go.RowKit Go.BigFrame
set_option linter.unusedVariables false

def ftg (s : Nat) (x : Ex) (d : Nat) : Nat × Bool := (s + 1, decide (s + 1 ≤ 200) && decide (d ≤ 30))
/-- Too many nodes, or too deep. -/
def tgB (x : Ex) : Bool := !(foldP ftg 0 (x.pre 1)).2
/-- A number that is counted on. -/
def CntIn (p : Nat) (W : World) (s : Nat) (m : Nat) : Prop := W.cell? ⟨p, 0, none⟩ = some (.int .i64 (s : Int)) ∧ W.frozen? ⟨p, 0, none⟩ = false ∧ p < W.heap.size ∧ s ≤ 200
set_option maxHeartbeats 1000000 in
set_option maxRecDepth 20000 in
theorem tg1_any (p : Nat) (W : World) (v : Value) (lo : Nat → Prop) (x : Ex) (d s m : Nat) (hx : ExIn W lo v x) (hd : d ≤ 1048577) (hs : CntIn p W s (m + 1)) :
    Calls Tryz.prog 48 #[v, .int .i64 (d : Int), .pointer (some ⟨p, 0, none⟩)] W fun e w' => e = .returned (.bool (ftg s x d).2) ∧ ((ftg s x d).2 = true → CntIn p w' (ftg s x d).1 m) ∧ ((ftg s x d).2 = false → True) ∧ But p W w' := by
  obtain ⟨o1, n1, t1, k1, s1, p1, m1, c1, a1, rfl⟩ := hx.agg
  obtain ⟨h1, h2, h3, h4⟩ := hs
  have bb := But.alloc (But.refl p W) (by omega) (.cells #[.string o1, .string n1, .int .i64 t1, .int .i64 k1, .string s1, .slice p1 m1 c1, .int .i64 a1] 26)
  have BF : Aside (∀ u, But p W ((W.setCell ⟨p, 0, none⟩ u).alloc (.cells #[.string o1, .string n1, .int .i64 t1, .int .i64 k1, .string s1, .slice p1 m1 c1, .int .i64 a1] 26))) := fun u => ((But.refl p W).set 0 u).alloc (by simp [World.setCell]; omega) _
  clear bb
  by_cases h200 : s + 1 ≤ 200
  · have h200z : (s : Int) + 1 ≤ 200 := by omega
    by_cases h30 : d ≤ 30
    · have h30z : (d : Int) ≤ 30 := by omega
      have hR : ftg s x d = (s + 1, true) := by rw [ftg, decide_eq_true h200, decide_eq_true h30]; rfl
      rw [hR]
      have hC : Aside (CntIn p ((W.setCell ⟨p, 0, none⟩ (.int .i64 ((s : Int) + 1))).alloc (.cells #[.string o1, .string n1, .int .i64 t1, .int .i64 k1, .string s1, .slice p1 m1 c1, .int .i64 a1] 26)) (s + 1) m) := by
        refine ⟨?_, ?_, by simp [World.setCell]; omega, by omega⟩
        · rw [World.cell?_alloc_past _ _ _ (by simpa [World.setCell] using h3), World.cell?_setCell_same W ⟨p, 0, none⟩ _ h1]
          rfl
        · rw [World.frozen?_alloc_past _ _ _ (by simpa [World.setCell] using h3)]
          simpa using h2
      clear hx hR h200 h30 h4
      generalize s + 1 = S2 at hC ⊢
      go_enter Tryz.func48, Tryz.ntmps48
      go_wp2
      go_ret
      first
        | exact ⟨ret_bool (by simp), fun _ => hC.out, fun _ => trivial, BF.out _⟩
        | exact ⟨ret_bool (by simp [h30z]), hC.out, BF.out _⟩
        | exact ⟨rfl, hC.out, BF.out _⟩
    · have h30z : ¬ (d : Int) ≤ 30 := by omega
      have hR : ftg s x d = (s + 1, false) := by rw [ftg, decide_eq_false h30, Bool.and_false]
      rw [hR]
      clear hx hR h200 h30 h4
      generalize s + 1 = S2
      go_enter Tryz.func48, Tryz.ntmps48
      go_wp2
      go_ret
      first
        | exact ⟨ret_bool (by simp), BF.out _⟩
        | exact ⟨ret_bool (by simp [h30z]), BF.out _⟩
        | exact ⟨rfl, BF.out _⟩
  · have h200z : ¬ (s : Int) + 1 ≤ 200 := by omega
    have hR : ftg s x d = (s + 1, false) := by rw [ftg, decide_eq_false h200, Bool.false_and]
    rw [hR]
    clear hx hR h200
    generalize s + 1 = S2
    go_enter Tryz.func48, Tryz.ntmps48
    go_wp2
    go_ret
    exact ⟨rfl, BF.out _⟩
set_option maxHeartbeats 1000000 in
theorem tooGreat_any (x : Ex) (lo : Nat → Prop) (v : Value) (w : World) (hx : ExIn w lo v x) (hsz : (x.pre 1).length ≤ 1048576) :
    Calls Tryz.prog 22 #[v] w fun e w' => e = .returned (.bool (tgB x)) ∧ Below w.heap.size w w' := by
  obtain ⟨o1, n1, t1, k1, s1, p1, m1, c1, a1, rfl⟩ := hx.agg
  have b1 : Below w.heap.size w ((w.alloc (.cells #[.string o1, .string n1, .int .i64 t1, .int .i64 k1, .string s1, .slice p1 m1 c1, .int .i64 a1] 26)).alloc (.cells #[.int .i64 0] 3)) := (al w _).trans ((al _ _).mono (by simp))
  have cW := walk_any ftg 48 (fun args W => by kernel_rfl) (w.heap.size + 1) (CntIn (w.heap.size + 1)) (fun _ _ => True) (fun b => lo b ∧ b < w.heap.size) _ _ x 0 (by simp) ((ExIn.low (fun b h1 h2 => ⟨h2, h1⟩) _ _ hx).on b1) (fun b h1 _ => by have := h1.2; omega) hsz
    (fun W v y d s m _ hy hd hs => tg1_any _ W v _ y d s m hy hd hs)
    (fun W W' s m hb hz hs => by
      obtain ⟨h1, h2, h3, h4⟩ := hs
      exact ⟨by rw [hb.cell (p := ⟨w.heap.size + 1, 0, none⟩) (by simp)]; exact h1, by rw [hb.frozen (p := ⟨w.heap.size + 1, 0, none⟩) (by simp)]; exact h2, by omega, h4⟩)
    ⟨by rw [World.cell?_alloc_at _ _ _ _ (by simp)]; rfl, by rw [World.frozen?_alloc_at _ _ _ _ (by simp)], by simp, by omega⟩
  rw [tgB]
  generalize foldP ftg 0 (x.pre 1) = T at cW
  obtain ⟨T1, T2⟩ := T
  simp only at cW ⊢
  go_enter Tryz.func22, Tryz.ntmps22
  go_wp2_with fail
  refine cW.mono ?_
  rintro e w2 ⟨rfl, _, _, b2⟩
  have b3 : Below w.heap.size w w2 := b1.trans (b2.below.mono (by omega))
  go_wp2
  go_ret
  exact ⟨rfl, b3⟩
end Go.Proofs.YtnpinbpjfngknaaGreatDoor
namespace Go.Proofs.YtnpinbpjfngknaaGreatDoor
open Go.RowKit
set_option linter.unusedVariables false
--BEGIN
theorem pres_len_of {l : List Ex} (h : ∀ y ∈ l, ∀ d, (y.pre d).length = y.size) (d : Nat) : (Ex.pres d l).length = Ex.sizes l := by
  induction l with
  | nil => rw [Ex.pres, Ex.sizes]; rfl
  | cons x xs ih =>
    rw [Ex.pres, Ex.sizes, List.length_append, h x List.mem_cons_self, ih (fun y hy => h y (List.mem_cons_of_mem _ hy))]
theorem pre_len : ∀ (x : Ex) (d : Nat), (x.pre d).length = x.size := by
  refine Ex.ind fun op nm vt vn vs pos args ih d => ?_
  rw [Ex.pre, Ex.size, List.length_cons, pres_len_of ih]; omega
/-- No more nodes than words that were taken. -/
def Szd (sub : List Tok → Option Ex × List Tok) : Prop := ∀ ts y, (sub ts).1 = some y → y.size + (sub ts).2.length ≤ ts.length
theorem uLoop_szd {sub : List Tok → Option Ex × List Tok} (hs : Szd sub) (gs : List (List UInt8)) : ∀ (k : Nat) (e : Ex) (ts : List Tok) (y : Ex), (uLoop sub gs k e ts).1 = some y → y.size + (uLoop sub gs k e ts).2.length ≤ e.size + ts.length
  | 0, e, ts, y, h => by rw [uLoop] at h ⊢; simp only [Option.some.injEq] at h; subst h; exact Nat.le_refl _
  | k + 1, e, ts, y, h => by
    rw [uLoop] at h ⊢
    cases hn : nxT (sgT gs) ts with
    | none => rw [hn] at h; simp only [Option.some.injEq] at h; subst h; exact Nat.le_refl _
    | some q =>
      obtain ⟨t, r⟩ := q
      rw [hn] at h
      have h1 := (nxT_len hn).1
      subst h1
      simp only at h ⊢
      have h2 := hs r
      cases h3 : sub r with
      | mk o r2 =>
        rw [h3] at h h2
        cases o with
        | none => exact absurd h (by simp)
        | some b =>
          have h4 := h2 b rfl
          have h5 := uLoop_szd hs gs k (betT e t b) r2 y h
          rw [betT, Ex.size, Ex.sizes, Ex.sizes, Ex.sizes] at h5
          simp only [List.length_cons] at h4 ⊢
          simp only [betT] at h5 ⊢
          omega
theorem uSev_szd {sub : List Tok → Option Ex × List Tok} (hs : Szd sub) (gs : List (List UInt8)) : Szd (uSev sub gs) := by
  intro ts y h
  have h2 := hs ts
  rw [uSev] at h ⊢
  cases h3 : sub ts with
  | mk o r =>
    rw [h3] at h h2
    cases o with
    | none => exact absurd h (by simp)
    | some e =>
      have h4 := h2 e rfl
      have h5 := uLoop_szd hs gs (r.length + 1) e r y h
      simp only at h4 h5 ⊢
      omega
theorem uAhead_szd {sub other : List Tok → Option Ex × List Tok} (hs : Szd sub) (ho : Szd other) (op : List UInt8) (gs : List (List UInt8)) : Szd (uAhead op gs sub other) := by
  intro ts y h
  rw [uAhead] at h ⊢
  cases hn : nxT (sgT gs) ts with
  | none => rw [hn] at h; exact ho ts y h
  | some q =>
    obtain ⟨t, r⟩ := q
    rw [hn] at h
    have h1 := (nxT_len hn).1
    subst h1
    have h2 := hs r
    simp only at h ⊢
    cases h3 : sub r with
    | mk o r2 =>
      rw [h3] at h h2
      cases o with
      | none => exact absurd h (by simp)
      | some e =>
        have h4 := h2 e rfl
        simp only [Option.some.injEq] at h
        subst h
        rw [op1, Ex.size, Ex.sizes, Ex.sizes]
        simp only [List.length_cons] at h4 ⊢
        omega
theorem uCmp_szd {sub : List Tok → Option Ex × List Tok} (hs : Szd sub) : Szd (uCmp sub) := by
  intro ts y h
  have h2 := hs ts
  rw [uCmp] at h ⊢
  cases h3 : sub ts with
  | mk o r =>
    rw [h3] at h h2
    cases o with
    | none => exact absurd h (by simp)
    | some e =>
      have h4 := h2 e rfl
      simp only at h h4 ⊢
      cases hn : nxT (sgT cmpL) r with
      | none => rw [hn] at h; simp only [Option.some.injEq] at h; subst h; exact h4
      | some q =>
        obtain ⟨t, r2⟩ := q
        rw [hn] at h
        have h1 := (nxT_len hn).1
        subst h1
        have h5 := hs r2
        simp only at h ⊢
        cases h6 : sub r2 with
        | mk o r3 =>
          rw [h6] at h h5
          cases o with
          | none => exact absurd h (by simp)
          | some b =>
            have h7 := h5 b rfl
            simp only [Option.some.injEq] at h
            subst h
            rw [betT, Ex.size, Ex.sizes, Ex.sizes, Ex.sizes]
            simp only [List.length_cons] at h4 h7 ⊢
            omega
theorem sizes_app : ∀ (l m : List Ex), Ex.sizes (l ++ m) = Ex.sizes l + Ex.sizes m
  | [], m => by rw [Ex.sizes, List.nil_append]; omega
  | x :: l, m => by rw [List.cons_append, Ex.sizes, Ex.sizes, sizes_app l m]; omega
theorem uBr_szd {sub : List Tok → Option Ex × List Tok} (hs : Szd sub) : ∀ (k : Nat) (acc : List Ex) (ts : List Tok) (l : List Ex), (uBr sub k acc ts).1 = some l → Ex.sizes l + (uBr sub k acc ts).2.length + 1 ≤ Ex.sizes acc + ts.length
  | 0, acc, ts, l, h => by
    rw [uBr] at h ⊢
    cases hn : nxT (sgT [[41]]) ts with
    | none => rw [hn] at h; exact absurd h (by simp)
    | some q =>
      obtain ⟨t, r⟩ := q
      rw [hn] at h
      have h1 := (nxT_len hn).1
      subst h1
      simp only [Option.some.injEq] at h
      subst h
      simp only [List.length_cons]
      omega
  | k + 1, acc, ts, l, h => by
    rw [uBr] at h ⊢
    cases hn : nxT (sgT [if acc.length = 0 then [40] else [44]]) ts with
    | none => rw [hn] at h; exact absurd h (by simp)
    | some q =>
      obtain ⟨t, r⟩ := q
      rw [hn] at h
      have h1 := (nxT_len hn).1
      subst h1
      have h2 := hs r
      simp only at h ⊢
      cases h3 : sub r with
      | mk o r2 =>
        rw [h3] at h h2
        cases o with
        | none => exact absurd h (by simp)
        | some e =>
          have h4 := h2 e rfl
          have h5 := uBr_szd hs k (acc ++ [e]) r2 l h
          rw [sizes_app, Ex.sizes, Ex.sizes] at h5
          simp only [List.length_cons] at h4 h5 ⊢
          omega
theorem uOne_szd {sub : List Tok → Option Ex × List Tok} (hs : Szd sub) : Szd (uOne sub) := by
  intro ts y h
  cases hn : nxT (sgT lenIf) ts with
  | some q =>
    obtain ⟨t, r⟩ := q
    rw [uOne_call hn] at h ⊢
    have h1 := (nxT_len hn).1
    have h2 := uBr_szd hs (manyT t) [] r
    cases h3 : (uBr sub (manyT t) [] r).1 with
    | none => rw [h3] at h; exact absurd h (by simp)
    | some l =>
      rw [h3] at h
      simp only [Option.map_some, Option.some.injEq] at h
      have h4 := h2 l h3
      rw [← h, Ex.size, h1]
      rw [Ex.sizes] at h4
      simp only [List.length_cons]
      omega
  | none =>
    cases hv : nxT vlT ts with
    | some q =>
      obtain ⟨t, r⟩ := q
      rw [uOne_val hn hv] at h ⊢
      simp only [Option.some.injEq] at h
      rw [← h, valE, Ex.size, Ex.sizes, (nxT_len hv).1, List.length_cons]
      show 1 + 0 + r.length ≤ r.length + 1
      omega
    | none =>
      cases hc : nxT nmT ts with
      | some q =>
        obtain ⟨t, r⟩ := q
        rw [uOne_col hn hv hc] at h ⊢
        simp only [Option.some.injEq] at h
        rw [← h, colE1, Ex.size, Ex.sizes, (nxT_len hc).1, List.length_cons]
        show 1 + 0 + r.length ≤ r.length + 1
        omega
      | none =>
        rw [uOne_br hn hv hc] at h ⊢
        have h2 := uBr_szd hs 1 [] ts
        have h5 := uBr_len (sub := sub) 1 [] ts
        cases h3 : (uBr sub 1 [] ts).1 with
        | none => rw [h3] at h; exact absurd h (by simp)
        | some l =>
          rw [h3] at h
          have h4 := h2 l h3
          have h6 := h5 l h3
          match l, h6 with
          | [x], _ =>
            simp only [Option.bind_some, List.head?_cons, Option.some.injEq] at h
            subst h
            rw [Ex.sizes, Ex.sizes, Ex.sizes] at h4
            simp only
            omega
theorem uE_szd : ∀ (f lv : Nat), Szd (uE f lv)
  | 0, lv => fun ts y h => by rw [uE] at h; exact absurd h (by simp)
  | f + 1, lv => by
    have ih := fun lv => uE_szd f lv
    intro ts
    unfold uE
    split
    · exact uSev_szd (ih 1) _ ts
    · exact uSev_szd (ih 2) _ ts
    · exact uAhead_szd (ih 2) (ih 3) _ _ ts
    · exact uCmp_szd (ih 4) ts
    · exact uSev_szd (ih 5) _ ts
    · exact uSev_szd (ih 6) _ ts
    · exact uAhead_szd (ih 6) (ih 7) _ _ ts
    · exact uOne_szd (ih 0) ts
--END
end Go.Proofs.YtnpinbpjfngknaaGreatDoor
namespace Go.Proofs.YtnpinbpjfngknaaGreatDoor
open Go.RowKit Go.BigFrame
set_option linter.unusedVariables false

theorem errK_neq (k : Int) (W : World) : Sem.run Tryz.prog (binOp .neq 38 (errV k) .nilIface) W = .ok (.bool (k != 0)) W := by
  rw [errV]
  split
  · rename_i h; subst h; kernel_rfl
  · rename_i h
    rw [show (k != 0) = true by simpa using h]
    kernel_rfl
theorem errK_gneq (k : Int) (W : World) (j : Nat) : Sem.run Tryz.prog (eqGuard .neq 38 (.tmp j) (.const .nilIface) (errV k) .nilIface) W = .ok () W := by
  rw [errV]
  split <;> kernel_rfl
theorem errK_eql (k : Int) (W : World) : Sem.run Tryz.prog (binOp .eql 38 (errV k) .nilIface) W = .ok (.bool (k == 0)) W := by
  rw [errV]
  split
  · rename_i h; subst h; kernel_rfl
  · rename_i h
    rw [show (k == 0) = false by simpa using h]
    kernel_rfl
theorem errK_geql (k : Int) (W : World) (j : Nat) : Sem.run Tryz.prog (eqGuard .eql 38 (.tmp j) (.const .nilIface) (errV k) .nilIface) W = .ok () W := by
  rw [errV]
  split <;> kernel_rfl
/-- What is wrong with the value of a node. -/
def ckV (t n : Int) (l : List UInt8) : Int := if chk t n l ≠ 0 then chk t n l else if t = 1 ∧ n < 0 then 1 else 0
set_option maxHeartbeats 1000000 in
theorem checkVal_any (t n : Int) (s : ByteArray) (w : World) (hs : s.size ≤ maxLen) :
    Calls Tryz.prog 55 #[.agg #[.int .i64 t, .int .i64 n, .string s]] w fun e w' => e = .returned (errV (ckV t n s.data.toList)) ∧ Below w.heap.size w w' := by
  have b1 : Below w.heap.size w (w.alloc (.cells #[.int .i64 t, .int .i64 n, .string s] 23)) := (Below.refl _ w).alloc (Nat.le_refl _) _
  have cC := check_any t n s (w.alloc (.cells #[.int .i64 t, .int .i64 n, .string s] 23)) hs
  obtain ⟨K, hK⟩ : ∃ K, ckV t n s.data.toList = K := ⟨_, rfl⟩
  have HK : Hid (ckV t n s.data.toList = K) := hK
  rw [hK]
  clear hK
  have hn1 := errK_neq (chk t n s.data.toList)
  have hn2 := errK_gneq (chk t n s.data.toList)
  obtain ⟨E, hE⟩ : ∃ E, chk t n s.data.toList = E := ⟨_, rfl⟩
  have HE : Hid (chk t n s.data.toList = E) := hE
  rw [hE] at cC hn1 hn2
  clear hE
  by_cases h0 : E = 0
  · subst h0
    have hb : ((0 : Int) != 0) = false := rfl
    rw [show errV 0 = .nilIface from rfl] at cC
    clear hn1 hn2
    by_cases h1 : t = 1
    · subst h1
      by_cases h2 : n < 0
      · have hk : (.iface 29 (.int .i64 1) : Value) = errV K := by rw [← HK.out, ckV, if_neg (by rw [HE.out]; simp), if_pos ⟨rfl, h2⟩]; rfl
        have HV : Hid ((.iface 29 (.int .i64 1) : Value) = errV K) := hk
        clear HK hk HE
        generalize errV K = V at HV ⊢
        go_enter Tryz.func55, Tryz.ntmps55
        go_wp2_with fail
        refine cC.mono ?_
        rintro e w1 ⟨rfl, b2⟩
        have c0 : w1.cell? ⟨w.heap.size, 0, none⟩ = some (.int .i64 1) := by rw [b2.cell (p := ⟨w.heap.size, 0, none⟩) (by simp), World.cell?_alloc_at _ _ _ _ rfl]; rfl
        have c1 : w1.cell? ⟨w.heap.size, 1, none⟩ = some (.int .i64 n) := by rw [b2.cell (p := ⟨w.heap.size, 1, none⟩) (by simp), World.cell?_alloc_at _ _ _ _ rfl]; rfl
        have hl : w.heap.size < w1.heap.size := by have := b2.size; simp at this; omega
        go_wp2
        go_ret
        exact ⟨by rw [← HV.out]; rfl, b1.trans (b2.mono (by simp))⟩
      · have hk : (.nilIface : Value) = errV K := by rw [← HK.out, ckV, if_neg (by rw [HE.out]; simp), if_neg (fun h => h2 h.2)]; rfl
        have HV : Hid ((.nilIface : Value) = errV K) := hk
        clear HK hk HE
        generalize errV K = V at HV ⊢
        go_enter Tryz.func55, Tryz.ntmps55
        go_wp2_with fail
        refine cC.mono ?_
        rintro e w1 ⟨rfl, b2⟩
        have c0 : w1.cell? ⟨w.heap.size, 0, none⟩ = some (.int .i64 1) := by rw [b2.cell (p := ⟨w.heap.size, 0, none⟩) (by simp), World.cell?_alloc_at _ _ _ _ rfl]; rfl
        have c1 : w1.cell? ⟨w.heap.size, 1, none⟩ = some (.int .i64 n) := by rw [b2.cell (p := ⟨w.heap.size, 1, none⟩) (by simp), World.cell?_alloc_at _ _ _ _ rfl]; rfl
        have hl : w.heap.size < w1.heap.size := by have := b2.size; simp at this; omega
        go_wp2
        go_ret
        exact ⟨by rw [← HV.out]; rfl, b1.trans (b2.mono (by simp))⟩
    · have hk : (.nilIface : Value) = errV K := by rw [← HK.out, ckV, if_neg (by rw [HE.out]; simp), if_neg (fun h => h1 h.1)]; rfl
      have HV : Hid ((.nilIface : Value) = errV K) := hk
      have h1z : (t == 1) = false := by simpa using h1
      clear HK hk HE
      generalize errV K = V at HV ⊢
      go_enter Tryz.func55, Tryz.ntmps55
      go_wp2_with fail
      refine cC.mono ?_
      rintro e w1 ⟨rfl, b2⟩
      have c0 : w1.cell? ⟨w.heap.size, 0, none⟩ = some (.int .i64 t) := by rw [b2.cell (p := ⟨w.heap.size, 0, none⟩) (by simp), World.cell?_alloc_at _ _ _ _ rfl]; rfl
      have hl : w.heap.size < w1.heap.size := by have := b2.size; simp at this; omega
      go_wp2
      go_ret
      exact ⟨by rw [← HV.out]; rfl, b1.trans (b2.mono (by simp))⟩
  · have hk : errV E = errV K := by rw [← HK.out, ckV, HE.out, if_pos h0]
    have HV : Hid (errV E = errV K) := hk
    have hb : (E != 0) = true := by simpa using h0
    rw [hb] at hn1
    clear HK hk HE h0 hb
    generalize errV K = V at HV ⊢
    generalize errV E = U at *
    go_enter Tryz.func55, Tryz.ntmps55
    go_wp2_with fail
    refine cC.mono ?_
    rintro e w1 ⟨rfl, b2⟩
    go_wp2
    go_ret
    exact ⟨by rw [← HV.out]; rfl, b1.trans (b2.mono (by simp))⟩
/-- What is wrong with a node, by what was asked of it. -/
def nodeB (ok ic nt ln nn iv vn : Bool) (cv : Int) : Int := if (!ok || (ic && !nt)) = true then 2 else if (ln || ((!ic && nn) || (!iv && vn))) = true then 3 else if iv = true then cv else 0
/-- What is wrong with a node, its parts left. -/
def nodeE (x : Ex) : Int := nodeB (apL x.op.data.toList opsL).2 (x.op.toList == [99, 111, 108]) (nameT x.nm.data.toList) ((x.args.length : Int) != (apL x.op.data.toList opsL).1) (!(x.nm.toList == [])) (x.op.toList == [118, 97, 108]) (!((x.vt == 0) && ((x.vn == 0) && (x.vs.toList == [])))) (ckV x.vt x.vn x.vs.data.toList)
theorem valK_eqIn (t n t2 n2 : Int) (s s2 : ByteArray) (W : World) : (Op.equalIn 10000 23 (.agg #[.int .i64 t, .int .i64 n, .string s]) (.agg #[.int .i64 t2, .int .i64 n2, .string s2])).run Tryz.prog W = .ok ((t == t2) && ((n == n2) && (s.toList == s2.toList))) W := by
  rw [show (10000 : Nat) = 9999 + 1 from rfl, run_equalIn_agg W 9999 23 _ _ (by kernel_rfl) (by kernel_rfl)]
  simp only [Program.fieldsOf, Tryz.underlying23]
  go_simp
  by_cases h1 : t = t2 <;> by_cases h2 : n = n2 <;> by_cases h3 : s.toList = s2.toList <;> simp [h1, h2, h3]
theorem valK_neq (t n t2 n2 : Int) (s s2 : ByteArray) (W : World) : Sem.run Tryz.prog (binOp .neq 23 (.agg #[.int .i64 t, .int .i64 n, .string s]) (.agg #[.int .i64 t2, .int .i64 n2, .string s2])) W = .ok (.bool !((t == t2) && ((n == n2) && (s.toList == s2.toList)))) W := by
  rw [run_neq_struct, valK_eqIn]; rfl
theorem ExIn.whole {w : World} {lo : Nat → Prop} {v : Value} {x : Ex} (h : ExIn w lo v x) : ∃ p c, v = .agg #[.string x.op, .string x.nm, .int .i64 x.vt, .int .i64 x.vn, .string x.vs, .slice p x.args.length c, .int .i64 x.pos] ∧ x.args.length ≤ maxLen ∧ x.op.size ≤ maxLen ∧ x.nm.size ≤ maxLen ∧ x.vs.size ≤ maxLen := by
  cases x with
  | node op nm vt vn vs pos l =>
    rw [ExIn] at h
    obtain ⟨p, c, e, h1, h2, h3, h4, _⟩ := h
    exact ⟨p, c, e, h1.1, h2, h3, h4⟩
set_option maxHeartbeats 4000000 in
set_option maxRecDepth 20000 in
theorem checkNode_any (x : Ex) (lo : Nat → Prop) (v : Value) (w : World) (henv : TEnv w) (hx : ExIn w lo v x) :
    Calls Tryz.prog 27 #[v] w fun e w' => e = .returned (errV (nodeE x)) ∧ Below w.heap.size w w' := by
  obtain ⟨p, c, rfl, hm, hso, hsn, hss⟩ := hx.whole
  unfold maxLen at hm
  have b1 : Below w.heap.size w (w.alloc (.cells #[.string x.op, .string x.nm, .int .i64 x.vt, .int .i64 x.vn, .string x.vs, .slice p x.args.length c, .int .i64 x.pos] 26)) := (Below.refl _ w).alloc (Nat.le_refl _) _
  obtain ⟨n, ok, hap⟩ : ∃ n ok, apL x.op.data.toList opsL = (n, ok) := ⟨_, _, rfl⟩
  have cA := argsOf_any x.op (w.alloc (.cells #[.string x.op, .string x.nm, .int .i64 x.vt, .int .i64 x.vn, .string x.vs, .slice p x.args.length c, .int .i64 x.pos] 26)) (henv.on b1) n ok hap
  have cN := fun W (hb : Below w.heap.size w W) => isColumn_any x.nm W (henv.on hb) hsn
  have cV := fun W => checkVal_any x.vt x.vn x.vs W hss
  obtain ⟨K, hK⟩ : ∃ K, errV (nodeE x) = K := ⟨_, rfl⟩
  have HK : Hid (errV (nodeE x) = K) := hK
  rw [hK]
  rw [nodeE, hap] at HK
  simp only at HK
  have hvn := valK_neq x.vt x.vn 0 0 x.vs ⟨#[]⟩
  rw [show (⟨#[]⟩ : ByteArray).toList = [] by rw [Lib.toList_data]] at hvn
  clear hK hap henv hx
  generalize x.op = OP at *
  generalize x.nm = NM at *
  generalize x.vs = VS at *
  generalize x.vt = VT at *
  generalize x.vn = VN at *
  generalize x.pos = PS at *
  generalize x.args.length = M at *
  generalize nameT NM.data.toList = NT at cN HK
  generalize hic : (OP.toList == [99, 111, 108]) = IC at HK
  generalize hiv : (OP.toList == [118, 97, 108]) = IV at HK
  generalize hln : ((M : Int) != n) = LN at HK
  generalize hnn : (NM.toList == []) = NN at HK
  generalize hvv : ((VT == 0) && ((VN == 0) && (VS.toList == []))) = VV at HK hvn
  generalize ckV VT VN VS.data.toList = CV at cV HK
  clear hvv
  have key : ∀ (k : Int), nodeB ok IC NT LN (!NN) IV (!VV) CV = k → Hid (errV k = K) := fun k h => by show _ = _; rw [← h]; exact HK.out
  clear HK
  cases ok
  · have HV := key 2 rfl
    go_enter Tryz.func27, Tryz.ntmps27
    go_wp2_with fail
    refine cA.mono ?_
    rintro e w1 ⟨rfl, b2⟩
    go_wp2
    go_ret
    exact ⟨by rw [← HV.out]; rfl, b1.trans (b2.mono (by simp))⟩
  · cases IC
    · cases LN
      · cases NN
        · have HV := key 3 rfl
          go_enter Tryz.func27, Tryz.ntmps27
          go_wp2_with fail
          refine cA.mono ?_
          rintro e w1 ⟨rfl, b2⟩
          have hz1 : w.heap.size < w1.heap.size := by have := b2.size; simp at this; omega
          have gB : ∀ i, w1.cell? ⟨w.heap.size, i, none⟩ = (#[.string OP, .string NM, .int .i64 VT, .int .i64 VN, .string VS, .slice p M c, .int .i64 PS] : Array Value)[i]? := fun i => by rw [b2.cell (p := ⟨w.heap.size, i, none⟩) (by simp), World.cell?_alloc_at _ _ _ _ rfl]
          have g0 : w1.cell? ⟨w.heap.size, 0, none⟩ = some (.string OP) := gB 0
          have g1 : w1.cell? ⟨w.heap.size, 1, none⟩ = some (.string NM) := gB 1
          have g2 : w1.cell? ⟨w.heap.size, 2, none⟩ = some (.int .i64 VT) := gB 2
          have g3 : w1.cell? ⟨w.heap.size, 3, none⟩ = some (.int .i64 VN) := gB 3
          have g4 : w1.cell? ⟨w.heap.size, 4, none⟩ = some (.string VS) := gB 4
          have g5 : w1.cell? ⟨w.heap.size, 5, none⟩ = some (.slice p M c) := gB 5
          have b3 : Below w.heap.size w w1 := b1.trans (b2.mono (by simp))
          clear gB
          go_wp2
          go_ret
          exact ⟨by rw [← HV.out]; rfl, b3⟩
        · cases IV
          · cases VV
            · have HV := key 3 rfl
              go_enter Tryz.func27, Tryz.ntmps27
              go_wp2_with fail
              refine cA.mono ?_
              rintro e w1 ⟨rfl, b2⟩
              have hz1 : w.heap.size < w1.heap.size := by have := b2.size; simp at this; omega
              have gB : ∀ i, w1.cell? ⟨w.heap.size, i, none⟩ = (#[.string OP, .string NM, .int .i64 VT, .int .i64 VN, .string VS, .slice p M c, .int .i64 PS] : Array Value)[i]? := fun i => by rw [b2.cell (p := ⟨w.heap.size, i, none⟩) (by simp), World.cell?_alloc_at _ _ _ _ rfl]
              have g0 : w1.cell? ⟨w.heap.size, 0, none⟩ = some (.string OP) := gB 0
              have g1 : w1.cell? ⟨w.heap.size, 1, none⟩ = some (.string NM) := gB 1
              have g2 : w1.cell? ⟨w.heap.size, 2, none⟩ = some (.int .i64 VT) := gB 2
              have g3 : w1.cell? ⟨w.heap.size, 3, none⟩ = some (.int .i64 VN) := gB 3
              have g4 : w1.cell? ⟨w.heap.size, 4, none⟩ = some (.string VS) := gB 4
              have g5 : w1.cell? ⟨w.heap.size, 5, none⟩ = some (.slice p M c) := gB 5
              have b3 : Below w.heap.size w w1 := b1.trans (b2.mono (by simp))
              clear gB
              go_wp2
              go_ret
              exact ⟨by rw [← HV.out]; rfl, b3⟩
            · have HV := key 0 rfl
              go_enter Tryz.func27, Tryz.ntmps27
              go_wp2_with fail
              refine cA.mono ?_
              rintro e w1 ⟨rfl, b2⟩
              have hz1 : w.heap.size < w1.heap.size := by have := b2.size; simp at this; omega
              have gB : ∀ i, w1.cell? ⟨w.heap.size, i, none⟩ = (#[.string OP, .string NM, .int .i64 VT, .int .i64 VN, .string VS, .slice p M c, .int .i64 PS] : Array Value)[i]? := fun i => by rw [b2.cell (p := ⟨w.heap.size, i, none⟩) (by simp), World.cell?_alloc_at _ _ _ _ rfl]
              have g0 : w1.cell? ⟨w.heap.size, 0, none⟩ = some (.string OP) := gB 0
              have g1 : w1.cell? ⟨w.heap.size, 1, none⟩ = some (.string NM) := gB 1
              have g2 : w1.cell? ⟨w.heap.size, 2, none⟩ = some (.int .i64 VT) := gB 2
              have g3 : w1.cell? ⟨w.heap.size, 3, none⟩ = some (.int .i64 VN) := gB 3
              have g4 : w1.cell? ⟨w.heap.size, 4, none⟩ = some (.string VS) := gB 4
              have g5 : w1.cell? ⟨w.heap.size, 5, none⟩ = some (.slice p M c) := gB 5
              have b3 : Below w.heap.size w w1 := b1.trans (b2.mono (by simp))
              clear gB
              go_wp2
              go_ret
              exact ⟨by rw [← HV.out]; rfl, b3⟩
          · have HV := key CV rfl
            go_enter Tryz.func27, Tryz.ntmps27
            go_wp2_with fail
            refine cA.mono ?_
            rintro e w1 ⟨rfl, b2⟩
            have hz1 : w.heap.size < w1.heap.size := by have := b2.size; simp at this; omega
            have gB : ∀ i, w1.cell? ⟨w.heap.size, i, none⟩ = (#[.string OP, .string NM, .int .i64 VT, .int .i64 VN, .string VS, .slice p M c, .int .i64 PS] : Array Value)[i]? := fun i => by rw [b2.cell (p := ⟨w.heap.size, i, none⟩) (by simp), World.cell?_alloc_at _ _ _ _ rfl]
            have g0 : w1.cell? ⟨w.heap.size, 0, none⟩ = some (.string OP) := gB 0
            have g1 : w1.cell? ⟨w.heap.size, 1, none⟩ = some (.string NM) := gB 1
            have g2 : w1.cell? ⟨w.heap.size, 2, none⟩ = some (.int .i64 VT) := gB 2
            have g3 : w1.cell? ⟨w.heap.size, 3, none⟩ = some (.int .i64 VN) := gB 3
            have g4 : w1.cell? ⟨w.heap.size, 4, none⟩ = some (.string VS) := gB 4
            have g5 : w1.cell? ⟨w.heap.size, 5, none⟩ = some (.slice p M c) := gB 5
            have b3 : Below w.heap.size w w1 := b1.trans (b2.mono (by simp))
            clear gB
            go_wp2_with fail
            refine (cV _).mono ?_
            rintro e w2 ⟨rfl, b4⟩
            go_wp2
            go_ret
            exact ⟨by rw [← HV.out]; rfl, b3.trans (b4.mono b3.size)⟩
      · have HV := key 3 rfl
        go_enter Tryz.func27, Tryz.ntmps27
        go_wp2_with fail
        refine cA.mono ?_
        rintro e w1 ⟨rfl, b2⟩
        have hz1 : w.heap.size < w1.heap.size := by have := b2.size; simp at this; omega
        have gB : ∀ i, w1.cell? ⟨w.heap.size, i, none⟩ = (#[.string OP, .string NM, .int .i64 VT, .int .i64 VN, .string VS, .slice p M c, .int .i64 PS] : Array Value)[i]? := fun i => by rw [b2.cell (p := ⟨w.heap.size, i, none⟩) (by simp), World.cell?_alloc_at _ _ _ _ rfl]
        have g0 : w1.cell? ⟨w.heap.size, 0, none⟩ = some (.string OP) := gB 0
        have g1 : w1.cell? ⟨w.heap.size, 1, none⟩ = some (.string NM) := gB 1
        have g2 : w1.cell? ⟨w.heap.size, 2, none⟩ = some (.int .i64 VT) := gB 2
        have g3 : w1.cell? ⟨w.heap.size, 3, none⟩ = some (.int .i64 VN) := gB 3
        have g4 : w1.cell? ⟨w.heap.size, 4, none⟩ = some (.string VS) := gB 4
        have g5 : w1.cell? ⟨w.heap.size, 5, none⟩ = some (.slice p M c) := gB 5
        have b3 : Below w.heap.size w w1 := b1.trans (b2.mono (by simp))
        clear gB
        go_wp2
        go_ret
        exact ⟨by rw [← HV.out]; rfl, b3⟩
    · cases NT
      · have HV := key 2 rfl
        go_enter Tryz.func27, Tryz.ntmps27
        go_wp2_with fail
        refine cA.mono ?_
        rintro e w1 ⟨rfl, b2⟩
        have hz1 : w.heap.size < w1.heap.size := by have := b2.size; simp at this; omega
        have gB : ∀ i, w1.cell? ⟨w.heap.size, i, none⟩ = (#[.string OP, .string NM, .int .i64 VT, .int .i64 VN, .string VS, .slice p M c, .int .i64 PS] : Array Value)[i]? := fun i => by rw [b2.cell (p := ⟨w.heap.size, i, none⟩) (by simp), World.cell?_alloc_at _ _ _ _ rfl]
        have g0 : w1.cell? ⟨w.heap.size, 0, none⟩ = some (.string OP) := gB 0
        have g1 : w1.cell? ⟨w.heap.size, 1, none⟩ = some (.string NM) := gB 1
        have g2 : w1.cell? ⟨w.heap.size, 2, none⟩ = some (.int .i64 VT) := gB 2
        have g3 : w1.cell? ⟨w.heap.size, 3, none⟩ = some (.int .i64 VN) := gB 3
        have g4 : w1.cell? ⟨w.heap.size, 4, none⟩ = some (.string VS) := gB 4
        have g5 : w1.cell? ⟨w.heap.size, 5, none⟩ = some (.slice p M c) := gB 5
        have b3 : Below w.heap.size w w1 := b1.trans (b2.mono (by simp))
        clear gB
        go_wp2_with fail
        refine (cN _ b3).mono ?_
        rintro e w2 ⟨rfl, b4⟩
        have hz2 : w.heap.size < w2.heap.size := by have := b4.size; omega
        have k0 : w2.cell? ⟨w.heap.size, 0, none⟩ = some (.string OP) := by rw [b4.cell (p := ⟨w.heap.size, 0, none⟩) hz1]; exact g0
        have k1 : w2.cell? ⟨w.heap.size, 1, none⟩ = some (.string NM) := by rw [b4.cell (p := ⟨w.heap.size, 1, none⟩) hz1]; exact g1
        have k2 : w2.cell? ⟨w.heap.size, 2, none⟩ = some (.int .i64 VT) := by rw [b4.cell (p := ⟨w.heap.size, 2, none⟩) hz1]; exact g2
        have k3 : w2.cell? ⟨w.heap.size, 3, none⟩ = some (.int .i64 VN) := by rw [b4.cell (p := ⟨w.heap.size, 3, none⟩) hz1]; exact g3
        have k4 : w2.cell? ⟨w.heap.size, 4, none⟩ = some (.string VS) := by rw [b4.cell (p := ⟨w.heap.size, 4, none⟩) hz1]; exact g4
        have k5 : w2.cell? ⟨w.heap.size, 5, none⟩ = some (.slice p M c) := by rw [b4.cell (p := ⟨w.heap.size, 5, none⟩) hz1]; exact g5
        have b5 : Below w.heap.size w w2 := b3.trans (b4.mono b3.size)
        go_wp2
        go_ret
        exact ⟨by rw [← HV.out]; rfl, b5⟩
      · cases LN
        · cases IV
          · cases VV
            · have HV := key 3 rfl
              go_enter Tryz.func27, Tryz.ntmps27
              go_wp2_with fail
              refine cA.mono ?_
              rintro e w1 ⟨rfl, b2⟩
              have hz1 : w.heap.size < w1.heap.size := by have := b2.size; simp at this; omega
              have gB : ∀ i, w1.cell? ⟨w.heap.size, i, none⟩ = (#[.string OP, .string NM, .int .i64 VT, .int .i64 VN, .string VS, .slice p M c, .int .i64 PS] : Array Value)[i]? := fun i => by rw [b2.cell (p := ⟨w.heap.size, i, none⟩) (by simp), World.cell?_alloc_at _ _ _ _ rfl]
              have g0 : w1.cell? ⟨w.heap.size, 0, none⟩ = some (.string OP) := gB 0
              have g1 : w1.cell? ⟨w.heap.size, 1, none⟩ = some (.string NM) := gB 1
              have g2 : w1.cell? ⟨w.heap.size, 2, none⟩ = some (.int .i64 VT) := gB 2
              have g3 : w1.cell? ⟨w.heap.size, 3, none⟩ = some (.int .i64 VN) := gB 3
              have g4 : w1.cell? ⟨w.heap.size, 4, none⟩ = some (.string VS) := gB 4
              have g5 : w1.cell? ⟨w.heap.size, 5, none⟩ = some (.slice p M c) := gB 5
              have b3 : Below w.heap.size w w1 := b1.trans (b2.mono (by simp))
              clear gB
              go_wp2_with fail
              refine (cN _ b3).mono ?_
              rintro e w2 ⟨rfl, b4⟩
              have hz2 : w.heap.size < w2.heap.size := by have := b4.size; omega
              have k0 : w2.cell? ⟨w.heap.size, 0, none⟩ = some (.string OP) := by rw [b4.cell (p := ⟨w.heap.size, 0, none⟩) hz1]; exact g0
              have k1 : w2.cell? ⟨w.heap.size, 1, none⟩ = some (.string NM) := by rw [b4.cell (p := ⟨w.heap.size, 1, none⟩) hz1]; exact g1
              have k2 : w2.cell? ⟨w.heap.size, 2, none⟩ = some (.int .i64 VT) := by rw [b4.cell (p := ⟨w.heap.size, 2, none⟩) hz1]; exact g2
              have k3 : w2.cell? ⟨w.heap.size, 3, none⟩ = some (.int .i64 VN) := by rw [b4.cell (p := ⟨w.heap.size, 3, none⟩) hz1]; exact g3
              have k4 : w2.cell? ⟨w.heap.size, 4, none⟩ = some (.string VS) := by rw [b4.cell (p := ⟨w.heap.size, 4, none⟩) hz1]; exact g4
              have k5 : w2.cell? ⟨w.heap.size, 5, none⟩ = some (.slice p M c) := by rw [b4.cell (p := ⟨w.heap.size, 5, none⟩) hz1]; exact g5
              have b5 : Below w.heap.size w w2 := b3.trans (b4.mono b3.size)
              go_wp2
              go_ret
              exact ⟨by rw [← HV.out]; rfl, b5⟩
            · have HV := key 0 rfl
              go_enter Tryz.func27, Tryz.ntmps27
              go_wp2_with fail
              refine cA.mono ?_
              rintro e w1 ⟨rfl, b2⟩
              have hz1 : w.heap.size < w1.heap.size := by have := b2.size; simp at this; omega
              have gB : ∀ i, w1.cell? ⟨w.heap.size, i, none⟩ = (#[.string OP, .string NM, .int .i64 VT, .int .i64 VN, .string VS, .slice p M c, .int .i64 PS] : Array Value)[i]? := fun i => by rw [b2.cell (p := ⟨w.heap.size, i, none⟩) (by simp), World.cell?_alloc_at _ _ _ _ rfl]
              have g0 : w1.cell? ⟨w.heap.size, 0, none⟩ = some (.string OP) := gB 0
              have g1 : w1.cell? ⟨w.heap.size, 1, none⟩ = some (.string NM) := gB 1
              have g2 : w1.cell? ⟨w.heap.size, 2, none⟩ = some (.int .i64 VT) := gB 2
              have g3 : w1.cell? ⟨w.heap.size, 3, none⟩ = some (.int .i64 VN) := gB 3
              have g4 : w1.cell? ⟨w.heap.size, 4, none⟩ = some (.string VS) := gB 4
              have g5 : w1.cell? ⟨w.heap.size, 5, none⟩ = some (.slice p M c) := gB 5
              have b3 : Below w.heap.size w w1 := b1.trans (b2.mono (by simp))
              clear gB
              go_wp2_with fail
              refine (cN _ b3).mono ?_
              rintro e w2 ⟨rfl, b4⟩
              have hz2 : w.heap.size < w2.heap.size := by have := b4.size; omega
              have k0 : w2.cell? ⟨w.heap.size, 0, none⟩ = some (.string OP) := by rw [b4.cell (p := ⟨w.heap.size, 0, none⟩) hz1]; exact g0
              have k1 : w2.cell? ⟨w.heap.size, 1, none⟩ = some (.string NM) := by rw [b4.cell (p := ⟨w.heap.size, 1, none⟩) hz1]; exact g1
              have k2 : w2.cell? ⟨w.heap.size, 2, none⟩ = some (.int .i64 VT) := by rw [b4.cell (p := ⟨w.heap.size, 2, none⟩) hz1]; exact g2
              have k3 : w2.cell? ⟨w.heap.size, 3, none⟩ = some (.int .i64 VN) := by rw [b4.cell (p := ⟨w.heap.size, 3, none⟩) hz1]; exact g3
              have k4 : w2.cell? ⟨w.heap.size, 4, none⟩ = some (.string VS) := by rw [b4.cell (p := ⟨w.heap.size, 4, none⟩) hz1]; exact g4
              have k5 : w2.cell? ⟨w.heap.size, 5, none⟩ = some (.slice p M c) := by rw [b4.cell (p := ⟨w.heap.size, 5, none⟩) hz1]; exact g5
              have b5 : Below w.heap.size w w2 := b3.trans (b4.mono b3.size)
              go_wp2
              go_ret
              exact ⟨by rw [← HV.out]; rfl, b5⟩
          · have HV := key CV rfl
            go_enter Tryz.func27, Tryz.ntmps27
            go_wp2_with fail
            refine cA.mono ?_
            rintro e w1 ⟨rfl, b2⟩
            have hz1 : w.heap.size < w1.heap.size := by have := b2.size; simp at this; omega
            have gB : ∀ i, w1.cell? ⟨w.heap.size, i, none⟩ = (#[.string OP, .string NM, .int .i64 VT, .int .i64 VN, .string VS, .slice p M c, .int .i64 PS] : Array Value)[i]? := fun i => by rw [b2.cell (p := ⟨w.heap.size, i, none⟩) (by simp), World.cell?_alloc_at _ _ _ _ rfl]
            have g0 : w1.cell? ⟨w.heap.size, 0, none⟩ = some (.string OP) := gB 0
            have g1 : w1.cell? ⟨w.heap.size, 1, none⟩ = some (.string NM) := gB 1
            have g2 : w1.cell? ⟨w.heap.size, 2, none⟩ = some (.int .i64 VT) := gB 2
            have g3 : w1.cell? ⟨w.heap.size, 3, none⟩ = some (.int .i64 VN) := gB 3
            have g4 : w1.cell? ⟨w.heap.size, 4, none⟩ = some (.string VS) := gB 4
            have g5 : w1.cell? ⟨w.heap.size, 5, none⟩ = some (.slice p M c) := gB 5
            have b3 : Below w.heap.size w w1 := b1.trans (b2.mono (by simp))
            clear gB
            go_wp2_with fail
            refine (cN _ b3).mono ?_
            rintro e w2 ⟨rfl, b4⟩
            have hz2 : w.heap.size < w2.heap.size := by have := b4.size; omega
            have k0 : w2.cell? ⟨w.heap.size, 0, none⟩ = some (.string OP) := by rw [b4.cell (p := ⟨w.heap.size, 0, none⟩) hz1]; exact g0
            have k1 : w2.cell? ⟨w.heap.size, 1, none⟩ = some (.string NM) := by rw [b4.cell (p := ⟨w.heap.size, 1, none⟩) hz1]; exact g1
            have k2 : w2.cell? ⟨w.heap.size, 2, none⟩ = some (.int .i64 VT) := by rw [b4.cell (p := ⟨w.heap.size, 2, none⟩) hz1]; exact g2
            have k3 : w2.cell? ⟨w.heap.size, 3, none⟩ = some (.int .i64 VN) := by rw [b4.cell (p := ⟨w.heap.size, 3, none⟩) hz1]; exact g3
            have k4 : w2.cell? ⟨w.heap.size, 4, none⟩ = some (.string VS) := by rw [b4.cell (p := ⟨w.heap.size, 4, none⟩) hz1]; exact g4
            have k5 : w2.cell? ⟨w.heap.size, 5, none⟩ = some (.slice p M c) := by rw [b4.cell (p := ⟨w.heap.size, 5, none⟩) hz1]; exact g5
            have b5 : Below w.heap.size w w2 := b3.trans (b4.mono b3.size)
            go_wp2_with fail
            refine (cV _).mono ?_
            rintro e w3 ⟨rfl, b6⟩
            go_wp2
            go_ret
            exact ⟨by rw [← HV.out]; rfl, b5.trans (b6.mono b5.size)⟩
        · have HV := key 3 rfl
          go_enter Tryz.func27, Tryz.ntmps27
          go_wp2_with fail
          refine cA.mono ?_
          rintro e w1 ⟨rfl, b2⟩
          have hz1 : w.heap.size < w1.heap.size := by have := b2.size; simp at this; omega
          have gB : ∀ i, w1.cell? ⟨w.heap.size, i, none⟩ = (#[.string OP, .string NM, .int .i64 VT, .int .i64 VN, .string VS, .slice p M c, .int .i64 PS] : Array Value)[i]? := fun i => by rw [b2.cell (p := ⟨w.heap.size, i, none⟩) (by simp), World.cell?_alloc_at _ _ _ _ rfl]
          have g0 : w1.cell? ⟨w.heap.size, 0, none⟩ = some (.string OP) := gB 0
          have g1 : w1.cell? ⟨w.heap.size, 1, none⟩ = some (.string NM) := gB 1
          have g2 : w1.cell? ⟨w.heap.size, 2, none⟩ = some (.int .i64 VT) := gB 2
          have g3 : w1.cell? ⟨w.heap.size, 3, none⟩ = some (.int .i64 VN) := gB 3
          have g4 : w1.cell? ⟨w.heap.size, 4, none⟩ = some (.string VS) := gB 4
          have g5 : w1.cell? ⟨w.heap.size, 5, none⟩ = some (.slice p M c) := gB 5
          have b3 : Below w.heap.size w w1 := b1.trans (b2.mono (by simp))
          clear gB
          go_wp2_with fail
          refine (cN _ b3).mono ?_
          rintro e w2 ⟨rfl, b4⟩
          have hz2 : w.heap.size < w2.heap.size := by have := b4.size; omega
          have k0 : w2.cell? ⟨w.heap.size, 0, none⟩ = some (.string OP) := by rw [b4.cell (p := ⟨w.heap.size, 0, none⟩) hz1]; exact g0
          have k1 : w2.cell? ⟨w.heap.size, 1, none⟩ = some (.string NM) := by rw [b4.cell (p := ⟨w.heap.size, 1, none⟩) hz1]; exact g1
          have k2 : w2.cell? ⟨w.heap.size, 2, none⟩ = some (.int .i64 VT) := by rw [b4.cell (p := ⟨w.heap.size, 2, none⟩) hz1]; exact g2
          have k3 : w2.cell? ⟨w.heap.size, 3, none⟩ = some (.int .i64 VN) := by rw [b4.cell (p := ⟨w.heap.size, 3, none⟩) hz1]; exact g3
          have k4 : w2.cell? ⟨w.heap.size, 4, none⟩ = some (.string VS) := by rw [b4.cell (p := ⟨w.heap.size, 4, none⟩) hz1]; exact g4
          have k5 : w2.cell? ⟨w.heap.size, 5, none⟩ = some (.slice p M c) := by rw [b4.cell (p := ⟨w.heap.size, 5, none⟩) hz1]; exact g5
          have b5 : Below w.heap.size w w2 := b3.trans (b4.mono b3.size)
          go_wp2
          go_ret
          exact ⟨by rw [← HV.out]; rfl, b5⟩
end Go.Proofs.YtnpinbpjfngknaaGreatDoor
namespace Go.Proofs.YtnpinbpjfngknaaGreatDoor
open Go.RowKit Go.BigFrame
set_option linter.unusedVariables false

def fck (s : Int) (x : Ex) (d : Nat) : Int × Bool := (nodeE x, nodeE x == 0)
/-- What Check says of an expression. -/
def ckP (x : Ex) : Int := if tgB x = true then 4 else (foldP fck 0 (x.pre 1)).1
/-- The variable of the error. -/
def ErrIn (p : Nat) (W : World) (s : Int) (m : Nat) : Prop := (W.cell? ⟨p, 0, none⟩ = some (errV s) ∧ W.frozen? ⟨p, 0, none⟩ = false ∧ p < W.heap.size) ∧ TEnv W ∧ 12 ≤ p
set_option maxHeartbeats 1000000 in
set_option maxRecDepth 20000 in
theorem check1_any (p : Nat) (W : World) (v : Value) (lo : Nat → Prop) (x : Ex) (d : Nat) (s : Int) (m : Nat) (hx : ExIn W lo v x) (hs : ErrIn p W s (m + 1)) :
    Calls Tryz.prog 26 #[v, .int .i64 (d : Int), .pointer (some ⟨p, 0, none⟩)] W fun e w' => e = .returned (.bool (fck s x d).2) ∧ ((fck s x d).2 = true → ErrIn p w' (fck s x d).1 m) ∧ ((fck s x d).2 = false → ErrIn p w' (fck s x d).1 0) ∧ But p W w' := by
  obtain ⟨⟨h1, h2, h3⟩, henv, hG⟩ := hs
  obtain ⟨o1, n1, t1, k1, s1, p1, m1, c1, a1, rfl⟩ := hx.agg
  have b1 : Below W.heap.size W (W.alloc (.cells #[.string o1, .string n1, .int .i64 t1, .int .i64 k1, .string s1, .slice p1 m1 c1, .int .i64 a1] 26)) := al W _
  have cN := checkNode_any x lo _ _ (henv.on b1) (hx.on b1)
  have q1 := errK_eql (nodeE x)
  have q2 := errK_geql (nodeE x)
  have key : Hid (∀ w', But p W w' → w'.cell? ⟨p, 0, none⟩ = some (errV (nodeE x)) → w'.frozen? ⟨p, 0, none⟩ = false → ∀ j, ErrIn p w' (nodeE x) j) := fun w' hb hc hf j => ⟨⟨hc, hf, by have := hb.size; omega⟩, henv.but hb hG, hG⟩
  rw [fck]
  show Calls Tryz.prog 26 _ W fun e w' => e = .returned (.bool (nodeE x == 0)) ∧ ((nodeE x == 0) = true → ErrIn p w' (nodeE x) m) ∧ ((nodeE x == 0) = false → ErrIn p w' (nodeE x) 0) ∧ But p W w'
  have fin : Hid (∀ w1, Below (W.alloc (.cells #[.string o1, .string n1, .int .i64 t1, .int .i64 k1, .string s1, .slice p1 m1 c1, .int .i64 a1] 26)).heap.size (W.alloc (.cells #[.string o1, .string n1, .int .i64 t1, .int .i64 k1, .string s1, .slice p1 m1 c1, .int .i64 a1] 26)) w1 → (∀ j, ErrIn p (w1.setCell ⟨p, 0, none⟩ (errV (nodeE x))) (nodeE x) j) ∧ But p W (w1.setCell ⟨p, 0, none⟩ (errV (nodeE x)))) := fun w1 b2 => by
    have b3 : Below W.heap.size W w1 := b1.trans (b2.mono (by simp))
    have bb : But p W (w1.setCell ⟨p, 0, none⟩ (errV (nodeE x))) := (But.of_below' b3 (Nat.le_of_lt h3)).set 0 _
    have e1 : w1.cell? ⟨p, 0, none⟩ = some (errV s) := by rw [b3.cell (p := ⟨p, 0, none⟩) h3]; exact h1
    have e2 : w1.frozen? ⟨p, 0, none⟩ = false := by rw [b3.frozen (p := ⟨p, 0, none⟩) h3]; exact h2
    exact ⟨key.out _ bb (World.cell?_setCell_same w1 ⟨p, 0, none⟩ _ e1) (by simpa using e2), bb⟩
  clear key
  generalize nodeE x = K at *
  by_cases hK : K = 0
  · have hU : errV K = .nilIface := if_pos hK
    have hQ : (K == 0) = true := by simpa using hK
    rw [hU] at cN q1 q2 fin
    rw [hQ] at q1
    rw [hQ]
    clear hU hQ hK
    clear henv hx
    go_enter Tryz.func26, Tryz.ntmps26
    go_wp2_with fail
    refine cN.mono ?_
    rintro e w1 ⟨rfl, b2⟩
    have b3 : Below W.heap.size W w1 := b1.trans (b2.mono (by simp))
    have e1 : w1.cell? ⟨p, 0, none⟩ = some (errV s) := by rw [b3.cell (p := ⟨p, 0, none⟩) h3]; exact h1
    have e2 : w1.frozen? ⟨p, 0, none⟩ = false := by rw [b3.frozen (p := ⟨p, 0, none⟩) h3]; exact h2
    have FN : Hid ((∀ j, ErrIn p (w1.setCell ⟨p, 0, none⟩ .nilIface) K j) ∧ But p W (w1.setCell ⟨p, 0, none⟩ .nilIface)) := fin.out w1 b2
    have hl : p < w1.heap.size := by have := b3.size; omega
    clear fin cN b1 b2 b3 h1 h2
    go_wp2
    go_ret
    exact ⟨rfl, fun _ => FN.out.1 _, fun _ => FN.out.1 _, FN.out.2⟩
  · have hU : errV K = .iface 29 (.int .i64 K) := if_neg hK
    have hQ : (K == 0) = false := by simpa using hK
    rw [hU] at cN q1 q2 fin
    rw [hQ] at q1
    rw [hQ]
    clear hU hQ hK
    clear henv hx
    go_enter Tryz.func26, Tryz.ntmps26
    go_wp2_with fail
    refine cN.mono ?_
    rintro e w1 ⟨rfl, b2⟩
    have b3 : Below W.heap.size W w1 := b1.trans (b2.mono (by simp))
    have e1 : w1.cell? ⟨p, 0, none⟩ = some (errV s) := by rw [b3.cell (p := ⟨p, 0, none⟩) h3]; exact h1
    have e2 : w1.frozen? ⟨p, 0, none⟩ = false := by rw [b3.frozen (p := ⟨p, 0, none⟩) h3]; exact h2
    have FN : Hid ((∀ j, ErrIn p (w1.setCell ⟨p, 0, none⟩ (.iface 29 (.int .i64 K))) K j) ∧ But p W (w1.setCell ⟨p, 0, none⟩ (.iface 29 (.int .i64 K)))) := fin.out w1 b2
    have hl : p < w1.heap.size := by have := b3.size; omega
    clear fin cN b1 b2 b3 h1 h2
    go_wp2
    go_ret
    exact ⟨rfl, fun _ => FN.out.1 _, fun _ => FN.out.1 _, FN.out.2⟩
set_option maxHeartbeats 1000000 in
set_option maxRecDepth 20000 in
theorem check_tree (x : Ex) (lo : Nat → Prop) (v : Value) (w : World) (henv : TEnv w) (hx : ExIn w lo v x) (hsz : (x.pre 1).length ≤ 1048576) :
    Calls Tryz.prog 9 #[v] w fun e w' => e = .returned (errV (ckP x)) ∧ Below w.heap.size w w' := by
  obtain ⟨o1, n1, t1, k1, s1, p1, m1, c1, a1, rfl⟩ := hx.agg
  have b1 : Below w.heap.size w (w.alloc (.cells #[.string o1, .string n1, .int .i64 t1, .int .i64 k1, .string s1, .slice p1 m1 c1, .int .i64 a1] 26)) := al w _
  have cT := tooGreat_any x (fun b => lo b ∧ b < w.heap.size) _ _ ((ExIn.low (fun b h1 h2 => ⟨h2, h1⟩) _ _ hx).on b1) hsz
  have hG := henv.big
  have cW : ∀ w1 : World, Below (w.alloc (.cells #[.string o1, .string n1, .int .i64 t1, .int .i64 k1, .string s1, .slice p1 m1 c1, .int .i64 a1] 26)).heap.size (w.alloc (.cells #[.string o1, .string n1, .int .i64 t1, .int .i64 k1, .string s1, .slice p1 m1 c1, .int .i64 a1] 26)) w1 → Calls Tryz.prog 25 #[.agg #[.string o1, .string n1, .int .i64 t1, .int .i64 k1, .string s1, .slice p1 m1 c1, .int .i64 a1], .func (.func 26) #[] #[.pointer (some ⟨w1.heap.size, 0, none⟩)]] (w1.alloc (.cells #[.nilIface] 38)) fun e w' => e = .returned (.bool (foldP fck 0 (x.pre 1)).2) ∧ w'.cell? ⟨w1.heap.size, 0, none⟩ = some (errV (foldP fck 0 (x.pre 1)).1) ∧ w1.heap.size < w'.heap.size ∧ Below w.heap.size w w' := by
    intro w1 b2
    have b3 : Below w.heap.size w w1 := b1.trans (b2.mono (by simp))
    have hz1 : w.heap.size + 1 ≤ w1.heap.size := by have := b2.size; simpa using this
    have b4 : Below w.heap.size w (w1.alloc (.cells #[.nilIface] 38)) := b3.trans ((al _ _).mono b3.size)
    have cc := walk_any fck 26 (fun args W => by kernel_rfl) w1.heap.size (ErrIn w1.heap.size) (fun W s => ErrIn w1.heap.size W s 0) (fun b => lo b ∧ b < w.heap.size) (w1.alloc (.cells #[.nilIface] 38)) _ x 0 (by simp) ((ExIn.low (fun b h1 h2 => ⟨h2, h1⟩) _ _ hx).on b4) (fun b h1 _ => by have := h1.2; omega) hsz
      (fun W v y d s m _ hy _ hs => check1_any _ W v _ y d s m hy hs)
      (fun W W' s m hb hz hs => by
        obtain ⟨⟨h1, h2, h3⟩, h4, h5⟩ := hs
        exact ⟨⟨by rw [hb.cell (p := ⟨w1.heap.size, 0, none⟩) (by simp)]; exact h1, by rw [hb.frozen (p := ⟨w1.heap.size, 0, none⟩) (by simp)]; exact h2, by omega⟩, h4.onB hb (by simp; omega) hz, h5⟩)
      ⟨⟨by rw [World.cell?_alloc_at _ _ _ _ rfl]; rfl, World.frozen?_alloc_at _ _ _ _ rfl, by simp⟩, henv.on b4, by omega⟩
    refine cc.mono ?_
    rintro e w' ⟨he, g1, g2, g3⟩
    have gz := g3.size
    simp at gz
    refine ⟨he, ?_, by omega, b4.trans (g3.below.mono (by omega))⟩
    cases hq : (foldP fck 0 (x.pre 1)).2
    · exact (g2 hq).1.1
    · exact (g1 hq).1.1
  obtain ⟨K, hK⟩ : ∃ K, errV (ckP x) = K := ⟨_, rfl⟩
  have HK : Hid (errV (ckP x) = K) := hK
  rw [hK]
  rw [ckP] at HK
  generalize foldP fck 0 (x.pre 1) = T at cW HK
  obtain ⟨T1, T2⟩ := T
  simp only at cW HK
  generalize tgB x = G at cT HK
  cases G
  · have HV : Hid (errV T1 = K) := by show _ = _; rw [← HK.out]; rfl
    clear HK
    generalize errV T1 = U at *
    go_enter Tryz.func9, Tryz.ntmps9
    go_wp2_with fail
    refine cT.mono ?_
    rintro e w1 ⟨rfl, b2⟩
    have cc := cW w1 b2
    have hz1 : w.heap.size < w1.heap.size := by have := b2.size; simp at this; omega
    have gB : ∀ i, w1.cell? ⟨w.heap.size, i, none⟩ = (#[.string o1, .string n1, .int .i64 t1, .int .i64 k1, .string s1, .slice p1 m1 c1, .int .i64 a1] : Array Value)[i]? := fun i => by rw [b2.cell (p := ⟨w.heap.size, i, none⟩) (by simp), World.cell?_alloc_at _ _ _ _ rfl]
    have g0 : w1.cell? ⟨w.heap.size, 0, none⟩ = some (.string o1) := gB 0
    have g1 : w1.cell? ⟨w.heap.size, 1, none⟩ = some (.string n1) := gB 1
    have g2 : w1.cell? ⟨w.heap.size, 2, none⟩ = some (.int .i64 t1) := gB 2
    have g3 : w1.cell? ⟨w.heap.size, 3, none⟩ = some (.int .i64 k1) := gB 3
    have g4 : w1.cell? ⟨w.heap.size, 4, none⟩ = some (.string s1) := gB 4
    have g5 : w1.cell? ⟨w.heap.size, 5, none⟩ = some (.slice p1 m1 c1) := gB 5
    have g6 : w1.cell? ⟨w.heap.size, 6, none⟩ = some (.int .i64 a1) := gB 6
    clear gB cW
    go_wp2_with fail
    refine cc.mono ?_
    rintro e w2 ⟨rfl, hc2, hl2, b5⟩
    go_wp2
    go_ret
    exact ⟨by rw [← HV.out]; rfl, b5⟩
  · have HV : Hid ((.iface 29 (.int .i64 4) : Value) = K) := by show _ = _; rw [← HK.out]; rfl
    clear HK cW
    go_enter Tryz.func9, Tryz.ntmps9
    go_wp2_with fail
    refine cT.mono ?_
    rintro e w1 ⟨rfl, b2⟩
    go_wp2
    go_ret
    exact ⟨by rw [← HV.out]; rfl, b1.trans (b2.mono (by simp))⟩
end Go.Proofs.YtnpinbpjfngknaaGreatDoor
