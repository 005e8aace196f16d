/-
  The document's Check of instructions (package sluiceref2), the plain facts and its beginning.
-/
import Derived.Test.YtfhlhdddhgkinaaGreatDoorGrAu
import Derived.Test.YtfhlhdddhgkinaaGreatDoorGrAt
import Derived.Test.YtfhlhdddhgkinaaGreatDoorGrAs
namespace Go.Proofs.YtfhlhdddhgkinaaGreatDoor
open Go.RowKit
set_option linter.unusedVariables false

theorem aft_six {st : List Int} {i : I5} {zs : List (ByteArray × Int)} (h : st.length < needN i) : aftP st i zs = ([], 6) := by rw [aftP, if_pos h]
theorem aft_lay {st : List Int} {i : I5} {zs : List (ByteArray × Int)} (h : ¬ st.length < needN i) (h2 : (layP i (st.drop (st.length - needN i)) zs).2 ≠ 0) : aftP st i zs = ([], (layP i (st.drop (st.length - needN i)) zs).2) := by rw [aftP, if_neg h, if_pos h2]
theorem aft_full {st : List Int} {i : I5} {zs : List (ByteArray × Int)} (h : ¬ st.length < needN i) (h2 : (layP i (st.drop (st.length - needN i)) zs).2 = 0) (h3 : 64 < st.length - needN i + (layP i (st.drop (st.length - needN i)) zs).1.length) : aftP st i zs = ([], 4) := by rw [aftP, if_neg h, if_neg (by simpa using h2), if_pos h3]
theorem aft_ok {st : List Int} {i : I5} {zs : List (ByteArray × Int)} (h : ¬ st.length < needN i) (h2 : (layP i (st.drop (st.length - needN i)) zs).2 = 0) (h3 : ¬ 64 < st.length - needN i + (layP i (st.drop (st.length - needN i)) zs).1.length) : aftP st i zs = (st.take (st.length - needN i) ++ (layP i (st.drop (st.length - needN i)) zs).1, 0) := by rw [aftP, if_neg h, if_neg (by simpa using h2), if_neg h3]
theorem arity_cnt {n : Int} (h : opE n = 0) : arityT (opN n) = (cntN (opN n) : Int) := by
  obtain ⟨r, h1, -, h2⟩ := opN_found h
  obtain ⟨a1, a2⟩ := arity_find (opN n)
  rcases Int.lt_or_le (arityT (opN n)) 1 with h3 | h3
  · rw [a1 h3] at h1; exact absurd h1 (by simp)
  · obtain ⟨r2, e1, e2⟩ := a2 h3
    rw [cntN, e1]; exact e2.symm
theorem info_stt : (Tryz.prog.info? 87).map (fun i => (i.zero, i.size, i.bytes)) = some (some (.agg #[.bool false, .slice none 0 0]), 2, 32) := by kernel_rfl
/-- Places of which nothing is known but that the first is reached. -/
theorem kn_madeD (w : World) (N g : Nat) (hg : g = w.heap.size) : KnAt (w.alloc (.cells ((madeCells #[.bool false, .slice none 0 0] ((N + 1) * 2)).setIfInBounds 0 (.bool true)) 87)) g (some [] :: List.replicate N none) := by
  subst hg
  have h0 : (w.alloc (.cells ((madeCells #[.bool false, .slice none 0 0] ((N + 1) * 2)).setIfInBounds 0 (.bool true)) 87)).cell? ⟨w.heap.size, 0, none⟩ = some (.bool true) := by
    rw [World.cell?_alloc_at _ _ _ _ rfl, Array.getElem?_setIfInBounds_self_of_lt (by rw [size_madeCells]; omega)]
  have hc : ∀ j, 0 < j → j < (N + 1) * 2 → (w.alloc (.cells ((madeCells #[.bool false, .slice none 0 0] ((N + 1) * 2)).setIfInBounds 0 (.bool true)) 87)).cell? ⟨w.heap.size, j, none⟩ = some (if j % 2 = 0 then .bool false else .slice none 0 0) := fun j h0 hj => by
    rw [World.cell?_alloc_at _ _ _ _ rfl, Array.getElem?_setIfInBounds_ne (by omega), made_pl _ _ hj]
  refine ⟨by simp, fun o => by rw [World.frozen?_alloc_at _ _ _ _ rfl], fun j hj => ?_⟩
  simp only [List.length_cons, List.length_replicate] at hj
  cases j with
  | zero =>
    refine ⟨?_, .slice none 0 0, ?_, ?_⟩
    · rw [Nat.zero_mul, h0]; rfl
    · rw [hc _ (by omega) (by omega), if_neg (by omega)]
    · exact StkAt.nil _ _
  | succ j =>
    refine ⟨?_, .slice none 0 0, ?_, ?_⟩
    · rw [hc _ (by omega) (by omega), if_pos (by omega)]; simp
    · rw [hc _ (by omega) (by omega), if_neg (by omega)]
    · simp only [List.getElem_cons_succ, List.getElem_replicate, Option.getD_none]
      exact StkAt.nil _ _
theorem run_stt (N : Nat) (hN : N ≤ 100000) (W : World) : Sem.run Tryz.prog (Instr.makeSlice 85 (.int .i64 ((N : Int) + 1)) (.int .i64 ((N : Int) + 1))) W = .ok (.slice (some ⟨W.heap.size, 0, none⟩) (N + 1) (N + 1)) (W.alloc (.cells (madeCells #[.bool false, .slice none 0 0] ((N + 1) * 2)) 87)) := by
  obtain ⟨i0, hi, hz0, hz1, hzz⟩ := info_parts info_stt
  have h := run_make (P := Tryz.prog) W 85 87 i0 _ Tryz.underlying85 hi hz0 .i64 .i64 ((N : Int) + 1) ((N : Int) + 1) (by omega) (by omega) (by rw [hzz]; omega) (by omega)
  rw [show ((N : Int) + 1).toNat = N + 1 by omega, hz1] at h
  exact h
theorem refSchemaD (v : Value) (zs : List (ByteArray × Int)) (w : World) (h : ColsV w v zs) : Calls Tryz.prog 26 #[v] w fun e w' => e = .returned (.int .i64 (schE zs)) ∧ w' = w := by
  obtain ⟨q, c, rfl, h⟩ := h
  rcases h with h | ⟨b, off, rfl, h1, h2, h3⟩
  · rw [h, schE, if_pos h]
    exact refSchema_none q c w
  · exact refSchema_any b off c zs w h2 h3
/-- A list of one's own made shorter. -/
theorem own_short {W : World} {B : Nat} {e : TypeId} {p : Option Addr} {c n k : Nat} {xs : List Value} (h : W.ownsRow B e 1 (.slice p n c) n xs) (hk : k ≤ n) : W.ownsRow B e 1 (.slice p k c) k (xs.take k) := by
  have hl : xs.length = n := by have := h.1; omega
  refine ⟨by rw [List.length_take]; omega, ?_⟩
  rcases h.2 with ⟨e1, e2⟩ | ⟨g, cap, cur, e1, hb, hg, hm, hx, hs, ht⟩
  · injection e1 with e1 e2 e3
    subst e1 e2 e3
    obtain rfl : k = 0 := by omega
    exact .inl ⟨rfl, rfl⟩
  · injection e1 with e1 e2 e3
    subst e1 e3
    refine .inr ⟨g, c, cur, rfl, hb, hg, by omega, hx, hs, ?_⟩
    rw [← ht, List.take_take]
    congr 1
    omega
theorem intC_take (l : List Int) (k : Nat) : (intC l).take k = intC (l.take k) := by
  rw [intC, intC, List.map_take]
/-- The lower end of a list of types, as a list of one's own. -/
theorem stk_slice_hp {w : World} {B : Nat} {p : Option Addr} {n c l : Nat} {ts : List Int} (h : StkAt w B (.slice p n c) ts) (hn : ts.length = n) (hl : l ≤ n) : ∀ W, Sem.run Tryz.prog (Instr.slice 58 (.slice p n c) none (some (.int .i64 (l : Int))) none) W = .ok (.slice p l c) W := by
  subst hn
  obtain ⟨p', c', e, ⟨h1, h64⟩, h2, h3⟩ := h
  injection e with e1 e2 e3
  subst e1 e3
  intro W
  have g0 : (0 : Int) ≤ (l : Int) := by omega
  have g1 : (l : Int) ≤ (c : Int) := by omega
  have g2 : Sem.run Tryz.prog (Go.sizeOf (Tryz.prog.elem 58)) W = .ok 1 W := by kernel_rfl
  rw [run_slice_h W 58 p ts.length c (by kernel_rfl) .i64 l g0 g1, g2]
  show Result.ok (sliced p 0 l c 1) W = _
  rw [sliced]
  cases p with
  | none => simp
  | some a =>
    obtain ⟨g, off, rfl, -⟩ := h3 a rfl
    simp [Addr.add]
/-- What is told where an instruction is wrong. -/
theorem ver_err {zs : List (ByteArray × Int)} {ks1 K2 : List Pl} {kk : Nat} {y : I5} {is js : List I5} {R : List Pl × Nat × Int} {A : Nat} {e E T M : Int} (hst : stepP zs ks1 kk y = (K2, e)) (he : e ≠ 0) (hR : (if (stepP zs ks1 kk y).2 ≠ 0 then (ks1, kk, (stepP zs ks1 kk y).2) else loopP zs (stepP zs ks1 kk y).1 (kk + 1) js) = R) (hA : (endP R).2 = (A, E)) (hT : typP is (endP R) = T) (hM : mostP (endP R) = M) : kk = A ∧ e = E ∧ 0 = T ∧ 0 = M := by
  rw [hst, if_pos he] at hR
  subst hR
  have h1 : endP (ks1, kk, e) = ([], kk, e) := by rw [endP, if_pos he]
  rw [h1] at hA hT hM
  obtain ⟨h2, h3⟩ := Prod.mk.inj hA
  rw [typP, if_pos he] at hT
  rw [mostP, if_pos he] at hM
  exact ⟨h2, h3, hT, hM⟩
end Go.Proofs.YtfhlhdddhgkinaaGreatDoor
