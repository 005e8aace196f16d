/-
  RefNo, RefNod, RefCk, RefRul, in one text.
-/
import Derived.Test.YtkoejkpjkcejcaaDoorGrAp
import Derived.Test.YtkoejkpjkcejcaaDoorGrAm
import Derived.Test.YtkoejkpjkcejcaaDoorQKdRuleC
import Derived.Deep.QuietTactic
import Derived.BigQuiet
namespace Go.Proofs.YtkoejkpjkcejcaaDoor
open Go.RowKit Go.BigFrame
set_option linter.unusedVariables false

mutual
/-- The first node that is wrong. -/
def ndE : Ex → Int
  | .node op nm vt vn vs pos l => if nodeE (.node op nm vt vn vs pos l) ≠ 0 then nodeE (.node op nm vt vn vs pos l) else ndsE l
def ndsE : List Ex → Int
  | [] => 0
  | x :: xs => if ndE x ≠ 0 then ndE x else ndsE xs
end
theorem fold_app (s : Int) (hs : s = 0) : ∀ (l m : List (Ex × Nat)), (foldP fck s (l ++ m)).1 = if (foldP fck s l).1 ≠ 0 then (foldP fck s l).1 else (foldP fck s m).1
  | [], m => by rw [List.nil_append, foldP]; simp [hs]
  | q :: r, m => by
    rw [List.cons_append, foldP, foldP]
    by_cases h : nodeE q.1 = 0
    · have h2 : (fck s q.1 q.2).2 = true := by simp [fck, h]
      rw [if_pos h2, if_pos h2]
      have h3 : (fck s q.1 q.2).1 = s := by rw [hs]; exact h
      rw [h3]
      exact fold_app s hs r m
    · have h2 : ¬ (fck s q.1 q.2).2 = true := by simp [fck, h]
      rw [if_neg h2, if_neg h2]
      have h3 : (fck s q.1 q.2).1 ≠ 0 := h
      simp only
      rw [if_pos h3]
theorem fold_nd : ∀ (x : Ex) (d : Nat), (foldP fck 0 (x.pre d)).1 = ndE x := by
  refine Ex.ind fun op nm vt vn vs pos l ih d => ?_
  have key : ∀ l : List Ex, (∀ y ∈ l, ∀ d, (foldP fck 0 (y.pre d)).1 = ndE y) → (foldP fck 0 (Ex.pres (d + 1) l)).1 = ndsE l := fun l => by
    induction l with
    | nil => intro _; rw [Ex.pres, ndsE, foldP]
    | cons y ys ihl =>
      intro h
      rw [Ex.pres, ndsE, fold_app 0 rfl, h y (by simp), ihl fun z hz => h z (by simp [hz])]
  rw [Ex.pre, ndE, foldP]
  by_cases h : nodeE (.node op nm vt vn vs pos l) = 0
  · have h2 : (fck 0 (.node op nm vt vn vs pos l) d).2 = true := by simp [fck, h]
    rw [if_pos h2, if_neg (fun hh => hh h)]
    have h3 : (fck 0 (.node op nm vt vn vs pos l) d).1 = 0 := h
    rw [h3]
    exact key l ih
  · have h2 : ¬ (fck 0 (.node op nm vt vn vs pos l) d).2 = true := by simp [fck, h]
    rw [if_neg h2, if_pos h]
    rfl
theorem ckP_nd (x : Ex) : ckP x = if x.small = false then 4 else ndE x := by
  rw [ckP, tg_small, fold_nd]
  cases x.small <;> simp
/-- What is wrong with a node, by the document's Arity. -/
theorem node_ar (x : Ex) : nodeE x = nodeB (decide (0 ≤ arityT x.op.data.toList)) (x.op.toList == [99, 111, 108]) (nameT x.nm.data.toList) ((x.args.length : Int) != arityT x.op.data.toList) (!(x.nm.toList == [])) (x.op.toList == [118, 97, 108]) (!((x.vt == 0) && ((x.vn == 0) && (x.vs.toList == [])))) (ckV x.vt x.vn x.vs.data.toList) := by
  obtain ⟨h1, h2⟩ := arity_ops x.op.data.toList
  rw [nodeE, h1]
  by_cases h : 0 ≤ arityT x.op.data.toList
  · rw [h2 h]
  · rw [decide_eq_false h]
    simp [nodeB]
end Go.Proofs.YtkoejkpjkcejcaaDoor
namespace Go.Proofs.YtkoejkpjkcejcaaDoor
open Go.RowKit Go.BigFrame
set_option linter.unusedVariables false

theorem ndsE_at {l : List Ex} {k : Nat} (h : k < l.length) : ndsE (l.drop k) = if ndE l[k] ≠ 0 then ndE l[k] else ndsE (l.drop (k + 1)) := by
  rw [List.drop_eq_getElem_cons h, ndsE]
set_option maxHeartbeats 8000000 in
set_option maxRecDepth 20000 in
theorem refNodes_any : ∀ (x : Ex) (lo : Nat → Prop) (v : Value) (w : World), ExIn w lo v x →
    Calls Tryd.prog 43 #[v] w fun e w' => e = .returned (.int .i64 (ndE x)) ∧ Below w.heap.size w w' := by
  refine Ex.ind fun op nm vt vn vs pos l ih lo v w hx => ?_
  rw [ExIn] at hx
  obtain ⟨p, ca, rfl, ⟨hm, hmc⟩, ho, hnm, hvs, hparts⟩ := hx
  obtain ⟨K, hK⟩ : ∃ K, ndE (.node op nm vt vn vs pos l) = K := ⟨_, rfl⟩
  rw [hK]
  obtain ⟨N0, hN0⟩ : ∃ N0, nodeE (.node op nm vt vn vs pos l) = N0 := ⟨_, rfl⟩
  rw [ndE, hN0] at hK
  rw [node_ar] at hN0
  simp only [Ex.op, Ex.nm, Ex.vt, Ex.vn, Ex.vs, Ex.args] at hN0
  unfold maxLen at hm
  have b1 : Below w.heap.size w (w.alloc (.cells #[.string op, .string nm, .int .i64 vt, .int .i64 vn, .string vs, .slice p l.length ca, .int .i64 pos] 27)) := (Below.refl _ w).alloc (Nat.le_refl _) _
  have cA := refArity_any op (w.alloc (.cells #[.string op, .string nm, .int .i64 vt, .int .i64 vn, .string vs, .slice p l.length ca, .int .i64 pos] 27))
  have cN := fun W => refName_any nm W hnm
  have cV := fun W => refVal_any vt vn vs W hvs
  obtain ⟨A, hAr⟩ : ∃ A, arityT op.data.toList = A := ⟨_, rfl⟩
  obtain ⟨NT, hNT⟩ : ∃ NT, nameT nm.data.toList = NT := ⟨_, rfl⟩
  rw [hAr] at cA
  rw [hNT] at cN
  simp only [hAr, hNT] at hN0
  have HAR : Hid (arityT op.data.toList = A) := hAr
  clear hAr hNT
  have HI : Aside (∀ y ∈ l, ∀ (lo : Nat → Prop) (v : Value) (w : World), ExIn w lo v y → Calls Tryd.prog 43 #[v] w fun e w' => e = .returned (.int .i64 (ndE y)) ∧ Below w.heap.size w w') := ih
  have HPA : Aside (l.length = 0 ∨ ∃ b off, p = some ⟨b, off, none⟩ ∧ b < w.heap.size ∧ lo b ∧ ExsIn w lo b off l) := hparts
  have box : Hid (∀ wr, Below (w.heap.size + 1) (w.alloc (.cells #[.string op, .string nm, .int .i64 vt, .int .i64 vn, .string vs, .slice p l.length ca, .int .i64 pos] 27)) wr → (wr.cell? ⟨w.heap.size, 0, none⟩ = some (.string op) ∧ wr.cell? ⟨w.heap.size, 1, none⟩ = some (.string nm) ∧ wr.cell? ⟨w.heap.size, 2, none⟩ = some (.int .i64 vt) ∧ wr.cell? ⟨w.heap.size, 3, none⟩ = some (.int .i64 vn) ∧ wr.cell? ⟨w.heap.size, 4, none⟩ = some (.string vs) ∧ wr.cell? ⟨w.heap.size, 5, none⟩ = some (.slice p l.length ca)) ∧ w.heap.size < wr.heap.size ∧ Below w.heap.size w wr) := fun wr hb => by
    obtain ⟨h1, _, h3⟩ := box_at w _ _ hb (Nat.lt_succ_self _)
    exact ⟨⟨h1 0, h1 1, h1 2, h1 3, h1 4, h1 5⟩, h3, b1.trans (hb.mono (Nat.le_succ _))⟩
  clear ih hparts b1
  by_cases hA : A < 0
  · have hA0 : ¬ 0 ≤ A := by omega
    simp [nodeB, hA0] at hN0
    subst hN0
    simp at hK
    subst hK
    go_enter Tryd.func43, Tryd.ntmps43
    go_wp2_with fail
    refine cA.mono ?_
    rintro e w1 ⟨rfl, b2⟩
    have B2 : Below (w.heap.size + 1) (w.alloc (.cells #[.string op, .string nm, .int .i64 vt, .int .i64 vn, .string vs, .slice p l.length ca, .int .i64 pos] 27)) w1 := b2.mono (by simp)
    obtain ⟨⟨k0, k1, k2, k3, k4, k5⟩, hl1, _⟩ := box.out w1 B2
    clear cA b2
    go_wp2_with fail
    refine (cN _).mono ?_
    rintro e w2 ⟨rfl, b3⟩
    have B3 : Below (w.heap.size + 1) (w.alloc (.cells #[.string op, .string nm, .int .i64 vt, .int .i64 vn, .string vs, .slice p l.length ca, .int .i64 pos] 27)) w2 := B2.trans (b3.mono hl1)
    obtain ⟨⟨j0, j1, j2, j3, j4, j5⟩, hl2, bw2⟩ := box.out w2 B3
    clear cN b3 k0 k1 k2 k3 k4 k5 B2
    go_wp2
    go_ret
    exact ⟨rfl, bw2⟩
  · have hA0 : 0 ≤ A := by omega
    cases hic : (op.toList == [99, 111, 108])
    · skip
      cases hln : ((l.length : Int) != A)
      · skip
        cases hnn : (nm.toList == [])
        · skip
          simp [nodeB, hA0, hic, hln, hnn] at hN0
          subst hN0
          simp at hK
          subst hK
          go_enter Tryd.func43, Tryd.ntmps43
          go_wp2_with fail
          refine cA.mono ?_
          rintro e w1 ⟨rfl, b2⟩
          have B2 : Below (w.heap.size + 1) (w.alloc (.cells #[.string op, .string nm, .int .i64 vt, .int .i64 vn, .string vs, .slice p l.length ca, .int .i64 pos] 27)) w1 := b2.mono (by simp)
          obtain ⟨⟨k0, k1, k2, k3, k4, k5⟩, hl1, _⟩ := box.out w1 B2
          clear cA b2
          go_wp2_with fail
          refine (cN _).mono ?_
          rintro e w2 ⟨rfl, b3⟩
          have B3 : Below (w.heap.size + 1) (w.alloc (.cells #[.string op, .string nm, .int .i64 vt, .int .i64 vn, .string vs, .slice p l.length ca, .int .i64 pos] 27)) w2 := B2.trans (b3.mono hl1)
          obtain ⟨⟨j0, j1, j2, j3, j4, j5⟩, hl2, bw2⟩ := box.out w2 B3
          clear cN b3 k0 k1 k2 k3 k4 k5 B2
          go_wp2
          go_ret
          exact ⟨rfl, bw2⟩
        · skip
          cases hiv : (op.toList == [118, 97, 108])
          · skip
            by_cases h1 : vt = 0
            · have g1 : (vt != 0) = false := by simpa using h1
              by_cases h2 : vn = 0
              · have g2 : (vn != 0) = false := by simpa using h2
                cases g3 : (vs.toList == [])
                · skip
                  simp [nodeB, hA0, hic, hln, hnn, hiv, h1, h2, g3] at hN0
                  subst hN0
                  simp at hK
                  subst hK
                  clear h1 h2
                  go_enter Tryd.func43, Tryd.ntmps43
                  go_wp2_with fail
                  refine cA.mono ?_
                  rintro e w1 ⟨rfl, b2⟩
                  have B2 : Below (w.heap.size + 1) (w.alloc (.cells #[.string op, .string nm, .int .i64 vt, .int .i64 vn, .string vs, .slice p l.length ca, .int .i64 pos] 27)) w1 := b2.mono (by simp)
                  obtain ⟨⟨k0, k1, k2, k3, k4, k5⟩, hl1, _⟩ := box.out w1 B2
                  clear cA b2
                  go_wp2_with fail
                  refine (cN _).mono ?_
                  rintro e w2 ⟨rfl, b3⟩
                  have B3 : Below (w.heap.size + 1) (w.alloc (.cells #[.string op, .string nm, .int .i64 vt, .int .i64 vn, .string vs, .slice p l.length ca, .int .i64 pos] 27)) w2 := B2.trans (b3.mono hl1)
                  obtain ⟨⟨j0, j1, j2, j3, j4, j5⟩, hl2, bw2⟩ := box.out w2 B3
                  clear cN b3 k0 k1 k2 k3 k4 k5 B2
                  go_wp2
                  go_ret
                  exact ⟨rfl, bw2⟩
                · skip
                  simp [nodeB, hA0, hic, hln, hnn, hiv, h1, h2, g3] at hN0
                  subst hN0
                  simp at hK
                  have HK : Hid (ndsE l = K) := hK
                  clear hK h1 h2 cV
                  go_enter Tryd.func43, Tryd.ntmps43
                  go_wp2_with fail
                  refine cA.mono ?_
                  rintro e w1 ⟨rfl, b2⟩
                  have B2 : Below (w.heap.size + 1) (w.alloc (.cells #[.string op, .string nm, .int .i64 vt, .int .i64 vn, .string vs, .slice p l.length ca, .int .i64 pos] 27)) w1 := b2.mono (by simp)
                  obtain ⟨⟨k0, k1, k2, k3, k4, k5⟩, hl1, _⟩ := box.out w1 B2
                  clear cA b2
                  go_wp2_with fail
                  refine (cN _).mono ?_
                  rintro e w2 ⟨rfl, b3⟩
                  have B3 : Below (w.heap.size + 1) (w.alloc (.cells #[.string op, .string nm, .int .i64 vt, .int .i64 vn, .string vs, .slice p l.length ca, .int .i64 pos] 27)) w2 := B2.trans (b3.mono hl1)
                  obtain ⟨⟨j0, j1, j2, j3, j4, j5⟩, hl2, bw2⟩ := box.out w2 B3
                  clear cN b3 k0 k1 k2 k3 k4 k5 B2
                  go_wp2
                  go_loopg [6, 7] l.length (fun gg s6 _ wr => ∃ kk : Nat, kk ≤ l.length ∧ l.length - kk ≤ gg ∧ s6 = .int .i64 kk ∧ Aside (Below (w.heap.size + 1) (w.alloc (.cells #[.string op, .string nm, .int .i64 vt, .int .i64 vn, .string vs, .slice p l.length ca, .int .i64 pos] 27)) wr) ∧ Hid (ndsE (l.drop kk) = K))
                  case atStart => exact ⟨0, Nat.zero_le _, by omega, rfl, B3, HK⟩
                  case round =>
                    obtain ⟨kk, hkk, hg, rfl, BW, HG⟩ := hrel
                    obtain ⟨⟨r0, r1, r2, r3, r4, r5⟩, hlr, bwr⟩ := box.out wr BW.out
                    clear j0 j1 j2 j3 j4 j5 B3
                    by_cases hlt : kk < l.length
                    · have hltz : (kk : Int) < (l.length : Int) := by omega
                      have h0z : (0 : Int) ≤ (kk : Int) := by omega
                      rcases HPA.out with h | ⟨ba, oa, rfl, hbl, hlo, hE⟩
                      · exact absurd h (by omega)
                      obtain ⟨v0, v1, v2, v3, v4, v5, v6, e0, e1, e2, e3, e4, e5, e6, hy⟩ := exsIn_at w lo ba l oa hE kk hlt
                      obtain ⟨u0, u1, u2, u3, u4, u5, u6, u7, u8, huu⟩ := hy.agg
                      injection huu with huu
                      simp only [Array.mk.injEq, List.cons.injEq, and_true] at huu
                      obtain ⟨rfl, rfl, rfl, rfl, rfl, rfl, rfl⟩ := huu
                      have kA : ∀ o, wr.cell? ⟨ba, o, none⟩ = w.cell? ⟨ba, o, none⟩ := fun o => bwr.cell (p := ⟨ba, o, none⟩) hbl
                      rw [← kA] at e0 e1 e2 e3 e4 e5 e6
                      have hblr : ba < wr.heap.size := by have := bwr.size; omega
                      have cY := HI.out _ (List.getElem_mem hlt) lo _ wr (hy.on bwr)
                      have hat := (ndsE_at hlt).symm.trans HG.out
                      generalize ndE l[kk] = E at cY hat
                      have HKL : Hid (kk < l.length) := hlt
                      clear hE kA hy HG
                      by_cases hE0 : E = 0
                      · subst hE0
                        rw [if_neg (by simp)] at hat
                        have HG2 : Hid (ndsE (l.drop (kk + 1)) = K) := hat
                        clear hat
                        go_wp2_with fail
                        refine cY.mono ?_
                        rintro e w4 ⟨rfl, b4⟩
                        have BW4 : Aside (Below (w.heap.size + 1) (w.alloc (.cells #[.string op, .string nm, .int .i64 vt, .int .i64 vn, .string vs, .slice (some ⟨ba, oa, none⟩) l.length ca, .int .i64 pos] 27)) w4) := BW.out.trans (b4.mono hlr)
                        clear cY b4
                        go_wp2
                        go_roundg (l.length - (kk + 1))
                        case measure => have := HKL.out; omega
                        case rel => exact ⟨kk + 1, by have := HKL.out; omega, by omega, by go_num, BW4, HG2⟩
                      · rw [if_pos hE0] at hat
                        subst hat
                        have hEb : (E != 0) = true := by simpa using hE0
                        clear hE0
                        go_wp2_with fail
                        refine cY.mono ?_
                        rintro e w4 ⟨rfl, b4⟩
                        have b5 : Below w.heap.size w w4 := bwr.trans (b4.mono bwr.size)
                        clear cY b4
                        go_wp2
                        go_ret
                        exact ⟨rfl, b5⟩
                    · have hltz : ¬ (kk : Int) < (l.length : Int) := by omega
                      have hk0 : K = 0 := by rw [← HG.out, List.drop_eq_nil_of_le (by omega), ndsE]
                      subst hk0
                      clear HG HK
                      go_wp2
                      go_ret
                      exact ⟨rfl, bwr⟩
              · have g2 : (vn != 0) = true := by simpa using h2
                simp [nodeB, hA0, hic, hln, hnn, hiv, h1, h2] at hN0
                subst hN0
                simp at hK
                subst hK
                clear h1 h2
                go_enter Tryd.func43, Tryd.ntmps43
                go_wp2_with fail
                refine cA.mono ?_
                rintro e w1 ⟨rfl, b2⟩
                have B2 : Below (w.heap.size + 1) (w.alloc (.cells #[.string op, .string nm, .int .i64 vt, .int .i64 vn, .string vs, .slice p l.length ca, .int .i64 pos] 27)) w1 := b2.mono (by simp)
                obtain ⟨⟨k0, k1, k2, k3, k4, k5⟩, hl1, _⟩ := box.out w1 B2
                clear cA b2
                go_wp2_with fail
                refine (cN _).mono ?_
                rintro e w2 ⟨rfl, b3⟩
                have B3 : Below (w.heap.size + 1) (w.alloc (.cells #[.string op, .string nm, .int .i64 vt, .int .i64 vn, .string vs, .slice p l.length ca, .int .i64 pos] 27)) w2 := B2.trans (b3.mono hl1)
                obtain ⟨⟨j0, j1, j2, j3, j4, j5⟩, hl2, bw2⟩ := box.out w2 B3
                clear cN b3 k0 k1 k2 k3 k4 k5 B2
                go_wp2
                go_ret
                exact ⟨rfl, bw2⟩
            · have g1 : (vt != 0) = true := by simpa using h1
              simp [nodeB, hA0, hic, hln, hnn, hiv, h1] at hN0
              subst hN0
              simp at hK
              subst hK
              clear h1
              go_enter Tryd.func43, Tryd.ntmps43
              go_wp2_with fail
              refine cA.mono ?_
              rintro e w1 ⟨rfl, b2⟩
              have B2 : Below (w.heap.size + 1) (w.alloc (.cells #[.string op, .string nm, .int .i64 vt, .int .i64 vn, .string vs, .slice p l.length ca, .int .i64 pos] 27)) w1 := b2.mono (by simp)
              obtain ⟨⟨k0, k1, k2, k3, k4, k5⟩, hl1, _⟩ := box.out w1 B2
              clear cA b2
              go_wp2_with fail
              refine (cN _).mono ?_
              rintro e w2 ⟨rfl, b3⟩
              have B3 : Below (w.heap.size + 1) (w.alloc (.cells #[.string op, .string nm, .int .i64 vt, .int .i64 vn, .string vs, .slice p l.length ca, .int .i64 pos] 27)) w2 := B2.trans (b3.mono hl1)
              obtain ⟨⟨j0, j1, j2, j3, j4, j5⟩, hl2, bw2⟩ := box.out w2 B3
              clear cN b3 k0 k1 k2 k3 k4 k5 B2
              go_wp2
              go_ret
              exact ⟨rfl, bw2⟩
          · skip
            simp [nodeB, hA0, hic, hln, hnn, hiv] at hN0
            have hop : op.data.toList = [118, 97, 108] := by rw [← Lib.toList_data]; simpa using hiv
            have hA2 : A = 0 := by rw [← HAR.out, hop]; decide
            have hl0z : (l.length : Int) = A := by simpa using hln
            have hl0 : l.length = 0 := by omega
            have hnil : l = [] := List.length_eq_zero_iff.1 hl0
            have hKc : ckV vt vn vs.data.toList = K := by rw [← hK, hnil, ndsE, ← hN0]; by_cases h : ckV vt vn vs.data.toList = 0 <;> simp [h]
            clear hK hN0 hnil hl0 hl0z hA2 hop HPA HI
            obtain ⟨C, hC⟩ : ∃ C, chk vt vn vs.data.toList = C := ⟨_, rfl⟩
            rw [ckV, hC] at hKc
            rw [hC] at cV
            clear hC
            by_cases hC0 : C = 0
            · subst hC0
              rw [if_neg (by simp)] at hKc
              by_cases hv1 : vt = 1
              · have g1 : (vt == 1) = true := by simpa using hv1
                by_cases hv2 : vn < 0
                · rw [if_pos ⟨hv1, hv2⟩] at hKc
                  subst hKc
                  clear hv1
                  go_enter Tryd.func43, Tryd.ntmps43
                  go_wp2_with fail
                  refine cA.mono ?_
                  rintro e w1 ⟨rfl, b2⟩
                  have B2 : Below (w.heap.size + 1) (w.alloc (.cells #[.string op, .string nm, .int .i64 vt, .int .i64 vn, .string vs, .slice p l.length ca, .int .i64 pos] 27)) w1 := b2.mono (by simp)
                  obtain ⟨⟨k0, k1, k2, k3, k4, k5⟩, hl1, _⟩ := box.out w1 B2
                  clear cA b2
                  go_wp2_with fail
                  refine (cN _).mono ?_
                  rintro e w2 ⟨rfl, b3⟩
                  have B3 : Below (w.heap.size + 1) (w.alloc (.cells #[.string op, .string nm, .int .i64 vt, .int .i64 vn, .string vs, .slice p l.length ca, .int .i64 pos] 27)) w2 := B2.trans (b3.mono hl1)
                  obtain ⟨⟨j0, j1, j2, j3, j4, j5⟩, hl2, bw2⟩ := box.out w2 B3
                  clear cN b3 k0 k1 k2 k3 k4 k5 B2
                  go_wp2_with fail
                  refine (cV _).mono ?_
                  rintro e w3 ⟨rfl, b4⟩
                  have B4 : Below (w.heap.size + 1) (w.alloc (.cells #[.string op, .string nm, .int .i64 vt, .int .i64 vn, .string vs, .slice p l.length ca, .int .i64 pos] 27)) w3 := B3.trans (b4.mono hl2)
                  obtain ⟨⟨m0, m1, m2, m3, m4, m5⟩, hl3, bw3⟩ := box.out w3 B4
                  clear cV b4
                  go_wp2
                  go_ret
                  exact ⟨rfl, bw3⟩
                · rw [if_neg (fun hh => hv2 hh.2)] at hKc
                  subst hKc
                  clear hv1
                  go_enter Tryd.func43, Tryd.ntmps43
                  go_wp2_with fail
                  refine cA.mono ?_
                  rintro e w1 ⟨rfl, b2⟩
                  have B2 : Below (w.heap.size + 1) (w.alloc (.cells #[.string op, .string nm, .int .i64 vt, .int .i64 vn, .string vs, .slice p l.length ca, .int .i64 pos] 27)) w1 := b2.mono (by simp)
                  obtain ⟨⟨k0, k1, k2, k3, k4, k5⟩, hl1, _⟩ := box.out w1 B2
                  clear cA b2
                  go_wp2_with fail
                  refine (cN _).mono ?_
                  rintro e w2 ⟨rfl, b3⟩
                  have B3 : Below (w.heap.size + 1) (w.alloc (.cells #[.string op, .string nm, .int .i64 vt, .int .i64 vn, .string vs, .slice p l.length ca, .int .i64 pos] 27)) w2 := B2.trans (b3.mono hl1)
                  obtain ⟨⟨j0, j1, j2, j3, j4, j5⟩, hl2, bw2⟩ := box.out w2 B3
                  clear cN b3 k0 k1 k2 k3 k4 k5 B2
                  go_wp2_with fail
                  refine (cV _).mono ?_
                  rintro e w3 ⟨rfl, b4⟩
                  have B4 : Below (w.heap.size + 1) (w.alloc (.cells #[.string op, .string nm, .int .i64 vt, .int .i64 vn, .string vs, .slice p l.length ca, .int .i64 pos] 27)) w3 := B3.trans (b4.mono hl2)
                  obtain ⟨⟨m0, m1, m2, m3, m4, m5⟩, hl3, bw3⟩ := box.out w3 B4
                  clear cV b4
                  go_wp2
                  go_ret
                  exact ⟨rfl, bw3⟩
              · have g1 : (vt == 1) = false := by simpa using hv1
                rw [if_neg (fun hh => hv1 hh.1)] at hKc
                subst hKc
                clear hv1
                go_enter Tryd.func43, Tryd.ntmps43
                go_wp2_with fail
                refine cA.mono ?_
                rintro e w1 ⟨rfl, b2⟩
                have B2 : Below (w.heap.size + 1) (w.alloc (.cells #[.string op, .string nm, .int .i64 vt, .int .i64 vn, .string vs, .slice p l.length ca, .int .i64 pos] 27)) w1 := b2.mono (by simp)
                obtain ⟨⟨k0, k1, k2, k3, k4, k5⟩, hl1, _⟩ := box.out w1 B2
                clear cA b2
                go_wp2_with fail
                refine (cN _).mono ?_
                rintro e w2 ⟨rfl, b3⟩
                have B3 : Below (w.heap.size + 1) (w.alloc (.cells #[.string op, .string nm, .int .i64 vt, .int .i64 vn, .string vs, .slice p l.length ca, .int .i64 pos] 27)) w2 := B2.trans (b3.mono hl1)
                obtain ⟨⟨j0, j1, j2, j3, j4, j5⟩, hl2, bw2⟩ := box.out w2 B3
                clear cN b3 k0 k1 k2 k3 k4 k5 B2
                go_wp2_with fail
                refine (cV _).mono ?_
                rintro e w3 ⟨rfl, b4⟩
                have B4 : Below (w.heap.size + 1) (w.alloc (.cells #[.string op, .string nm, .int .i64 vt, .int .i64 vn, .string vs, .slice p l.length ca, .int .i64 pos] 27)) w3 := B3.trans (b4.mono hl2)
                obtain ⟨⟨m0, m1, m2, m3, m4, m5⟩, hl3, bw3⟩ := box.out w3 B4
                clear cV b4
                go_wp2
                go_ret
                exact ⟨rfl, bw3⟩
            · have g0 : (C == 0) = false := by simpa using hC0
              rw [if_pos hC0] at hKc
              subst hKc
              go_enter Tryd.func43, Tryd.ntmps43
              go_wp2_with fail
              refine cA.mono ?_
              rintro e w1 ⟨rfl, b2⟩
              have B2 : Below (w.heap.size + 1) (w.alloc (.cells #[.string op, .string nm, .int .i64 vt, .int .i64 vn, .string vs, .slice p l.length ca, .int .i64 pos] 27)) w1 := b2.mono (by simp)
              obtain ⟨⟨k0, k1, k2, k3, k4, k5⟩, hl1, _⟩ := box.out w1 B2
              clear cA b2
              go_wp2_with fail
              refine (cN _).mono ?_
              rintro e w2 ⟨rfl, b3⟩
              have B3 : Below (w.heap.size + 1) (w.alloc (.cells #[.string op, .string nm, .int .i64 vt, .int .i64 vn, .string vs, .slice p l.length ca, .int .i64 pos] 27)) w2 := B2.trans (b3.mono hl1)
              obtain ⟨⟨j0, j1, j2, j3, j4, j5⟩, hl2, bw2⟩ := box.out w2 B3
              clear cN b3 k0 k1 k2 k3 k4 k5 B2
              go_wp2_with fail
              refine (cV _).mono ?_
              rintro e w3 ⟨rfl, b4⟩
              have B4 : Below (w.heap.size + 1) (w.alloc (.cells #[.string op, .string nm, .int .i64 vt, .int .i64 vn, .string vs, .slice p l.length ca, .int .i64 pos] 27)) w3 := B3.trans (b4.mono hl2)
              obtain ⟨⟨m0, m1, m2, m3, m4, m5⟩, hl3, bw3⟩ := box.out w3 B4
              clear cV b4
              go_wp2
              go_ret
              exact ⟨rfl, bw3⟩
      · skip
        simp [nodeB, hA0, hic, hln] at hN0
        subst hN0
        simp at hK
        subst hK
        go_enter Tryd.func43, Tryd.ntmps43
        go_wp2_with fail
        refine cA.mono ?_
        rintro e w1 ⟨rfl, b2⟩
        have B2 : Below (w.heap.size + 1) (w.alloc (.cells #[.string op, .string nm, .int .i64 vt, .int .i64 vn, .string vs, .slice p l.length ca, .int .i64 pos] 27)) w1 := b2.mono (by simp)
        obtain ⟨⟨k0, k1, k2, k3, k4, k5⟩, hl1, _⟩ := box.out w1 B2
        clear cA b2
        go_wp2_with fail
        refine (cN _).mono ?_
        rintro e w2 ⟨rfl, b3⟩
        have B3 : Below (w.heap.size + 1) (w.alloc (.cells #[.string op, .string nm, .int .i64 vt, .int .i64 vn, .string vs, .slice p l.length ca, .int .i64 pos] 27)) w2 := B2.trans (b3.mono hl1)
        obtain ⟨⟨j0, j1, j2, j3, j4, j5⟩, hl2, bw2⟩ := box.out w2 B3
        clear cN b3 k0 k1 k2 k3 k4 k5 B2
        go_wp2
        go_ret
        exact ⟨rfl, bw2⟩
    · cases hnt : NT
      · skip
        simp [nodeB, hA0, hic, hnt] at hN0
        subst hN0
        simp at hK
        subst hK
        subst hnt
        go_enter Tryd.func43, Tryd.ntmps43
        go_wp2_with fail
        refine cA.mono ?_
        rintro e w1 ⟨rfl, b2⟩
        have B2 : Below (w.heap.size + 1) (w.alloc (.cells #[.string op, .string nm, .int .i64 vt, .int .i64 vn, .string vs, .slice p l.length ca, .int .i64 pos] 27)) w1 := b2.mono (by simp)
        obtain ⟨⟨k0, k1, k2, k3, k4, k5⟩, hl1, _⟩ := box.out w1 B2
        clear cA b2
        go_wp2_with fail
        refine (cN _).mono ?_
        rintro e w2 ⟨rfl, b3⟩
        have B3 : Below (w.heap.size + 1) (w.alloc (.cells #[.string op, .string nm, .int .i64 vt, .int .i64 vn, .string vs, .slice p l.length ca, .int .i64 pos] 27)) w2 := B2.trans (b3.mono hl1)
        obtain ⟨⟨j0, j1, j2, j3, j4, j5⟩, hl2, bw2⟩ := box.out w2 B3
        clear cN b3 k0 k1 k2 k3 k4 k5 B2
        go_wp2
        go_ret
        exact ⟨rfl, bw2⟩
      · skip
        subst hnt
        cases hln : ((l.length : Int) != A)
        · skip
          have hiv : (op.toList == [118, 97, 108]) = false := by
            have h := hic
            rw [beq_iff_eq] at h
            rw [h]; decide
          by_cases h1 : vt = 0
          · have g1 : (vt != 0) = false := by simpa using h1
            by_cases h2 : vn = 0
            · have g2 : (vn != 0) = false := by simpa using h2
              cases g3 : (vs.toList == [])
              · skip
                simp [nodeB, hA0, hic, hln, hiv, h1, h2, g3] at hN0
                subst hN0
                simp at hK
                subst hK
                clear h1 h2
                go_enter Tryd.func43, Tryd.ntmps43
                go_wp2_with fail
                refine cA.mono ?_
                rintro e w1 ⟨rfl, b2⟩
                have B2 : Below (w.heap.size + 1) (w.alloc (.cells #[.string op, .string nm, .int .i64 vt, .int .i64 vn, .string vs, .slice p l.length ca, .int .i64 pos] 27)) w1 := b2.mono (by simp)
                obtain ⟨⟨k0, k1, k2, k3, k4, k5⟩, hl1, _⟩ := box.out w1 B2
                clear cA b2
                go_wp2_with fail
                refine (cN _).mono ?_
                rintro e w2 ⟨rfl, b3⟩
                have B3 : Below (w.heap.size + 1) (w.alloc (.cells #[.string op, .string nm, .int .i64 vt, .int .i64 vn, .string vs, .slice p l.length ca, .int .i64 pos] 27)) w2 := B2.trans (b3.mono hl1)
                obtain ⟨⟨j0, j1, j2, j3, j4, j5⟩, hl2, bw2⟩ := box.out w2 B3
                clear cN b3 k0 k1 k2 k3 k4 k5 B2
                go_wp2
                go_ret
                exact ⟨rfl, bw2⟩
              · skip
                simp [nodeB, hA0, hic, hln, hiv, h1, h2, g3] at hN0
                subst hN0
                simp at hK
                have HK : Hid (ndsE l = K) := hK
                clear hK h1 h2 cV
                go_enter Tryd.func43, Tryd.ntmps43
                go_wp2_with fail
                refine cA.mono ?_
                rintro e w1 ⟨rfl, b2⟩
                have B2 : Below (w.heap.size + 1) (w.alloc (.cells #[.string op, .string nm, .int .i64 vt, .int .i64 vn, .string vs, .slice p l.length ca, .int .i64 pos] 27)) w1 := b2.mono (by simp)
                obtain ⟨⟨k0, k1, k2, k3, k4, k5⟩, hl1, _⟩ := box.out w1 B2
                clear cA b2
                go_wp2_with fail
                refine (cN _).mono ?_
                rintro e w2 ⟨rfl, b3⟩
                have B3 : Below (w.heap.size + 1) (w.alloc (.cells #[.string op, .string nm, .int .i64 vt, .int .i64 vn, .string vs, .slice p l.length ca, .int .i64 pos] 27)) w2 := B2.trans (b3.mono hl1)
                obtain ⟨⟨j0, j1, j2, j3, j4, j5⟩, hl2, bw2⟩ := box.out w2 B3
                clear cN b3 k0 k1 k2 k3 k4 k5 B2
                go_wp2
                go_loopg [6, 7] l.length (fun gg s6 _ wr => ∃ kk : Nat, kk ≤ l.length ∧ l.length - kk ≤ gg ∧ s6 = .int .i64 kk ∧ Aside (Below (w.heap.size + 1) (w.alloc (.cells #[.string op, .string nm, .int .i64 vt, .int .i64 vn, .string vs, .slice p l.length ca, .int .i64 pos] 27)) wr) ∧ Hid (ndsE (l.drop kk) = K))
                case atStart => exact ⟨0, Nat.zero_le _, by omega, rfl, B3, HK⟩
                case round =>
                  obtain ⟨kk, hkk, hg, rfl, BW, HG⟩ := hrel
                  obtain ⟨⟨r0, r1, r2, r3, r4, r5⟩, hlr, bwr⟩ := box.out wr BW.out
                  clear j0 j1 j2 j3 j4 j5 B3
                  by_cases hlt : kk < l.length
                  · have hltz : (kk : Int) < (l.length : Int) := by omega
                    have h0z : (0 : Int) ≤ (kk : Int) := by omega
                    rcases HPA.out with h | ⟨ba, oa, rfl, hbl, hlo, hE⟩
                    · exact absurd h (by omega)
                    obtain ⟨v0, v1, v2, v3, v4, v5, v6, e0, e1, e2, e3, e4, e5, e6, hy⟩ := exsIn_at w lo ba l oa hE kk hlt
                    obtain ⟨u0, u1, u2, u3, u4, u5, u6, u7, u8, huu⟩ := hy.agg
                    injection huu with huu
                    simp only [Array.mk.injEq, List.cons.injEq, and_true] at huu
                    obtain ⟨rfl, rfl, rfl, rfl, rfl, rfl, rfl⟩ := huu
                    have kA : ∀ o, wr.cell? ⟨ba, o, none⟩ = w.cell? ⟨ba, o, none⟩ := fun o => bwr.cell (p := ⟨ba, o, none⟩) hbl
                    rw [← kA] at e0 e1 e2 e3 e4 e5 e6
                    have hblr : ba < wr.heap.size := by have := bwr.size; omega
                    have cY := HI.out _ (List.getElem_mem hlt) lo _ wr (hy.on bwr)
                    have hat := (ndsE_at hlt).symm.trans HG.out
                    generalize ndE l[kk] = E at cY hat
                    have HKL : Hid (kk < l.length) := hlt
                    clear hE kA hy HG
                    by_cases hE0 : E = 0
                    · subst hE0
                      rw [if_neg (by simp)] at hat
                      have HG2 : Hid (ndsE (l.drop (kk + 1)) = K) := hat
                      clear hat
                      go_wp2_with fail
                      refine cY.mono ?_
                      rintro e w4 ⟨rfl, b4⟩
                      have BW4 : Aside (Below (w.heap.size + 1) (w.alloc (.cells #[.string op, .string nm, .int .i64 vt, .int .i64 vn, .string vs, .slice (some ⟨ba, oa, none⟩) l.length ca, .int .i64 pos] 27)) w4) := BW.out.trans (b4.mono hlr)
                      clear cY b4
                      go_wp2
                      go_roundg (l.length - (kk + 1))
                      case measure => have := HKL.out; omega
                      case rel => exact ⟨kk + 1, by have := HKL.out; omega, by omega, by go_num, BW4, HG2⟩
                    · rw [if_pos hE0] at hat
                      subst hat
                      have hEb : (E != 0) = true := by simpa using hE0
                      clear hE0
                      go_wp2_with fail
                      refine cY.mono ?_
                      rintro e w4 ⟨rfl, b4⟩
                      have b5 : Below w.heap.size w w4 := bwr.trans (b4.mono bwr.size)
                      clear cY b4
                      go_wp2
                      go_ret
                      exact ⟨rfl, b5⟩
                  · have hltz : ¬ (kk : Int) < (l.length : Int) := by omega
                    have hk0 : K = 0 := by rw [← HG.out, List.drop_eq_nil_of_le (by omega), ndsE]
                    subst hk0
                    clear HG HK
                    go_wp2
                    go_ret
                    exact ⟨rfl, bwr⟩
            · have g2 : (vn != 0) = true := by simpa using h2
              simp [nodeB, hA0, hic, hln, hiv, h1, h2] at hN0
              subst hN0
              simp at hK
              subst hK
              clear h1 h2
              go_enter Tryd.func43, Tryd.ntmps43
              go_wp2_with fail
              refine cA.mono ?_
              rintro e w1 ⟨rfl, b2⟩
              have B2 : Below (w.heap.size + 1) (w.alloc (.cells #[.string op, .string nm, .int .i64 vt, .int .i64 vn, .string vs, .slice p l.length ca, .int .i64 pos] 27)) w1 := b2.mono (by simp)
              obtain ⟨⟨k0, k1, k2, k3, k4, k5⟩, hl1, _⟩ := box.out w1 B2
              clear cA b2
              go_wp2_with fail
              refine (cN _).mono ?_
              rintro e w2 ⟨rfl, b3⟩
              have B3 : Below (w.heap.size + 1) (w.alloc (.cells #[.string op, .string nm, .int .i64 vt, .int .i64 vn, .string vs, .slice p l.length ca, .int .i64 pos] 27)) w2 := B2.trans (b3.mono hl1)
              obtain ⟨⟨j0, j1, j2, j3, j4, j5⟩, hl2, bw2⟩ := box.out w2 B3
              clear cN b3 k0 k1 k2 k3 k4 k5 B2
              go_wp2
              go_ret
              exact ⟨rfl, bw2⟩
          · have g1 : (vt != 0) = true := by simpa using h1
            simp [nodeB, hA0, hic, hln, hiv, h1] at hN0
            subst hN0
            simp at hK
            subst hK
            clear h1
            go_enter Tryd.func43, Tryd.ntmps43
            go_wp2_with fail
            refine cA.mono ?_
            rintro e w1 ⟨rfl, b2⟩
            have B2 : Below (w.heap.size + 1) (w.alloc (.cells #[.string op, .string nm, .int .i64 vt, .int .i64 vn, .string vs, .slice p l.length ca, .int .i64 pos] 27)) w1 := b2.mono (by simp)
            obtain ⟨⟨k0, k1, k2, k3, k4, k5⟩, hl1, _⟩ := box.out w1 B2
            clear cA b2
            go_wp2_with fail
            refine (cN _).mono ?_
            rintro e w2 ⟨rfl, b3⟩
            have B3 : Below (w.heap.size + 1) (w.alloc (.cells #[.string op, .string nm, .int .i64 vt, .int .i64 vn, .string vs, .slice p l.length ca, .int .i64 pos] 27)) w2 := B2.trans (b3.mono hl1)
            obtain ⟨⟨j0, j1, j2, j3, j4, j5⟩, hl2, bw2⟩ := box.out w2 B3
            clear cN b3 k0 k1 k2 k3 k4 k5 B2
            go_wp2
            go_ret
            exact ⟨rfl, bw2⟩
        · skip
          simp [nodeB, hA0, hic, hln] at hN0
          subst hN0
          simp at hK
          subst hK
          go_enter Tryd.func43, Tryd.ntmps43
          go_wp2_with fail
          refine cA.mono ?_
          rintro e w1 ⟨rfl, b2⟩
          have B2 : Below (w.heap.size + 1) (w.alloc (.cells #[.string op, .string nm, .int .i64 vt, .int .i64 vn, .string vs, .slice p l.length ca, .int .i64 pos] 27)) w1 := b2.mono (by simp)
          obtain ⟨⟨k0, k1, k2, k3, k4, k5⟩, hl1, _⟩ := box.out w1 B2
          clear cA b2
          go_wp2_with fail
          refine (cN _).mono ?_
          rintro e w2 ⟨rfl, b3⟩
          have B3 : Below (w.heap.size + 1) (w.alloc (.cells #[.string op, .string nm, .int .i64 vt, .int .i64 vn, .string vs, .slice p l.length ca, .int .i64 pos] 27)) w2 := B2.trans (b3.mono hl1)
          obtain ⟨⟨j0, j1, j2, j3, j4, j5⟩, hl2, bw2⟩ := box.out w2 B3
          clear cN b3 k0 k1 k2 k3 k4 k5 B2
          go_wp2
          go_ret
          exact ⟨rfl, bw2⟩
end Go.Proofs.YtkoejkpjkcejcaaDoor
namespace Go.Proofs.YtkoejkpjkcejcaaDoor
open Go.RowKit
set_option linter.unusedVariables false

set_option maxHeartbeats 2000000 in
theorem refCheck_any (x : Ex) (lo : Nat → Prop) (v : Value) (w : World) (hx : ExIn w lo v x) (hsz : (x.pre 1).length ≤ 1048576) (K : Int) (hK : ckP x = K) :
    Calls Tryd.prog 26 #[v] w fun e w' => e = .returned (.int .i64 K) ∧ Below w.heap.size w w' := by
  obtain ⟨o1, n1, t1, k1, s1, p1, m1, c1, a1, rfl⟩ := hx.agg
  have b1 : Below w.heap.size w (w.alloc (.cells #[.string o1, .string n1, .int .i64 t1, .int .i64 k1, .string s1, .slice p1 m1 c1, .int .i64 a1] 27)) := (Below.refl _ w).alloc (Nat.le_refl _) _
  have cS := refSmall_any x lo _ _ (hx.on b1) (by rw [← size_pre x 1]; exact hsz)
  have cN := fun W (hb : Below w.heap.size w W) => refNodes_any x lo _ W (hx.on hb)
  rw [ckP_nd] at hK
  have box : Hid (∀ W, Below (w.heap.size + 1) (w.alloc (.cells #[.string o1, .string n1, .int .i64 t1, .int .i64 k1, .string s1, .slice p1 m1 c1, .int .i64 a1] 27)) W → (∀ i, W.cell? ⟨w.heap.size, i, none⟩ = (#[.string o1, .string n1, .int .i64 t1, .int .i64 k1, .string s1, .slice p1 m1 c1, .int .i64 a1] : Array Value)[i]?) ∧ w.heap.size < W.heap.size ∧ Below w.heap.size w W) := fun W hb => by
    obtain ⟨h1, _, h3⟩ := box_at w _ _ hb (Nat.lt_succ_self _)
    exact ⟨h1, h3, b1.trans (hb.mono (Nat.le_succ _))⟩
  clear hx hsz
  cases hs : x.small
  · rw [hs] at cS
    rw [hs, if_pos rfl] at hK
    subst hK
    clear hs cN
    go_enter Tryd.func26, Tryd.ntmps26
    go_wp2_with fail
    refine cS.mono ?_
    rintro e w1 ⟨rfl, b2⟩
    have b3 := b1.trans (b2.mono b1.size)
    clear cS b2
    go_wp2
    go_ret
    exact ⟨rfl, b3⟩
  · rw [hs] at cS
    rw [hs, if_neg (by simp)] at hK
    rw [hK] at cN
    clear hs hK
    go_enter Tryd.func26, Tryd.ntmps26
    go_wp2_with fail
    refine cS.mono ?_
    rintro e w1 ⟨rfl, b2⟩
    obtain ⟨hB, hl, bw1⟩ := box.out w1 (b2.mono (by simp))
    have cN1 := cN w1 bw1
    have g0 : w1.cell? ⟨w.heap.size, 0, none⟩ = some (.string o1) := hB 0
    have g1 : w1.cell? ⟨w.heap.size, 1, none⟩ = some (.string n1) := hB 1
    have g2 : w1.cell? ⟨w.heap.size, 2, none⟩ = some (.int .i64 t1) := hB 2
    have g3 : w1.cell? ⟨w.heap.size, 3, none⟩ = some (.int .i64 k1) := hB 3
    have g4 : w1.cell? ⟨w.heap.size, 4, none⟩ = some (.string s1) := hB 4
    have g5 : w1.cell? ⟨w.heap.size, 5, none⟩ = some (.slice p1 m1 c1) := hB 5
    have g6 : w1.cell? ⟨w.heap.size, 6, none⟩ = some (.int .i64 a1) := hB 6
    clear cS cN b2 hB
    go_wp2_with fail
    refine cN1.mono ?_
    rintro e w2 ⟨rfl, b3⟩
    have b4 := bw1.trans (b3.mono bw1.size)
    clear cN1 b3 g0 g1 g2 g3 g4 g5 g6
    go_wp2
    go_ret
    exact ⟨rfl, b4⟩
end Go.Proofs.YtkoejkpjkcejcaaDoor
namespace Go.Proofs.YtkoejkpjkcejcaaDoor
open Go.RowKit Go.BigFrame
set_option linter.unusedVariables false

/-- An operation has as many parts as its rule says; what is none has no rule. -/
theorem arity_find (x : List UInt8) : (arityT x < 1 → kdFind x kdRules = none) ∧ (1 ≤ arityT x → ∃ r, kdFind x kdRules = some r ∧ (kdCnt r : Int) = arityT x) := by
  by_cases h : x ∈ kdRules.map (·.1)
  · have all : ∀ y ∈ kdRules.map (·.1), (1 ≤ arityT y) ∧ ∃ r, kdFind y kdRules = some r ∧ (kdCnt r : Int) = arityT y := by
      intro y hy
      simp only [kdRules, List.map_cons, List.map_nil, List.mem_cons, List.not_mem_nil, or_false] at hy
      rcases hy with rfl | rfl | rfl | rfl | rfl | rfl | rfl | rfl | rfl | rfl | rfl | rfl | rfl | rfl | rfl | rfl | rfl <;> exact ⟨by decide, _, rfl, by decide⟩
    obtain ⟨h1, h2⟩ := all x h
    exact ⟨fun hh => by omega, fun _ => h2⟩
  · have hn : kdFind x kdRules = none := by
      cases hf : kdFind x kdRules with
      | none => rfl
      | some r => exact absurd (List.mem_map.2 ⟨r, (kdFind_mem hf).1, (kdFind_mem hf).2⟩) h
    refine ⟨fun _ => hn, fun hh => ?_⟩
    exfalso
    simp only [kdRules, List.map_cons, List.map_nil, List.mem_cons, List.not_mem_nil, or_false, not_or] at h
    obtain ⟨n1, n2, n3, n4, n5, n6, n7, n8, n9, n10, n11, n12, n13, n14, n15, n16, n17⟩ := h
    unfold arityT at hh
    split at hh
    · omega
    · simp only [n3, n15, n16, or_self, if_false] at hh
      have hs : inSigns x = false := by
        unfold inSigns
        rw [Bool.eq_false_iff]
        intro ha
        rw [List.any_eq_true] at ha
        obtain ⟨y, hy, he⟩ := ha
        have he2 : y = x := by simpa using he
        subst he2
        simp [sgl] at hy
        rcases hy with h | h | h | h | h | h | h | h | h | h | h | h | h <;> simp_all
      rw [hs, if_neg (by simp)] at hh
      omega
theorem isTy_no {t : Int} (h : t < 1 ∨ 3 < t) : isTy t = false := by
  unfold isTy
  simp
  omega
theorem isTy_yes {t : Int} (h1 : ¬ t < 1) (h2 : ¬ 3 < t) : isTy t = true := by
  unfold isTy
  simp
  omega
theorem all_no {ts : List Int} {k : Nat} (h : k < ts.length) (ht : isTy ts[k] = false) : ts.all isTy = false := by
  rw [List.all_eq_false]
  exact ⟨ts[k], List.getElem_mem h, by simp [ht]⟩
set_option maxHeartbeats 4000000 in
set_option maxRecDepth 20000 in
theorem refRule_any (op : ByteArray) (p : Option Addr) (c N : Nat) (ts : List Int) (w : World) (hN : ts.length = N) (hl : N ≤ 9223372036854775807) (hts : IntsAt w p ts) (T E : Int) (hR : ruleP op.data.toList ts = (T, E)) :
    Calls Tryd.prog 6 #[.string op, .slice p N c] w fun e w' => e = .returned (.tuple #[.int .i64 T, .int .i64 E]) ∧ Below w.heap.size w w' := by
  have cA := refArity_any op w
  have hfind := arity_find op.data.toList
  obtain ⟨A, hA⟩ : ∃ A, arityT op.data.toList = A := ⟨_, rfl⟩
  rw [hA] at cA hfind
  by_cases h1 : A < 1
  · rw [ruleP_none (hfind.1 h1)] at hR
    obtain ⟨rfl, rfl⟩ := Prod.mk.inj hR
    clear hfind hR hA hts
    go_enter Tryd.func6, Tryd.ntmps6
    go_wp2_with fail
    refine cA.mono ?_
    rintro e w1 ⟨rfl, b1⟩
    go_wp2
    go_ret2
    exact ⟨rfl, b1⟩
  · obtain ⟨r, hf, hcnt⟩ := hfind.2 (by omega)
    have HF : Hid (kdFind op.data.toList kdRules = some r) := hf
    have HC : Hid ((kdCnt r : Int) = A) := hcnt
    have HR : Hid (ruleP op.data.toList ts = (T, E)) := hR
    have HT : Aside (IntsAt w p ts) := hts
    have HN : Hid (ts.length = N) := hN
    clear hfind hf hcnt hR hA hts hN
    go_enter Tryd.func6, Tryd.ntmps6
    go_wp2_with fail
    refine cA.mono ?_
    rintro e w1 ⟨rfl, b1⟩
    clear cA
    have HT1 : Aside (IntsAt w1 p ts) := HT.out.on b1
    go_wp2
    go_loopg [7] N (fun gg s7 wr => ∃ kk : Nat, kk ≤ N ∧ N - kk ≤ gg ∧ s7 = .int .i64 kk ∧ wr = w1 ∧ Hid ((ts.take kk).all isTy = true))
    case atStart => exact ⟨0, Nat.zero_le _, by omega, rfl, rfl, (show Hid _ from rfl)⟩
    case round =>
      obtain ⟨kk, hkk, hg, rfl, hwr, HA⟩ := hrel
      have hwr2 := hwr.symm
      clear hwr
      subst hwr2
      by_cases hlt : kk < N
      · have hltz : (kk : Int) < (N : Int) := by omega
        have h0z : (0 : Int) ≤ (kk : Int) := by omega
        have hk2 : kk < ts.length := by rw [HN.out]; exact hlt
        rcases HT1.out with h | ⟨b, off, rfl, hbl, hc⟩
        · exact absurd h (by omega)
        have e0 := hc kk hk2
        have hsn := all_snoc hk2
        have hno := fun h => all_no (ts := ts) hk2 h
        generalize ts[kk] = t at e0 hsn hno
        clear hc
        by_cases ht1 : t < 1
        · have hf := HR.out
          rw [ruleP_bad HF.out (hno (isTy_no (.inl ht1)))] at hf
          obtain ⟨rfl, rfl⟩ := Prod.mk.inj hf
          clear hf hsn hno HR HA
          go_wp2
          go_ret2
          exact ⟨rfl, b1⟩
        · by_cases ht3 : 3 < t
          · have hf := HR.out
            rw [ruleP_bad HF.out (hno (isTy_no (.inr ht3)))] at hf
            obtain ⟨rfl, rfl⟩ := Prod.mk.inj hf
            clear hf hsn hno HR HA
            go_wp2
            go_ret2
            exact ⟨rfl, b1⟩
          · have HA2 : Hid ((ts.take (kk + 1)).all isTy = true) := by
              show _ = _
              rw [hsn, HA.out, isTy_yes ht1 ht3]; rfl
            clear hsn hno HA
            go_wp2
            go_roundg (N - (kk + 1))
            case measure => omega
            case rel => exact ⟨kk + 1, by omega, by omega, by go_num, rfl, HA2⟩
      · have hltz : ¬ (kk : Int) < (N : Int) := by omega
        obtain rfl : kk = N := by omega
        have hall : ts.all isTy = true := by
          have h := HA.out
          rwa [List.take_of_length_le (by rw [HN.out]; exact Nat.le_refl _)] at h
        by_cases hlen : (kk : Int) = A
        · have hck : (kk : Int) = (kdCnt r : Int) := hlen.trans HC.out.symm
          have hkc : kk = kdCnt r := by omega
          have hlb : ((kk : Int) != A) = false := by rw [hlen]; simp
          obtain ⟨hm, he⟩ := kdFind_mem HF.out
          have hrest := ruleP_rest HF.out hall (HN.out.trans hkc)
          rw [HR.out] at hrest
          have hln : ts.length = kk := HN.out
          have HR2 : Hid (T = T) := rfl
          clear HR HF HC hall HA HR2 hg hkk
          simp only [kdRules, List.mem_cons, List.not_mem_nil, or_false] at hm
          obtain ⟨⟨ol⟩⟩ := op
          simp only at he
          subst he
          rcases hm with rfl | rfl | rfl | rfl | rfl | rfl | rfl | rfl | rfl | rfl | rfl | rfl | rfl | rfl | rfl | rfl | rfl
          · obtain rfl : kk = 2 := hkc
            match ts, hln, HT1, hrest with
            | [t0, t1], _, HT1, hrest =>
              rcases HT1.out with h | ⟨b, off, rfl, hbl, hc⟩
              · exact absurd h (by simp)
              have e0 : w1.cell? ⟨b, off, none⟩ = some (.int .i64 t0) := hc 0 (by simp)
              have e1 : w1.cell? ⟨b, off + 1, none⟩ = some (.int .i64 t1) := hc 1 (by simp)
              clear hc HT1 hln hck
              have key : ((t0 = 2 ∧ t1 = 2) ∧ T = 2 ∧ E = 0) ∨ (¬ (t0 = 2 ∧ t1 = 2) ∧ T = 0 ∧ E = 8) := by
                split at hrest
                · rename_i hB
                  obtain ⟨h1, h2⟩ := Prod.mk.inj hrest
                  exact .inl ⟨by simpa [kdAll, kdMeant] using hB, by simpa [kdMeant] using h1, h2⟩
                · rename_i hB
                  obtain ⟨h1, h2⟩ := Prod.mk.inj hrest
                  exact .inr ⟨fun hc => hB (by simp [kdAll, kdMeant, hc]), h1, h2⟩
              clear hrest
              rcases key with ⟨⟨rfl, rfl⟩, rfl, rfl⟩ | ⟨hc, rfl, rfl⟩
              · skip
                go_wp2
                go_loopg [10] 2 (fun gg s10 wr => ∃ j : Nat, j ≤ 2 ∧ 2 - j ≤ gg ∧ s10 = .int .i64 j ∧ wr = w1)
                case atStart => exact ⟨0, by decide, by decide, by rfl, rfl⟩
                case round =>
                  obtain ⟨j, hj, hg, rfl, hwr⟩ := hrel
                  have hwr2 := hwr.symm
                  clear hwr
                  subst hwr2
                  have hj3 : j = 0 ∨ j = 1 ∨ j = 2 := by omega
                  rcases hj3 with rfl | rfl | rfl
                  · go_wp2
                    go_roundg (2 - 1)
                    case measure => omega
                    case rel => exact ⟨1, by decide, by omega, by go_num, rfl⟩
                  · go_wp2
                    go_roundg (2 - 2)
                    case measure => omega
                    case rel => exact ⟨2, by decide, by omega, by go_num, rfl⟩
                  · go_wp2
                    go_ret2
                    exact ⟨rfl, b1⟩
              · by_cases h0 : t0 = 2
                · subst h0
                  have q1 : (t1 != 2) = true := by simp; intro h; exact hc ⟨rfl, h⟩
                  go_wp2
                  go_loopg [10] 2 (fun gg s10 wr => ∃ j : Nat, j ≤ 1 ∧ 2 - j ≤ gg ∧ s10 = .int .i64 j ∧ wr = w1)
                  case atStart => exact ⟨0, by decide, by decide, by rfl, rfl⟩
                  case round =>
                    obtain ⟨j, hj, hg, rfl, hwr⟩ := hrel
                    have hwr2 := hwr.symm
                    clear hwr
                    subst hwr2
                    have hj3 : j = 0 ∨ j = 1 := by omega
                    rcases hj3 with rfl | rfl
                    · go_wp2
                      go_roundg (2 - 1)
                      case measure => omega
                      case rel => exact ⟨1, by decide, by omega, by go_num, rfl⟩
                    · go_wp2
                      go_ret2
                      exact ⟨rfl, b1⟩
                · have q0 : (t0 != 2) = true := by simpa using h0
                  go_wp2
                  go_loopg [10] 2 (fun gg s10 wr => ∃ j : Nat, j ≤ 0 ∧ 2 - j ≤ gg ∧ s10 = .int .i64 j ∧ wr = w1)
                  case atStart => exact ⟨0, by decide, by decide, by rfl, rfl⟩
                  case round =>
                    obtain ⟨j, hj, hg, rfl, hwr⟩ := hrel
                    have hwr2 := hwr.symm
                    clear hwr
                    subst hwr2
                    have hj3 : j = 0 := by omega
                    obtain rfl := hj3
                    go_wp2
                    go_ret2
                    exact ⟨rfl, b1⟩
          · obtain rfl : kk = 2 := hkc
            match ts, hln, HT1, hrest with
            | [t0, t1], _, HT1, hrest =>
              rcases HT1.out with h | ⟨b, off, rfl, hbl, hc⟩
              · exact absurd h (by simp)
              have e0 : w1.cell? ⟨b, off, none⟩ = some (.int .i64 t0) := hc 0 (by simp)
              have e1 : w1.cell? ⟨b, off + 1, none⟩ = some (.int .i64 t1) := hc 1 (by simp)
              clear hc HT1 hln hck
              have key : ((t0 = 2 ∧ t1 = 2) ∧ T = 2 ∧ E = 0) ∨ (¬ (t0 = 2 ∧ t1 = 2) ∧ T = 0 ∧ E = 8) := by
                split at hrest
                · rename_i hB
                  obtain ⟨h1, h2⟩ := Prod.mk.inj hrest
                  exact .inl ⟨by simpa [kdAll, kdMeant] using hB, by simpa [kdMeant] using h1, h2⟩
                · rename_i hB
                  obtain ⟨h1, h2⟩ := Prod.mk.inj hrest
                  exact .inr ⟨fun hc => hB (by simp [kdAll, kdMeant, hc]), h1, h2⟩
              clear hrest
              rcases key with ⟨⟨rfl, rfl⟩, rfl, rfl⟩ | ⟨hc, rfl, rfl⟩
              · skip
                go_wp2
                go_loopg [10] 2 (fun gg s10 wr => ∃ j : Nat, j ≤ 2 ∧ 2 - j ≤ gg ∧ s10 = .int .i64 j ∧ wr = w1)
                case atStart => exact ⟨0, by decide, by decide, by rfl, rfl⟩
                case round =>
                  obtain ⟨j, hj, hg, rfl, hwr⟩ := hrel
                  have hwr2 := hwr.symm
                  clear hwr
                  subst hwr2
                  have hj3 : j = 0 ∨ j = 1 ∨ j = 2 := by omega
                  rcases hj3 with rfl | rfl | rfl
                  · go_wp2
                    go_roundg (2 - 1)
                    case measure => omega
                    case rel => exact ⟨1, by decide, by omega, by go_num, rfl⟩
                  · go_wp2
                    go_roundg (2 - 2)
                    case measure => omega
                    case rel => exact ⟨2, by decide, by omega, by go_num, rfl⟩
                  · go_wp2
                    go_ret2
                    exact ⟨rfl, b1⟩
              · by_cases h0 : t0 = 2
                · subst h0
                  have q1 : (t1 != 2) = true := by simp; intro h; exact hc ⟨rfl, h⟩
                  go_wp2
                  go_loopg [10] 2 (fun gg s10 wr => ∃ j : Nat, j ≤ 1 ∧ 2 - j ≤ gg ∧ s10 = .int .i64 j ∧ wr = w1)
                  case atStart => exact ⟨0, by decide, by decide, by rfl, rfl⟩
                  case round =>
                    obtain ⟨j, hj, hg, rfl, hwr⟩ := hrel
                    have hwr2 := hwr.symm
                    clear hwr
                    subst hwr2
                    have hj3 : j = 0 ∨ j = 1 := by omega
                    rcases hj3 with rfl | rfl
                    · go_wp2
                      go_roundg (2 - 1)
                      case measure => omega
                      case rel => exact ⟨1, by decide, by omega, by go_num, rfl⟩
                    · go_wp2
                      go_ret2
                      exact ⟨rfl, b1⟩
                · have q0 : (t0 != 2) = true := by simpa using h0
                  go_wp2
                  go_loopg [10] 2 (fun gg s10 wr => ∃ j : Nat, j ≤ 0 ∧ 2 - j ≤ gg ∧ s10 = .int .i64 j ∧ wr = w1)
                  case atStart => exact ⟨0, by decide, by decide, by rfl, rfl⟩
                  case round =>
                    obtain ⟨j, hj, hg, rfl, hwr⟩ := hrel
                    have hwr2 := hwr.symm
                    clear hwr
                    subst hwr2
                    have hj3 : j = 0 := by omega
                    obtain rfl := hj3
                    go_wp2
                    go_ret2
                    exact ⟨rfl, b1⟩
          · obtain rfl : kk = 1 := hkc
            match ts, hln, HT1, hrest with
            | [t0], _, HT1, hrest =>
              rcases HT1.out with h | ⟨b, off, rfl, hbl, hc⟩
              · exact absurd h (by simp)
              have e0 : w1.cell? ⟨b, off, none⟩ = some (.int .i64 t0) := hc 0 (by simp)
              clear hc HT1 hln hck
              have key : ((t0 = 2) ∧ T = 2 ∧ E = 0) ∨ (¬ (t0 = 2) ∧ T = 0 ∧ E = 8) := by
                split at hrest
                · rename_i hB
                  obtain ⟨h1, h2⟩ := Prod.mk.inj hrest
                  exact .inl ⟨by simpa [kdAll, kdMeant] using hB, by simpa [kdMeant] using h1, h2⟩
                · rename_i hB
                  obtain ⟨h1, h2⟩ := Prod.mk.inj hrest
                  exact .inr ⟨fun hc => hB (by simp [kdAll, kdMeant, hc]), h1, h2⟩
              clear hrest
              rcases key with ⟨rfl, rfl, rfl⟩ | ⟨hc, rfl, rfl⟩
              · skip
                go_wp2
                go_loopg [10] 1 (fun gg s10 wr => ∃ j : Nat, j ≤ 1 ∧ 1 - j ≤ gg ∧ s10 = .int .i64 j ∧ wr = w1)
                case atStart => exact ⟨0, by decide, by decide, by rfl, rfl⟩
                case round =>
                  obtain ⟨j, hj, hg, rfl, hwr⟩ := hrel
                  have hwr2 := hwr.symm
                  clear hwr
                  subst hwr2
                  have hj3 : j = 0 ∨ j = 1 := by omega
                  rcases hj3 with rfl | rfl
                  · go_wp2
                    go_roundg (1 - 1)
                    case measure => omega
                    case rel => exact ⟨1, by decide, by omega, by go_num, rfl⟩
                  · go_wp2
                    go_ret2
                    exact ⟨rfl, b1⟩
              · have q0 : (t0 != 2) = true := by simpa using hc
                go_wp2
                go_loopg [10] 1 (fun gg s10 wr => ∃ j : Nat, j ≤ 0 ∧ 1 - j ≤ gg ∧ s10 = .int .i64 j ∧ wr = w1)
                case atStart => exact ⟨0, by decide, by decide, by rfl, rfl⟩
                case round =>
                  obtain ⟨j, hj, hg, rfl, hwr⟩ := hrel
                  have hwr2 := hwr.symm
                  clear hwr
                  subst hwr2
                  have hj3 : j = 0 := by omega
                  obtain rfl := hj3
                  go_wp2
                  go_ret2
                  exact ⟨rfl, b1⟩
          · obtain rfl : kk = 2 := hkc
            match ts, hln, HT1, hrest with
            | [t0, t1], _, HT1, hrest =>
              rcases HT1.out with h | ⟨b, off, rfl, hbl, hc⟩
              · exact absurd h (by simp)
              have e0 : w1.cell? ⟨b, off, none⟩ = some (.int .i64 t0) := hc 0 (by simp)
              have e1 : w1.cell? ⟨b, off + 1, none⟩ = some (.int .i64 t1) := hc 1 (by simp)
              clear hc HT1 hln hck
              have key : ((t0 = t1) ∧ T = 2 ∧ E = 0) ∨ (¬ (t0 = t1) ∧ T = 0 ∧ E = 8) := by
                split at hrest
                · rename_i hB
                  obtain ⟨h1, h2⟩ := Prod.mk.inj hrest
                  exact .inl ⟨by simpa [kdAll, kdMeant] using hB, by simpa [kdMeant] using h1, h2⟩
                · rename_i hB
                  obtain ⟨h1, h2⟩ := Prod.mk.inj hrest
                  exact .inr ⟨fun hc => hB (by simp [kdAll, kdMeant, hc]), h1, h2⟩
              clear hrest
              rcases key with ⟨hc, rfl, rfl⟩ | ⟨hc, rfl, rfl⟩
              · subst hc
                have q0 : (t0 != t0) = false := by simp
                go_wp2
                go_loopg [10] 2 (fun gg s10 wr => ∃ j : Nat, j ≤ 2 ∧ 2 - j ≤ gg ∧ s10 = .int .i64 j ∧ wr = w1)
                case atStart => exact ⟨0, by decide, by decide, by rfl, rfl⟩
                case round =>
                  obtain ⟨j, hj, hg, rfl, hwr⟩ := hrel
                  have hwr2 := hwr.symm
                  clear hwr
                  subst hwr2
                  have hj3 : j = 0 ∨ j = 1 ∨ j = 2 := by omega
                  rcases hj3 with rfl | rfl | rfl
                  · go_wp2
                    go_roundg (2 - 1)
                    case measure => omega
                    case rel => exact ⟨1, by decide, by omega, by go_num, rfl⟩
                  · go_wp2
                    go_roundg (2 - 2)
                    case measure => omega
                    case rel => exact ⟨2, by decide, by omega, by go_num, rfl⟩
                  · go_wp2
                    go_ret2
                    exact ⟨rfl, b1⟩
              · have q0 : (t0 != t0) = false := by simp
                have q1 : (t1 != t0) = true := by simp; intro h; exact hc h.symm
                go_wp2
                go_loopg [10] 2 (fun gg s10 wr => ∃ j : Nat, j ≤ 1 ∧ 2 - j ≤ gg ∧ s10 = .int .i64 j ∧ wr = w1)
                case atStart => exact ⟨0, by decide, by decide, by rfl, rfl⟩
                case round =>
                  obtain ⟨j, hj, hg, rfl, hwr⟩ := hrel
                  have hwr2 := hwr.symm
                  clear hwr
                  subst hwr2
                  have hj3 : j = 0 ∨ j = 1 := by omega
                  rcases hj3 with rfl | rfl
                  · go_wp2
                    go_roundg (2 - 1)
                    case measure => omega
                    case rel => exact ⟨1, by decide, by omega, by go_num, rfl⟩
                  · go_wp2
                    go_ret2
                    exact ⟨rfl, b1⟩
          · obtain rfl : kk = 2 := hkc
            match ts, hln, HT1, hrest with
            | [t0, t1], _, HT1, hrest =>
              rcases HT1.out with h | ⟨b, off, rfl, hbl, hc⟩
              · exact absurd h (by simp)
              have e0 : w1.cell? ⟨b, off, none⟩ = some (.int .i64 t0) := hc 0 (by simp)
              have e1 : w1.cell? ⟨b, off + 1, none⟩ = some (.int .i64 t1) := hc 1 (by simp)
              clear hc HT1 hln hck
              have key : ((t0 = t1) ∧ T = 2 ∧ E = 0) ∨ (¬ (t0 = t1) ∧ T = 0 ∧ E = 8) := by
                split at hrest
                · rename_i hB
                  obtain ⟨h1, h2⟩ := Prod.mk.inj hrest
                  exact .inl ⟨by simpa [kdAll, kdMeant] using hB, by simpa [kdMeant] using h1, h2⟩
                · rename_i hB
                  obtain ⟨h1, h2⟩ := Prod.mk.inj hrest
                  exact .inr ⟨fun hc => hB (by simp [kdAll, kdMeant, hc]), h1, h2⟩
              clear hrest
              rcases key with ⟨hc, rfl, rfl⟩ | ⟨hc, rfl, rfl⟩
              · subst hc
                have q0 : (t0 != t0) = false := by simp
                go_wp2
                go_loopg [10] 2 (fun gg s10 wr => ∃ j : Nat, j ≤ 2 ∧ 2 - j ≤ gg ∧ s10 = .int .i64 j ∧ wr = w1)
                case atStart => exact ⟨0, by decide, by decide, by rfl, rfl⟩
                case round =>
                  obtain ⟨j, hj, hg, rfl, hwr⟩ := hrel
                  have hwr2 := hwr.symm
                  clear hwr
                  subst hwr2
                  have hj3 : j = 0 ∨ j = 1 ∨ j = 2 := by omega
                  rcases hj3 with rfl | rfl | rfl
                  · go_wp2
                    go_roundg (2 - 1)
                    case measure => omega
                    case rel => exact ⟨1, by decide, by omega, by go_num, rfl⟩
                  · go_wp2
                    go_roundg (2 - 2)
                    case measure => omega
                    case rel => exact ⟨2, by decide, by omega, by go_num, rfl⟩
                  · go_wp2
                    go_ret2
                    exact ⟨rfl, b1⟩
              · have q0 : (t0 != t0) = false := by simp
                have q1 : (t1 != t0) = true := by simp; intro h; exact hc h.symm
                go_wp2
                go_loopg [10] 2 (fun gg s10 wr => ∃ j : Nat, j ≤ 1 ∧ 2 - j ≤ gg ∧ s10 = .int .i64 j ∧ wr = w1)
                case atStart => exact ⟨0, by decide, by decide, by rfl, rfl⟩
                case round =>
                  obtain ⟨j, hj, hg, rfl, hwr⟩ := hrel
                  have hwr2 := hwr.symm
                  clear hwr
                  subst hwr2
                  have hj3 : j = 0 ∨ j = 1 := by omega
                  rcases hj3 with rfl | rfl
                  · go_wp2
                    go_roundg (2 - 1)
                    case measure => omega
                    case rel => exact ⟨1, by decide, by omega, by go_num, rfl⟩
                  · go_wp2
                    go_ret2
                    exact ⟨rfl, b1⟩
          · obtain rfl : kk = 2 := hkc
            match ts, hln, HT1, hrest with
            | [t0, t1], _, HT1, hrest =>
              rcases HT1.out with h | ⟨b, off, rfl, hbl, hc⟩
              · exact absurd h (by simp)
              have e0 : w1.cell? ⟨b, off, none⟩ = some (.int .i64 t0) := hc 0 (by simp)
              have e1 : w1.cell? ⟨b, off + 1, none⟩ = some (.int .i64 t1) := hc 1 (by simp)
              clear hc HT1 hln hck
              have key : ((t0 = t1) ∧ T = 2 ∧ E = 0) ∨ (¬ (t0 = t1) ∧ T = 0 ∧ E = 8) := by
                split at hrest
                · rename_i hB
                  obtain ⟨h1, h2⟩ := Prod.mk.inj hrest
                  exact .inl ⟨by simpa [kdAll, kdMeant] using hB, by simpa [kdMeant] using h1, h2⟩
                · rename_i hB
                  obtain ⟨h1, h2⟩ := Prod.mk.inj hrest
                  exact .inr ⟨fun hc => hB (by simp [kdAll, kdMeant, hc]), h1, h2⟩
              clear hrest
              rcases key with ⟨hc, rfl, rfl⟩ | ⟨hc, rfl, rfl⟩
              · subst hc
                have q0 : (t0 != t0) = false := by simp
                go_wp2
                go_loopg [10] 2 (fun gg s10 wr => ∃ j : Nat, j ≤ 2 ∧ 2 - j ≤ gg ∧ s10 = .int .i64 j ∧ wr = w1)
                case atStart => exact ⟨0, by decide, by decide, by rfl, rfl⟩
                case round =>
                  obtain ⟨j, hj, hg, rfl, hwr⟩ := hrel
                  have hwr2 := hwr.symm
                  clear hwr
                  subst hwr2
                  have hj3 : j = 0 ∨ j = 1 ∨ j = 2 := by omega
                  rcases hj3 with rfl | rfl | rfl
                  · go_wp2
                    go_roundg (2 - 1)
                    case measure => omega
                    case rel => exact ⟨1, by decide, by omega, by go_num, rfl⟩
                  · go_wp2
                    go_roundg (2 - 2)
                    case measure => omega
                    case rel => exact ⟨2, by decide, by omega, by go_num, rfl⟩
                  · go_wp2
                    go_ret2
                    exact ⟨rfl, b1⟩
              · have q0 : (t0 != t0) = false := by simp
                have q1 : (t1 != t0) = true := by simp; intro h; exact hc h.symm
                go_wp2
                go_loopg [10] 2 (fun gg s10 wr => ∃ j : Nat, j ≤ 1 ∧ 2 - j ≤ gg ∧ s10 = .int .i64 j ∧ wr = w1)
                case atStart => exact ⟨0, by decide, by decide, by rfl, rfl⟩
                case round =>
                  obtain ⟨j, hj, hg, rfl, hwr⟩ := hrel
                  have hwr2 := hwr.symm
                  clear hwr
                  subst hwr2
                  have hj3 : j = 0 ∨ j = 1 := by omega
                  rcases hj3 with rfl | rfl
                  · go_wp2
                    go_roundg (2 - 1)
                    case measure => omega
                    case rel => exact ⟨1, by decide, by omega, by go_num, rfl⟩
                  · go_wp2
                    go_ret2
                    exact ⟨rfl, b1⟩
          · obtain rfl : kk = 2 := hkc
            match ts, hln, HT1, hrest with
            | [t0, t1], _, HT1, hrest =>
              rcases HT1.out with h | ⟨b, off, rfl, hbl, hc⟩
              · exact absurd h (by simp)
              have e0 : w1.cell? ⟨b, off, none⟩ = some (.int .i64 t0) := hc 0 (by simp)
              have e1 : w1.cell? ⟨b, off + 1, none⟩ = some (.int .i64 t1) := hc 1 (by simp)
              clear hc HT1 hln hck
              have key : ((t0 = t1) ∧ T = 2 ∧ E = 0) ∨ (¬ (t0 = t1) ∧ T = 0 ∧ E = 8) := by
                split at hrest
                · rename_i hB
                  obtain ⟨h1, h2⟩ := Prod.mk.inj hrest
                  exact .inl ⟨by simpa [kdAll, kdMeant] using hB, by simpa [kdMeant] using h1, h2⟩
                · rename_i hB
                  obtain ⟨h1, h2⟩ := Prod.mk.inj hrest
                  exact .inr ⟨fun hc => hB (by simp [kdAll, kdMeant, hc]), h1, h2⟩
              clear hrest
              rcases key with ⟨hc, rfl, rfl⟩ | ⟨hc, rfl, rfl⟩
              · subst hc
                have q0 : (t0 != t0) = false := by simp
                go_wp2
                go_loopg [10] 2 (fun gg s10 wr => ∃ j : Nat, j ≤ 2 ∧ 2 - j ≤ gg ∧ s10 = .int .i64 j ∧ wr = w1)
                case atStart => exact ⟨0, by decide, by decide, by rfl, rfl⟩
                case round =>
                  obtain ⟨j, hj, hg, rfl, hwr⟩ := hrel
                  have hwr2 := hwr.symm
                  clear hwr
                  subst hwr2
                  have hj3 : j = 0 ∨ j = 1 ∨ j = 2 := by omega
                  rcases hj3 with rfl | rfl | rfl
                  · go_wp2
                    go_roundg (2 - 1)
                    case measure => omega
                    case rel => exact ⟨1, by decide, by omega, by go_num, rfl⟩
                  · go_wp2
                    go_roundg (2 - 2)
                    case measure => omega
                    case rel => exact ⟨2, by decide, by omega, by go_num, rfl⟩
                  · go_wp2
                    go_ret2
                    exact ⟨rfl, b1⟩
              · have q0 : (t0 != t0) = false := by simp
                have q1 : (t1 != t0) = true := by simp; intro h; exact hc h.symm
                go_wp2
                go_loopg [10] 2 (fun gg s10 wr => ∃ j : Nat, j ≤ 1 ∧ 2 - j ≤ gg ∧ s10 = .int .i64 j ∧ wr = w1)
                case atStart => exact ⟨0, by decide, by decide, by rfl, rfl⟩
                case round =>
                  obtain ⟨j, hj, hg, rfl, hwr⟩ := hrel
                  have hwr2 := hwr.symm
                  clear hwr
                  subst hwr2
                  have hj3 : j = 0 ∨ j = 1 := by omega
                  rcases hj3 with rfl | rfl
                  · go_wp2
                    go_roundg (2 - 1)
                    case measure => omega
                    case rel => exact ⟨1, by decide, by omega, by go_num, rfl⟩
                  · go_wp2
                    go_ret2
                    exact ⟨rfl, b1⟩
          · obtain rfl : kk = 2 := hkc
            match ts, hln, HT1, hrest with
            | [t0, t1], _, HT1, hrest =>
              rcases HT1.out with h | ⟨b, off, rfl, hbl, hc⟩
              · exact absurd h (by simp)
              have e0 : w1.cell? ⟨b, off, none⟩ = some (.int .i64 t0) := hc 0 (by simp)
              have e1 : w1.cell? ⟨b, off + 1, none⟩ = some (.int .i64 t1) := hc 1 (by simp)
              clear hc HT1 hln hck
              have key : ((t0 = t1) ∧ T = 2 ∧ E = 0) ∨ (¬ (t0 = t1) ∧ T = 0 ∧ E = 8) := by
                split at hrest
                · rename_i hB
                  obtain ⟨h1, h2⟩ := Prod.mk.inj hrest
                  exact .inl ⟨by simpa [kdAll, kdMeant] using hB, by simpa [kdMeant] using h1, h2⟩
                · rename_i hB
                  obtain ⟨h1, h2⟩ := Prod.mk.inj hrest
                  exact .inr ⟨fun hc => hB (by simp [kdAll, kdMeant, hc]), h1, h2⟩
              clear hrest
              rcases key with ⟨hc, rfl, rfl⟩ | ⟨hc, rfl, rfl⟩
              · subst hc
                have q0 : (t0 != t0) = false := by simp
                go_wp2
                go_loopg [10] 2 (fun gg s10 wr => ∃ j : Nat, j ≤ 2 ∧ 2 - j ≤ gg ∧ s10 = .int .i64 j ∧ wr = w1)
                case atStart => exact ⟨0, by decide, by decide, by rfl, rfl⟩
                case round =>
                  obtain ⟨j, hj, hg, rfl, hwr⟩ := hrel
                  have hwr2 := hwr.symm
                  clear hwr
                  subst hwr2
                  have hj3 : j = 0 ∨ j = 1 ∨ j = 2 := by omega
                  rcases hj3 with rfl | rfl | rfl
                  · go_wp2
                    go_roundg (2 - 1)
                    case measure => omega
                    case rel => exact ⟨1, by decide, by omega, by go_num, rfl⟩
                  · go_wp2
                    go_roundg (2 - 2)
                    case measure => omega
                    case rel => exact ⟨2, by decide, by omega, by go_num, rfl⟩
                  · go_wp2
                    go_ret2
                    exact ⟨rfl, b1⟩
              · have q0 : (t0 != t0) = false := by simp
                have q1 : (t1 != t0) = true := by simp; intro h; exact hc h.symm
                go_wp2
                go_loopg [10] 2 (fun gg s10 wr => ∃ j : Nat, j ≤ 1 ∧ 2 - j ≤ gg ∧ s10 = .int .i64 j ∧ wr = w1)
                case atStart => exact ⟨0, by decide, by decide, by rfl, rfl⟩
                case round =>
                  obtain ⟨j, hj, hg, rfl, hwr⟩ := hrel
                  have hwr2 := hwr.symm
                  clear hwr
                  subst hwr2
                  have hj3 : j = 0 ∨ j = 1 := by omega
                  rcases hj3 with rfl | rfl
                  · go_wp2
                    go_roundg (2 - 1)
                    case measure => omega
                    case rel => exact ⟨1, by decide, by omega, by go_num, rfl⟩
                  · go_wp2
                    go_ret2
                    exact ⟨rfl, b1⟩
          · obtain rfl : kk = 2 := hkc
            match ts, hln, HT1, hrest with
            | [t0, t1], _, HT1, hrest =>
              rcases HT1.out with h | ⟨b, off, rfl, hbl, hc⟩
              · exact absurd h (by simp)
              have e0 : w1.cell? ⟨b, off, none⟩ = some (.int .i64 t0) := hc 0 (by simp)
              have e1 : w1.cell? ⟨b, off + 1, none⟩ = some (.int .i64 t1) := hc 1 (by simp)
              clear hc HT1 hln hck
              have key : ((t0 = t1) ∧ T = 2 ∧ E = 0) ∨ (¬ (t0 = t1) ∧ T = 0 ∧ E = 8) := by
                split at hrest
                · rename_i hB
                  obtain ⟨h1, h2⟩ := Prod.mk.inj hrest
                  exact .inl ⟨by simpa [kdAll, kdMeant] using hB, by simpa [kdMeant] using h1, h2⟩
                · rename_i hB
                  obtain ⟨h1, h2⟩ := Prod.mk.inj hrest
                  exact .inr ⟨fun hc => hB (by simp [kdAll, kdMeant, hc]), h1, h2⟩
              clear hrest
              rcases key with ⟨hc, rfl, rfl⟩ | ⟨hc, rfl, rfl⟩
              · subst hc
                have q0 : (t0 != t0) = false := by simp
                go_wp2
                go_loopg [10] 2 (fun gg s10 wr => ∃ j : Nat, j ≤ 2 ∧ 2 - j ≤ gg ∧ s10 = .int .i64 j ∧ wr = w1)
                case atStart => exact ⟨0, by decide, by decide, by rfl, rfl⟩
                case round =>
                  obtain ⟨j, hj, hg, rfl, hwr⟩ := hrel
                  have hwr2 := hwr.symm
                  clear hwr
                  subst hwr2
                  have hj3 : j = 0 ∨ j = 1 ∨ j = 2 := by omega
                  rcases hj3 with rfl | rfl | rfl
                  · go_wp2
                    go_roundg (2 - 1)
                    case measure => omega
                    case rel => exact ⟨1, by decide, by omega, by go_num, rfl⟩
                  · go_wp2
                    go_roundg (2 - 2)
                    case measure => omega
                    case rel => exact ⟨2, by decide, by omega, by go_num, rfl⟩
                  · go_wp2
                    go_ret2
                    exact ⟨rfl, b1⟩
              · have q0 : (t0 != t0) = false := by simp
                have q1 : (t1 != t0) = true := by simp; intro h; exact hc h.symm
                go_wp2
                go_loopg [10] 2 (fun gg s10 wr => ∃ j : Nat, j ≤ 1 ∧ 2 - j ≤ gg ∧ s10 = .int .i64 j ∧ wr = w1)
                case atStart => exact ⟨0, by decide, by decide, by rfl, rfl⟩
                case round =>
                  obtain ⟨j, hj, hg, rfl, hwr⟩ := hrel
                  have hwr2 := hwr.symm
                  clear hwr
                  subst hwr2
                  have hj3 : j = 0 ∨ j = 1 := by omega
                  rcases hj3 with rfl | rfl
                  · go_wp2
                    go_roundg (2 - 1)
                    case measure => omega
                    case rel => exact ⟨1, by decide, by omega, by go_num, rfl⟩
                  · go_wp2
                    go_ret2
                    exact ⟨rfl, b1⟩
          · obtain rfl : kk = 2 := hkc
            match ts, hln, HT1, hrest with
            | [t0, t1], _, HT1, hrest =>
              rcases HT1.out with h | ⟨b, off, rfl, hbl, hc⟩
              · exact absurd h (by simp)
              have e0 : w1.cell? ⟨b, off, none⟩ = some (.int .i64 t0) := hc 0 (by simp)
              have e1 : w1.cell? ⟨b, off + 1, none⟩ = some (.int .i64 t1) := hc 1 (by simp)
              clear hc HT1 hln hck
              have key : ((t0 = 1 ∧ t1 = 1) ∧ T = 1 ∧ E = 0) ∨ (¬ (t0 = 1 ∧ t1 = 1) ∧ T = 0 ∧ E = 8) := by
                split at hrest
                · rename_i hB
                  obtain ⟨h1, h2⟩ := Prod.mk.inj hrest
                  exact .inl ⟨by simpa [kdAll, kdMeant] using hB, by simpa [kdMeant] using h1, h2⟩
                · rename_i hB
                  obtain ⟨h1, h2⟩ := Prod.mk.inj hrest
                  exact .inr ⟨fun hc => hB (by simp [kdAll, kdMeant, hc]), h1, h2⟩
              clear hrest
              rcases key with ⟨⟨rfl, rfl⟩, rfl, rfl⟩ | ⟨hc, rfl, rfl⟩
              · skip
                go_wp2
                go_loopg [10] 2 (fun gg s10 wr => ∃ j : Nat, j ≤ 2 ∧ 2 - j ≤ gg ∧ s10 = .int .i64 j ∧ wr = w1)
                case atStart => exact ⟨0, by decide, by decide, by rfl, rfl⟩
                case round =>
                  obtain ⟨j, hj, hg, rfl, hwr⟩ := hrel
                  have hwr2 := hwr.symm
                  clear hwr
                  subst hwr2
                  have hj3 : j = 0 ∨ j = 1 ∨ j = 2 := by omega
                  rcases hj3 with rfl | rfl | rfl
                  · go_wp2
                    go_roundg (2 - 1)
                    case measure => omega
                    case rel => exact ⟨1, by decide, by omega, by go_num, rfl⟩
                  · go_wp2
                    go_roundg (2 - 2)
                    case measure => omega
                    case rel => exact ⟨2, by decide, by omega, by go_num, rfl⟩
                  · go_wp2
                    go_ret2
                    exact ⟨rfl, b1⟩
              · by_cases h0 : t0 = 1
                · subst h0
                  have q1 : (t1 != 1) = true := by simp; intro h; exact hc ⟨rfl, h⟩
                  go_wp2
                  go_loopg [10] 2 (fun gg s10 wr => ∃ j : Nat, j ≤ 1 ∧ 2 - j ≤ gg ∧ s10 = .int .i64 j ∧ wr = w1)
                  case atStart => exact ⟨0, by decide, by decide, by rfl, rfl⟩
                  case round =>
                    obtain ⟨j, hj, hg, rfl, hwr⟩ := hrel
                    have hwr2 := hwr.symm
                    clear hwr
                    subst hwr2
                    have hj3 : j = 0 ∨ j = 1 := by omega
                    rcases hj3 with rfl | rfl
                    · go_wp2
                      go_roundg (2 - 1)
                      case measure => omega
                      case rel => exact ⟨1, by decide, by omega, by go_num, rfl⟩
                    · go_wp2
                      go_ret2
                      exact ⟨rfl, b1⟩
                · have q0 : (t0 != 1) = true := by simpa using h0
                  go_wp2
                  go_loopg [10] 2 (fun gg s10 wr => ∃ j : Nat, j ≤ 0 ∧ 2 - j ≤ gg ∧ s10 = .int .i64 j ∧ wr = w1)
                  case atStart => exact ⟨0, by decide, by decide, by rfl, rfl⟩
                  case round =>
                    obtain ⟨j, hj, hg, rfl, hwr⟩ := hrel
                    have hwr2 := hwr.symm
                    clear hwr
                    subst hwr2
                    have hj3 : j = 0 := by omega
                    obtain rfl := hj3
                    go_wp2
                    go_ret2
                    exact ⟨rfl, b1⟩
          · obtain rfl : kk = 2 := hkc
            match ts, hln, HT1, hrest with
            | [t0, t1], _, HT1, hrest =>
              rcases HT1.out with h | ⟨b, off, rfl, hbl, hc⟩
              · exact absurd h (by simp)
              have e0 : w1.cell? ⟨b, off, none⟩ = some (.int .i64 t0) := hc 0 (by simp)
              have e1 : w1.cell? ⟨b, off + 1, none⟩ = some (.int .i64 t1) := hc 1 (by simp)
              clear hc HT1 hln hck
              have key : ((t0 = 1 ∧ t1 = 1) ∧ T = 1 ∧ E = 0) ∨ (¬ (t0 = 1 ∧ t1 = 1) ∧ T = 0 ∧ E = 8) := by
                split at hrest
                · rename_i hB
                  obtain ⟨h1, h2⟩ := Prod.mk.inj hrest
                  exact .inl ⟨by simpa [kdAll, kdMeant] using hB, by simpa [kdMeant] using h1, h2⟩
                · rename_i hB
                  obtain ⟨h1, h2⟩ := Prod.mk.inj hrest
                  exact .inr ⟨fun hc => hB (by simp [kdAll, kdMeant, hc]), h1, h2⟩
              clear hrest
              rcases key with ⟨⟨rfl, rfl⟩, rfl, rfl⟩ | ⟨hc, rfl, rfl⟩
              · skip
                go_wp2
                go_loopg [10] 2 (fun gg s10 wr => ∃ j : Nat, j ≤ 2 ∧ 2 - j ≤ gg ∧ s10 = .int .i64 j ∧ wr = w1)
                case atStart => exact ⟨0, by decide, by decide, by rfl, rfl⟩
                case round =>
                  obtain ⟨j, hj, hg, rfl, hwr⟩ := hrel
                  have hwr2 := hwr.symm
                  clear hwr
                  subst hwr2
                  have hj3 : j = 0 ∨ j = 1 ∨ j = 2 := by omega
                  rcases hj3 with rfl | rfl | rfl
                  · go_wp2
                    go_roundg (2 - 1)
                    case measure => omega
                    case rel => exact ⟨1, by decide, by omega, by go_num, rfl⟩
                  · go_wp2
                    go_roundg (2 - 2)
                    case measure => omega
                    case rel => exact ⟨2, by decide, by omega, by go_num, rfl⟩
                  · go_wp2
                    go_ret2
                    exact ⟨rfl, b1⟩
              · by_cases h0 : t0 = 1
                · subst h0
                  have q1 : (t1 != 1) = true := by simp; intro h; exact hc ⟨rfl, h⟩
                  go_wp2
                  go_loopg [10] 2 (fun gg s10 wr => ∃ j : Nat, j ≤ 1 ∧ 2 - j ≤ gg ∧ s10 = .int .i64 j ∧ wr = w1)
                  case atStart => exact ⟨0, by decide, by decide, by rfl, rfl⟩
                  case round =>
                    obtain ⟨j, hj, hg, rfl, hwr⟩ := hrel
                    have hwr2 := hwr.symm
                    clear hwr
                    subst hwr2
                    have hj3 : j = 0 ∨ j = 1 := by omega
                    rcases hj3 with rfl | rfl
                    · go_wp2
                      go_roundg (2 - 1)
                      case measure => omega
                      case rel => exact ⟨1, by decide, by omega, by go_num, rfl⟩
                    · go_wp2
                      go_ret2
                      exact ⟨rfl, b1⟩
                · have q0 : (t0 != 1) = true := by simpa using h0
                  go_wp2
                  go_loopg [10] 2 (fun gg s10 wr => ∃ j : Nat, j ≤ 0 ∧ 2 - j ≤ gg ∧ s10 = .int .i64 j ∧ wr = w1)
                  case atStart => exact ⟨0, by decide, by decide, by rfl, rfl⟩
                  case round =>
                    obtain ⟨j, hj, hg, rfl, hwr⟩ := hrel
                    have hwr2 := hwr.symm
                    clear hwr
                    subst hwr2
                    have hj3 : j = 0 := by omega
                    obtain rfl := hj3
                    go_wp2
                    go_ret2
                    exact ⟨rfl, b1⟩
          · obtain rfl : kk = 2 := hkc
            match ts, hln, HT1, hrest with
            | [t0, t1], _, HT1, hrest =>
              rcases HT1.out with h | ⟨b, off, rfl, hbl, hc⟩
              · exact absurd h (by simp)
              have e0 : w1.cell? ⟨b, off, none⟩ = some (.int .i64 t0) := hc 0 (by simp)
              have e1 : w1.cell? ⟨b, off + 1, none⟩ = some (.int .i64 t1) := hc 1 (by simp)
              clear hc HT1 hln hck
              have key : ((t0 = 1 ∧ t1 = 1) ∧ T = 1 ∧ E = 0) ∨ (¬ (t0 = 1 ∧ t1 = 1) ∧ T = 0 ∧ E = 8) := by
                split at hrest
                · rename_i hB
                  obtain ⟨h1, h2⟩ := Prod.mk.inj hrest
                  exact .inl ⟨by simpa [kdAll, kdMeant] using hB, by simpa [kdMeant] using h1, h2⟩
                · rename_i hB
                  obtain ⟨h1, h2⟩ := Prod.mk.inj hrest
                  exact .inr ⟨fun hc => hB (by simp [kdAll, kdMeant, hc]), h1, h2⟩
              clear hrest
              rcases key with ⟨⟨rfl, rfl⟩, rfl, rfl⟩ | ⟨hc, rfl, rfl⟩
              · skip
                go_wp2
                go_loopg [10] 2 (fun gg s10 wr => ∃ j : Nat, j ≤ 2 ∧ 2 - j ≤ gg ∧ s10 = .int .i64 j ∧ wr = w1)
                case atStart => exact ⟨0, by decide, by decide, by rfl, rfl⟩
                case round =>
                  obtain ⟨j, hj, hg, rfl, hwr⟩ := hrel
                  have hwr2 := hwr.symm
                  clear hwr
                  subst hwr2
                  have hj3 : j = 0 ∨ j = 1 ∨ j = 2 := by omega
                  rcases hj3 with rfl | rfl | rfl
                  · go_wp2
                    go_roundg (2 - 1)
                    case measure => omega
                    case rel => exact ⟨1, by decide, by omega, by go_num, rfl⟩
                  · go_wp2
                    go_roundg (2 - 2)
                    case measure => omega
                    case rel => exact ⟨2, by decide, by omega, by go_num, rfl⟩
                  · go_wp2
                    go_ret2
                    exact ⟨rfl, b1⟩
              · by_cases h0 : t0 = 1
                · subst h0
                  have q1 : (t1 != 1) = true := by simp; intro h; exact hc ⟨rfl, h⟩
                  go_wp2
                  go_loopg [10] 2 (fun gg s10 wr => ∃ j : Nat, j ≤ 1 ∧ 2 - j ≤ gg ∧ s10 = .int .i64 j ∧ wr = w1)
                  case atStart => exact ⟨0, by decide, by decide, by rfl, rfl⟩
                  case round =>
                    obtain ⟨j, hj, hg, rfl, hwr⟩ := hrel
                    have hwr2 := hwr.symm
                    clear hwr
                    subst hwr2
                    have hj3 : j = 0 ∨ j = 1 := by omega
                    rcases hj3 with rfl | rfl
                    · go_wp2
                      go_roundg (2 - 1)
                      case measure => omega
                      case rel => exact ⟨1, by decide, by omega, by go_num, rfl⟩
                    · go_wp2
                      go_ret2
                      exact ⟨rfl, b1⟩
                · have q0 : (t0 != 1) = true := by simpa using h0
                  go_wp2
                  go_loopg [10] 2 (fun gg s10 wr => ∃ j : Nat, j ≤ 0 ∧ 2 - j ≤ gg ∧ s10 = .int .i64 j ∧ wr = w1)
                  case atStart => exact ⟨0, by decide, by decide, by rfl, rfl⟩
                  case round =>
                    obtain ⟨j, hj, hg, rfl, hwr⟩ := hrel
                    have hwr2 := hwr.symm
                    clear hwr
                    subst hwr2
                    have hj3 : j = 0 := by omega
                    obtain rfl := hj3
                    go_wp2
                    go_ret2
                    exact ⟨rfl, b1⟩
          · obtain rfl : kk = 2 := hkc
            match ts, hln, HT1, hrest with
            | [t0, t1], _, HT1, hrest =>
              rcases HT1.out with h | ⟨b, off, rfl, hbl, hc⟩
              · exact absurd h (by simp)
              have e0 : w1.cell? ⟨b, off, none⟩ = some (.int .i64 t0) := hc 0 (by simp)
              have e1 : w1.cell? ⟨b, off + 1, none⟩ = some (.int .i64 t1) := hc 1 (by simp)
              clear hc HT1 hln hck
              have key : ((t0 = 1 ∧ t1 = 1) ∧ T = 1 ∧ E = 0) ∨ (¬ (t0 = 1 ∧ t1 = 1) ∧ T = 0 ∧ E = 8) := by
                split at hrest
                · rename_i hB
                  obtain ⟨h1, h2⟩ := Prod.mk.inj hrest
                  exact .inl ⟨by simpa [kdAll, kdMeant] using hB, by simpa [kdMeant] using h1, h2⟩
                · rename_i hB
                  obtain ⟨h1, h2⟩ := Prod.mk.inj hrest
                  exact .inr ⟨fun hc => hB (by simp [kdAll, kdMeant, hc]), h1, h2⟩
              clear hrest
              rcases key with ⟨⟨rfl, rfl⟩, rfl, rfl⟩ | ⟨hc, rfl, rfl⟩
              · skip
                go_wp2
                go_loopg [10] 2 (fun gg s10 wr => ∃ j : Nat, j ≤ 2 ∧ 2 - j ≤ gg ∧ s10 = .int .i64 j ∧ wr = w1)
                case atStart => exact ⟨0, by decide, by decide, by rfl, rfl⟩
                case round =>
                  obtain ⟨j, hj, hg, rfl, hwr⟩ := hrel
                  have hwr2 := hwr.symm
                  clear hwr
                  subst hwr2
                  have hj3 : j = 0 ∨ j = 1 ∨ j = 2 := by omega
                  rcases hj3 with rfl | rfl | rfl
                  · go_wp2
                    go_roundg (2 - 1)
                    case measure => omega
                    case rel => exact ⟨1, by decide, by omega, by go_num, rfl⟩
                  · go_wp2
                    go_roundg (2 - 2)
                    case measure => omega
                    case rel => exact ⟨2, by decide, by omega, by go_num, rfl⟩
                  · go_wp2
                    go_ret2
                    exact ⟨rfl, b1⟩
              · by_cases h0 : t0 = 1
                · subst h0
                  have q1 : (t1 != 1) = true := by simp; intro h; exact hc ⟨rfl, h⟩
                  go_wp2
                  go_loopg [10] 2 (fun gg s10 wr => ∃ j : Nat, j ≤ 1 ∧ 2 - j ≤ gg ∧ s10 = .int .i64 j ∧ wr = w1)
                  case atStart => exact ⟨0, by decide, by decide, by rfl, rfl⟩
                  case round =>
                    obtain ⟨j, hj, hg, rfl, hwr⟩ := hrel
                    have hwr2 := hwr.symm
                    clear hwr
                    subst hwr2
                    have hj3 : j = 0 ∨ j = 1 := by omega
                    rcases hj3 with rfl | rfl
                    · go_wp2
                      go_roundg (2 - 1)
                      case measure => omega
                      case rel => exact ⟨1, by decide, by omega, by go_num, rfl⟩
                    · go_wp2
                      go_ret2
                      exact ⟨rfl, b1⟩
                · have q0 : (t0 != 1) = true := by simpa using h0
                  go_wp2
                  go_loopg [10] 2 (fun gg s10 wr => ∃ j : Nat, j ≤ 0 ∧ 2 - j ≤ gg ∧ s10 = .int .i64 j ∧ wr = w1)
                  case atStart => exact ⟨0, by decide, by decide, by rfl, rfl⟩
                  case round =>
                    obtain ⟨j, hj, hg, rfl, hwr⟩ := hrel
                    have hwr2 := hwr.symm
                    clear hwr
                    subst hwr2
                    have hj3 : j = 0 := by omega
                    obtain rfl := hj3
                    go_wp2
                    go_ret2
                    exact ⟨rfl, b1⟩
          · obtain rfl : kk = 2 := hkc
            match ts, hln, HT1, hrest with
            | [t0, t1], _, HT1, hrest =>
              rcases HT1.out with h | ⟨b, off, rfl, hbl, hc⟩
              · exact absurd h (by simp)
              have e0 : w1.cell? ⟨b, off, none⟩ = some (.int .i64 t0) := hc 0 (by simp)
              have e1 : w1.cell? ⟨b, off + 1, none⟩ = some (.int .i64 t1) := hc 1 (by simp)
              clear hc HT1 hln hck
              have key : ((t0 = 1 ∧ t1 = 1) ∧ T = 1 ∧ E = 0) ∨ (¬ (t0 = 1 ∧ t1 = 1) ∧ T = 0 ∧ E = 8) := by
                split at hrest
                · rename_i hB
                  obtain ⟨h1, h2⟩ := Prod.mk.inj hrest
                  exact .inl ⟨by simpa [kdAll, kdMeant] using hB, by simpa [kdMeant] using h1, h2⟩
                · rename_i hB
                  obtain ⟨h1, h2⟩ := Prod.mk.inj hrest
                  exact .inr ⟨fun hc => hB (by simp [kdAll, kdMeant, hc]), h1, h2⟩
              clear hrest
              rcases key with ⟨⟨rfl, rfl⟩, rfl, rfl⟩ | ⟨hc, rfl, rfl⟩
              · skip
                go_wp2
                go_loopg [10] 2 (fun gg s10 wr => ∃ j : Nat, j ≤ 2 ∧ 2 - j ≤ gg ∧ s10 = .int .i64 j ∧ wr = w1)
                case atStart => exact ⟨0, by decide, by decide, by rfl, rfl⟩
                case round =>
                  obtain ⟨j, hj, hg, rfl, hwr⟩ := hrel
                  have hwr2 := hwr.symm
                  clear hwr
                  subst hwr2
                  have hj3 : j = 0 ∨ j = 1 ∨ j = 2 := by omega
                  rcases hj3 with rfl | rfl | rfl
                  · go_wp2
                    go_roundg (2 - 1)
                    case measure => omega
                    case rel => exact ⟨1, by decide, by omega, by go_num, rfl⟩
                  · go_wp2
                    go_roundg (2 - 2)
                    case measure => omega
                    case rel => exact ⟨2, by decide, by omega, by go_num, rfl⟩
                  · go_wp2
                    go_ret2
                    exact ⟨rfl, b1⟩
              · by_cases h0 : t0 = 1
                · subst h0
                  have q1 : (t1 != 1) = true := by simp; intro h; exact hc ⟨rfl, h⟩
                  go_wp2
                  go_loopg [10] 2 (fun gg s10 wr => ∃ j : Nat, j ≤ 1 ∧ 2 - j ≤ gg ∧ s10 = .int .i64 j ∧ wr = w1)
                  case atStart => exact ⟨0, by decide, by decide, by rfl, rfl⟩
                  case round =>
                    obtain ⟨j, hj, hg, rfl, hwr⟩ := hrel
                    have hwr2 := hwr.symm
                    clear hwr
                    subst hwr2
                    have hj3 : j = 0 ∨ j = 1 := by omega
                    rcases hj3 with rfl | rfl
                    · go_wp2
                      go_roundg (2 - 1)
                      case measure => omega
                      case rel => exact ⟨1, by decide, by omega, by go_num, rfl⟩
                    · go_wp2
                      go_ret2
                      exact ⟨rfl, b1⟩
                · have q0 : (t0 != 1) = true := by simpa using h0
                  go_wp2
                  go_loopg [10] 2 (fun gg s10 wr => ∃ j : Nat, j ≤ 0 ∧ 2 - j ≤ gg ∧ s10 = .int .i64 j ∧ wr = w1)
                  case atStart => exact ⟨0, by decide, by decide, by rfl, rfl⟩
                  case round =>
                    obtain ⟨j, hj, hg, rfl, hwr⟩ := hrel
                    have hwr2 := hwr.symm
                    clear hwr
                    subst hwr2
                    have hj3 : j = 0 := by omega
                    obtain rfl := hj3
                    go_wp2
                    go_ret2
                    exact ⟨rfl, b1⟩
          · obtain rfl : kk = 1 := hkc
            match ts, hln, HT1, hrest with
            | [t0], _, HT1, hrest =>
              rcases HT1.out with h | ⟨b, off, rfl, hbl, hc⟩
              · exact absurd h (by simp)
              have e0 : w1.cell? ⟨b, off, none⟩ = some (.int .i64 t0) := hc 0 (by simp)
              clear hc HT1 hln hck
              have key : ((t0 = 1) ∧ T = 1 ∧ E = 0) ∨ (¬ (t0 = 1) ∧ T = 0 ∧ E = 8) := by
                split at hrest
                · rename_i hB
                  obtain ⟨h1, h2⟩ := Prod.mk.inj hrest
                  exact .inl ⟨by simpa [kdAll, kdMeant] using hB, by simpa [kdMeant] using h1, h2⟩
                · rename_i hB
                  obtain ⟨h1, h2⟩ := Prod.mk.inj hrest
                  exact .inr ⟨fun hc => hB (by simp [kdAll, kdMeant, hc]), h1, h2⟩
              clear hrest
              rcases key with ⟨rfl, rfl, rfl⟩ | ⟨hc, rfl, rfl⟩
              · skip
                go_wp2
                go_loopg [10] 1 (fun gg s10 wr => ∃ j : Nat, j ≤ 1 ∧ 1 - j ≤ gg ∧ s10 = .int .i64 j ∧ wr = w1)
                case atStart => exact ⟨0, by decide, by decide, by rfl, rfl⟩
                case round =>
                  obtain ⟨j, hj, hg, rfl, hwr⟩ := hrel
                  have hwr2 := hwr.symm
                  clear hwr
                  subst hwr2
                  have hj3 : j = 0 ∨ j = 1 := by omega
                  rcases hj3 with rfl | rfl
                  · go_wp2
                    go_roundg (1 - 1)
                    case measure => omega
                    case rel => exact ⟨1, by decide, by omega, by go_num, rfl⟩
                  · go_wp2
                    go_ret2
                    exact ⟨rfl, b1⟩
              · have q0 : (t0 != 1) = true := by simpa using hc
                go_wp2
                go_loopg [10] 1 (fun gg s10 wr => ∃ j : Nat, j ≤ 0 ∧ 1 - j ≤ gg ∧ s10 = .int .i64 j ∧ wr = w1)
                case atStart => exact ⟨0, by decide, by decide, by rfl, rfl⟩
                case round =>
                  obtain ⟨j, hj, hg, rfl, hwr⟩ := hrel
                  have hwr2 := hwr.symm
                  clear hwr
                  subst hwr2
                  have hj3 : j = 0 := by omega
                  obtain rfl := hj3
                  go_wp2
                  go_ret2
                  exact ⟨rfl, b1⟩
          · obtain rfl : kk = 1 := hkc
            match ts, hln, HT1, hrest with
            | [t0], _, HT1, hrest =>
              rcases HT1.out with h | ⟨b, off, rfl, hbl, hc⟩
              · exact absurd h (by simp)
              have e0 : w1.cell? ⟨b, off, none⟩ = some (.int .i64 t0) := hc 0 (by simp)
              clear hc HT1 hln hck
              have key : ((t0 = 3) ∧ T = 1 ∧ E = 0) ∨ (¬ (t0 = 3) ∧ T = 0 ∧ E = 8) := by
                split at hrest
                · rename_i hB
                  obtain ⟨h1, h2⟩ := Prod.mk.inj hrest
                  exact .inl ⟨by simpa [kdAll, kdMeant] using hB, by simpa [kdMeant] using h1, h2⟩
                · rename_i hB
                  obtain ⟨h1, h2⟩ := Prod.mk.inj hrest
                  exact .inr ⟨fun hc => hB (by simp [kdAll, kdMeant, hc]), h1, h2⟩
              clear hrest
              rcases key with ⟨rfl, rfl, rfl⟩ | ⟨hc, rfl, rfl⟩
              · skip
                go_wp2
                go_loopg [10] 1 (fun gg s10 wr => ∃ j : Nat, j ≤ 1 ∧ 1 - j ≤ gg ∧ s10 = .int .i64 j ∧ wr = w1)
                case atStart => exact ⟨0, by decide, by decide, by rfl, rfl⟩
                case round =>
                  obtain ⟨j, hj, hg, rfl, hwr⟩ := hrel
                  have hwr2 := hwr.symm
                  clear hwr
                  subst hwr2
                  have hj3 : j = 0 ∨ j = 1 := by omega
                  rcases hj3 with rfl | rfl
                  · go_wp2
                    go_roundg (1 - 1)
                    case measure => omega
                    case rel => exact ⟨1, by decide, by omega, by go_num, rfl⟩
                  · go_wp2
                    go_ret2
                    exact ⟨rfl, b1⟩
              · have q0 : (t0 != 3) = true := by simpa using hc
                go_wp2
                go_loopg [10] 1 (fun gg s10 wr => ∃ j : Nat, j ≤ 0 ∧ 1 - j ≤ gg ∧ s10 = .int .i64 j ∧ wr = w1)
                case atStart => exact ⟨0, by decide, by decide, by rfl, rfl⟩
                case round =>
                  obtain ⟨j, hj, hg, rfl, hwr⟩ := hrel
                  have hwr2 := hwr.symm
                  clear hwr
                  subst hwr2
                  have hj3 : j = 0 := by omega
                  obtain rfl := hj3
                  go_wp2
                  go_ret2
                  exact ⟨rfl, b1⟩
          · obtain rfl : kk = 3 := hkc
            match ts, hln, HT1, hrest with
            | [t0, t1, t2], _, HT1, hrest =>
              rcases HT1.out with h | ⟨b, off, rfl, hbl, hc⟩
              · exact absurd h (by simp)
              have e0 : w1.cell? ⟨b, off, none⟩ = some (.int .i64 t0) := hc 0 (by simp)
              have e1 : w1.cell? ⟨b, off + 1, none⟩ = some (.int .i64 t1) := hc 1 (by simp)
              have e2 : w1.cell? ⟨b, off + 2, none⟩ = some (.int .i64 t2) := hc 2 (by simp)
              clear hc HT1 hln hck
              have key : ((t0 = 2 ∧ t1 = t2) ∧ T = t2 ∧ E = 0) ∨ (¬ (t0 = 2 ∧ t1 = t2) ∧ T = 0 ∧ E = 8) := by
                split at hrest
                · rename_i hB
                  obtain ⟨h1, h2⟩ := Prod.mk.inj hrest
                  exact .inl ⟨by simpa [kdAll, kdMeant] using hB, by simpa [kdMeant] using h1, h2⟩
                · rename_i hB
                  obtain ⟨h1, h2⟩ := Prod.mk.inj hrest
                  exact .inr ⟨fun hc => hB (by simp [kdAll, kdMeant, hc]), h1, h2⟩
              clear hrest
              rcases key with ⟨⟨rfl, h12⟩, hT, rfl⟩ | ⟨hc, rfl, rfl⟩
              · have hT1 : T = t1 := hT.trans h12.symm
                subst hT1
                have q1 : (T != t2) = false := by simp [h12]
                go_wp2
                go_quiet (fail)
                go_wp2
                go_ret2
                exact ⟨by rw [h12]; rfl, by repeat (first | exact b1 | apply below_drewN | refine Below.drew ?_)⟩
              · by_cases h0 : t0 = 2
                · subst h0
                  have q1 : (t1 != t2) = true := by simp; intro h; exact hc ⟨rfl, h⟩
                  go_wp2
                  go_quiet (fail)
                  go_wp2
                  go_ret2
                  exact ⟨rfl, by repeat (first | exact b1 | apply below_drewN | refine Below.drew ?_)⟩
                · have q0 : (t0 != 2) = true := by simpa using h0
                  go_wp2
                  go_quiet (fail)
                  go_wp2
                  go_ret2
                  exact ⟨rfl, by repeat (first | exact b1 | apply below_drewN | refine Below.drew ?_)⟩
        · have hlb : ((kk : Int) != A) = true := by simpa using hlen
          have hf := HR.out
          rw [ruleP_len HF.out hall (by rw [HN.out]; have := HC.out; omega)] at hf
          obtain ⟨rfl, rfl⟩ := Prod.mk.inj hf
          clear hf hall HR HA
          go_wp2
          go_ret2
          exact ⟨rfl, b1⟩
end Go.Proofs.YtkoejkpjkcejcaaDoor
