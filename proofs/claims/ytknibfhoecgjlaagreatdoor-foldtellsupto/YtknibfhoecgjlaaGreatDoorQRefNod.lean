/-
  The document's nodes (package sluiceref1): the first node that is wrong.
-/
import Derived.Test.YtknibfhoecgjlaaGreatDoorGrAr
namespace Go.Proofs.YtknibfhoecgjlaaGreatDoor
open Go.RowKit Go.BigFrame
set_option linter.unusedVariables false

theorem ndsE_at {l : List Ex} {k : Nat} (h : k < l.length) : ndsE (l.drop k) = if ndE l[k] ≠ 0 then ndE l[k] else ndsE (l.drop (k + 1)) := by
  rw [List.drop_eq_getElem_cons h, ndsE]
set_option maxHeartbeats 8000000 in
set_option maxRecDepth 20000 in
theorem refNodes_any : ∀ (x : Ex) (lo : Nat → Prop) (v : Value) (w : World), ExIn w lo v x →
    Calls Tryz.prog 26 #[v] w fun e w' => e = .returned (.int .i64 (ndE x)) ∧ Below w.heap.size w w' := by
  refine Ex.ind fun op nm vt vn vs pos l ih lo v w hx => ?_
  rw [ExIn] at hx
  obtain ⟨p, ca, rfl, ⟨hm, hmc⟩, ho, hnm, hvs, hparts⟩ := hx
  obtain ⟨K, hK⟩ : ∃ K, ndE (.node op nm vt vn vs pos l) = K := ⟨_, rfl⟩
  rw [hK]
  obtain ⟨N0, hN0⟩ : ∃ N0, nodeE (.node op nm vt vn vs pos l) = N0 := ⟨_, rfl⟩
  rw [ndE, hN0] at hK
  rw [node_ar] at hN0
  simp only [Ex.op, Ex.nm, Ex.vt, Ex.vn, Ex.vs, Ex.args] at hN0
  unfold maxLen at hm
  have b1 : Below w.heap.size w (w.alloc (.cells #[.string op, .string nm, .int .i64 vt, .int .i64 vn, .string vs, .slice p l.length ca, .int .i64 pos] 26)) := (Below.refl _ w).alloc (Nat.le_refl _) _
  have cA := refArity_any op (w.alloc (.cells #[.string op, .string nm, .int .i64 vt, .int .i64 vn, .string vs, .slice p l.length ca, .int .i64 pos] 26))
  have cN := fun W => refName_any nm W hnm
  have cV := fun W => refVal_any vt vn vs W hvs
  obtain ⟨A, hAr⟩ : ∃ A, arityT op.data.toList = A := ⟨_, rfl⟩
  obtain ⟨NT, hNT⟩ : ∃ NT, nameT nm.data.toList = NT := ⟨_, rfl⟩
  rw [hAr] at cA
  rw [hNT] at cN
  simp only [hAr, hNT] at hN0
  have HAR : Hid (arityT op.data.toList = A) := hAr
  clear hAr hNT
  have HI : Aside (∀ y ∈ l, ∀ (lo : Nat → Prop) (v : Value) (w : World), ExIn w lo v y → Calls Tryz.prog 26 #[v] w fun e w' => e = .returned (.int .i64 (ndE y)) ∧ Below w.heap.size w w') := ih
  have HPA : Aside (l.length = 0 ∨ ∃ b off, p = some ⟨b, off, none⟩ ∧ b < w.heap.size ∧ lo b ∧ ExsIn w lo b off l) := hparts
  have box : Hid (∀ wr, Below (w.heap.size + 1) (w.alloc (.cells #[.string op, .string nm, .int .i64 vt, .int .i64 vn, .string vs, .slice p l.length ca, .int .i64 pos] 26)) wr → (wr.cell? ⟨w.heap.size, 0, none⟩ = some (.string op) ∧ wr.cell? ⟨w.heap.size, 1, none⟩ = some (.string nm) ∧ wr.cell? ⟨w.heap.size, 2, none⟩ = some (.int .i64 vt) ∧ wr.cell? ⟨w.heap.size, 3, none⟩ = some (.int .i64 vn) ∧ wr.cell? ⟨w.heap.size, 4, none⟩ = some (.string vs) ∧ wr.cell? ⟨w.heap.size, 5, none⟩ = some (.slice p l.length ca)) ∧ w.heap.size < wr.heap.size ∧ Below w.heap.size w wr) := fun wr hb => by
    obtain ⟨h1, _, h3⟩ := box_at w _ _ hb (Nat.lt_succ_self _)
    exact ⟨⟨h1 0, h1 1, h1 2, h1 3, h1 4, h1 5⟩, h3, b1.trans (hb.mono (Nat.le_succ _))⟩
  clear ih hparts b1
  by_cases hA : A < 0
  · have hA0 : ¬ 0 ≤ A := by omega
    simp [nodeB, hA0] at hN0
    subst hN0
    simp at hK
    subst hK
    go_enter Tryz.func26, Tryz.ntmps26
    go_wp2_with fail
    refine cA.mono ?_
    rintro e w1 ⟨rfl, b2⟩
    have B2 : Below (w.heap.size + 1) (w.alloc (.cells #[.string op, .string nm, .int .i64 vt, .int .i64 vn, .string vs, .slice p l.length ca, .int .i64 pos] 26)) w1 := b2.mono (by simp)
    obtain ⟨⟨k0, k1, k2, k3, k4, k5⟩, hl1, _⟩ := box.out w1 B2
    clear cA b2
    go_wp2_with fail
    refine (cN _).mono ?_
    rintro e w2 ⟨rfl, b3⟩
    have B3 : Below (w.heap.size + 1) (w.alloc (.cells #[.string op, .string nm, .int .i64 vt, .int .i64 vn, .string vs, .slice p l.length ca, .int .i64 pos] 26)) w2 := B2.trans (b3.mono hl1)
    obtain ⟨⟨j0, j1, j2, j3, j4, j5⟩, hl2, bw2⟩ := box.out w2 B3
    clear cN b3 k0 k1 k2 k3 k4 k5 B2
    go_wp2
    go_ret
    exact ⟨rfl, bw2⟩
  · have hA0 : 0 ≤ A := by omega
    cases hic : (op.toList == [99, 111, 108])
    · skip
      cases hln : ((l.length : Int) != A)
      · skip
        cases hnn : (nm.toList == [])
        · skip
          simp [nodeB, hA0, hic, hln, hnn] at hN0
          subst hN0
          simp at hK
          subst hK
          go_enter Tryz.func26, Tryz.ntmps26
          go_wp2_with fail
          refine cA.mono ?_
          rintro e w1 ⟨rfl, b2⟩
          have B2 : Below (w.heap.size + 1) (w.alloc (.cells #[.string op, .string nm, .int .i64 vt, .int .i64 vn, .string vs, .slice p l.length ca, .int .i64 pos] 26)) w1 := b2.mono (by simp)
          obtain ⟨⟨k0, k1, k2, k3, k4, k5⟩, hl1, _⟩ := box.out w1 B2
          clear cA b2
          go_wp2_with fail
          refine (cN _).mono ?_
          rintro e w2 ⟨rfl, b3⟩
          have B3 : Below (w.heap.size + 1) (w.alloc (.cells #[.string op, .string nm, .int .i64 vt, .int .i64 vn, .string vs, .slice p l.length ca, .int .i64 pos] 26)) w2 := B2.trans (b3.mono hl1)
          obtain ⟨⟨j0, j1, j2, j3, j4, j5⟩, hl2, bw2⟩ := box.out w2 B3
          clear cN b3 k0 k1 k2 k3 k4 k5 B2
          go_wp2
          go_ret
          exact ⟨rfl, bw2⟩
        · skip
          cases hiv : (op.toList == [118, 97, 108])
          · skip
            by_cases h1 : vt = 0
            · have g1 : (vt != 0) = false := by simpa using h1
              by_cases h2 : vn = 0
              · have g2 : (vn != 0) = false := by simpa using h2
                cases g3 : (vs.toList == [])
                · skip
                  simp [nodeB, hA0, hic, hln, hnn, hiv, h1, h2, g3] at hN0
                  subst hN0
                  simp at hK
                  subst hK
                  clear h1 h2
                  go_enter Tryz.func26, Tryz.ntmps26
                  go_wp2_with fail
                  refine cA.mono ?_
                  rintro e w1 ⟨rfl, b2⟩
                  have B2 : Below (w.heap.size + 1) (w.alloc (.cells #[.string op, .string nm, .int .i64 vt, .int .i64 vn, .string vs, .slice p l.length ca, .int .i64 pos] 26)) w1 := b2.mono (by simp)
                  obtain ⟨⟨k0, k1, k2, k3, k4, k5⟩, hl1, _⟩ := box.out w1 B2
                  clear cA b2
                  go_wp2_with fail
                  refine (cN _).mono ?_
                  rintro e w2 ⟨rfl, b3⟩
                  have B3 : Below (w.heap.size + 1) (w.alloc (.cells #[.string op, .string nm, .int .i64 vt, .int .i64 vn, .string vs, .slice p l.length ca, .int .i64 pos] 26)) w2 := B2.trans (b3.mono hl1)
                  obtain ⟨⟨j0, j1, j2, j3, j4, j5⟩, hl2, bw2⟩ := box.out w2 B3
                  clear cN b3 k0 k1 k2 k3 k4 k5 B2
                  go_wp2
                  go_ret
                  exact ⟨rfl, bw2⟩
                · skip
                  simp [nodeB, hA0, hic, hln, hnn, hiv, h1, h2, g3] at hN0
                  subst hN0
                  simp at hK
                  have HK : Hid (ndsE l = K) := hK
                  clear hK h1 h2 cV
                  go_enter Tryz.func26, Tryz.ntmps26
                  go_wp2_with fail
                  refine cA.mono ?_
                  rintro e w1 ⟨rfl, b2⟩
                  have B2 : Below (w.heap.size + 1) (w.alloc (.cells #[.string op, .string nm, .int .i64 vt, .int .i64 vn, .string vs, .slice p l.length ca, .int .i64 pos] 26)) w1 := b2.mono (by simp)
                  obtain ⟨⟨k0, k1, k2, k3, k4, k5⟩, hl1, _⟩ := box.out w1 B2
                  clear cA b2
                  go_wp2_with fail
                  refine (cN _).mono ?_
                  rintro e w2 ⟨rfl, b3⟩
                  have B3 : Below (w.heap.size + 1) (w.alloc (.cells #[.string op, .string nm, .int .i64 vt, .int .i64 vn, .string vs, .slice p l.length ca, .int .i64 pos] 26)) w2 := B2.trans (b3.mono hl1)
                  obtain ⟨⟨j0, j1, j2, j3, j4, j5⟩, hl2, bw2⟩ := box.out w2 B3
                  clear cN b3 k0 k1 k2 k3 k4 k5 B2
                  go_wp2
                  go_loopg [6, 7] l.length (fun gg s6 _ wr => ∃ kk : Nat, kk ≤ l.length ∧ l.length - kk ≤ gg ∧ s6 = .int .i64 kk ∧ Aside (Below (w.heap.size + 1) (w.alloc (.cells #[.string op, .string nm, .int .i64 vt, .int .i64 vn, .string vs, .slice p l.length ca, .int .i64 pos] 26)) wr) ∧ Hid (ndsE (l.drop kk) = K))
                  case atStart => exact ⟨0, Nat.zero_le _, by omega, rfl, B3, HK⟩
                  case round =>
                    obtain ⟨kk, hkk, hg, rfl, BW, HG⟩ := hrel
                    obtain ⟨⟨r0, r1, r2, r3, r4, r5⟩, hlr, bwr⟩ := box.out wr BW.out
                    clear j0 j1 j2 j3 j4 j5 B3
                    by_cases hlt : kk < l.length
                    · have hltz : (kk : Int) < (l.length : Int) := by omega
                      have h0z : (0 : Int) ≤ (kk : Int) := by omega
                      rcases HPA.out with h | ⟨ba, oa, rfl, hbl, hlo, hE⟩
                      · exact absurd h (by omega)
                      obtain ⟨v0, v1, v2, v3, v4, v5, v6, e0, e1, e2, e3, e4, e5, e6, hy⟩ := exsIn_at w lo ba l oa hE kk hlt
                      obtain ⟨u0, u1, u2, u3, u4, u5, u6, u7, u8, huu⟩ := hy.agg
                      injection huu with huu
                      simp only [Array.mk.injEq, List.cons.injEq, and_true] at huu
                      obtain ⟨rfl, rfl, rfl, rfl, rfl, rfl, rfl⟩ := huu
                      have kA : ∀ o, wr.cell? ⟨ba, o, none⟩ = w.cell? ⟨ba, o, none⟩ := fun o => bwr.cell (p := ⟨ba, o, none⟩) hbl
                      rw [← kA] at e0 e1 e2 e3 e4 e5 e6
                      have hblr : ba < wr.heap.size := by have := bwr.size; omega
                      have cY := HI.out _ (List.getElem_mem hlt) lo _ wr (hy.on bwr)
                      have hat := (ndsE_at hlt).symm.trans HG.out
                      generalize ndE l[kk] = E at cY hat
                      have HKL : Hid (kk < l.length) := hlt
                      clear hE kA hy HG
                      by_cases hE0 : E = 0
                      · subst hE0
                        rw [if_neg (by simp)] at hat
                        have HG2 : Hid (ndsE (l.drop (kk + 1)) = K) := hat
                        clear hat
                        go_wp2_with fail
                        refine cY.mono ?_
                        rintro e w4 ⟨rfl, b4⟩
                        have BW4 : Aside (Below (w.heap.size + 1) (w.alloc (.cells #[.string op, .string nm, .int .i64 vt, .int .i64 vn, .string vs, .slice (some ⟨ba, oa, none⟩) l.length ca, .int .i64 pos] 26)) w4) := BW.out.trans (b4.mono hlr)
                        clear cY b4
                        go_wp2
                        go_roundg (l.length - (kk + 1))
                        case measure => have := HKL.out; omega
                        case rel => exact ⟨kk + 1, by have := HKL.out; omega, by omega, by go_num, BW4, HG2⟩
                      · rw [if_pos hE0] at hat
                        subst hat
                        have hEb : (E != 0) = true := by simpa using hE0
                        clear hE0
                        go_wp2_with fail
                        refine cY.mono ?_
                        rintro e w4 ⟨rfl, b4⟩
                        have b5 : Below w.heap.size w w4 := bwr.trans (b4.mono bwr.size)
                        clear cY b4
                        go_wp2
                        go_ret
                        exact ⟨rfl, b5⟩
                    · have hltz : ¬ (kk : Int) < (l.length : Int) := by omega
                      have hk0 : K = 0 := by rw [← HG.out, List.drop_eq_nil_of_le (by omega), ndsE]
                      subst hk0
                      clear HG HK
                      go_wp2
                      go_ret
                      exact ⟨rfl, bwr⟩
              · have g2 : (vn != 0) = true := by simpa using h2
                simp [nodeB, hA0, hic, hln, hnn, hiv, h1, h2] at hN0
                subst hN0
                simp at hK
                subst hK
                clear h1 h2
                go_enter Tryz.func26, Tryz.ntmps26
                go_wp2_with fail
                refine cA.mono ?_
                rintro e w1 ⟨rfl, b2⟩
                have B2 : Below (w.heap.size + 1) (w.alloc (.cells #[.string op, .string nm, .int .i64 vt, .int .i64 vn, .string vs, .slice p l.length ca, .int .i64 pos] 26)) w1 := b2.mono (by simp)
                obtain ⟨⟨k0, k1, k2, k3, k4, k5⟩, hl1, _⟩ := box.out w1 B2
                clear cA b2
                go_wp2_with fail
                refine (cN _).mono ?_
                rintro e w2 ⟨rfl, b3⟩
                have B3 : Below (w.heap.size + 1) (w.alloc (.cells #[.string op, .string nm, .int .i64 vt, .int .i64 vn, .string vs, .slice p l.length ca, .int .i64 pos] 26)) w2 := B2.trans (b3.mono hl1)
                obtain ⟨⟨j0, j1, j2, j3, j4, j5⟩, hl2, bw2⟩ := box.out w2 B3
                clear cN b3 k0 k1 k2 k3 k4 k5 B2
                go_wp2
                go_ret
                exact ⟨rfl, bw2⟩
            · have g1 : (vt != 0) = true := by simpa using h1
              simp [nodeB, hA0, hic, hln, hnn, hiv, h1] at hN0
              subst hN0
              simp at hK
              subst hK
              clear h1
              go_enter Tryz.func26, Tryz.ntmps26
              go_wp2_with fail
              refine cA.mono ?_
              rintro e w1 ⟨rfl, b2⟩
              have B2 : Below (w.heap.size + 1) (w.alloc (.cells #[.string op, .string nm, .int .i64 vt, .int .i64 vn, .string vs, .slice p l.length ca, .int .i64 pos] 26)) w1 := b2.mono (by simp)
              obtain ⟨⟨k0, k1, k2, k3, k4, k5⟩, hl1, _⟩ := box.out w1 B2
              clear cA b2
              go_wp2_with fail
              refine (cN _).mono ?_
              rintro e w2 ⟨rfl, b3⟩
              have B3 : Below (w.heap.size + 1) (w.alloc (.cells #[.string op, .string nm, .int .i64 vt, .int .i64 vn, .string vs, .slice p l.length ca, .int .i64 pos] 26)) w2 := B2.trans (b3.mono hl1)
              obtain ⟨⟨j0, j1, j2, j3, j4, j5⟩, hl2, bw2⟩ := box.out w2 B3
              clear cN b3 k0 k1 k2 k3 k4 k5 B2
              go_wp2
              go_ret
              exact ⟨rfl, bw2⟩
          · skip
            simp [nodeB, hA0, hic, hln, hnn, hiv] at hN0
            have hop : op.data.toList = [118, 97, 108] := by rw [← Lib.toList_data]; simpa using hiv
            have hA2 : A = 0 := by rw [← HAR.out, hop]; decide
            have hl0z : (l.length : Int) = A := by simpa using hln
            have hl0 : l.length = 0 := by omega
            have hnil : l = [] := List.length_eq_zero_iff.1 hl0
            have hKc : ckV vt vn vs.data.toList = K := by rw [← hK, hnil, ndsE, ← hN0]; by_cases h : ckV vt vn vs.data.toList = 0 <;> simp [h]
            clear hK hN0 hnil hl0 hl0z hA2 hop HPA HI
            obtain ⟨C, hC⟩ : ∃ C, chk vt vn vs.data.toList = C := ⟨_, rfl⟩
            rw [ckV, hC] at hKc
            rw [hC] at cV
            clear hC
            by_cases hC0 : C = 0
            · subst hC0
              rw [if_neg (by simp)] at hKc
              by_cases hv1 : vt = 1
              · have g1 : (vt == 1) = true := by simpa using hv1
                by_cases hv2 : vn < 0
                · rw [if_pos ⟨hv1, hv2⟩] at hKc
                  subst hKc
                  clear hv1
                  go_enter Tryz.func26, Tryz.ntmps26
                  go_wp2_with fail
                  refine cA.mono ?_
                  rintro e w1 ⟨rfl, b2⟩
                  have B2 : Below (w.heap.size + 1) (w.alloc (.cells #[.string op, .string nm, .int .i64 vt, .int .i64 vn, .string vs, .slice p l.length ca, .int .i64 pos] 26)) w1 := b2.mono (by simp)
                  obtain ⟨⟨k0, k1, k2, k3, k4, k5⟩, hl1, _⟩ := box.out w1 B2
                  clear cA b2
                  go_wp2_with fail
                  refine (cN _).mono ?_
                  rintro e w2 ⟨rfl, b3⟩
                  have B3 : Below (w.heap.size + 1) (w.alloc (.cells #[.string op, .string nm, .int .i64 vt, .int .i64 vn, .string vs, .slice p l.length ca, .int .i64 pos] 26)) w2 := B2.trans (b3.mono hl1)
                  obtain ⟨⟨j0, j1, j2, j3, j4, j5⟩, hl2, bw2⟩ := box.out w2 B3
                  clear cN b3 k0 k1 k2 k3 k4 k5 B2
                  go_wp2_with fail
                  refine (cV _).mono ?_
                  rintro e w3 ⟨rfl, b4⟩
                  have B4 : Below (w.heap.size + 1) (w.alloc (.cells #[.string op, .string nm, .int .i64 vt, .int .i64 vn, .string vs, .slice p l.length ca, .int .i64 pos] 26)) w3 := B3.trans (b4.mono hl2)
                  obtain ⟨⟨m0, m1, m2, m3, m4, m5⟩, hl3, bw3⟩ := box.out w3 B4
                  clear cV b4
                  go_wp2
                  go_ret
                  exact ⟨rfl, bw3⟩
                · rw [if_neg (fun hh => hv2 hh.2)] at hKc
                  subst hKc
                  clear hv1
                  go_enter Tryz.func26, Tryz.ntmps26
                  go_wp2_with fail
                  refine cA.mono ?_
                  rintro e w1 ⟨rfl, b2⟩
                  have B2 : Below (w.heap.size + 1) (w.alloc (.cells #[.string op, .string nm, .int .i64 vt, .int .i64 vn, .string vs, .slice p l.length ca, .int .i64 pos] 26)) w1 := b2.mono (by simp)
                  obtain ⟨⟨k0, k1, k2, k3, k4, k5⟩, hl1, _⟩ := box.out w1 B2
                  clear cA b2
                  go_wp2_with fail
                  refine (cN _).mono ?_
                  rintro e w2 ⟨rfl, b3⟩
                  have B3 : Below (w.heap.size + 1) (w.alloc (.cells #[.string op, .string nm, .int .i64 vt, .int .i64 vn, .string vs, .slice p l.length ca, .int .i64 pos] 26)) w2 := B2.trans (b3.mono hl1)
                  obtain ⟨⟨j0, j1, j2, j3, j4, j5⟩, hl2, bw2⟩ := box.out w2 B3
                  clear cN b3 k0 k1 k2 k3 k4 k5 B2
                  go_wp2_with fail
                  refine (cV _).mono ?_
                  rintro e w3 ⟨rfl, b4⟩
                  have B4 : Below (w.heap.size + 1) (w.alloc (.cells #[.string op, .string nm, .int .i64 vt, .int .i64 vn, .string vs, .slice p l.length ca, .int .i64 pos] 26)) w3 := B3.trans (b4.mono hl2)
                  obtain ⟨⟨m0, m1, m2, m3, m4, m5⟩, hl3, bw3⟩ := box.out w3 B4
                  clear cV b4
                  go_wp2
                  go_ret
                  exact ⟨rfl, bw3⟩
              · have g1 : (vt == 1) = false := by simpa using hv1
                rw [if_neg (fun hh => hv1 hh.1)] at hKc
                subst hKc
                clear hv1
                go_enter Tryz.func26, Tryz.ntmps26
                go_wp2_with fail
                refine cA.mono ?_
                rintro e w1 ⟨rfl, b2⟩
                have B2 : Below (w.heap.size + 1) (w.alloc (.cells #[.string op, .string nm, .int .i64 vt, .int .i64 vn, .string vs, .slice p l.length ca, .int .i64 pos] 26)) w1 := b2.mono (by simp)
                obtain ⟨⟨k0, k1, k2, k3, k4, k5⟩, hl1, _⟩ := box.out w1 B2
                clear cA b2
                go_wp2_with fail
                refine (cN _).mono ?_
                rintro e w2 ⟨rfl, b3⟩
                have B3 : Below (w.heap.size + 1) (w.alloc (.cells #[.string op, .string nm, .int .i64 vt, .int .i64 vn, .string vs, .slice p l.length ca, .int .i64 pos] 26)) w2 := B2.trans (b3.mono hl1)
                obtain ⟨⟨j0, j1, j2, j3, j4, j5⟩, hl2, bw2⟩ := box.out w2 B3
                clear cN b3 k0 k1 k2 k3 k4 k5 B2
                go_wp2_with fail
                refine (cV _).mono ?_
                rintro e w3 ⟨rfl, b4⟩
                have B4 : Below (w.heap.size + 1) (w.alloc (.cells #[.string op, .string nm, .int .i64 vt, .int .i64 vn, .string vs, .slice p l.length ca, .int .i64 pos] 26)) w3 := B3.trans (b4.mono hl2)
                obtain ⟨⟨m0, m1, m2, m3, m4, m5⟩, hl3, bw3⟩ := box.out w3 B4
                clear cV b4
                go_wp2
                go_ret
                exact ⟨rfl, bw3⟩
            · have g0 : (C == 0) = false := by simpa using hC0
              rw [if_pos hC0] at hKc
              subst hKc
              go_enter Tryz.func26, Tryz.ntmps26
              go_wp2_with fail
              refine cA.mono ?_
              rintro e w1 ⟨rfl, b2⟩
              have B2 : Below (w.heap.size + 1) (w.alloc (.cells #[.string op, .string nm, .int .i64 vt, .int .i64 vn, .string vs, .slice p l.length ca, .int .i64 pos] 26)) w1 := b2.mono (by simp)
              obtain ⟨⟨k0, k1, k2, k3, k4, k5⟩, hl1, _⟩ := box.out w1 B2
              clear cA b2
              go_wp2_with fail
              refine (cN _).mono ?_
              rintro e w2 ⟨rfl, b3⟩
              have B3 : Below (w.heap.size + 1) (w.alloc (.cells #[.string op, .string nm, .int .i64 vt, .int .i64 vn, .string vs, .slice p l.length ca, .int .i64 pos] 26)) w2 := B2.trans (b3.mono hl1)
              obtain ⟨⟨j0, j1, j2, j3, j4, j5⟩, hl2, bw2⟩ := box.out w2 B3
              clear cN b3 k0 k1 k2 k3 k4 k5 B2
              go_wp2_with fail
              refine (cV _).mono ?_
              rintro e w3 ⟨rfl, b4⟩
              have B4 : Below (w.heap.size + 1) (w.alloc (.cells #[.string op, .string nm, .int .i64 vt, .int .i64 vn, .string vs, .slice p l.length ca, .int .i64 pos] 26)) w3 := B3.trans (b4.mono hl2)
              obtain ⟨⟨m0, m1, m2, m3, m4, m5⟩, hl3, bw3⟩ := box.out w3 B4
              clear cV b4
              go_wp2
              go_ret
              exact ⟨rfl, bw3⟩
      · skip
        simp [nodeB, hA0, hic, hln] at hN0
        subst hN0
        simp at hK
        subst hK
        go_enter Tryz.func26, Tryz.ntmps26
        go_wp2_with fail
        refine cA.mono ?_
        rintro e w1 ⟨rfl, b2⟩
        have B2 : Below (w.heap.size + 1) (w.alloc (.cells #[.string op, .string nm, .int .i64 vt, .int .i64 vn, .string vs, .slice p l.length ca, .int .i64 pos] 26)) w1 := b2.mono (by simp)
        obtain ⟨⟨k0, k1, k2, k3, k4, k5⟩, hl1, _⟩ := box.out w1 B2
        clear cA b2
        go_wp2_with fail
        refine (cN _).mono ?_
        rintro e w2 ⟨rfl, b3⟩
        have B3 : Below (w.heap.size + 1) (w.alloc (.cells #[.string op, .string nm, .int .i64 vt, .int .i64 vn, .string vs, .slice p l.length ca, .int .i64 pos] 26)) w2 := B2.trans (b3.mono hl1)
        obtain ⟨⟨j0, j1, j2, j3, j4, j5⟩, hl2, bw2⟩ := box.out w2 B3
        clear cN b3 k0 k1 k2 k3 k4 k5 B2
        go_wp2
        go_ret
        exact ⟨rfl, bw2⟩
    · cases hnt : NT
      · skip
        simp [nodeB, hA0, hic, hnt] at hN0
        subst hN0
        simp at hK
        subst hK
        subst hnt
        go_enter Tryz.func26, Tryz.ntmps26
        go_wp2_with fail
        refine cA.mono ?_
        rintro e w1 ⟨rfl, b2⟩
        have B2 : Below (w.heap.size + 1) (w.alloc (.cells #[.string op, .string nm, .int .i64 vt, .int .i64 vn, .string vs, .slice p l.length ca, .int .i64 pos] 26)) w1 := b2.mono (by simp)
        obtain ⟨⟨k0, k1, k2, k3, k4, k5⟩, hl1, _⟩ := box.out w1 B2
        clear cA b2
        go_wp2_with fail
        refine (cN _).mono ?_
        rintro e w2 ⟨rfl, b3⟩
        have B3 : Below (w.heap.size + 1) (w.alloc (.cells #[.string op, .string nm, .int .i64 vt, .int .i64 vn, .string vs, .slice p l.length ca, .int .i64 pos] 26)) w2 := B2.trans (b3.mono hl1)
        obtain ⟨⟨j0, j1, j2, j3, j4, j5⟩, hl2, bw2⟩ := box.out w2 B3
        clear cN b3 k0 k1 k2 k3 k4 k5 B2
        go_wp2
        go_ret
        exact ⟨rfl, bw2⟩
      · skip
        subst hnt
        cases hln : ((l.length : Int) != A)
        · skip
          have hiv : (op.toList == [118, 97, 108]) = false := by
            have h := hic
            rw [beq_iff_eq] at h
            rw [h]; decide
          by_cases h1 : vt = 0
          · have g1 : (vt != 0) = false := by simpa using h1
            by_cases h2 : vn = 0
            · have g2 : (vn != 0) = false := by simpa using h2
              cases g3 : (vs.toList == [])
              · skip
                simp [nodeB, hA0, hic, hln, hiv, h1, h2, g3] at hN0
                subst hN0
                simp at hK
                subst hK
                clear h1 h2
                go_enter Tryz.func26, Tryz.ntmps26
                go_wp2_with fail
                refine cA.mono ?_
                rintro e w1 ⟨rfl, b2⟩
                have B2 : Below (w.heap.size + 1) (w.alloc (.cells #[.string op, .string nm, .int .i64 vt, .int .i64 vn, .string vs, .slice p l.length ca, .int .i64 pos] 26)) w1 := b2.mono (by simp)
                obtain ⟨⟨k0, k1, k2, k3, k4, k5⟩, hl1, _⟩ := box.out w1 B2
                clear cA b2
                go_wp2_with fail
                refine (cN _).mono ?_
                rintro e w2 ⟨rfl, b3⟩
                have B3 : Below (w.heap.size + 1) (w.alloc (.cells #[.string op, .string nm, .int .i64 vt, .int .i64 vn, .string vs, .slice p l.length ca, .int .i64 pos] 26)) w2 := B2.trans (b3.mono hl1)
                obtain ⟨⟨j0, j1, j2, j3, j4, j5⟩, hl2, bw2⟩ := box.out w2 B3
                clear cN b3 k0 k1 k2 k3 k4 k5 B2
                go_wp2
                go_ret
                exact ⟨rfl, bw2⟩
              · skip
                simp [nodeB, hA0, hic, hln, hiv, h1, h2, g3] at hN0
                subst hN0
                simp at hK
                have HK : Hid (ndsE l = K) := hK
                clear hK h1 h2 cV
                go_enter Tryz.func26, Tryz.ntmps26
                go_wp2_with fail
                refine cA.mono ?_
                rintro e w1 ⟨rfl, b2⟩
                have B2 : Below (w.heap.size + 1) (w.alloc (.cells #[.string op, .string nm, .int .i64 vt, .int .i64 vn, .string vs, .slice p l.length ca, .int .i64 pos] 26)) w1 := b2.mono (by simp)
                obtain ⟨⟨k0, k1, k2, k3, k4, k5⟩, hl1, _⟩ := box.out w1 B2
                clear cA b2
                go_wp2_with fail
                refine (cN _).mono ?_
                rintro e w2 ⟨rfl, b3⟩
                have B3 : Below (w.heap.size + 1) (w.alloc (.cells #[.string op, .string nm, .int .i64 vt, .int .i64 vn, .string vs, .slice p l.length ca, .int .i64 pos] 26)) w2 := B2.trans (b3.mono hl1)
                obtain ⟨⟨j0, j1, j2, j3, j4, j5⟩, hl2, bw2⟩ := box.out w2 B3
                clear cN b3 k0 k1 k2 k3 k4 k5 B2
                go_wp2
                go_loopg [6, 7] l.length (fun gg s6 _ wr => ∃ kk : Nat, kk ≤ l.length ∧ l.length - kk ≤ gg ∧ s6 = .int .i64 kk ∧ Aside (Below (w.heap.size + 1) (w.alloc (.cells #[.string op, .string nm, .int .i64 vt, .int .i64 vn, .string vs, .slice p l.length ca, .int .i64 pos] 26)) wr) ∧ Hid (ndsE (l.drop kk) = K))
                case atStart => exact ⟨0, Nat.zero_le _, by omega, rfl, B3, HK⟩
                case round =>
                  obtain ⟨kk, hkk, hg, rfl, BW, HG⟩ := hrel
                  obtain ⟨⟨r0, r1, r2, r3, r4, r5⟩, hlr, bwr⟩ := box.out wr BW.out
                  clear j0 j1 j2 j3 j4 j5 B3
                  by_cases hlt : kk < l.length
                  · have hltz : (kk : Int) < (l.length : Int) := by omega
                    have h0z : (0 : Int) ≤ (kk : Int) := by omega
                    rcases HPA.out with h | ⟨ba, oa, rfl, hbl, hlo, hE⟩
                    · exact absurd h (by omega)
                    obtain ⟨v0, v1, v2, v3, v4, v5, v6, e0, e1, e2, e3, e4, e5, e6, hy⟩ := exsIn_at w lo ba l oa hE kk hlt
                    obtain ⟨u0, u1, u2, u3, u4, u5, u6, u7, u8, huu⟩ := hy.agg
                    injection huu with huu
                    simp only [Array.mk.injEq, List.cons.injEq, and_true] at huu
                    obtain ⟨rfl, rfl, rfl, rfl, rfl, rfl, rfl⟩ := huu
                    have kA : ∀ o, wr.cell? ⟨ba, o, none⟩ = w.cell? ⟨ba, o, none⟩ := fun o => bwr.cell (p := ⟨ba, o, none⟩) hbl
                    rw [← kA] at e0 e1 e2 e3 e4 e5 e6
                    have hblr : ba < wr.heap.size := by have := bwr.size; omega
                    have cY := HI.out _ (List.getElem_mem hlt) lo _ wr (hy.on bwr)
                    have hat := (ndsE_at hlt).symm.trans HG.out
                    generalize ndE l[kk] = E at cY hat
                    have HKL : Hid (kk < l.length) := hlt
                    clear hE kA hy HG
                    by_cases hE0 : E = 0
                    · subst hE0
                      rw [if_neg (by simp)] at hat
                      have HG2 : Hid (ndsE (l.drop (kk + 1)) = K) := hat
                      clear hat
                      go_wp2_with fail
                      refine cY.mono ?_
                      rintro e w4 ⟨rfl, b4⟩
                      have BW4 : Aside (Below (w.heap.size + 1) (w.alloc (.cells #[.string op, .string nm, .int .i64 vt, .int .i64 vn, .string vs, .slice (some ⟨ba, oa, none⟩) l.length ca, .int .i64 pos] 26)) w4) := BW.out.trans (b4.mono hlr)
                      clear cY b4
                      go_wp2
                      go_roundg (l.length - (kk + 1))
                      case measure => have := HKL.out; omega
                      case rel => exact ⟨kk + 1, by have := HKL.out; omega, by omega, by go_num, BW4, HG2⟩
                    · rw [if_pos hE0] at hat
                      subst hat
                      have hEb : (E != 0) = true := by simpa using hE0
                      clear hE0
                      go_wp2_with fail
                      refine cY.mono ?_
                      rintro e w4 ⟨rfl, b4⟩
                      have b5 : Below w.heap.size w w4 := bwr.trans (b4.mono bwr.size)
                      clear cY b4
                      go_wp2
                      go_ret
                      exact ⟨rfl, b5⟩
                  · have hltz : ¬ (kk : Int) < (l.length : Int) := by omega
                    have hk0 : K = 0 := by rw [← HG.out, List.drop_eq_nil_of_le (by omega), ndsE]
                    subst hk0
                    clear HG HK
                    go_wp2
                    go_ret
                    exact ⟨rfl, bwr⟩
            · have g2 : (vn != 0) = true := by simpa using h2
              simp [nodeB, hA0, hic, hln, hiv, h1, h2] at hN0
              subst hN0
              simp at hK
              subst hK
              clear h1 h2
              go_enter Tryz.func26, Tryz.ntmps26
              go_wp2_with fail
              refine cA.mono ?_
              rintro e w1 ⟨rfl, b2⟩
              have B2 : Below (w.heap.size + 1) (w.alloc (.cells #[.string op, .string nm, .int .i64 vt, .int .i64 vn, .string vs, .slice p l.length ca, .int .i64 pos] 26)) w1 := b2.mono (by simp)
              obtain ⟨⟨k0, k1, k2, k3, k4, k5⟩, hl1, _⟩ := box.out w1 B2
              clear cA b2
              go_wp2_with fail
              refine (cN _).mono ?_
              rintro e w2 ⟨rfl, b3⟩
              have B3 : Below (w.heap.size + 1) (w.alloc (.cells #[.string op, .string nm, .int .i64 vt, .int .i64 vn, .string vs, .slice p l.length ca, .int .i64 pos] 26)) w2 := B2.trans (b3.mono hl1)
              obtain ⟨⟨j0, j1, j2, j3, j4, j5⟩, hl2, bw2⟩ := box.out w2 B3
              clear cN b3 k0 k1 k2 k3 k4 k5 B2
              go_wp2
              go_ret
              exact ⟨rfl, bw2⟩
          · have g1 : (vt != 0) = true := by simpa using h1
            simp [nodeB, hA0, hic, hln, hiv, h1] at hN0
            subst hN0
            simp at hK
            subst hK
            clear h1
            go_enter Tryz.func26, Tryz.ntmps26
            go_wp2_with fail
            refine cA.mono ?_
            rintro e w1 ⟨rfl, b2⟩
            have B2 : Below (w.heap.size + 1) (w.alloc (.cells #[.string op, .string nm, .int .i64 vt, .int .i64 vn, .string vs, .slice p l.length ca, .int .i64 pos] 26)) w1 := b2.mono (by simp)
            obtain ⟨⟨k0, k1, k2, k3, k4, k5⟩, hl1, _⟩ := box.out w1 B2
            clear cA b2
            go_wp2_with fail
            refine (cN _).mono ?_
            rintro e w2 ⟨rfl, b3⟩
            have B3 : Below (w.heap.size + 1) (w.alloc (.cells #[.string op, .string nm, .int .i64 vt, .int .i64 vn, .string vs, .slice p l.length ca, .int .i64 pos] 26)) w2 := B2.trans (b3.mono hl1)
            obtain ⟨⟨j0, j1, j2, j3, j4, j5⟩, hl2, bw2⟩ := box.out w2 B3
            clear cN b3 k0 k1 k2 k3 k4 k5 B2
            go_wp2
            go_ret
            exact ⟨rfl, bw2⟩
        · skip
          simp [nodeB, hA0, hic, hln] at hN0
          subst hN0
          simp at hK
          subst hK
          go_enter Tryz.func26, Tryz.ntmps26
          go_wp2_with fail
          refine cA.mono ?_
          rintro e w1 ⟨rfl, b2⟩
          have B2 : Below (w.heap.size + 1) (w.alloc (.cells #[.string op, .string nm, .int .i64 vt, .int .i64 vn, .string vs, .slice p l.length ca, .int .i64 pos] 26)) w1 := b2.mono (by simp)
          obtain ⟨⟨k0, k1, k2, k3, k4, k5⟩, hl1, _⟩ := box.out w1 B2
          clear cA b2
          go_wp2_with fail
          refine (cN _).mono ?_
          rintro e w2 ⟨rfl, b3⟩
          have B3 : Below (w.heap.size + 1) (w.alloc (.cells #[.string op, .string nm, .int .i64 vt, .int .i64 vn, .string vs, .slice p l.length ca, .int .i64 pos] 26)) w2 := B2.trans (b3.mono hl1)
          obtain ⟨⟨j0, j1, j2, j3, j4, j5⟩, hl2, bw2⟩ := box.out w2 B3
          clear cN b3 k0 k1 k2 k3 k4 k5 B2
          go_wp2
          go_ret
          exact ⟨rfl, bw2⟩
end Go.Proofs.YtknibfhoecgjlaaGreatDoor
