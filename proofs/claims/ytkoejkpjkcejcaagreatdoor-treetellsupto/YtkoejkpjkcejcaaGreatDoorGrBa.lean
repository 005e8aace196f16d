/-
  RefNod, RefCk, TreeTl, in one text.
-/
import Derived.Test.YtkoejkpjkcejcaaGreatDoorGrAz
import Derived.Test.YtkoejkpjkcejcaaGreatDoorGrAj
import Derived.Test.YtkoejkpjkcejcaaGreatDoorGrAq
import Derived.Test.YtkoejkpjkcejcaaGreatDoorGrAy
import Derived.Test.YtkoejkpjkcejcaaGreatDoorGrAk
import Derived.Test.YtkoejkpjkcejcaaGreatDoorGrAp
import Derived.Test.YtkoejkpjkcejcaaGreatDoorGrAn
import Derived.Test.YtkoejkpjkcejcaaGreatDoorQAs
import Derived.Deep.RegionWith
import Derived.Deep.RegionHeld3
import Derived.Deep.CutRange
import Derived.Deep.DeepCutAuto
import Derived.Deep.QuietTactic
import Derived.BigQuiet
namespace Go.Proofs.YtkoejkpjkcejcaaGreatDoor
open Go.RowKit Go.BigFrame
set_option linter.unusedVariables false

theorem ndsE_at {l : List Ex} {k : Nat} (h : k < l.length) : ndsE (l.drop k) = if ndE l[k] ≠ 0 then ndE l[k] else ndsE (l.drop (k + 1)) := by
  rw [List.drop_eq_getElem_cons h, ndsE]
set_option maxHeartbeats 8000000 in
set_option maxRecDepth 20000 in
theorem refNodes_any : ∀ (x : Ex) (lo : Nat → Prop) (v : Value) (w : World), ExIn w lo v x →
    Calls Tryz.prog 26 #[v] w fun e w' => e = .returned (.int .i64 (ndE x)) ∧ Below w.heap.size w w' := by
  refine Ex.ind fun op nm vt vn vs pos l ih lo v w hx => ?_
  rw [ExIn] at hx
  obtain ⟨p, ca, rfl, ⟨hm, hmc⟩, ho, hnm, hvs, hparts⟩ := hx
  obtain ⟨K, hK⟩ : ∃ K, ndE (.node op nm vt vn vs pos l) = K := ⟨_, rfl⟩
  rw [hK]
  obtain ⟨N0, hN0⟩ : ∃ N0, nodeE (.node op nm vt vn vs pos l) = N0 := ⟨_, rfl⟩
  rw [ndE, hN0] at hK
  rw [node_ar] at hN0
  simp only [Ex.op, Ex.nm, Ex.vt, Ex.vn, Ex.vs, Ex.args] at hN0
  unfold maxLen at hm
  have b1 : Below w.heap.size w (w.alloc (.cells #[.string op, .string nm, .int .i64 vt, .int .i64 vn, .string vs, .slice p l.length ca, .int .i64 pos] 26)) := (Below.refl _ w).alloc (Nat.le_refl _) _
  have cA := refArity_any op (w.alloc (.cells #[.string op, .string nm, .int .i64 vt, .int .i64 vn, .string vs, .slice p l.length ca, .int .i64 pos] 26))
  have cN := fun W => refName_any nm W hnm
  have cV := fun W => refVal_any vt vn vs W hvs
  obtain ⟨A, hAr⟩ : ∃ A, arityT op.data.toList = A := ⟨_, rfl⟩
  obtain ⟨NT, hNT⟩ : ∃ NT, nameT nm.data.toList = NT := ⟨_, rfl⟩
  rw [hAr] at cA
  rw [hNT] at cN
  simp only [hAr, hNT] at hN0
  have HAR : Hid (arityT op.data.toList = A) := hAr
  clear hAr hNT
  have HI : Aside (∀ y ∈ l, ∀ (lo : Nat → Prop) (v : Value) (w : World), ExIn w lo v y → Calls Tryz.prog 26 #[v] w fun e w' => e = .returned (.int .i64 (ndE y)) ∧ Below w.heap.size w w') := ih
  have HPA : Aside (l.length = 0 ∨ ∃ b off, p = some ⟨b, off, none⟩ ∧ b < w.heap.size ∧ lo b ∧ ExsIn w lo b off l) := hparts
  have box : Hid (∀ wr, Below (w.heap.size + 1) (w.alloc (.cells #[.string op, .string nm, .int .i64 vt, .int .i64 vn, .string vs, .slice p l.length ca, .int .i64 pos] 26)) wr → (wr.cell? ⟨w.heap.size, 0, none⟩ = some (.string op) ∧ wr.cell? ⟨w.heap.size, 1, none⟩ = some (.string nm) ∧ wr.cell? ⟨w.heap.size, 2, none⟩ = some (.int .i64 vt) ∧ wr.cell? ⟨w.heap.size, 3, none⟩ = some (.int .i64 vn) ∧ wr.cell? ⟨w.heap.size, 4, none⟩ = some (.string vs) ∧ wr.cell? ⟨w.heap.size, 5, none⟩ = some (.slice p l.length ca)) ∧ w.heap.size < wr.heap.size ∧ Below w.heap.size w wr) := fun wr hb => by
    obtain ⟨h1, _, h3⟩ := box_at w _ _ hb (Nat.lt_succ_self _)
    exact ⟨⟨h1 0, h1 1, h1 2, h1 3, h1 4, h1 5⟩, h3, b1.trans (hb.mono (Nat.le_succ _))⟩
  clear ih hparts b1
  by_cases hA : A < 0
  · have hA0 : ¬ 0 ≤ A := by omega
    simp [nodeB, hA0] at hN0
    subst hN0
    simp at hK
    subst hK
    go_enter Tryz.func26, Tryz.ntmps26
    go_wp2_with fail
    refine cA.mono ?_
    rintro e w1 ⟨rfl, b2⟩
    have B2 : Below (w.heap.size + 1) (w.alloc (.cells #[.string op, .string nm, .int .i64 vt, .int .i64 vn, .string vs, .slice p l.length ca, .int .i64 pos] 26)) w1 := b2.mono (by simp)
    obtain ⟨⟨k0, k1, k2, k3, k4, k5⟩, hl1, _⟩ := box.out w1 B2
    clear cA b2
    go_wp2_with fail
    refine (cN _).mono ?_
    rintro e w2 ⟨rfl, b3⟩
    have B3 : Below (w.heap.size + 1) (w.alloc (.cells #[.string op, .string nm, .int .i64 vt, .int .i64 vn, .string vs, .slice p l.length ca, .int .i64 pos] 26)) w2 := B2.trans (b3.mono hl1)
    obtain ⟨⟨j0, j1, j2, j3, j4, j5⟩, hl2, bw2⟩ := box.out w2 B3
    clear cN b3 k0 k1 k2 k3 k4 k5 B2
    go_wp2
    go_ret
    exact ⟨rfl, bw2⟩
  · have hA0 : 0 ≤ A := by omega
    cases hic : (op.toList == [99, 111, 108])
    · skip
      cases hln : ((l.length : Int) != A)
      · skip
        cases hnn : (nm.toList == [])
        · skip
          simp [nodeB, hA0, hic, hln, hnn] at hN0
          subst hN0
          simp at hK
          subst hK
          go_enter Tryz.func26, Tryz.ntmps26
          go_wp2_with fail
          refine cA.mono ?_
          rintro e w1 ⟨rfl, b2⟩
          have B2 : Below (w.heap.size + 1) (w.alloc (.cells #[.string op, .string nm, .int .i64 vt, .int .i64 vn, .string vs, .slice p l.length ca, .int .i64 pos] 26)) w1 := b2.mono (by simp)
          obtain ⟨⟨k0, k1, k2, k3, k4, k5⟩, hl1, _⟩ := box.out w1 B2
          clear cA b2
          go_wp2_with fail
          refine (cN _).mono ?_
          rintro e w2 ⟨rfl, b3⟩
          have B3 : Below (w.heap.size + 1) (w.alloc (.cells #[.string op, .string nm, .int .i64 vt, .int .i64 vn, .string vs, .slice p l.length ca, .int .i64 pos] 26)) w2 := B2.trans (b3.mono hl1)
          obtain ⟨⟨j0, j1, j2, j3, j4, j5⟩, hl2, bw2⟩ := box.out w2 B3
          clear cN b3 k0 k1 k2 k3 k4 k5 B2
          go_wp2
          go_ret
          exact ⟨rfl, bw2⟩
        · skip
          cases hiv : (op.toList == [118, 97, 108])
          · skip
            by_cases h1 : vt = 0
            · have g1 : (vt != 0) = false := by simpa using h1
              by_cases h2 : vn = 0
              · have g2 : (vn != 0) = false := by simpa using h2
                cases g3 : (vs.toList == [])
                · skip
                  simp [nodeB, hA0, hic, hln, hnn, hiv, h1, h2, g3] at hN0
                  subst hN0
                  simp at hK
                  subst hK
                  clear h1 h2
                  go_enter Tryz.func26, Tryz.ntmps26
                  go_wp2_with fail
                  refine cA.mono ?_
                  rintro e w1 ⟨rfl, b2⟩
                  have B2 : Below (w.heap.size + 1) (w.alloc (.cells #[.string op, .string nm, .int .i64 vt, .int .i64 vn, .string vs, .slice p l.length ca, .int .i64 pos] 26)) w1 := b2.mono (by simp)
                  obtain ⟨⟨k0, k1, k2, k3, k4, k5⟩, hl1, _⟩ := box.out w1 B2
                  clear cA b2
                  go_wp2_with fail
                  refine (cN _).mono ?_
                  rintro e w2 ⟨rfl, b3⟩
                  have B3 : Below (w.heap.size + 1) (w.alloc (.cells #[.string op, .string nm, .int .i64 vt, .int .i64 vn, .string vs, .slice p l.length ca, .int .i64 pos] 26)) w2 := B2.trans (b3.mono hl1)
                  obtain ⟨⟨j0, j1, j2, j3, j4, j5⟩, hl2, bw2⟩ := box.out w2 B3
                  clear cN b3 k0 k1 k2 k3 k4 k5 B2
                  go_wp2
                  go_ret
                  exact ⟨rfl, bw2⟩
                · skip
                  simp [nodeB, hA0, hic, hln, hnn, hiv, h1, h2, g3] at hN0
                  subst hN0
                  simp at hK
                  have HK : Hid (ndsE l = K) := hK
                  clear hK h1 h2 cV
                  go_enter Tryz.func26, Tryz.ntmps26
                  go_wp2_with fail
                  refine cA.mono ?_
                  rintro e w1 ⟨rfl, b2⟩
                  have B2 : Below (w.heap.size + 1) (w.alloc (.cells #[.string op, .string nm, .int .i64 vt, .int .i64 vn, .string vs, .slice p l.length ca, .int .i64 pos] 26)) w1 := b2.mono (by simp)
                  obtain ⟨⟨k0, k1, k2, k3, k4, k5⟩, hl1, _⟩ := box.out w1 B2
                  clear cA b2
                  go_wp2_with fail
                  refine (cN _).mono ?_
                  rintro e w2 ⟨rfl, b3⟩
                  have B3 : Below (w.heap.size + 1) (w.alloc (.cells #[.string op, .string nm, .int .i64 vt, .int .i64 vn, .string vs, .slice p l.length ca, .int .i64 pos] 26)) w2 := B2.trans (b3.mono hl1)
                  obtain ⟨⟨j0, j1, j2, j3, j4, j5⟩, hl2, bw2⟩ := box.out w2 B3
                  clear cN b3 k0 k1 k2 k3 k4 k5 B2
                  go_wp2
                  go_loopg [6, 7] l.length (fun gg s6 _ wr => ∃ kk : Nat, kk ≤ l.length ∧ l.length - kk ≤ gg ∧ s6 = .int .i64 kk ∧ Aside (Below (w.heap.size + 1) (w.alloc (.cells #[.string op, .string nm, .int .i64 vt, .int .i64 vn, .string vs, .slice p l.length ca, .int .i64 pos] 26)) wr) ∧ Hid (ndsE (l.drop kk) = K))
                  case atStart => exact ⟨0, Nat.zero_le _, by omega, rfl, B3, HK⟩
                  case round =>
                    obtain ⟨kk, hkk, hg, rfl, BW, HG⟩ := hrel
                    obtain ⟨⟨r0, r1, r2, r3, r4, r5⟩, hlr, bwr⟩ := box.out wr BW.out
                    clear j0 j1 j2 j3 j4 j5 B3
                    by_cases hlt : kk < l.length
                    · have hltz : (kk : Int) < (l.length : Int) := by omega
                      have h0z : (0 : Int) ≤ (kk : Int) := by omega
                      rcases HPA.out with h | ⟨ba, oa, rfl, hbl, hlo, hE⟩
                      · exact absurd h (by omega)
                      obtain ⟨v0, v1, v2, v3, v4, v5, v6, e0, e1, e2, e3, e4, e5, e6, hy⟩ := exsIn_at w lo ba l oa hE kk hlt
                      obtain ⟨u0, u1, u2, u3, u4, u5, u6, u7, u8, huu⟩ := hy.agg
                      injection huu with huu
                      simp only [Array.mk.injEq, List.cons.injEq, and_true] at huu
                      obtain ⟨rfl, rfl, rfl, rfl, rfl, rfl, rfl⟩ := huu
                      have kA : ∀ o, wr.cell? ⟨ba, o, none⟩ = w.cell? ⟨ba, o, none⟩ := fun o => bwr.cell (p := ⟨ba, o, none⟩) hbl
                      rw [← kA] at e0 e1 e2 e3 e4 e5 e6
                      have hblr : ba < wr.heap.size := by have := bwr.size; omega
                      have cY := HI.out _ (List.getElem_mem hlt) lo _ wr (hy.on bwr)
                      have hat := (ndsE_at hlt).symm.trans HG.out
                      generalize ndE l[kk] = E at cY hat
                      have HKL : Hid (kk < l.length) := hlt
                      clear hE kA hy HG
                      by_cases hE0 : E = 0
                      · subst hE0
                        rw [if_neg (by simp)] at hat
                        have HG2 : Hid (ndsE (l.drop (kk + 1)) = K) := hat
                        clear hat
                        go_wp2_with fail
                        refine cY.mono ?_
                        rintro e w4 ⟨rfl, b4⟩
                        have BW4 : Aside (Below (w.heap.size + 1) (w.alloc (.cells #[.string op, .string nm, .int .i64 vt, .int .i64 vn, .string vs, .slice (some ⟨ba, oa, none⟩) l.length ca, .int .i64 pos] 26)) w4) := BW.out.trans (b4.mono hlr)
                        clear cY b4
                        go_wp2
                        go_roundg (l.length - (kk + 1))
                        case measure => have := HKL.out; omega
                        case rel => exact ⟨kk + 1, by have := HKL.out; omega, by omega, by go_num, BW4, HG2⟩
                      · rw [if_pos hE0] at hat
                        subst hat
                        have hEb : (E != 0) = true := by simpa using hE0
                        clear hE0
                        go_wp2_with fail
                        refine cY.mono ?_
                        rintro e w4 ⟨rfl, b4⟩
                        have b5 : Below w.heap.size w w4 := bwr.trans (b4.mono bwr.size)
                        clear cY b4
                        go_wp2
                        go_ret
                        exact ⟨rfl, b5⟩
                    · have hltz : ¬ (kk : Int) < (l.length : Int) := by omega
                      have hk0 : K = 0 := by rw [← HG.out, List.drop_eq_nil_of_le (by omega), ndsE]
                      subst hk0
                      clear HG HK
                      go_wp2
                      go_ret
                      exact ⟨rfl, bwr⟩
              · have g2 : (vn != 0) = true := by simpa using h2
                simp [nodeB, hA0, hic, hln, hnn, hiv, h1, h2] at hN0
                subst hN0
                simp at hK
                subst hK
                clear h1 h2
                go_enter Tryz.func26, Tryz.ntmps26
                go_wp2_with fail
                refine cA.mono ?_
                rintro e w1 ⟨rfl, b2⟩
                have B2 : Below (w.heap.size + 1) (w.alloc (.cells #[.string op, .string nm, .int .i64 vt, .int .i64 vn, .string vs, .slice p l.length ca, .int .i64 pos] 26)) w1 := b2.mono (by simp)
                obtain ⟨⟨k0, k1, k2, k3, k4, k5⟩, hl1, _⟩ := box.out w1 B2
                clear cA b2
                go_wp2_with fail
                refine (cN _).mono ?_
                rintro e w2 ⟨rfl, b3⟩
                have B3 : Below (w.heap.size + 1) (w.alloc (.cells #[.string op, .string nm, .int .i64 vt, .int .i64 vn, .string vs, .slice p l.length ca, .int .i64 pos] 26)) w2 := B2.trans (b3.mono hl1)
                obtain ⟨⟨j0, j1, j2, j3, j4, j5⟩, hl2, bw2⟩ := box.out w2 B3
                clear cN b3 k0 k1 k2 k3 k4 k5 B2
                go_wp2
                go_ret
                exact ⟨rfl, bw2⟩
            · have g1 : (vt != 0) = true := by simpa using h1
              simp [nodeB, hA0, hic, hln, hnn, hiv, h1] at hN0
              subst hN0
              simp at hK
              subst hK
              clear h1
              go_enter Tryz.func26, Tryz.ntmps26
              go_wp2_with fail
              refine cA.mono ?_
              rintro e w1 ⟨rfl, b2⟩
              have B2 : Below (w.heap.size + 1) (w.alloc (.cells #[.string op, .string nm, .int .i64 vt, .int .i64 vn, .string vs, .slice p l.length ca, .int .i64 pos] 26)) w1 := b2.mono (by simp)
              obtain ⟨⟨k0, k1, k2, k3, k4, k5⟩, hl1, _⟩ := box.out w1 B2
              clear cA b2
              go_wp2_with fail
              refine (cN _).mono ?_
              rintro e w2 ⟨rfl, b3⟩
              have B3 : Below (w.heap.size + 1) (w.alloc (.cells #[.string op, .string nm, .int .i64 vt, .int .i64 vn, .string vs, .slice p l.length ca, .int .i64 pos] 26)) w2 := B2.trans (b3.mono hl1)
              obtain ⟨⟨j0, j1, j2, j3, j4, j5⟩, hl2, bw2⟩ := box.out w2 B3
              clear cN b3 k0 k1 k2 k3 k4 k5 B2
              go_wp2
              go_ret
              exact ⟨rfl, bw2⟩
          · skip
            simp [nodeB, hA0, hic, hln, hnn, hiv] at hN0
            have hop : op.data.toList = [118, 97, 108] := by rw [← Lib.toList_data]; simpa using hiv
            have hA2 : A = 0 := by rw [← HAR.out, hop]; decide
            have hl0z : (l.length : Int) = A := by simpa using hln
            have hl0 : l.length = 0 := by omega
            have hnil : l = [] := List.length_eq_zero_iff.1 hl0
            have hKc : ckV vt vn vs.data.toList = K := by rw [← hK, hnil, ndsE, ← hN0]; by_cases h : ckV vt vn vs.data.toList = 0 <;> simp [h]
            clear hK hN0 hnil hl0 hl0z hA2 hop HPA HI
            obtain ⟨C, hC⟩ : ∃ C, chk vt vn vs.data.toList = C := ⟨_, rfl⟩
            rw [ckV, hC] at hKc
            rw [hC] at cV
            clear hC
            by_cases hC0 : C = 0
            · subst hC0
              rw [if_neg (by simp)] at hKc
              by_cases hv1 : vt = 1
              · have g1 : (vt == 1) = true := by simpa using hv1
                by_cases hv2 : vn < 0
                · rw [if_pos ⟨hv1, hv2⟩] at hKc
                  subst hKc
                  clear hv1
                  go_enter Tryz.func26, Tryz.ntmps26
                  go_wp2_with fail
                  refine cA.mono ?_
                  rintro e w1 ⟨rfl, b2⟩
                  have B2 : Below (w.heap.size + 1) (w.alloc (.cells #[.string op, .string nm, .int .i64 vt, .int .i64 vn, .string vs, .slice p l.length ca, .int .i64 pos] 26)) w1 := b2.mono (by simp)
                  obtain ⟨⟨k0, k1, k2, k3, k4, k5⟩, hl1, _⟩ := box.out w1 B2
                  clear cA b2
                  go_wp2_with fail
                  refine (cN _).mono ?_
                  rintro e w2 ⟨rfl, b3⟩
                  have B3 : Below (w.heap.size + 1) (w.alloc (.cells #[.string op, .string nm, .int .i64 vt, .int .i64 vn, .string vs, .slice p l.length ca, .int .i64 pos] 26)) w2 := B2.trans (b3.mono hl1)
                  obtain ⟨⟨j0, j1, j2, j3, j4, j5⟩, hl2, bw2⟩ := box.out w2 B3
                  clear cN b3 k0 k1 k2 k3 k4 k5 B2
                  go_wp2_with fail
                  refine (cV _).mono ?_
                  rintro e w3 ⟨rfl, b4⟩
                  have B4 : Below (w.heap.size + 1) (w.alloc (.cells #[.string op, .string nm, .int .i64 vt, .int .i64 vn, .string vs, .slice p l.length ca, .int .i64 pos] 26)) w3 := B3.trans (b4.mono hl2)
                  obtain ⟨⟨m0, m1, m2, m3, m4, m5⟩, hl3, bw3⟩ := box.out w3 B4
                  clear cV b4
                  go_wp2
                  go_ret
                  exact ⟨rfl, bw3⟩
                · rw [if_neg (fun hh => hv2 hh.2)] at hKc
                  subst hKc
                  clear hv1
                  go_enter Tryz.func26, Tryz.ntmps26
                  go_wp2_with fail
                  refine cA.mono ?_
                  rintro e w1 ⟨rfl, b2⟩
                  have B2 : Below (w.heap.size + 1) (w.alloc (.cells #[.string op, .string nm, .int .i64 vt, .int .i64 vn, .string vs, .slice p l.length ca, .int .i64 pos] 26)) w1 := b2.mono (by simp)
                  obtain ⟨⟨k0, k1, k2, k3, k4, k5⟩, hl1, _⟩ := box.out w1 B2
                  clear cA b2
                  go_wp2_with fail
                  refine (cN _).mono ?_
                  rintro e w2 ⟨rfl, b3⟩
                  have B3 : Below (w.heap.size + 1) (w.alloc (.cells #[.string op, .string nm, .int .i64 vt, .int .i64 vn, .string vs, .slice p l.length ca, .int .i64 pos] 26)) w2 := B2.trans (b3.mono hl1)
                  obtain ⟨⟨j0, j1, j2, j3, j4, j5⟩, hl2, bw2⟩ := box.out w2 B3
                  clear cN b3 k0 k1 k2 k3 k4 k5 B2
                  go_wp2_with fail
                  refine (cV _).mono ?_
                  rintro e w3 ⟨rfl, b4⟩
                  have B4 : Below (w.heap.size + 1) (w.alloc (.cells #[.string op, .string nm, .int .i64 vt, .int .i64 vn, .string vs, .slice p l.length ca, .int .i64 pos] 26)) w3 := B3.trans (b4.mono hl2)
                  obtain ⟨⟨m0, m1, m2, m3, m4, m5⟩, hl3, bw3⟩ := box.out w3 B4
                  clear cV b4
                  go_wp2
                  go_ret
                  exact ⟨rfl, bw3⟩
              · have g1 : (vt == 1) = false := by simpa using hv1
                rw [if_neg (fun hh => hv1 hh.1)] at hKc
                subst hKc
                clear hv1
                go_enter Tryz.func26, Tryz.ntmps26
                go_wp2_with fail
                refine cA.mono ?_
                rintro e w1 ⟨rfl, b2⟩
                have B2 : Below (w.heap.size + 1) (w.alloc (.cells #[.string op, .string nm, .int .i64 vt, .int .i64 vn, .string vs, .slice p l.length ca, .int .i64 pos] 26)) w1 := b2.mono (by simp)
                obtain ⟨⟨k0, k1, k2, k3, k4, k5⟩, hl1, _⟩ := box.out w1 B2
                clear cA b2
                go_wp2_with fail
                refine (cN _).mono ?_
                rintro e w2 ⟨rfl, b3⟩
                have B3 : Below (w.heap.size + 1) (w.alloc (.cells #[.string op, .string nm, .int .i64 vt, .int .i64 vn, .string vs, .slice p l.length ca, .int .i64 pos] 26)) w2 := B2.trans (b3.mono hl1)
                obtain ⟨⟨j0, j1, j2, j3, j4, j5⟩, hl2, bw2⟩ := box.out w2 B3
                clear cN b3 k0 k1 k2 k3 k4 k5 B2
                go_wp2_with fail
                refine (cV _).mono ?_
                rintro e w3 ⟨rfl, b4⟩
                have B4 : Below (w.heap.size + 1) (w.alloc (.cells #[.string op, .string nm, .int .i64 vt, .int .i64 vn, .string vs, .slice p l.length ca, .int .i64 pos] 26)) w3 := B3.trans (b4.mono hl2)
                obtain ⟨⟨m0, m1, m2, m3, m4, m5⟩, hl3, bw3⟩ := box.out w3 B4
                clear cV b4
                go_wp2
                go_ret
                exact ⟨rfl, bw3⟩
            · have g0 : (C == 0) = false := by simpa using hC0
              rw [if_pos hC0] at hKc
              subst hKc
              go_enter Tryz.func26, Tryz.ntmps26
              go_wp2_with fail
              refine cA.mono ?_
              rintro e w1 ⟨rfl, b2⟩
              have B2 : Below (w.heap.size + 1) (w.alloc (.cells #[.string op, .string nm, .int .i64 vt, .int .i64 vn, .string vs, .slice p l.length ca, .int .i64 pos] 26)) w1 := b2.mono (by simp)
              obtain ⟨⟨k0, k1, k2, k3, k4, k5⟩, hl1, _⟩ := box.out w1 B2
              clear cA b2
              go_wp2_with fail
              refine (cN _).mono ?_
              rintro e w2 ⟨rfl, b3⟩
              have B3 : Below (w.heap.size + 1) (w.alloc (.cells #[.string op, .string nm, .int .i64 vt, .int .i64 vn, .string vs, .slice p l.length ca, .int .i64 pos] 26)) w2 := B2.trans (b3.mono hl1)
              obtain ⟨⟨j0, j1, j2, j3, j4, j5⟩, hl2, bw2⟩ := box.out w2 B3
              clear cN b3 k0 k1 k2 k3 k4 k5 B2
              go_wp2_with fail
              refine (cV _).mono ?_
              rintro e w3 ⟨rfl, b4⟩
              have B4 : Below (w.heap.size + 1) (w.alloc (.cells #[.string op, .string nm, .int .i64 vt, .int .i64 vn, .string vs, .slice p l.length ca, .int .i64 pos] 26)) w3 := B3.trans (b4.mono hl2)
              obtain ⟨⟨m0, m1, m2, m3, m4, m5⟩, hl3, bw3⟩ := box.out w3 B4
              clear cV b4
              go_wp2
              go_ret
              exact ⟨rfl, bw3⟩
      · skip
        simp [nodeB, hA0, hic, hln] at hN0
        subst hN0
        simp at hK
        subst hK
        go_enter Tryz.func26, Tryz.ntmps26
        go_wp2_with fail
        refine cA.mono ?_
        rintro e w1 ⟨rfl, b2⟩
        have B2 : Below (w.heap.size + 1) (w.alloc (.cells #[.string op, .string nm, .int .i64 vt, .int .i64 vn, .string vs, .slice p l.length ca, .int .i64 pos] 26)) w1 := b2.mono (by simp)
        obtain ⟨⟨k0, k1, k2, k3, k4, k5⟩, hl1, _⟩ := box.out w1 B2
        clear cA b2
        go_wp2_with fail
        refine (cN _).mono ?_
        rintro e w2 ⟨rfl, b3⟩
        have B3 : Below (w.heap.size + 1) (w.alloc (.cells #[.string op, .string nm, .int .i64 vt, .int .i64 vn, .string vs, .slice p l.length ca, .int .i64 pos] 26)) w2 := B2.trans (b3.mono hl1)
        obtain ⟨⟨j0, j1, j2, j3, j4, j5⟩, hl2, bw2⟩ := box.out w2 B3
        clear cN b3 k0 k1 k2 k3 k4 k5 B2
        go_wp2
        go_ret
        exact ⟨rfl, bw2⟩
    · cases hnt : NT
      · skip
        simp [nodeB, hA0, hic, hnt] at hN0
        subst hN0
        simp at hK
        subst hK
        subst hnt
        go_enter Tryz.func26, Tryz.ntmps26
        go_wp2_with fail
        refine cA.mono ?_
        rintro e w1 ⟨rfl, b2⟩
        have B2 : Below (w.heap.size + 1) (w.alloc (.cells #[.string op, .string nm, .int .i64 vt, .int .i64 vn, .string vs, .slice p l.length ca, .int .i64 pos] 26)) w1 := b2.mono (by simp)
        obtain ⟨⟨k0, k1, k2, k3, k4, k5⟩, hl1, _⟩ := box.out w1 B2
        clear cA b2
        go_wp2_with fail
        refine (cN _).mono ?_
        rintro e w2 ⟨rfl, b3⟩
        have B3 : Below (w.heap.size + 1) (w.alloc (.cells #[.string op, .string nm, .int .i64 vt, .int .i64 vn, .string vs, .slice p l.length ca, .int .i64 pos] 26)) w2 := B2.trans (b3.mono hl1)
        obtain ⟨⟨j0, j1, j2, j3, j4, j5⟩, hl2, bw2⟩ := box.out w2 B3
        clear cN b3 k0 k1 k2 k3 k4 k5 B2
        go_wp2
        go_ret
        exact ⟨rfl, bw2⟩
      · skip
        subst hnt
        cases hln : ((l.length : Int) != A)
        · skip
          have hiv : (op.toList == [118, 97, 108]) = false := by
            have h := hic
            rw [beq_iff_eq] at h
            rw [h]; decide
          by_cases h1 : vt = 0
          · have g1 : (vt != 0) = false := by simpa using h1
            by_cases h2 : vn = 0
            · have g2 : (vn != 0) = false := by simpa using h2
              cases g3 : (vs.toList == [])
              · skip
                simp [nodeB, hA0, hic, hln, hiv, h1, h2, g3] at hN0
                subst hN0
                simp at hK
                subst hK
                clear h1 h2
                go_enter Tryz.func26, Tryz.ntmps26
                go_wp2_with fail
                refine cA.mono ?_
                rintro e w1 ⟨rfl, b2⟩
                have B2 : Below (w.heap.size + 1) (w.alloc (.cells #[.string op, .string nm, .int .i64 vt, .int .i64 vn, .string vs, .slice p l.length ca, .int .i64 pos] 26)) w1 := b2.mono (by simp)
                obtain ⟨⟨k0, k1, k2, k3, k4, k5⟩, hl1, _⟩ := box.out w1 B2
                clear cA b2
                go_wp2_with fail
                refine (cN _).mono ?_
                rintro e w2 ⟨rfl, b3⟩
                have B3 : Below (w.heap.size + 1) (w.alloc (.cells #[.string op, .string nm, .int .i64 vt, .int .i64 vn, .string vs, .slice p l.length ca, .int .i64 pos] 26)) w2 := B2.trans (b3.mono hl1)
                obtain ⟨⟨j0, j1, j2, j3, j4, j5⟩, hl2, bw2⟩ := box.out w2 B3
                clear cN b3 k0 k1 k2 k3 k4 k5 B2
                go_wp2
                go_ret
                exact ⟨rfl, bw2⟩
              · skip
                simp [nodeB, hA0, hic, hln, hiv, h1, h2, g3] at hN0
                subst hN0
                simp at hK
                have HK : Hid (ndsE l = K) := hK
                clear hK h1 h2 cV
                go_enter Tryz.func26, Tryz.ntmps26
                go_wp2_with fail
                refine cA.mono ?_
                rintro e w1 ⟨rfl, b2⟩
                have B2 : Below (w.heap.size + 1) (w.alloc (.cells #[.string op, .string nm, .int .i64 vt, .int .i64 vn, .string vs, .slice p l.length ca, .int .i64 pos] 26)) w1 := b2.mono (by simp)
                obtain ⟨⟨k0, k1, k2, k3, k4, k5⟩, hl1, _⟩ := box.out w1 B2
                clear cA b2
                go_wp2_with fail
                refine (cN _).mono ?_
                rintro e w2 ⟨rfl, b3⟩
                have B3 : Below (w.heap.size + 1) (w.alloc (.cells #[.string op, .string nm, .int .i64 vt, .int .i64 vn, .string vs, .slice p l.length ca, .int .i64 pos] 26)) w2 := B2.trans (b3.mono hl1)
                obtain ⟨⟨j0, j1, j2, j3, j4, j5⟩, hl2, bw2⟩ := box.out w2 B3
                clear cN b3 k0 k1 k2 k3 k4 k5 B2
                go_wp2
                go_loopg [6, 7] l.length (fun gg s6 _ wr => ∃ kk : Nat, kk ≤ l.length ∧ l.length - kk ≤ gg ∧ s6 = .int .i64 kk ∧ Aside (Below (w.heap.size + 1) (w.alloc (.cells #[.string op, .string nm, .int .i64 vt, .int .i64 vn, .string vs, .slice p l.length ca, .int .i64 pos] 26)) wr) ∧ Hid (ndsE (l.drop kk) = K))
                case atStart => exact ⟨0, Nat.zero_le _, by omega, rfl, B3, HK⟩
                case round =>
                  obtain ⟨kk, hkk, hg, rfl, BW, HG⟩ := hrel
                  obtain ⟨⟨r0, r1, r2, r3, r4, r5⟩, hlr, bwr⟩ := box.out wr BW.out
                  clear j0 j1 j2 j3 j4 j5 B3
                  by_cases hlt : kk < l.length
                  · have hltz : (kk : Int) < (l.length : Int) := by omega
                    have h0z : (0 : Int) ≤ (kk : Int) := by omega
                    rcases HPA.out with h | ⟨ba, oa, rfl, hbl, hlo, hE⟩
                    · exact absurd h (by omega)
                    obtain ⟨v0, v1, v2, v3, v4, v5, v6, e0, e1, e2, e3, e4, e5, e6, hy⟩ := exsIn_at w lo ba l oa hE kk hlt
                    obtain ⟨u0, u1, u2, u3, u4, u5, u6, u7, u8, huu⟩ := hy.agg
                    injection huu with huu
                    simp only [Array.mk.injEq, List.cons.injEq, and_true] at huu
                    obtain ⟨rfl, rfl, rfl, rfl, rfl, rfl, rfl⟩ := huu
                    have kA : ∀ o, wr.cell? ⟨ba, o, none⟩ = w.cell? ⟨ba, o, none⟩ := fun o => bwr.cell (p := ⟨ba, o, none⟩) hbl
                    rw [← kA] at e0 e1 e2 e3 e4 e5 e6
                    have hblr : ba < wr.heap.size := by have := bwr.size; omega
                    have cY := HI.out _ (List.getElem_mem hlt) lo _ wr (hy.on bwr)
                    have hat := (ndsE_at hlt).symm.trans HG.out
                    generalize ndE l[kk] = E at cY hat
                    have HKL : Hid (kk < l.length) := hlt
                    clear hE kA hy HG
                    by_cases hE0 : E = 0
                    · subst hE0
                      rw [if_neg (by simp)] at hat
                      have HG2 : Hid (ndsE (l.drop (kk + 1)) = K) := hat
                      clear hat
                      go_wp2_with fail
                      refine cY.mono ?_
                      rintro e w4 ⟨rfl, b4⟩
                      have BW4 : Aside (Below (w.heap.size + 1) (w.alloc (.cells #[.string op, .string nm, .int .i64 vt, .int .i64 vn, .string vs, .slice (some ⟨ba, oa, none⟩) l.length ca, .int .i64 pos] 26)) w4) := BW.out.trans (b4.mono hlr)
                      clear cY b4
                      go_wp2
                      go_roundg (l.length - (kk + 1))
                      case measure => have := HKL.out; omega
                      case rel => exact ⟨kk + 1, by have := HKL.out; omega, by omega, by go_num, BW4, HG2⟩
                    · rw [if_pos hE0] at hat
                      subst hat
                      have hEb : (E != 0) = true := by simpa using hE0
                      clear hE0
                      go_wp2_with fail
                      refine cY.mono ?_
                      rintro e w4 ⟨rfl, b4⟩
                      have b5 : Below w.heap.size w w4 := bwr.trans (b4.mono bwr.size)
                      clear cY b4
                      go_wp2
                      go_ret
                      exact ⟨rfl, b5⟩
                  · have hltz : ¬ (kk : Int) < (l.length : Int) := by omega
                    have hk0 : K = 0 := by rw [← HG.out, List.drop_eq_nil_of_le (by omega), ndsE]
                    subst hk0
                    clear HG HK
                    go_wp2
                    go_ret
                    exact ⟨rfl, bwr⟩
            · have g2 : (vn != 0) = true := by simpa using h2
              simp [nodeB, hA0, hic, hln, hiv, h1, h2] at hN0
              subst hN0
              simp at hK
              subst hK
              clear h1 h2
              go_enter Tryz.func26, Tryz.ntmps26
              go_wp2_with fail
              refine cA.mono ?_
              rintro e w1 ⟨rfl, b2⟩
              have B2 : Below (w.heap.size + 1) (w.alloc (.cells #[.string op, .string nm, .int .i64 vt, .int .i64 vn, .string vs, .slice p l.length ca, .int .i64 pos] 26)) w1 := b2.mono (by simp)
              obtain ⟨⟨k0, k1, k2, k3, k4, k5⟩, hl1, _⟩ := box.out w1 B2
              clear cA b2
              go_wp2_with fail
              refine (cN _).mono ?_
              rintro e w2 ⟨rfl, b3⟩
              have B3 : Below (w.heap.size + 1) (w.alloc (.cells #[.string op, .string nm, .int .i64 vt, .int .i64 vn, .string vs, .slice p l.length ca, .int .i64 pos] 26)) w2 := B2.trans (b3.mono hl1)
              obtain ⟨⟨j0, j1, j2, j3, j4, j5⟩, hl2, bw2⟩ := box.out w2 B3
              clear cN b3 k0 k1 k2 k3 k4 k5 B2
              go_wp2
              go_ret
              exact ⟨rfl, bw2⟩
          · have g1 : (vt != 0) = true := by simpa using h1
            simp [nodeB, hA0, hic, hln, hiv, h1] at hN0
            subst hN0
            simp at hK
            subst hK
            clear h1
            go_enter Tryz.func26, Tryz.ntmps26
            go_wp2_with fail
            refine cA.mono ?_
            rintro e w1 ⟨rfl, b2⟩
            have B2 : Below (w.heap.size + 1) (w.alloc (.cells #[.string op, .string nm, .int .i64 vt, .int .i64 vn, .string vs, .slice p l.length ca, .int .i64 pos] 26)) w1 := b2.mono (by simp)
            obtain ⟨⟨k0, k1, k2, k3, k4, k5⟩, hl1, _⟩ := box.out w1 B2
            clear cA b2
            go_wp2_with fail
            refine (cN _).mono ?_
            rintro e w2 ⟨rfl, b3⟩
            have B3 : Below (w.heap.size + 1) (w.alloc (.cells #[.string op, .string nm, .int .i64 vt, .int .i64 vn, .string vs, .slice p l.length ca, .int .i64 pos] 26)) w2 := B2.trans (b3.mono hl1)
            obtain ⟨⟨j0, j1, j2, j3, j4, j5⟩, hl2, bw2⟩ := box.out w2 B3
            clear cN b3 k0 k1 k2 k3 k4 k5 B2
            go_wp2
            go_ret
            exact ⟨rfl, bw2⟩
        · skip
          simp [nodeB, hA0, hic, hln] at hN0
          subst hN0
          simp at hK
          subst hK
          go_enter Tryz.func26, Tryz.ntmps26
          go_wp2_with fail
          refine cA.mono ?_
          rintro e w1 ⟨rfl, b2⟩
          have B2 : Below (w.heap.size + 1) (w.alloc (.cells #[.string op, .string nm, .int .i64 vt, .int .i64 vn, .string vs, .slice p l.length ca, .int .i64 pos] 26)) w1 := b2.mono (by simp)
          obtain ⟨⟨k0, k1, k2, k3, k4, k5⟩, hl1, _⟩ := box.out w1 B2
          clear cA b2
          go_wp2_with fail
          refine (cN _).mono ?_
          rintro e w2 ⟨rfl, b3⟩
          have B3 : Below (w.heap.size + 1) (w.alloc (.cells #[.string op, .string nm, .int .i64 vt, .int .i64 vn, .string vs, .slice p l.length ca, .int .i64 pos] 26)) w2 := B2.trans (b3.mono hl1)
          obtain ⟨⟨j0, j1, j2, j3, j4, j5⟩, hl2, bw2⟩ := box.out w2 B3
          clear cN b3 k0 k1 k2 k3 k4 k5 B2
          go_wp2
          go_ret
          exact ⟨rfl, bw2⟩
end Go.Proofs.YtkoejkpjkcejcaaGreatDoor
namespace Go.Proofs.YtkoejkpjkcejcaaGreatDoor
open Go.RowKit
set_option linter.unusedVariables false

set_option maxHeartbeats 2000000 in
theorem refCheck_any (x : Ex) (lo : Nat → Prop) (v : Value) (w : World) (hx : ExIn w lo v x) (hsz : (x.pre 1).length ≤ 1048576) (K : Int) (hK : ckP x = K) :
    Calls Tryz.prog 9 #[v] w fun e w' => e = .returned (.int .i64 K) ∧ Below w.heap.size w w' := by
  obtain ⟨o1, n1, t1, k1, s1, p1, m1, c1, a1, rfl⟩ := hx.agg
  have b1 : Below w.heap.size w (w.alloc (.cells #[.string o1, .string n1, .int .i64 t1, .int .i64 k1, .string s1, .slice p1 m1 c1, .int .i64 a1] 26)) := (Below.refl _ w).alloc (Nat.le_refl _) _
  have cS := refSmall_any x lo _ _ (hx.on b1) (by rw [← size_pre x 1]; exact hsz)
  have cN := fun W (hb : Below w.heap.size w W) => refNodes_any x lo _ W (hx.on hb)
  rw [ckP_nd] at hK
  have box : Hid (∀ W, Below (w.heap.size + 1) (w.alloc (.cells #[.string o1, .string n1, .int .i64 t1, .int .i64 k1, .string s1, .slice p1 m1 c1, .int .i64 a1] 26)) W → (∀ i, W.cell? ⟨w.heap.size, i, none⟩ = (#[.string o1, .string n1, .int .i64 t1, .int .i64 k1, .string s1, .slice p1 m1 c1, .int .i64 a1] : Array Value)[i]?) ∧ w.heap.size < W.heap.size ∧ Below w.heap.size w W) := fun W hb => by
    obtain ⟨h1, _, h3⟩ := box_at w _ _ hb (Nat.lt_succ_self _)
    exact ⟨h1, h3, b1.trans (hb.mono (Nat.le_succ _))⟩
  clear hx hsz
  cases hs : x.small
  · rw [hs] at cS
    rw [hs, if_pos rfl] at hK
    subst hK
    clear hs cN
    go_enter Tryz.func9, Tryz.ntmps9
    go_wp2_with fail
    refine cS.mono ?_
    rintro e w1 ⟨rfl, b2⟩
    have b3 := b1.trans (b2.mono b1.size)
    clear cS b2
    go_wp2
    go_ret
    exact ⟨rfl, b3⟩
  · rw [hs] at cS
    rw [hs, if_neg (by simp)] at hK
    rw [hK] at cN
    clear hs hK
    go_enter Tryz.func9, Tryz.ntmps9
    go_wp2_with fail
    refine cS.mono ?_
    rintro e w1 ⟨rfl, b2⟩
    obtain ⟨hB, hl, bw1⟩ := box.out w1 (b2.mono (by simp))
    have cN1 := cN w1 bw1
    have g0 : w1.cell? ⟨w.heap.size, 0, none⟩ = some (.string o1) := hB 0
    have g1 : w1.cell? ⟨w.heap.size, 1, none⟩ = some (.string n1) := hB 1
    have g2 : w1.cell? ⟨w.heap.size, 2, none⟩ = some (.int .i64 t1) := hB 2
    have g3 : w1.cell? ⟨w.heap.size, 3, none⟩ = some (.int .i64 k1) := hB 3
    have g4 : w1.cell? ⟨w.heap.size, 4, none⟩ = some (.string s1) := hB 4
    have g5 : w1.cell? ⟨w.heap.size, 5, none⟩ = some (.slice p1 m1 c1) := hB 5
    have g6 : w1.cell? ⟨w.heap.size, 6, none⟩ = some (.int .i64 a1) := hB 6
    clear cS cN b2 hB
    go_wp2_with fail
    refine cN1.mono ?_
    rintro e w2 ⟨rfl, b3⟩
    have b4 := bw1.trans (b3.mono bw1.size)
    clear cN1 b3 g0 g1 g2 g3 g4 g5 g6
    go_wp2
    go_ret
    exact ⟨rfl, b4⟩
end Go.Proofs.YtkoejkpjkcejcaaGreatDoor
namespace Go.Proofs.YtkoejkpjkcejcaaGreatDoor
open Go.RowKit Go.BigFrame
set_option linter.unusedVariables false

theorem same_self (b : Bool) : ∀ x : Ex, sameE b x x = true := by
  refine Ex.ind fun o n t k s p l ih => ?_
  have hl : ∀ m : List Ex, (∀ y ∈ m, sameE b y y = true) → sameL b m m = true := fun m => by
    induction m with
    | nil => intro _; rw [sameL]
    | cons y m ihm =>
      intro h
      rw [sameL, h y (List.mem_cons_self ..), ihm (fun z hz => h z (List.mem_cons_of_mem _ hz))]; rfl
  rw [sameE, hl l ih]
  simp
/-- Seven cells, kept. -/
def C7 (W : World) (b : Nat) (a0 a1 a2 a3 a4 a5 a6 : Value) : Prop := W.cell? ⟨b, 0, none⟩ = some a0 ∧ W.cell? ⟨b, 1, none⟩ = some a1 ∧ W.cell? ⟨b, 2, none⟩ = some a2 ∧ W.cell? ⟨b, 3, none⟩ = some a3 ∧ W.cell? ⟨b, 4, none⟩ = some a4 ∧ W.cell? ⟨b, 5, none⟩ = some a5 ∧ W.cell? ⟨b, 6, none⟩ = some a6
theorem c7_of {W W' : World} {B b : Nat} {a0 a1 a2 a3 a4 a5 a6 : Value} (h : C7 W b a0 a1 a2 a3 a4 a5 a6) (hb : Below B W W') (hl : b < B) : C7 W' b a0 a1 a2 a3 a4 a5 a6 := by
  obtain ⟨c0, c1, c2, c3, c4, c5, c6⟩ := h
  have hc := fun o => hb.cell (p := ⟨b, o, none⟩) hl
  exact ⟨by rw [hc]; exact c0, by rw [hc]; exact c1, by rw [hc]; exact c2, by rw [hc]; exact c3, by rw [hc]; exact c4, by rw [hc]; exact c5, by rw [hc]; exact c6⟩
theorem c7_new (W : World) (a0 a1 a2 a3 a4 a5 a6 : Value) (t : TypeId) (b : Nat) (hb : b = W.heap.size) : C7 (W.alloc (.cells #[a0, a1, a2, a3, a4, a5, a6] t)) b a0 a1 a2 a3 a4 a5 a6 := by
  subst hb
  refine ⟨?_, ?_, ?_, ?_, ?_, ?_, ?_⟩
  all_goals (rw [World.cell?_alloc_at _ _ _ _ rfl]; rfl)
set_option maxHeartbeats 16000000 in
set_option maxRecDepth 20000 in
theorem tells_tree (s : ByteArray) (x y : Ex) (lo lo2 : Nat → Prop) (v v2 : Value) (w : World) (henv : TEnv w) (hsg : SG w) (hE : ∀ W, Below w.heap.size w W → Env W) (hg : w.cell? ⟨0, 0, none⟩ = some (.iface 142 (.agg #[.pointer (some ⟨12, 38, none⟩)]))) (hgl : 0 < w.heap.size) (hx : ExIn w lo v x) (hy : ExIn w lo2 v2 y) (hsz : (x.pre 1).length ≤ 1048576) (hxb : ∀ q ∈ x.pre 1, inI q.1.vn) (hs : s.size ≤ maxLen) :
    Calls Tryz.prog 3 #[.string s, v, v2] w fun e' w' => e' = .returned (.bool true) ∧ Below w.heap.size w w' := by
  have hxT : ExIn w (fun _ => True) v x := ExIn.low (fun _ _ _ => trivial) _ _ hx
  have hyT : ExIn w (fun _ => True) v2 y := ExIn.low (fun _ _ _ => trivial) _ _ hy
  have hgW : ∀ W, Below w.heap.size w W → W.cell? ⟨0, 0, none⟩ = some (.iface 142 (.agg #[.pointer (some ⟨12, 38, none⟩)])) := fun W b => by rw [b.cell (p := ⟨0, 0, none⟩) hgl]; exact hg
  have hpl : (x.pre 1).length = x.size := pre_len x 1
  obtain ⟨PX, PE, PP, hp⟩ : ∃ a b c, parseP s.data.toList = (a, b, c) := ⟨_, _, _, rfl⟩
  obtain ⟨K, hK⟩ : ∃ K, ckP x = K := ⟨_, rfl⟩
  obtain ⟨SM, hSM⟩ : ∃ SM, sameE false x y = SM := ⟨_, rfl⟩
  obtain ⟨TX, hTX⟩ : ∃ TX : ByteArray, TX.data.toList = if ckP x = 0 then txP x else [] := ⟨⟨(if ckP x = 0 then txP x else []).toArray⟩, by simp⟩
  have c1 := fun W => refParse_any s W PX PE PP hp
  have c2 := fun W (b : Below w.heap.size w W) => parse_tree s W (henv.on b) (hsg.on b) PX PE PP hp hs
  have c3 := fun W (b : Below w.heap.size w W) => refCheck_any x _ v W (hxT.on b) hsz K hK
  have c4 := fun W (b : Below w.heap.size w W) => check_tree x _ v W (henv.on b) (hxT.on b) hsz
  simp only [hK] at c4
  have cS : ∀ W (b : Below w.heap.size w W), Calls Tryz.prog 10 #[errV K, .int .i64 K] W fun e w' => e = .returned (.bool true) ∧ Below W.heap.size W w' := fun W b => by
    by_cases h0 : K = 0
    · subst h0
      refine (same_nil 0 W).mono ?_
      rintro e w' ⟨rfl, rfl⟩
      exact ⟨rfl, Below.refl _ _⟩
    · rw [show errV K = .iface 29 (.int .i64 K) by rw [errV, if_neg h0]]
      refine (same_err K K W (hgW W b)).mono ?_
      rintro e w' ⟨rfl, h⟩
      exact ⟨by rw [beq_self_eq_true], h⟩
  have c5 := fun W (b : Below w.heap.size w W) => treePrint_any x _ v W (henv.on b) (fun W' b' => hE W' (b.trans (b'.mono b.size))) (hxT.on b) hsz hxb TX K hK hTX
  have c6 := fun W (b : Below w.heap.size w W) => sameX_any false x y _ _ v v2 W (hxT.on b) (hyT.on b)
  simp only [hSM] at c6
  have c7 := fun W (b : Below w.heap.size w W) => treeSame_any x y _ v v2 W (hxT.on b) (hyT.on b) (by omega)
  simp only [hSM] at c7
  have c8 := fun W (b : Below w.heap.size w W) => size_any x _ v W (hxT.on b) hsz
  have c9 := fun W (b : Below w.heap.size w W) => refSize_any x _ v W (hxT.on b) (by omega)
  rw [hpl] at c8
  have ct : K = 0 → ∀ W (b : Below w.heap.size w W), Calls Tryz.prog 12 #[v] W fun e w' => e = .returned (.string TX) ∧ Below W.heap.size W w' := fun h0 W b => by
    rw [← hK] at h0
    have hz := ckP_zero h0
    have hl := tx_len x 1 hz.2 hxb
    have hn := tg_size hz.1
    exact refText_any x 1 _ v W TX hz.2 hxb (by omega) (hxT.on b) (by rw [hTX, if_pos h0])
  have hTX0 : K ≠ 0 → TX = ⟨#[]⟩ := fun h => by
    rw [hK, if_neg h] at hTX
    apply ByteArray.ext
    apply Array.toList_inj.1
    rw [hTX]
  have HTX0 : Hid (K ≠ 0 → TX = ⟨#[]⟩) := hTX0
  have HCT : Hid (K = 0 → ∀ W (b : Below w.heap.size w W), Calls Tryz.prog 12 #[v] W fun e w' => e = .returned (.string TX) ∧ Below W.heap.size W w') := ct
  obtain ⟨o1, n1, t1, k1, s1, p1, m1, d1, a1, rfl⟩ := hx.agg
  obtain ⟨o2, n2, t2, k2, s2, p2, m2, d2, a2, rfl⟩ := hy.agg
  have bX := al w (.cells #[.string o1, .string n1, .int .i64 t1, .int .i64 k1, .string s1, .slice p1 m1 d1, .int .i64 a1] 26)
  have bY := al (w.alloc (.cells #[.string o1, .string n1, .int .i64 t1, .int .i64 k1, .string s1, .slice p1 m1 d1, .int .i64 a1] 26)) (.cells #[.string o2, .string n2, .int .i64 t2, .int .i64 k2, .string s2, .slice p2 m2 d2, .int .i64 a2] 26)
  have b0 := bX.trans (bY.mono (by simp))
  have CX : C7 ((w.alloc (.cells #[.string o1, .string n1, .int .i64 t1, .int .i64 k1, .string s1, .slice p1 m1 d1, .int .i64 a1] 26)).alloc (.cells #[.string o2, .string n2, .int .i64 t2, .int .i64 k2, .string s2, .slice p2 m2 d2, .int .i64 a2] 26)) w.heap.size (.string o1) (.string n1) (.int .i64 t1) (.int .i64 k1) (.string s1) (.slice p1 m1 d1) (.int .i64 a1) := c7_of (c7_new w _ _ _ _ _ _ _ _ _ rfl) bY (by simp)
  have CY : C7 ((w.alloc (.cells #[.string o1, .string n1, .int .i64 t1, .int .i64 k1, .string s1, .slice p1 m1 d1, .int .i64 a1] 26)).alloc (.cells #[.string o2, .string n2, .int .i64 t2, .int .i64 k2, .string s2, .slice p2 m2 d2, .int .i64 a2] 26)) (w.heap.size + 1) (.string o2) (.string n2) (.int .i64 t2) (.int .i64 k2) (.string s2) (.slice p2 m2 d2) (.int .i64 a2) := c7_new _ _ _ _ _ _ _ _ _ _ (by simp)
  have hW0 : ((w.alloc (.cells #[.string o1, .string n1, .int .i64 t1, .int .i64 k1, .string s1, .slice p1 m1 d1, .int .i64 a1] 26)).alloc (.cells #[.string o2, .string n2, .int .i64 t2, .int .i64 k2, .string s2, .slice p2 m2 d2, .int .i64 a2] 26)).heap.size = w.heap.size + 2 := by simp
  generalize hWW : ((w.alloc (.cells #[.string o1, .string n1, .int .i64 t1, .int .i64 k1, .string s1, .slice p1 m1 d1, .int .i64 a1] 26)).alloc (.cells #[.string o2, .string n2, .int .i64 t2, .int .i64 k2, .string s2, .slice p2 m2 d2, .int .i64 a2] 26)) = W0 at b0 CX CY hW0
  have HW0 : Hid (W0.heap.size = w.heap.size + 2) := hW0
  have c10 := c1 W0
  have qE : (PE != PE) = false := by simp
  have qP : ((PP : Int) != (PP : Int)) = false := by simp
  clear c1 hx hy hxT hyT hp hK hSM hTX hTX0 ct hg hgW bX bY henv hsg hE hW0 hs
  go_enter Tryz.func3, Tryz.ntmps3
  go_wp2_with fail
  refine c10.mono ?_
  rintro e w1 ⟨⟨ve, rfl, hve⟩, b1⟩
  obtain ⟨o3, n3, t3, k3, s3, p3, m3, d3, a3, rfl⟩ := hve.agg
  have be := al w1 (.cells #[.string o3, .string n3, .int .i64 t3, .int .i64 k3, .string s3, .slice p3 m3 d3, .int .i64 a3] 26)
  have hs1 := b1.size
  have b1w : Below w.heap.size w (w1.alloc (.cells #[.string o3, .string n3, .int .i64 t3, .int .i64 k3, .string s3, .slice p3 m3 d3, .int .i64 a3] 26)) := (b0.trans (b1.mono b0.size)).trans (be.mono (by have := b0.size; omega))
  have CE := c7_new w1 (.string o3) (.string n3) (.int .i64 t3) (.int .i64 k3) (.string s3) (.slice p3 m3 d3) (.int .i64 a3) 26 w1.heap.size rfl
  have cc2 := c2 _ b1w
  clear c10 c2 hWW
  go_wp2_with fail
  refine cc2.mono ?_
  rintro e w2 ⟨⟨vg, rfl, hvg⟩, b2⟩
  obtain ⟨o4, n4, t4, k4, s4, p4, m4, d4, a4, rfl⟩ := hvg.out.agg
  have bg := al w2 (.cells #[.string o4, .string n4, .int .i64 t4, .int .i64 k4, .string s4, .slice p4 m4 d4, .int .i64 a4] 26)
  have bh := al (w2.alloc (.cells #[.string o4, .string n4, .int .i64 t4, .int .i64 k4, .string s4, .slice p4 m4 d4, .int .i64 a4] 26)) (.cells #[.int .i64 PE, .int .i64 (PP : Int)] 31)
  have bgh := bg.trans (bh.mono (by simp))
  have hs2 := b2.size
  simp at hs2
  have b2w := (b1w.trans (b2.mono b1w.size)).trans (bgh.mono (by have := b1w.size; have := b2.size; omega))
  have hb2e : Below (w1.heap.size + 1) (w1.alloc (.cells #[.string o3, .string n3, .int .i64 t3, .int .i64 k3, .string s3, .slice p3 m3 d3, .int .i64 a3] 26)) ((w2.alloc (.cells #[.string o4, .string n4, .int .i64 t4, .int .i64 k4, .string s4, .slice p4 m4 d4, .int .i64 a4] 26)).alloc (.cells #[.int .i64 PE, .int .i64 (PP : Int)] 31)) := (by simpa using b2 : Below (w1.heap.size + 1) _ w2).trans (bgh.mono (by omega))
  have CE2 := c7_of CE hb2e (Nat.lt_succ_self _)
  have CG2 := c7_of (c7_new w2 (.string o4) (.string n4) (.int .i64 t4) (.int .i64 k4) (.string s4) (.slice p4 m4 d4) (.int .i64 a4) 26 w2.heap.size rfl) bh (by simp)
  have b0h := (b1.trans (be.mono hs1)).trans (hb2e.mono (by omega))
  have CXa := c7_of CX b0h (by have := HW0.out; omega)
  have CYa := c7_of CY b0h (by have := HW0.out; omega)
  have hve2 := (ExIn.low (lo' := fun _ => True) (fun _ _ _ => trivial) _ _ ((hve.on be))).on (by simpa using hb2e)
  have hvg2 := (ExIn.low (lo' := fun _ => True) (fun _ _ _ => trivial) _ _ hvg.out).on bgh
  have cSm := sameX_any true PX PX _ _ _ _ _ hvg2 hve2
  rw [same_self] at cSm
  obtain ⟨g0, g1, g2, g3, g4, g5, g6⟩ := CG2
  obtain ⟨e0, e1, e2, e3, e4, e5, e6⟩ := CE2
  have KW : Aside (∀ W, Below (w.heap.size + 2) W0 W → C7 W w.heap.size (.string o1) (.string n1) (.int .i64 t1) (.int .i64 k1) (.string s1) (.slice p1 m1 d1) (.int .i64 a1) ∧ C7 W (w.heap.size + 1) (.string o2) (.string n2) (.int .i64 t2) (.int .i64 k2) (.string s2) (.slice p2 m2 d2) (.int .i64 a2) ∧ w.heap.size < W.heap.size ∧ w.heap.size + 1 < W.heap.size ∧ Below w.heap.size w W) := fun W b => by
    have := HW0.out
    have := b.size
    exact ⟨c7_of CX b (by omega), c7_of CY b (by omega), by omega, by omega, b0.trans (b.mono (by omega))⟩
  have B2a : Aside (Below (w.heap.size + 2) W0 ((w2.alloc (.cells #[.string o4, .string n4, .int .i64 t4, .int .i64 k4, .string s4, .slice p4 m4 d4, .int .i64 a4] 26)).alloc (.cells #[.int .i64 PE, .int .i64 (PP : Int)] 31))) := by
    have h := b0h
    rw [HW0.out] at h
    exact h
  have hEl : w1.heap.size < w2.heap.size := by omega
  have hf0 : ((w2.alloc (.cells #[.string o4, .string n4, .int .i64 t4, .int .i64 k4, .string s4, .slice p4 m4 d4, .int .i64 a4] 26)).alloc (.cells #[.int .i64 PE, .int .i64 (PP : Int)] 31)).cell? ⟨w2.heap.size + 1, 0, none⟩ = some (.int .i64 PE) := by rw [World.cell?_alloc_at _ _ _ _ (by simp)]; rfl
  have hf1 : ((w2.alloc (.cells #[.string o4, .string n4, .int .i64 t4, .int .i64 k4, .string s4, .slice p4 m4 d4, .int .i64 a4] 26)).alloc (.cells #[.int .i64 PE, .int .i64 (PP : Int)] 31)).cell? ⟨w2.heap.size + 1, 1, none⟩ = some (.int .i64 (PP : Int)) := by rw [World.cell?_alloc_at _ _ _ _ (by simp)]; rfl
  have HF0 : Aside (_ ∧ _) := ⟨hf0, hf1⟩
  generalize errV K = EV at c4 c5 cS
  have qS : (SM == SM) = true := by simp
  have qT : (TX.toList == TX.toList) = true := by simp
  have qZ : ((x.size : Int) == (x.size : Int)) = true := by simp
  clear hf0 hf1 CX CY CXa CYa CE hve hvg hve2 hvg2 b1 b2 be bg bh bgh b0h hb2e b1w cc2 hs1 HW0 b2w
  go_wp2_with fail
  refine cSm.mono ?_
  rintro e w3 ⟨rfl, b3⟩
  have hs3 := b3.size
  simp at hs3
  have f0 : w3.cell? ⟨w2.heap.size + 1, 0, none⟩ = some (.int .i64 PE) := by rw [b3.cell (p := ⟨w2.heap.size + 1, 0, none⟩) (by simp)]; exact HF0.out.1
  have f1 : w3.cell? ⟨w2.heap.size + 1, 1, none⟩ = some (.int .i64 (PP : Int)) := by rw [b3.cell (p := ⟨w2.heap.size + 1, 1, none⟩) (by simp)]; exact HF0.out.2
  have hfl : w2.heap.size + 1 < w3.heap.size := by omega
  have hz2 : w.heap.size + 2 ≤ ((w2.alloc (.cells #[.string o4, .string n4, .int .i64 t4, .int .i64 k4, .string s4, .slice p4 m4 d4, .int .i64 a4] 26)).alloc (.cells #[.int .i64 PE, .int .i64 (PP : Int)] 31)).heap.size := by
    have h1 := (KW.out _ B2a.out).2.2.2.1
    omega
  have Bw3 : Aside (Below (w.heap.size + 2) W0 w3) := B2a.out.trans (b3.mono hz2)
  clear cSm B2a b3 HF0 g0 g1 g2 g3 g4 g5 g6 e0 e1 e2 e3 e4 e5 e6 hz2
  obtain ⟨⟨x0, x1, x2, x3, x4, x5, x6⟩, ⟨y0, y1, y2, y3, y4, y5, y6⟩, hl1, hl2, bw⟩ := KW.out w3 Bw3.out
  go_wp2_with fail
  refine (c3 _ bw).mono ?_
  rintro e w4 ⟨rfl, bn⟩
  have Bw4 : Aside (Below (w.heap.size + 2) W0 w4) := Bw3.out.trans (bn.mono (by omega))
  clear x0 x1 x2 x3 x4 x5 x6 y0 y1 y2 y3 y4 y5 y6 hl1 hl2 bw bn f0 f1 hfl
  obtain ⟨⟨x0, x1, x2, x3, x4, x5, x6⟩, ⟨y0, y1, y2, y3, y4, y5, y6⟩, hl1, hl2, bw⟩ := KW.out w4 Bw4.out
  go_wp2_with fail
  refine (c4 _ bw).mono ?_
  rintro e w5 ⟨rfl, bn⟩
  have Bw5 : Aside (Below (w.heap.size + 2) W0 w5) := Bw4.out.trans (bn.mono (by omega))
  clear x0 x1 x2 x3 x4 x5 x6 y0 y1 y2 y3 y4 y5 y6 hl1 hl2 bw bn 
  obtain ⟨⟨x0, x1, x2, x3, x4, x5, x6⟩, ⟨y0, y1, y2, y3, y4, y5, y6⟩, hl1, hl2, bw⟩ := KW.out w5 Bw5.out
  go_wp2_with fail
  refine (cS _ bw).mono ?_
  rintro e w6 ⟨rfl, bn⟩
  have Bw6 : Aside (Below (w.heap.size + 2) W0 w6) := Bw5.out.trans (bn.mono (by omega))
  clear x0 x1 x2 x3 x4 x5 x6 y0 y1 y2 y3 y4 y5 y6 hl1 hl2 bw bn 
  obtain ⟨⟨x0, x1, x2, x3, x4, x5, x6⟩, ⟨y0, y1, y2, y3, y4, y5, y6⟩, hl1, hl2, bw⟩ := KW.out w6 Bw6.out
  go_upto_if 54 with fail
  go_cut [14] (fun s14 wx => s14 = .string TX ∧ Aside (Below (w.heap.size + 2) W0 wx))
  case first =>
    by_cases hK0 : K = 0
    · subst hK0
      have ct := HCT.out rfl
      go_wp2_with fail
      refine (ct _ bw).mono ?_
      rintro e w7 ⟨rfl, bn⟩
      have Bw7 : Aside (Below (w.heap.size + 2) W0 w7) := Bw6.out.trans (bn.mono (by omega))
      go_wp2
      go_meet
      case rel => exact ⟨rfl, Bw7⟩
    · have hT0 := HTX0.out hK0
      have hkb : (K == 0) = false := by simpa using hK0
      subst hT0
      go_wp2
      go_meet
      case rel => exact ⟨rfl, Bw6⟩
  case rest =>
    obtain ⟨rfl, Bw7⟩ := hcut
    rename World => w7
    clear x0 x1 x2 x3 x4 x5 x6 y0 y1 y2 y3 y4 y5 y6 hl1 hl2 bw
    obtain ⟨⟨x0, x1, x2, x3, x4, x5, x6⟩, ⟨y0, y1, y2, y3, y4, y5, y6⟩, hl1, hl2, bw⟩ := KW.out w7 Bw7.out
    go_wp2_with fail
    refine (c5 _ bw).mono ?_
    rintro e w8 ⟨rfl, bn⟩
    have Bw8 : Aside (Below (w.heap.size + 2) W0 w8) := Bw7.out.trans (bn.mono (by omega))
    clear x0 x1 x2 x3 x4 x5 x6 y0 y1 y2 y3 y4 y5 y6 hl1 hl2 bw bn 
    obtain ⟨⟨x0, x1, x2, x3, x4, x5, x6⟩, ⟨y0, y1, y2, y3, y4, y5, y6⟩, hl1, hl2, bw⟩ := KW.out w8 Bw8.out
    go_wp2_with fail
    refine (cS _ bw).mono ?_
    rintro e w9 ⟨rfl, bn⟩
    have Bw9 : Aside (Below (w.heap.size + 2) W0 w9) := Bw8.out.trans (bn.mono (by omega))
    clear x0 x1 x2 x3 x4 x5 x6 y0 y1 y2 y3 y4 y5 y6 hl1 hl2 bw bn 
    obtain ⟨⟨x0, x1, x2, x3, x4, x5, x6⟩, ⟨y0, y1, y2, y3, y4, y5, y6⟩, hl1, hl2, bw⟩ := KW.out w9 Bw9.out
    go_wp2_with fail
    refine (c6 _ bw).mono ?_
    rintro e w10 ⟨rfl, bn⟩
    have Bw10 : Aside (Below (w.heap.size + 2) W0 w10) := Bw9.out.trans (bn.mono (by omega))
    clear x0 x1 x2 x3 x4 x5 x6 y0 y1 y2 y3 y4 y5 y6 hl1 hl2 bw bn 
    obtain ⟨⟨x0, x1, x2, x3, x4, x5, x6⟩, ⟨y0, y1, y2, y3, y4, y5, y6⟩, hl1, hl2, bw⟩ := KW.out w10 Bw10.out
    have KC : Aside (∀ w', Below (w.heap.size + 2) W0 w' → w'.cell? ⟨w.heap.size, 0, none⟩ = some (.string o1) ∧ w'.cell? ⟨w.heap.size, 1, none⟩ = some (.string n1) ∧ w'.cell? ⟨w.heap.size, 2, none⟩ = some (.int .i64 t1) ∧ w'.cell? ⟨w.heap.size, 3, none⟩ = some (.int .i64 k1) ∧ w'.cell? ⟨w.heap.size, 4, none⟩ = some (.string s1) ∧ w'.cell? ⟨w.heap.size, 5, none⟩ = some (.slice p1 m1 d1) ∧ w'.cell? ⟨w.heap.size, 6, none⟩ = some (.int .i64 a1) ∧ w'.cell? ⟨w.heap.size + 1, 0, none⟩ = some (.string o2) ∧ w'.cell? ⟨w.heap.size + 1, 1, none⟩ = some (.string n2) ∧ w'.cell? ⟨w.heap.size + 1, 2, none⟩ = some (.int .i64 t2) ∧ w'.cell? ⟨w.heap.size + 1, 3, none⟩ = some (.int .i64 k2) ∧ w'.cell? ⟨w.heap.size + 1, 4, none⟩ = some (.string s2) ∧ w'.cell? ⟨w.heap.size + 1, 5, none⟩ = some (.slice p2 m2 d2) ∧ w'.cell? ⟨w.heap.size + 1, 6, none⟩ = some (.int .i64 a2)) := fun w' b => by
      obtain ⟨⟨x0, x1, x2, x3, x4, x5, x6⟩, ⟨y0, y1, y2, y3, y4, y5, y6⟩, _⟩ := KW.out w' b
      exact ⟨x0, x1, x2, x3, x4, x5, x6, y0, y1, y2, y3, y4, y5, y6⟩
    have k7 : ∀ W, Below (w.heap.size + 2) W0 W → Calls Tryz.prog 14 #[.agg #[.string o1, .string n1, .int .i64 t1, .int .i64 k1, .string s1, .slice p1 m1 d1, .int .i64 a1], .agg #[.string o2, .string n2, .int .i64 t2, .int .i64 k2, .string s2, .slice p2 m2 d2, .int .i64 a2]] W fun e w' => e = .returned (.bool SM) ∧ Aside (Below (w.heap.size + 2) W0 w') ∧ w'.cell? ⟨w.heap.size, 0, none⟩ = some (.string o1) ∧ w'.cell? ⟨w.heap.size, 1, none⟩ = some (.string n1) ∧ w'.cell? ⟨w.heap.size, 2, none⟩ = some (.int .i64 t1) ∧ w'.cell? ⟨w.heap.size, 3, none⟩ = some (.int .i64 k1) ∧ w'.cell? ⟨w.heap.size, 4, none⟩ = some (.string s1) ∧ w'.cell? ⟨w.heap.size, 5, none⟩ = some (.slice p1 m1 d1) ∧ w'.cell? ⟨w.heap.size, 6, none⟩ = some (.int .i64 a1) ∧ w'.cell? ⟨w.heap.size + 1, 0, none⟩ = some (.string o2) ∧ w'.cell? ⟨w.heap.size + 1, 1, none⟩ = some (.string n2) ∧ w'.cell? ⟨w.heap.size + 1, 2, none⟩ = some (.int .i64 t2) ∧ w'.cell? ⟨w.heap.size + 1, 3, none⟩ = some (.int .i64 k2) ∧ w'.cell? ⟨w.heap.size + 1, 4, none⟩ = some (.string s2) ∧ w'.cell? ⟨w.heap.size + 1, 5, none⟩ = some (.slice p2 m2 d2) ∧ w'.cell? ⟨w.heap.size + 1, 6, none⟩ = some (.int .i64 a2) := fun W b => by
      obtain ⟨_, _, _, h4, h5⟩ := KW.out W b
      refine (c7 W h5).mono ?_
      rintro e w' ⟨he, hb⟩
      have b' := b.trans (hb.mono (by omega))
      exact ⟨he, b', KC.out w' b'⟩
    have k8 : ∀ W, Below (w.heap.size + 2) W0 W → Calls Tryz.prog 15 #[.agg #[.string o1, .string n1, .int .i64 t1, .int .i64 k1, .string s1, .slice p1 m1 d1, .int .i64 a1]] W fun e w' => e = .returned (.int .i64 (x.size : Int)) ∧ Aside (Below (w.heap.size + 2) W0 w') ∧ w'.cell? ⟨w.heap.size, 0, none⟩ = some (.string o1) ∧ w'.cell? ⟨w.heap.size, 1, none⟩ = some (.string n1) ∧ w'.cell? ⟨w.heap.size, 2, none⟩ = some (.int .i64 t1) ∧ w'.cell? ⟨w.heap.size, 3, none⟩ = some (.int .i64 k1) ∧ w'.cell? ⟨w.heap.size, 4, none⟩ = some (.string s1) ∧ w'.cell? ⟨w.heap.size, 5, none⟩ = some (.slice p1 m1 d1) ∧ w'.cell? ⟨w.heap.size, 6, none⟩ = some (.int .i64 a1) ∧ w'.cell? ⟨w.heap.size + 1, 0, none⟩ = some (.string o2) ∧ w'.cell? ⟨w.heap.size + 1, 1, none⟩ = some (.string n2) ∧ w'.cell? ⟨w.heap.size + 1, 2, none⟩ = some (.int .i64 t2) ∧ w'.cell? ⟨w.heap.size + 1, 3, none⟩ = some (.int .i64 k2) ∧ w'.cell? ⟨w.heap.size + 1, 4, none⟩ = some (.string s2) ∧ w'.cell? ⟨w.heap.size + 1, 5, none⟩ = some (.slice p2 m2 d2) ∧ w'.cell? ⟨w.heap.size + 1, 6, none⟩ = some (.int .i64 a2) := fun W b => by
      obtain ⟨_, _, _, h4, h5⟩ := KW.out W b
      refine (c8 W h5).mono ?_
      rintro e w' ⟨he, hb⟩
      have b' := b.trans (hb.mono (by omega))
      exact ⟨he, b', KC.out w' b'⟩
    have k9 : ∀ W, Below (w.heap.size + 2) W0 W → Calls Tryz.prog 16 #[.agg #[.string o1, .string n1, .int .i64 t1, .int .i64 k1, .string s1, .slice p1 m1 d1, .int .i64 a1]] W fun e w' => e = .returned (.int .i64 (x.size : Int)) ∧ Aside (Below (w.heap.size + 2) W0 w') ∧ w'.cell? ⟨w.heap.size, 0, none⟩ = some (.string o1) ∧ w'.cell? ⟨w.heap.size, 1, none⟩ = some (.string n1) ∧ w'.cell? ⟨w.heap.size, 2, none⟩ = some (.int .i64 t1) ∧ w'.cell? ⟨w.heap.size, 3, none⟩ = some (.int .i64 k1) ∧ w'.cell? ⟨w.heap.size, 4, none⟩ = some (.string s1) ∧ w'.cell? ⟨w.heap.size, 5, none⟩ = some (.slice p1 m1 d1) ∧ w'.cell? ⟨w.heap.size, 6, none⟩ = some (.int .i64 a1) ∧ w'.cell? ⟨w.heap.size + 1, 0, none⟩ = some (.string o2) ∧ w'.cell? ⟨w.heap.size + 1, 1, none⟩ = some (.string n2) ∧ w'.cell? ⟨w.heap.size + 1, 2, none⟩ = some (.int .i64 t2) ∧ w'.cell? ⟨w.heap.size + 1, 3, none⟩ = some (.int .i64 k2) ∧ w'.cell? ⟨w.heap.size + 1, 4, none⟩ = some (.string s2) ∧ w'.cell? ⟨w.heap.size + 1, 5, none⟩ = some (.slice p2 m2 d2) ∧ w'.cell? ⟨w.heap.size + 1, 6, none⟩ = some (.int .i64 a2) := fun W b => by
      obtain ⟨_, _, _, h4, h5⟩ := KW.out W b
      refine (c9 W h5).mono ?_
      rintro e w' ⟨he, hb⟩
      have b' := b.trans (hb.mono (by omega))
      exact ⟨he, b', KC.out w' b'⟩
    clear c7 c8 c9 bw KW KC HCT HTX0 hpl hxb hsz
    go_wp2
    go_region_held3 (fun w' => w'.cell? ⟨w.heap.size, 0, none⟩ = some (.string o1) ∧ w'.cell? ⟨w.heap.size, 1, none⟩ = some (.string n1) ∧ w'.cell? ⟨w.heap.size, 2, none⟩ = some (.int .i64 t1) ∧ w'.cell? ⟨w.heap.size, 3, none⟩ = some (.int .i64 k1) ∧ w'.cell? ⟨w.heap.size, 4, none⟩ = some (.string s1) ∧ w'.cell? ⟨w.heap.size, 5, none⟩ = some (.slice p1 m1 d1) ∧ w'.cell? ⟨w.heap.size, 6, none⟩ = some (.int .i64 a1) ∧ w'.cell? ⟨w.heap.size + 1, 0, none⟩ = some (.string o2) ∧ w'.cell? ⟨w.heap.size + 1, 1, none⟩ = some (.string n2) ∧ w'.cell? ⟨w.heap.size + 1, 2, none⟩ = some (.int .i64 t2) ∧ w'.cell? ⟨w.heap.size + 1, 3, none⟩ = some (.int .i64 k2) ∧ w'.cell? ⟨w.heap.size + 1, 4, none⟩ = some (.string s2) ∧ w'.cell? ⟨w.heap.size + 1, 5, none⟩ = some (.slice p2 m2 d2) ∧ w'.cell? ⟨w.heap.size + 1, 6, none⟩ = some (.int .i64 a2)) (go_keep) (first | (go_at_call 14; refine (k7 _ (by repeat (first | exact Bw10.out | exact Ba.out | exact Bb.out | apply below_drewN | refine Below.drew ?_))).mono ?_; rintro e wa ⟨rfl, Ba, s0, s1, s2, s3, s4, s5, s6, s7, s8, s9, s10, s11, s12, s13⟩) | (go_at_call 15; refine (k8 _ (by repeat (first | exact Bw10.out | exact Ba.out | exact Bb.out | apply below_drewN | refine Below.drew ?_))).mono ?_; rintro e wb ⟨rfl, Bb, r0, r1, r2, r3, r4, r5, r6, r7, r8, r9, r10, r11, r12, r13⟩) | (go_at_call 16; refine (k9 _ (by repeat (first | exact Bw10.out | exact Ba.out | exact Bb.out | apply below_drewN | refine Below.drew ?_))).mono ?_; rintro e wb ⟨rfl, Bb, r0, r1, r2, r3, r4, r5, r6, r7, r8, r9, r10, r11, r12, r13⟩))
    all_goals
      go_wp2
      go_ret
      exact ⟨rfl, by repeat (first | exact b0.trans (Bb.out.mono (by omega)) | apply below_drewN | refine Below.drew ?_)⟩
end Go.Proofs.YtkoejkpjkcejcaaGreatDoor
