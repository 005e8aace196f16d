/-
  Rule of package kind, at any Op and any numbers.
-/
import Derived.Test.YticdcnbeemkapaaGreatDoorGrAi
namespace Go.Proofs.YticdcnbeemkapaaGreatDoor
open Go.RowKit Go.BigFrame
set_option linter.unusedVariables false

theorem kdFind_mem {x : List UInt8} {r : KRule} : ∀ {l : List KRule}, kdFind x l = some r → r ∈ l ∧ r.1 = x
  | [], h => by simp [kdFind] at h
  | q :: l, h => by
    rw [kdFind] at h
    split at h
    · rename_i hq
      obtain rfl := Option.some.inj h
      exact ⟨List.mem_cons_self .., hq⟩
    · have := kdFind_mem h
      exact ⟨List.mem_cons_of_mem _ this.1, this.2⟩
theorem kdCnt_ok : ∀ r ∈ kdRules, 1 ≤ kdCnt r ∧ kdCnt r ≤ 3 := by decide
theorem ruleP_none {x : List UInt8} {ts : List Int} (h : kdFind x kdRules = none) : ruleP x ts = (0, 1) := by rw [ruleP, h]
theorem ruleP_bad {x : List UInt8} {ts : List Int} {r : KRule} (h : kdFind x kdRules = some r) (h2 : ts.all isTy = false) : ruleP x ts = (0, 1) := by
  rw [ruleP, h]; simp only; rw [if_pos h2]
theorem ruleP_len {x : List UInt8} {ts : List Int} {r : KRule} (h : kdFind x kdRules = some r) (h2 : ts.all isTy = true) (h3 : ts.length ≠ kdCnt r) : ruleP x ts = (0, 3) := by
  rw [ruleP, h]; simp only; rw [if_neg (by simp [h2]), if_pos h3]
theorem ruleP_rest {x : List UInt8} {ts : List Int} {r : KRule} (h : kdFind x kdRules = some r) (h2 : ts.all isTy = true) (h3 : ts.length = kdCnt r) : ruleP x ts = if kdAll (ts.getLast?.getD 0) ts [r.2.1, r.2.2.1, r.2.2.2.1] = true then (kdMeant (ts.getLast?.getD 0) r.2.2.2.2, 0) else (0, 8) := by
  rw [ruleP, h]; simp only; rw [if_neg (by simp [h2]), if_neg (by simpa using h3)]
theorem kdAll_step {last : Int} {ts l : List Int} {k : Nat} (h : k < ts.length) (h2 : k < l.length) : kdAll last (ts.drop k) (l.drop k) = (decide (ts[k] = kdMeant last l[k]) && kdAll last (ts.drop (k + 1)) (l.drop (k + 1))) := by
  rw [List.drop_eq_getElem_cons h, List.drop_eq_getElem_cons h2, kdAll]
theorem kdAll_end {last : Int} {ts l : List Int} {k : Nat} (h : ts.length ≤ k) : kdAll last (ts.drop k) (l.drop k) = true := by
  rw [List.drop_eq_nil_of_le h, kdAll]
theorem last_at {ts : List Int} {n : Nat} (h : ts.length = n + 1) : ts.getLast?.getD 0 = ts[n]'(by omega) := by
  rw [List.getLast?_eq_getElem?, show ts.length - 1 = n by omega, List.getElem?_eq_getElem (by omega)]; rfl
theorem arg_at (a0 a1 a2 : Int) : ∀ k, (h : k < 3) → ∀ (W : World) (b : Nat) (S : ByteArray) (ty : Int), (∀ i, W.cell? ⟨b, i, none⟩ = (#[.string S, .int .i64 a0, .int .i64 a1, .int .i64 a2, .int .i64 ty] : Array Value)[i]?) → W.cell? ⟨b, 1 + k, none⟩ = some (.int .i64 ([a0, a1, a2][k]'h))
  | 0, _, _, _, _, _, h => h 1
  | 1, _, _, _, _, _, h => h 2
  | 2, _, _, _, _, _, h => h 3
  | k + 3, h, _, _, _, _, _ => absurd h (by omega)
set_option maxHeartbeats 4000000 in
set_option maxRecDepth 20000 in
theorem rule_any (op : ByteArray) (p : Option Addr) (c N : Nat) (ts : List Int) (w : World) (henv : REnv w) (hN : ts.length = N) (hl : N ≤ 9223372036854775807) (hts : IntsAt w p ts) (T E : Int) (hR : ruleP op.data.toList ts = (T, E)) :
    Calls Tryz.prog 30 #[.string op, .slice p N c] w fun e w' => e = .returned (.tuple #[.int .i64 T, errV E]) ∧ Below w.heap.size w w' := by
  have HR : Hid (ruleP op.data.toList ts = (T, E)) := hR
  have cF := ruleOf_any op w henv _ rfl
  have HT : Aside (IntsAt w p ts) := hts
  have HN : Hid (ts.length = N) := hN
  clear hR hts henv hN
  obtain ⟨R, hRR⟩ : ∃ R, kdFind op.data.toList kdRules = R := ⟨_, rfl⟩
  have HF : Hid (kdFind op.data.toList kdRules = R) := hRR
  rw [hRR] at cF
  clear hRR
  go_enter Tryz.func30, Tryz.ntmps30
  go_wp2_with fail
  refine cF.mono ?_
  rintro e w1 ⟨⟨S, a0, a1, a2, ty, ok, rfl, hok⟩, b1⟩
  clear cF
  have b2 : Below w.heap.size w (w1.alloc (.cells #[.string S, .int .i64 a0, .int .i64 a1, .int .i64 a2, .int .i64 ty] 131)) := b1.alloc b1.size _
  cases ok
  · have h := HR.out
    rw [ruleP_none (by rw [HF.out]; exact hok.out)] at h
    obtain ⟨rfl, rfl⟩ := Prod.mk.inj h
    clear h HR HF hok HT HN
    go_wp2
    go_ret2
    exact ⟨rfl, b2⟩
  · have hfd : kdFind op.data.toList kdRules = some (S.data.toList, a0, a1, a2, ty) := by rw [HF.out]; exact hok.out
    have HFD : Hid (kdFind op.data.toList kdRules = some (S.data.toList, a0, a1, a2, ty)) := hfd
    obtain ⟨hc1, hc3⟩ := kdCnt_ok _ (kdFind_mem hfd).1
    have cC := containsTy_any p c ts (w1.alloc (.cells #[.string S, .int .i64 a0, .int .i64 a1, .int .i64 a2, .int .i64 ty] 131)) (by rw [HN.out]; exact hl) (HT.out.on b2)
    rw [HN.out] at cC
    clear hfd HF hok
    obtain ⟨B, hB⟩ : ∃ B, ts.all isTy = B := ⟨_, rfl⟩
    have HB : Hid (ts.all isTy = B) := hB
    rw [hB] at cC
    clear hB
    cases B
    · have h := HR.out
      rw [ruleP_bad HFD.out HB.out] at h
      obtain ⟨rfl, rfl⟩ := Prod.mk.inj h
      clear h HR HFD HT HN HB
      go_wp2_with fail
      refine cC.mono ?_
      rintro e w2 ⟨rfl, hq⟩
      subst hq
      go_wp2
      go_ret2
      exact ⟨rfl, b2⟩
    · obtain ⟨C, hC⟩ : ∃ C, kdCnt (S.data.toList, a0, a1, a2, ty) = C := ⟨_, rfl⟩
      have HC : Hid (kdCnt (S.data.toList, a0, a1, a2, ty) = C) := hC
      have cN := count_any S a0 a1 a2 ty (w1.alloc (.cells #[.string S, .int .i64 a0, .int .i64 a1, .int .i64 a2, .int .i64 ty] 131)) C hC
      rw [hC] at hc1 hc3
      clear hC
      have b3 : Below w.heap.size w ((w1.alloc (.cells #[.string S, .int .i64 a0, .int .i64 a1, .int .i64 a2, .int .i64 ty] 131)).alloc (.cells #[.string S, .int .i64 a0, .int .i64 a1, .int .i64 a2, .int .i64 ty] 131)) := b2.alloc b2.size _
      by_cases hNC : N = C
      · subst hNC
        obtain ⟨m, rfl⟩ : ∃ m, N = m + 1 := ⟨N - 1, by omega⟩
        have hts0 := HN.out
        rcases HT.out.on b3 with h | ⟨b, off, rfl, hbl, hcs⟩
        · exact absurd h (by omega)
        obtain ⟨LV, hLV⟩ : ∃ LV, ts[m]'(by omega) = LV := ⟨_, rfl⟩
        have hlast : ((w1.alloc (.cells #[.string S, .int .i64 a0, .int .i64 a1, .int .i64 a2, .int .i64 ty] 131)).alloc (.cells #[.string S, .int .i64 a0, .int .i64 a1, .int .i64 a2, .int .i64 ty] 131)).cell? ⟨b, off + m, none⟩ = some (.int .i64 LV) := by rw [← hLV]; exact hcs m (by omega)
        have h := HR.out
        rw [ruleP_rest HFD.out HB.out (by rw [HN.out, HC.out]), last_at hts0, hLV] at h
        have HQ : Hid ((if kdAll LV ts [a0, a1, a2] = true then (kdMeant LV ty, 0) else (0, 8)) = (T, E)) := h
        have b4 : Below w.heap.size w (((w1.alloc (.cells #[.string S, .int .i64 a0, .int .i64 a1, .int .i64 a2, .int .i64 ty] 131)).alloc (.cells #[.string S, .int .i64 a0, .int .i64 a1, .int .i64 a2, .int .i64 ty] 131)).alloc (.cells #[.int .i64 LV] 3)) := b3.alloc b3.size _
        have bW : Below ((w1.alloc (.cells #[.string S, .int .i64 a0, .int .i64 a1, .int .i64 a2, .int .i64 ty] 131)).alloc (.cells #[.string S, .int .i64 a0, .int .i64 a1, .int .i64 a2, .int .i64 ty] 131)).heap.size ((w1.alloc (.cells #[.string S, .int .i64 a0, .int .i64 a1, .int .i64 a2, .int .i64 ty] 131)).alloc (.cells #[.string S, .int .i64 a0, .int .i64 a1, .int .i64 a2, .int .i64 ty] 131)) (((w1.alloc (.cells #[.string S, .int .i64 a0, .int .i64 a1, .int .i64 a2, .int .i64 ty] 131)).alloc (.cells #[.string S, .int .i64 a0, .int .i64 a1, .int .i64 a2, .int .i64 ty] 131)).alloc (.cells #[.int .i64 LV] 3)) := al _ _
        have hcs5 : Aside (∀ j (h : j < ts.length), (((w1.alloc (.cells #[.string S, .int .i64 a0, .int .i64 a1, .int .i64 a2, .int .i64 ty] 131)).alloc (.cells #[.string S, .int .i64 a0, .int .i64 a1, .int .i64 a2, .int .i64 ty] 131)).alloc (.cells #[.int .i64 LV] 3)).cell? ⟨b, off + j, none⟩ = some (.int .i64 ts[j])) := fun j hj => by rw [bW.cell (p := ⟨b, off + j, none⟩) hbl]; exact hcs j hj
        have hrb : ∀ i, (((w1.alloc (.cells #[.string S, .int .i64 a0, .int .i64 a1, .int .i64 a2, .int .i64 ty] 131)).alloc (.cells #[.string S, .int .i64 a0, .int .i64 a1, .int .i64 a2, .int .i64 ty] 131)).alloc (.cells #[.int .i64 LV] 3)).cell? ⟨w1.heap.size, i, none⟩ = (#[.string S, .int .i64 a0, .int .i64 a1, .int .i64 a2, .int .i64 ty] : Array Value)[i]? := fun i => by
          rw [bW.cell (p := ⟨w1.heap.size, i, none⟩) (by simp; omega), World.cell?_alloc_lt _ _ _ (by simp), World.cell?_alloc_at _ _ _ _ rfl]
        have hrt : (((w1.alloc (.cells #[.string S, .int .i64 a0, .int .i64 a1, .int .i64 a2, .int .i64 ty] 131)).alloc (.cells #[.string S, .int .i64 a0, .int .i64 a1, .int .i64 a2, .int .i64 ty] 131)).alloc (.cells #[.int .i64 LV] 3)).cell? ⟨w1.heap.size, 4, none⟩ = some (.int .i64 ty) := hrb 4
        have hra : Aside (∀ k (h : k < 3), (((w1.alloc (.cells #[.string S, .int .i64 a0, .int .i64 a1, .int .i64 a2, .int .i64 ty] 131)).alloc (.cells #[.string S, .int .i64 a0, .int .i64 a1, .int .i64 a2, .int .i64 ty] 131)).alloc (.cells #[.int .i64 LV] 3)).cell? ⟨w1.heap.size, 1 + k, none⟩ = some (.int .i64 ([a0, a1, a2][k]'h))) := fun k hk => arg_at a0 a1 a2 k hk _ _ S ty hrb
        have hlc : (((w1.alloc (.cells #[.string S, .int .i64 a0, .int .i64 a1, .int .i64 a2, .int .i64 ty] 131)).alloc (.cells #[.string S, .int .i64 a0, .int .i64 a1, .int .i64 a2, .int .i64 ty] 131)).alloc (.cells #[.int .i64 LV] 3)).cell? ⟨w1.heap.size + 1 + 1, 0, none⟩ = some (.int .i64 LV) := by rw [World.cell?_alloc_at _ _ _ _ (by simp)]; rfl
        have hz1 : w1.heap.size < (((w1.alloc (.cells #[.string S, .int .i64 a0, .int .i64 a1, .int .i64 a2, .int .i64 ty] 131)).alloc (.cells #[.string S, .int .i64 a0, .int .i64 a1, .int .i64 a2, .int .i64 ty] 131)).alloc (.cells #[.int .i64 LV] 3)).heap.size := by simp; omega
        have hbl5 : b < (((w1.alloc (.cells #[.string S, .int .i64 a0, .int .i64 a1, .int .i64 a2, .int .i64 ty] 131)).alloc (.cells #[.string S, .int .i64 a0, .int .i64 a1, .int .i64 a2, .int .i64 ty] 131)).alloc (.cells #[.int .i64 LV] 3)).heap.size := by have := bW.size; omega
        have cM := fun t => meant_any t LV ⟨w1.heap.size + 1 + 1, 0, none⟩ _ hlc
        have hmz : (m : Int) ≤ 2 := by omega
        have hqq : (((m + 1 : Nat) : Int) != ((m + 1 : Nat) : Int)) = false := by simp
        clear h HR HFD HB HC HT hcs hLV bW hrb
        go_wp2_with fail
        refine cC.mono ?_
        rintro e w2 ⟨rfl, hq2⟩
        subst hq2
        go_wp2_with fail
        refine cN.mono ?_
        rintro e w3 ⟨rfl, hq3⟩
        subst hq3
        go_wp2
        generalize (((w1.alloc (.cells #[.string S, .int .i64 a0, .int .i64 a1, .int .i64 a2, .int .i64 ty] 131)).alloc (.cells #[.string S, .int .i64 a0, .int .i64 a1, .int .i64 a2, .int .i64 ty] 131)).alloc (.cells #[.int .i64 LV] 3)) = W5 at *
        obtain ⟨Q, hQ⟩ : ∃ Q, kdAll LV ts [a0, a1, a2] = Q := ⟨_, rfl⟩
        have HQ0 : Hid (kdAll LV (ts.drop 0) ([a0, a1, a2].drop 0) = Q) := hQ
        rw [hQ] at HQ
        clear hQ
        go_loopg [10, 11, 39] (m + 1) (fun gg _ _ s39 wr => ∃ kk : Nat, kk ≤ m + 1 ∧ (m + 1) - kk ≤ gg ∧ s39 = .int .i64 kk ∧ wr = W5 ∧ Hid (kdAll LV (ts.drop kk) ([a0, a1, a2].drop kk) = Q))
        case atStart => exact ⟨0, Nat.zero_le _, by omega, rfl, rfl, HQ0⟩
        case round =>
          obtain ⟨kk, hkk, hg, rfl, hwr, HE⟩ := hrel
          obtain rfl : W5 = wr := hwr.symm
          clear HQ0 hwr
          by_cases hlt : kk < m + 1
          · have hltz : (kk : Int) < (m : Int) + 1 := by omega
            have hltN : (kk : Int) < ((m + 1 : Nat) : Int) := by omega
            have h0z : (0 : Int) ≤ (kk : Int) := by omega
            have h3z : (kk : Int) < 3 := by omega
            have ck := hcs5.out kk (by omega)
            have ak := hra.out kk (by omega)
            have HS : Hid (kdAll LV (ts.drop kk) ([a0, a1, a2].drop kk) = (decide (ts[kk]'(by omega) = kdMeant LV ([a0, a1, a2][kk]'(by show kk < 3; omega))) && kdAll LV (ts.drop (kk + 1)) ([a0, a1, a2].drop (kk + 1)))) := kdAll_step (by omega) (by show kk < 3; omega)
            generalize ts[kk]'(by omega) = y at ck HS
            generalize [a0, a1, a2][kk]'(by show kk < 3; omega) = av at ak HS
            have cK := cM av
            generalize kdMeant LV av = M at cK HS
            by_cases hy : y = M
            · have hyb : (y != M) = false := by simpa using hy
              have HE2 : Hid (kdAll LV (ts.drop (kk + 1)) ([a0, a1, a2].drop (kk + 1)) = Q) := by
                show _ = _
                rw [← HE.out, HS.out, decide_eq_true hy, Bool.true_and]
              clear HS HE hy hcs5 hra cM
              go_wp2_with fail
              refine cK.mono ?_
              rintro e w4 ⟨rfl, hq4⟩
              obtain rfl : W5 = w4 := hq4.symm
              go_wp2
              go_roundg (m + 1 - (kk + 1))
              case measure => omega
              case rel => exact ⟨kk + 1, by omega, by omega, by go_num, rfl, HE2⟩
            · have hyb : (y != M) = true := by simpa using hy
              have hQf : Q = false := by rw [← HE.out, HS.out, decide_eq_false hy, Bool.false_and]
              have h := HQ.out
              rw [hQf, if_neg (by simp)] at h
              obtain ⟨rfl, rfl⟩ := Prod.mk.inj h
              clear h HS HE hy hcs5 hra cM HQ hQf
              go_wp2_with fail
              refine cK.mono ?_
              rintro e w4 ⟨rfl, hq4⟩
              obtain rfl : W5 = w4 := hq4.symm
              go_wp2
              go_ret2
              exact ⟨rfl, b4⟩
          · have hltz : ¬ (kk : Int) < (m : Int) + 1 := by omega
            have hltN : ¬ (kk : Int) < ((m + 1 : Nat) : Int) := by omega
            have hQt : Q = true := by rw [← HE.out, kdAll_end (by have := HN.out; omega)]
            have h := HQ.out
            rw [hQt, if_pos rfl] at h
            obtain ⟨hT, rfl⟩ := Prod.mk.inj h
            have cK := cM ty
            rw [hT] at cK
            clear h HE hcs5 hra cM HQ hQt hT
            go_wp2_with fail
            refine cK.mono ?_
            rintro e w4 ⟨rfl, hq4⟩
            obtain rfl : W5 = w4 := hq4.symm
            go_wp2
            go_ret2
            exact ⟨rfl, b4⟩
      · have h := HR.out
        rw [ruleP_len HFD.out HB.out (by rw [HN.out, HC.out]; exact hNC)] at h
        obtain ⟨rfl, rfl⟩ := Prod.mk.inj h
        have hq : ((N : Int) != (C : Int)) = true := by simp; omega
        clear h HR HFD HT HN HB HC hNC
        go_wp2_with fail
        refine cC.mono ?_
        rintro e w2 ⟨rfl, hq2⟩
        subst hq2
        go_wp2_with fail
        refine cN.mono ?_
        rintro e w3 ⟨rfl, hq3⟩
        subst hq3
        go_wp2
        go_ret2
        exact ⟨rfl, b3⟩
end Go.Proofs.YticdcnbeemkapaaGreatDoor
