/-
  One step of package verify's walk: what an instruction makes known of the places to which it goes.
-/
import Derived.Test.YtkoejkpjkcejcabDoorYVfE
namespace Go.Proofs.YtkoejkpjkcejcabDoor
open Go.RowKit
set_option linter.unusedVariables false

theorem KnAt.at {w : World} {b : Nat} {ks : List Pl} (h : KnAt w b ks) (j : Nat) (hj : j < ks.length) : ∃ p c, w.cell? ⟨b, j * 2, none⟩ = some (.bool ks[j].isSome) ∧ w.cell? ⟨b, j * 2 + 1, none⟩ = some (.slice p (ks[j].getD []).length c) ∧ StkAt w b (.slice p (ks[j].getD []).length c) (ks[j].getD []) := by
  obtain ⟨c0, v, c1, hs⟩ := h.2.2 j hj
  obtain ⟨p, c, rfl, r⟩ := hs
  exact ⟨p, c, c0, c1, p, c, rfl, r⟩
theorem stepP_none {zs : List (ByteArray × Int)} {ks : List Pl} {k : Nat} {i : I5} (h : ks[k]? = some none) : stepP zs ks k i = (ks, 5) := by
  rw [stepP, h, if_pos (by simp)]
theorem stepP_arg {zs : List (ByteArray × Int)} {ks : List Pl} {k : Nat} {i : I5} {st : List Int} (h : ks[k]? = some (some st)) (h2 : argE i zs.length ((ks.length : Int) - 1 - ((k : Int) + 1)) ≠ 0) : stepP zs ks k i = (ks, argE i zs.length ((ks.length : Int) - 1 - ((k : Int) + 1))) := by
  rw [stepP, h, if_neg (by simp), if_pos h2]
def stepR (ks : List Pl) : Option (List Pl) → List Pl × Int
  | none => (ks, 3)
  | some l => (l, 0)
theorem stepP_rest {zs : List (ByteArray × Int)} {ks : List Pl} {k : Nat} {i : I5} {st : List Int} (h : ks[k]? = some (some st)) (h2 : argE i zs.length ((ks.length : Int) - 1 - ((k : Int) + 1)) = 0) : stepP zs ks k i = if (aftP st i zs).2 ≠ 0 then (ks, (aftP st i zs).2) else stepR ks (goP (aftP st i zs).1 (leadP i (k + 1)) ks) := by
  rw [stepP, h, if_neg (by simp), if_neg (by simpa using h2)]
  simp only [Option.getD_some]
  cases goP (aftP st i zs).1 (leadP i (k + 1)) ks <;> rfl
set_option maxHeartbeats 8000000 in
set_option maxRecDepth 20000 in
theorem step_any (ks : List Pl) (b n kc k : Nat) (i : I5) (zs : List (ByteArray × Int)) (cb co cc : Nat) (w : World) (hr : REnv w) (hn : ks.length = n) (hk : KnAt w b ks) (hkk : k + 1 < n) (hks : n ≤ 1201) (hs : i.2.2.2.2.size ≤ maxLen) (hz6 : zs.length ≤ 6) (hc : ColsIn w cb co zs) (ks' : List Pl) (E : Int) (hE : stepP zs ks k i = (ks', E)) :
    Calls Tryd.prog 75 #[.slice (some ⟨b, 0, none⟩) n kc, .int .i64 k, insW i, .slice (some ⟨cb, co, none⟩) zs.length cc] w fun e w' => e = .returned (errV E) ∧ Aside (E = 0 → KnAt w' b ks') ∧ Aside (But b w w') := by
  obtain ⟨a, g, t, m, s⟩ := i
  have hkl : k < ks.length := by omega
  obtain ⟨p, c, k0, k1, hst⟩ := hk.at k hkl
  have hbl := hk.1
  have hB1 := alB w (.cells #[.int .i64 a, .int .i64 g, .int .i64 t, .int .i64 m, .string s] 50)
  have kz0 : (0 : Int) ≤ (k : Int) := by omega
  have kz1 : (k : Int) < (n : Int) := by omega
  have hget : ks[k]? = some ks[k] := List.getElem?_eq_getElem hkl
  show Calls Tryd.prog _ #[_, _, Value.agg #[.int .i64 a, .int .i64 g, .int .i64 t, .int .i64 m, .string s], _] w _
  cases hq : ks[k] with
  | none =>
    rw [hq] at k0 hget
    rw [stepP_none hget] at hE
    obtain ⟨rfl, rfl⟩ := Prod.mk.inj hE
    have HB := But.of_below' hB1 (Nat.le_of_lt hbl)
    clear hE hst hk hc hq hget k1 hkl hn
    go_enter Tryd.func75, Tryd.ntmps75
    go_wp2
    go_ret
    exact ⟨rfl, (show Aside _ from trivial), HB⟩
  | some st =>
    rw [hq] at k0 k1 hget hst
    simp only [Option.getD_some, Option.isSome_some] at k0 k1 hst
    have bz : wrap64 (wrap64 ((n : Int) - 1) - ((k : Int) + 1)) = (n : Int) - 1 - ((k : Int) + 1) := by unfold wrap64; omega
    obtain ⟨AE, hAE⟩ : ∃ AE, argE (a, g, t, m, s) zs.length ((n : Int) - 1 - ((k : Int) + 1)) = AE := ⟨_, rfl⟩
    have cA := fun W hW => checkArg_any (a, g, t, m, s) zs.length ((n : Int) - 1 - ((k : Int) + 1)) W hs hW AE hAE
    simp only [insW] at cA
    by_cases hA0 : AE = 0
    · subst hA0
      simp only [show errV 0 = .nilIface from rfl] at cA
      have hAn : argE (a, g, t, m, s) zs.length ((ks.length : Int) - 1 - ((k : Int) + 1)) = 0 := by rw [hn]; exact hAE
      rw [stepP_rest hget hAn] at hE
      have hlt := lead_lt (i := (a, g, t, m, s)) (nc := zs.length) (n := n) (k := k) hkk hAE
      obtain ⟨Lds, hLds⟩ : ∃ l, leadP (a, g, t, m, s) (k + 1) = l := ⟨_, rfl⟩
      rw [hLds] at hlt hE
      obtain ⟨⟨LF, EF⟩, hF⟩ : ∃ r, aftP st (a, g, t, m, s) zs = r := ⟨_, rfl⟩
      rw [hF] at hE
      simp only at hE
      have cF : ∀ (w1 : World) (q : Nat), Below w.heap.size w w1 → Calls Tryd.prog 98 #[.slice p st.length c, .agg #[.int .i64 a, .int .i64 g, .int .i64 t, .int .i64 m, .string s], .slice (some ⟨cb, co, none⟩) zs.length cc] (w1.drewN q) fun e w' => (∃ v, e = .returned (.tuple #[v, errV EF]) ∧ Aside (StkAt w' b v LF)) ∧ Below w.heap.size w w' ∧ Below w1.heap.size w1 w' := fun w1 q b0 => by
        have b' := below_drewN b0 q
        have hs' := b'.size
        refine (after_any st p st.length c (a, g, t, m, s) zs cb co cc _ (w1.drewN q) (hr.on b') b (hst.on b') rfl hAE hz6 (hc.on b') (by omega) LF EF hF).mono ?_
        rintro e w' ⟨h1, h2⟩
        exact ⟨h1, b'.trans (h2.mono hs'), (below_drewN (Below.refl _ w1) q).trans h2⟩
      have KN : Aside (KnAt w b ks) := hk
      have HN : Hid (ks.length = n) := hn
      have hB1b : ∀ w1, Below (w.alloc (.cells #[.int .i64 a, .int .i64 g, .int .i64 t, .int .i64 m, .string s] 50)).heap.size (w.alloc (.cells #[.int .i64 a, .int .i64 g, .int .i64 t, .int .i64 m, .string s] 50)) w1 → (w1.cell? ⟨w.heap.size, 0, none⟩ = some (.int .i64 a) ∧ w1.cell? ⟨w.heap.size, 1, none⟩ = some (.int .i64 g) ∧ w1.cell? ⟨w.heap.size, 2, none⟩ = some (.int .i64 t) ∧ w1.cell? ⟨w.heap.size, 3, none⟩ = some (.int .i64 m) ∧ w1.cell? ⟨w.heap.size, 4, none⟩ = some (.string s)) := fun w1 hb => by
        have m0 : ∀ o, w1.cell? ⟨w.heap.size, o, none⟩ = (w.alloc (.cells #[.int .i64 a, .int .i64 g, .int .i64 t, .int .i64 m, .string s] 50)).cell? ⟨w.heap.size, o, none⟩ := fun o => hb.cell (p := ⟨w.heap.size, o, none⟩) (by simp)
        refine ⟨?_, ?_, ?_, ?_, ?_⟩
        all_goals (rw [m0, World.cell?_alloc_at _ _ _ _ rfl]; rfl)
      by_cases hE0 : EF = 0
      · subst hE0
        simp only [show errV 0 = .nilIface from rfl] at cF
        rw [if_neg (by simp)] at hE
        have cL : ∀ W : World, Below w.heap.size w W → Calls Tryd.prog 99 #[.agg #[.int .i64 a, .int .i64 g, .int .i64 t, .int .i64 m, .string s], .int .i64 ((k : Int) + 1)] W fun e w' => (∃ v, e = .returned v ∧ Aside (StkAt w' b v (Lds.map fun (x : Nat) => (x : Int)))) ∧ Below W.heap.size W w' := fun W b0 => by
          have hs' := b0.size
          exact leads_any (a, g, t, m, s) (k + 1) (n - 1 - (k + 1)) zs.length W (by omega) (by omega) (by rw [show ((n - 1 - (k + 1) : Nat) : Int) = (n : Int) - 1 - ((k : Int) + 1) by omega]; exact hAE) b (by omega) Lds hLds
        obtain ⟨R, hR⟩ : ∃ R, goP LF Lds ks = R := ⟨_, rfl⟩
        rw [hR] at hE
        have HE : Hid (stepR ks R = (ks', E)) := hE
        have HR : Hid (goP LF (Lds.drop 0) ks = R) := hR
        have HT : Hid (∀ t ∈ Lds, t < n) := hlt
        have hL2 : Lds.length ≤ 2 := by
          rw [← hLds]
          unfold leadP
          split
          · simp
          split
          · simp
          · simp
        obtain ⟨NL, hNL⟩ : ∃ NL, Lds.length = NL := ⟨_, rfl⟩
        have HNL : Hid (Lds.length = NL) := hNL
        rw [hNL] at hL2
        clear hE hst hk hc hq hget hkl hn hAE hAn hlt hLds hF hR hNL
        go_enter Tryd.func75, Tryd.ntmps75
        go_wp2_with fail
        refine (cA _ (hr.on hB1)).mono ?_
        rintro e w1 ⟨rfl, b1⟩
        have b2 := hB1.trans (b1.mono hB1.size)
        obtain ⟨m1, m2, m3, m4, m5⟩ := hB1b w1 b1
        have k1' : w1.cell? ⟨b, k * 2 + 1, none⟩ = some (.slice p st.length c) := by rw [b2.cell (p := ⟨b, k * 2 + 1, none⟩) hbl]; exact k1
        have hs1 := b1.size
        simp at hs1
        clear cA b1 hB1b
        go_upto_region 37 with fail
        go_cut [11, 12] (fun s11 s12 wx => ∃ (pF : Option Addr) (cFF : Nat), s11 = .slice pF LF.length cFF ∧ s12 = .nilIface ∧ Aside (StkAt wx b (.slice pF LF.length cFF) LF) ∧ Aside (Below w.heap.size w wx) ∧ (wx.cell? ⟨w.heap.size, 0, none⟩ = some (.int .i64 a) ∧ wx.cell? ⟨w.heap.size, 1, none⟩ = some (.int .i64 g) ∧ wx.cell? ⟨w.heap.size, 2, none⟩ = some (.int .i64 t) ∧ wx.cell? ⟨w.heap.size, 3, none⟩ = some (.int .i64 m) ∧ wx.cell? ⟨w.heap.size, 4, none⟩ = some (.string s)) ∧ w.heap.size < wx.heap.size)
        case first =>
          go_region_with (go_at_call 98; refine (cF w1 _ b2).mono ?_; rintro e w2 ⟨⟨v, rfl, SV⟩, b3, b3'⟩)
          all_goals
            have hs2 := b3'.size
            have mw : ∀ o, w2.cell? ⟨w.heap.size, o, none⟩ = w1.cell? ⟨w.heap.size, o, none⟩ := fun o => b3'.cell (p := ⟨w.heap.size, o, none⟩) (by simp; omega)
            obtain ⟨pF, cFF, rfl, -⟩ := SV.out
            have nn := And.intro ((mw 0).trans m1) (And.intro ((mw 1).trans m2) (And.intro ((mw 2).trans m3) (And.intro ((mw 3).trans m4) ((mw 4).trans m5))))
            go_wp2_with fail
            go_meet
            case rel => exact ⟨pF, cFF, rfl, rfl, SV, b3, nn, by omega⟩
        case rest =>
        obtain ⟨pF, cFF, rfl, rfl, SV2, BX, ⟨n1, n2, n3, n4, n5⟩, hl2⟩ := hcut
        have b3 := BX.out
        have hs2 := b3.size
        clear BX cF k1' k0 k1 b2 hB1 m1 m2 m3 m4 m5
        go_wp2_with fail
        refine (cL _ b3).mono ?_
        rintro e w3 ⟨⟨v, rfl, SL⟩, b4⟩
        obtain ⟨pL, cLL, hvL, -⟩ := SL.out
        rw [List.length_map, HNL.out] at hvL
        subst hvL
        have SL2 : Aside (StkAt w3 b (.slice pL NL cLL) (Lds.map fun (x : Nat) => (x : Int))) := SL.out
        have b5 : Below w.heap.size w w3 := b3.trans (b4.mono (by omega))
        have KN3 : Aside (KnAt w3 b ks) := KN.out.on b5
        have SF3 : Aside (StkAt w3 b (.slice pF LF.length cFF) LF) := SV2.out.on b4
        have HB0 : Aside (But b w w3) := But.of_below' b5 (Nat.le_of_lt hbl)
        have hs3 := b5.size
        clear cL SL SV2 KN n1 n2 n3 n4 n5 b4 b3 b5
        go_wp2
        go_loopg [14, 54] NL (fun gg _ s54 wr => ∃ (kk : Nat) (ks1 : List Pl), kk ≤ NL ∧ NL - kk ≤ gg ∧ s54 = .int .i64 kk ∧ Aside (KnAt wr b ks1) ∧ Aside (But b w3 wr) ∧ Hid (ks1.length = n) ∧ Hid (goP LF (Lds.drop kk) ks1 = R))
        case atStart => exact ⟨0, ks, Nat.zero_le _, by omega, rfl, KN3, (show Aside _ from But.refl _ _), HN, HR⟩
        case round =>
          obtain ⟨kk, ks1, hkk1, hg, rfl, KR, BR, HN1, HR1⟩ := hrel
          have hbr := BR.out.size
          by_cases hlt : kk < NL
          · have hltz : (kk : Int) < (NL : Int) := by omega
            have h0z : (0 : Int) ≤ (kk : Int) := by omega
            have hkl : kk < Lds.length := by rw [HNL.out]; exact hlt
            obtain ⟨T, hT⟩ : ∃ T, Lds[kk] = T := ⟨_, rfl⟩
            have hTn : T < n := by rw [← hT]; exact HT.out _ (List.getElem_mem hkl)
            have hr2 := HR1.out
            rw [List.drop_eq_getElem_cons hkl, hT, goP] at hr2
            rcases (SL2.out.but BR.out).ints with h | ⟨bl, ol, rfl, hbl2, hcl⟩
            · exact absurd h (by rw [List.length_map]; omega)
            have ct := hcl kk (by rw [List.length_map]; exact hkl)
            rw [List.getElem_map, hT] at ct
            have hTl : T < ks1.length := by rw [HN1.out]; exact hTn
            obtain ⟨pT, cT, d0, d1, dS⟩ := KR.out.at T hTl
            rw [List.getElem?_eq_getElem hTl, Option.getD_some] at hr2
            have hTz0 : (0 : Int) ≤ (T : Int) := by omega
            have hTz1 : (T : Int) < (n : Int) := by omega
            have fz := KR.out.2.1
            have hblr := KR.out.1
            clear hcl hT
            cases hq1 : ks1[T] with
            | none =>
              rw [hq1] at d0 d1 hr2
              rw [if_neg (by simp)] at hr2
              have HR2 : Hid (goP LF (Lds.drop (kk + 1)) (ks1.set T (some LF)) = R) := hr2
              have KP : Aside (KnAt ((wr.setCell ⟨b, T * 2, none⟩ (.bool true)).setCell ⟨b, T * 2 + 1, none⟩ (.slice pF LF.length cFF)) b (ks1.set T (some LF))) := KR.out.put hTl (SF3.out.but BR.out)
              have BP : Aside (But b w3 ((wr.setCell ⟨b, T * 2, none⟩ (.bool true)).setCell ⟨b, T * 2 + 1, none⟩ (.slice pF LF.length cFF))) := (BR.out.set _ _).set _ _
              have HN2 : Hid ((ks1.set T (some LF)).length = n) := by show _ = _; rw [List.length_set, HN1.out]
              clear HR1 hr2 KR BR dS hq1 HN1
              simp only [Option.isSome_none] at d0
              go_wp2
              go_roundg (NL - (kk + 1))
              case measure => omega
              case rel => exact ⟨kk + 1, _, by omega, by omega, by go_num, KP, BP, HN2, HR2⟩
            | some s1 =>
              rw [hq1] at d0 d1 hr2 dS
              simp only [Option.isSome_some, Option.getD_some] at d0 d1 hr2 dS
              have h64 : s1.length ≤ 64 ∧ LF.length ≤ 64 := by
                obtain ⟨_, _, _, ⟨_, x1⟩, _⟩ := dS
                obtain ⟨_, _, _, ⟨_, x2⟩, _⟩ := SF3.out
                exact ⟨x1, x2⟩
              have cE := equal_any (.slice pT s1.length cT) (.slice pF LF.length cFF) s1 LF wr b dS (SF3.out.but BR.out) (by omega) (by omega)
              by_cases hse : s1 = LF
              · rw [decide_eq_true hse] at cE
                rw [if_neg (by simp [hse])] at hr2
                have HR2 : Hid (goP LF (Lds.drop (kk + 1)) (ks1.set T (some LF)) = R) := hr2
                have KP : ∀ q, Aside (KnAt (((wr.drewN q).setCell ⟨b, T * 2, none⟩ (.bool true)).setCell ⟨b, T * 2 + 1, none⟩ (.slice pF LF.length cFF)) b (ks1.set T (some LF))) := fun q => (KR.out.on (below_drewN (Below.refl _ wr) q)).put hTl ((SF3.out.but BR.out).on (below_drewN (Below.refl _ wr) q))
                have BP : ∀ q, Aside (But b w3 (((wr.drewN q).setCell ⟨b, T * 2, none⟩ (.bool true)).setCell ⟨b, T * 2 + 1, none⟩ (.slice pF LF.length cFF))) := fun q => ((BR.out.drewN q).set _ _).set _ _
                have HN2 : Hid ((ks1.set T (some LF)).length = n) := by show _ = _; rw [List.length_set, HN1.out]
                clear HR1 hr2 KR BR dS hq1 HN1 hse h64
                go_wp2_with fail
                refine cE.mono ?_
                rintro e w4 ⟨rfl, q, rfl⟩
                go_wp2
                go_roundg (NL - (kk + 1))
                case measure => omega
                case rel => exact ⟨kk + 1, _, by omega, by omega, by go_num, KP q, BP q, HN2, HR2⟩
              · rw [decide_eq_false hse] at cE
                rw [if_pos (by simp [hse])] at hr2
                have hE := HE.out
                rw [← hr2, stepR] at hE
                obtain ⟨rfl, rfl⟩ := Prod.mk.inj hE
                have BP : ∀ q, Aside (But b w (wr.drewN q)) := fun q => (HB0.out.trans BR.out).drewN q
                clear HR1 hr2 KR BR dS hq1 HN1 hse h64 hE HE
                go_wp2_with fail
                refine cE.mono ?_
                rintro e w4 ⟨rfl, q, rfl⟩
                go_wp2
                go_ret
                exact ⟨rfl, (show Aside _ from fun h => absurd h (by decide)), BP q⟩
          · have hltz : ¬ (kk : Int) < (NL : Int) := by omega
            have hr2 := HR1.out
            rw [List.drop_eq_nil_of_le (by rw [HNL.out]; omega), goP] at hr2
            have hE := HE.out
            rw [← hr2, stepR] at hE
            obtain ⟨rfl, rfl⟩ := Prod.mk.inj hE
            have BP : Aside (But b w wr) := HB0.out.trans BR.out
            clear HR1 hr2 hE HE
            go_wp2
            go_ret
            exact ⟨rfl, KR, BP⟩
      · rw [if_pos hE0] at hE
        obtain ⟨rfl, rfl⟩ := Prod.mk.inj hE
        have hV : errV EF = .iface 37 (.int .i64 EF) := by rw [errV, if_neg hE0]
        simp only [hV] at cF ⊢
        have HN0 : Hid (EF ≠ 0) := hE0
        clear hE hst hk hc hq hget hkl hn hAE hAn hV hlt hLds hF hE0 KN HN
        go_enter Tryd.func75, Tryd.ntmps75
        go_wp2_with fail
        refine (cA _ (hr.on hB1)).mono ?_
        rintro e w1 ⟨rfl, b1⟩
        have b2 := hB1.trans (b1.mono hB1.size)
        obtain ⟨m1, m2, m3, m4, m5⟩ := hB1b w1 b1
        have k1' : w1.cell? ⟨b, k * 2 + 1, none⟩ = some (.slice p st.length c) := by rw [b2.cell (p := ⟨b, k * 2 + 1, none⟩) hbl]; exact k1
        clear cA b1 hB1b
        go_wp2
        go_region_with (go_at_call 98; refine (cF w1 _ b2).mono ?_; rintro e w2 ⟨⟨v, rfl, SV⟩, b3, -⟩)
        all_goals
          have HB := But.of_below' b3 (Nat.le_of_lt hbl)
          go_wp2
          go_ret
          exact ⟨rfl, (show Aside _ from fun h => absurd h HN0.out), HB⟩
    · rw [← hn] at hAE
      rw [stepP_arg hget (by rw [hAE]; exact hA0), hAE] at hE
      obtain ⟨rfl, rfl⟩ := Prod.mk.inj hE
      have hV : errV AE = .iface 37 (.int .i64 AE) := by rw [errV, if_neg hA0]
      simp only [hV] at cA ⊢
      have HN0 : Hid (AE ≠ 0) := hA0
      clear hE hst hk hc hq hget k1 hkl hn hAE hA0 hV
      go_enter Tryd.func75, Tryd.ntmps75
      go_wp2_with fail
      refine (cA _ (hr.on hB1)).mono ?_
      rintro e w1 ⟨rfl, b1⟩
      have b2 := hB1.trans (b1.mono hB1.size)
      have HB := But.of_below' b2 (Nat.le_of_lt hbl)
      go_wp2
      go_ret
      exact ⟨rfl, (show Aside _ from fun h => absurd h HN0.out), HB⟩
end Go.Proofs.YtkoejkpjkcejcabDoor
