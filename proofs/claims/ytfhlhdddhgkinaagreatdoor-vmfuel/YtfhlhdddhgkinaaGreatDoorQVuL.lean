/-
  The walk of VmFuel: fuel is steps.
-/
import Derived.Test.YtfhlhdddhgkinaaGreatDoorGrAq
namespace Go.Proofs.YtfhlhdddhgkinaaGreatDoor
open Go.RowKit
set_option linter.unusedVariables false

theorem valsOne (w : World) (g : Nat) (hg : g = w.heap.size) : ValsV (w.alloc (.cells #[.int .i64 1, .int .i64 3, .string ⟨#[]⟩] 23)) (.slice (some ⟨g, 0, none⟩) 1 1) [((1 : Int), (3 : Int), (⟨#[]⟩ : ByteArray))] := by
  subst hg
  refine ⟨_, 1, rfl, by decide, .inr ⟨w.heap.size, 0, rfl, by simp, fun j hj => ?_⟩⟩
  obtain rfl : j = 0 := by simp at hj; omega
  refine ⟨?_, ?_, ?_⟩
  · rw [World.cell?_alloc_at _ _ _ _ rfl]; rfl
  · rw [World.cell?_alloc_at _ _ _ _ rfl]; rfl
  · rw [World.cell?_alloc_at _ _ _ _ rfl]; rfl
/-- What VmFuel asks, of sound code and a row that is right, where it ends well. -/
theorem fuel_plain {zs : List (ByteArray × Int)} {rs : List V3} {is : List I5} (hsz : SizedV rs) (hb : ∀ i ∈ is, inB i.2.2.2.1) {V : V3} {M : Nat} (hR : vmR is zs rs 1000000 = (V, M, 0)) :
    vmR is zs rs (M : Int) = (V, M, 0) ∧ 1 ≤ M ∧ M ≤ 1200 ∧ (vmR is zs rs ((M : Int) - 1) = (noV, M - 1, 10)) ∧ ∃ D, vmT is zs rs = (D, 0) ∧ D.length = M ∧ D.Pairwise (· < ·) ∧ ∀ x ∈ D, x < 1200 := by
  have hE0 : vmE is zs rs = 0 := by
    unfold vmR at hR
    split at hR
    · rename_i h
      simp only [Prod.mk.injEq] at hR
      exact hR.2.2
    · rename_i h; exact Classical.not_not.1 h
  have hver : (verP is zs).2.2 = 0 := by
    unfold vmE at hE0
    split at hE0
    · rename_i h; exact absurd hE0 h
    · rename_i h; exact Classical.not_not.1 h
  have hrc : rowChk zs rs = 0 := by
    unfold vmE at hE0
    rwa [if_neg (by simp [hver])] at hE0
  obtain ⟨hrow, hsch⟩ := rowR_of hrc hsz
  obtain ⟨l, t, hsnd, ht, -⟩ := snd_of hver
  have hlen := hsnd.most
  obtain ⟨hend, hle, heq⟩ := snd_full hsnd hrow hb (fuel := 1000000) (by omega)
  have hne := snd_ne hver
  unfold vmR at hR
  rw [if_neg (by simp [hE0]), if_neg (by decide)] at hR
  simp only [Prod.mk.injEq] at hR
  obtain ⟨hV, hM, hE⟩ := hR
  have hpos := snd_some (rs := rs) (fuel := 1000000) hne (.inl (by decide)) hE
  rw [if_pos hE] at hV
  rw [hM] at hle hpos
  have e1 := run_more rs 1000000 (M : Int) is 0 0 [] [] (by rw [hE]; decide) (.inr (.inr ⟨by rw [hM]; exact Int.le_refl _, hE⟩))
  obtain ⟨l1, l2⟩ := run_less rs 1000000 ((M : Int) - 1) is 0 0 [] [] (by rw [hE]; decide) (by simp; omega) (.inl (by rw [hM]; omega))
  refine ⟨?_, hpos, by omega, ?_, ?_⟩
  · unfold vmR
    rw [if_neg (by simp [hE0]), if_neg (by omega), e1, if_pos hE, hV, hM, hE]
  · unfold vmR
    rw [if_neg (by simp [hE0]), if_neg (by omega)]
    rw [l1, if_neg (by decide), show (runP rs ((M : Int) - 1) is 0 0 [] []).2.2.1.length = M - 1 by omega]
  · unfold vmT
    rw [if_neg (by simp [hE0]), heq, if_neg (by simp [hE])]
    refine ⟨_, rfl, hM, ?_⟩
    obtain ⟨m, m1, _, m3, m4⟩ := run_done rs 1000000 is 0 0 [] []
    rw [m1, List.nil_append]
    exact ⟨m3, fun x hx => by have := (m4 x hx).2; omega⟩
set_option maxHeartbeats 8000000 in
set_option maxRecDepth 20000 in
theorem fuel_law (is : List I5) (p : Option Addr) (N c : Nat) (vz rv : Value) (zs : List (ByteArray × Int)) (rs : List V3) (w : World) (hr : REnv w) (htw : TW w) (hg : w.cell? ⟨1, 0, none⟩ = some (.iface 183 (.agg #[.pointer (some ⟨5, 40, none⟩)]))) (hgl : 1 < w.heap.size) (hi : InsAt w p is) (hN : is.length = N) (hNm : N ≤ maxLen) (hz : ∀ i ∈ is, i.2.2.2.2.size ≤ maxLen ∧ inB i.2.2.2.1) (hc : ColsV w vz zs) (hrv : ValsV w rv rs) (hsz : SizedV rs) :
    Calls Tryz.prog 6 #[.slice p N c, vz, rv] w fun e w' => e = .returned (.bool true) ∧ Below w.heap.size w w' := by
  have hgW : ∀ W, Below w.heap.size w W → W.cell? ⟨1, 0, none⟩ = some (.iface 183 (.agg #[.pointer (some ⟨5, 40, none⟩)])) := fun W b => by rw [b.cell (p := ⟨1, 0, none⟩) hgl]; exact hg
  obtain ⟨⟨V, M, E⟩, hR⟩ : ∃ r, vmR is zs rs 1000000 = r := ⟨_, rfl⟩
  have bc := alB w (.cells #[.string ⟨#[120]⟩, .int .i64 1] 30)
  have bi := bc.alloc (by simp) (.cells #[.int .i64 2, .int .i64 0, .int .i64 0, .int .i64 0, .string ⟨#[]⟩] 52)
  have bv := bi.alloc (by simp; omega) (.cells #[.int .i64 1, .int .i64 3, .string ⟨#[]⟩] 23)
  have c0 := vmRun_any [((2 : Int), (0 : Int), (0 : Int), (0 : Int), (⟨#[]⟩ : ByteArray))] (some ⟨w.heap.size + 1, 0, none⟩) 1 1 (.slice (some ⟨w.heap.size, 0, none⟩) 1 1) (.slice (some ⟨w.heap.size + 1 + 1, 0, none⟩) 1 1) [(⟨#[120]⟩, 1)] [((1 : Int), (3 : Int), (⟨#[]⟩ : ByteArray))] 5 _ (hr.on bv) (htw.on bv) ((insLit _ _ (by simp) _ _ (fun j hj => by
    obtain rfl : j = 0 := by simp at hj; omega
    exact ⟨rfl, rfl, rfl, rfl, rfl⟩)).on (alB _ (.cells #[.int .i64 1, .int .i64 3, .string ⟨#[]⟩] 23))) rfl (by decide) (fun i hi => by
    have : i = ((2 : Int), (0 : Int), (0 : Int), (0 : Int), (⟨#[]⟩ : ByteArray)) := by simpa using hi
    rw [this]; exact ⟨by decide, by unfold inB; decide⟩) (((colOne w _ rfl).on (alB _ _)).on (alB _ _)) (valsOne _ _ (by simp)) (fun r hr => by
    have : r = ((1 : Int), (3 : Int), (⟨#[]⟩ : ByteArray)) := by simpa using hr
    rw [this]; exact ⟨by decide, by unfold inB; decide⟩) (1, 3, ⟨#[]⟩) 1 0 fact_run
  rw [show errV 0 = .nilIface from rfl] at c0
  have cR := fun fuel V M E (hR : vmR is zs rs fuel = (V, M, E)) W (b : Below w.heap.size w W) => vmRun_any is p N c vz rv zs rs fuel W (hr.on b) (htw.on b) (hi.on b) hN hNm hz (hc.on b) (hrv.on b) hsz V M E hR
  have cT := fun D E (hT : vmT is zs rs = (D, E)) W (b : Below w.heap.size w W) => vmTrace_any is p N c vz rv zs rs W (hr.on b) (htw.on b) (hi.on b) hN hNm hz (hc.on b) (hrv.on b) hsz D E hT
  have cS := fun W (b : Below w.heap.size w W) => same_any 10 10 W (hgW W b) rfl
  rw [show errV 10 = .iface 32 (.int .i64 10) from rfl] at cS
  obtain ⟨pz, cz, rfl, -⟩ := id hc
  obtain ⟨q, cq, rfl, -, -⟩ := id hrv
  have cR1 := cR 1000000 V M E hR
  by_cases h1 : E = 0
  · subst h1
    obtain ⟨f1, f2, f3, f4, D, f5, f6, f7, f8⟩ := fuel_plain hsz (fun i hi => (hz i hi).2) hR
    have cR2 := cR _ _ _ _ f1
    have cR3 := cR _ _ _ _ f4
    have cT1 := cT _ _ f5
    simp only [show errV 0 = .nilIface from rfl, show errV 10 = .iface 32 (.int .i64 10) from rfl] at cR1 cR2 cR3 cT1
    rw [f6] at cT1
    rw [show ((M - 1 : Nat) : Int) = (M : Int) - 1 by omega] at cR3
    have f3z : (M : Int) ≤ 1200 := by omega
    have f2z : (1 : Int) ≤ (M : Int) := by omega
    have hpw : ∀ k (h : k + 1 < D.length), D[k] < D[k + 1] := fun k h => List.pairwise_iff_getElem.1 f7 k (k + 1) (by omega) h (by omega)
    have HPW : Hid (∀ k (h : k + 1 < D.length), D[k] < D[k + 1]) := hpw
    have HD : Hid (D.length = M) := f6
    have H12 : Hid (∀ x ∈ D, x < 1200) := f8
    clear hi hN hz hc hrv hsz hr htw hgW hg cR cT hR f1 f4 f5 f6 f7 f8 hpw
    go_enter Tryz.func6, Tryz.ntmps6
    go_wp2_with fail
    refine c0.mono ?_
    rintro e w1 ⟨rfl, b1⟩
    have B1 := bv.trans (b1.mono bv.size)
    clear c0 b1 bc bi bv
    have B2 := B1.alloc B1.size (.cells #[.int .i64 1, .int .i64 3, .string ⟨#[]⟩] 23)
    have d1 := cR1 _ B2
    clear cR1
    obtain ⟨vt, vn, vs⟩ := V
    simp only at d1 cR2
    go_wp2_with fail
    refine d1.mono ?_
    rintro e w2 ⟨rfl, b2⟩
    have B3 := B2.trans (b2.mono B2.size)
    have B4 := B3.alloc B3.size (.cells #[.int .i64 vt, .int .i64 vn, .string vs] 23)
    have d2 := cR2 _ B4
    clear d1 b2 cR2 B2
    go_wp2_with fail
    refine d2.mono ?_
    rintro e w3 ⟨rfl, b3⟩
    have P3 : Below (w2.heap.size + 1) (w2.alloc (.cells #[.int .i64 vt, .int .i64 vn, .string vs] 23)) w3 := b3.mono (by simp)
    have hl3 : w2.heap.size + 1 ≤ w3.heap.size := by have := b3.size; simpa using this
    have B5 := B4.trans (b3.mono B4.size)
    have B6 := B5.alloc B5.size (.cells #[.int .i64 vt, .int .i64 vn, .string vs] 23)
    have P4 := P3.alloc hl3 (.cells #[.int .i64 vt, .int .i64 vn, .string vs] 23)
    have d3 := cR3 _ B6
    clear d2 b3 cR3 P3
    go_wp2_with fail
    refine d3.mono ?_
    rintro e w4 ⟨rfl, b4⟩
    have hl4 : w3.heap.size + 1 ≤ w4.heap.size := by have := b4.size; simpa using this
    have Q4 : Below (w3.heap.size + 1) (w3.alloc (.cells #[.int .i64 vt, .int .i64 vn, .string vs] 23)) w4 := b4.mono (by simp)
    have P5 := P4.trans (b4.mono (by simp; omega))
    have B7 := B6.trans (b4.mono B6.size)
    have B8 := B7.alloc B7.size (.cells #[.int .i64 noV.1, .int .i64 noV.2.1, .string noV.2.2] 23)
    have Q5 := Q4.alloc hl4 (.cells #[.int .i64 noV.1, .int .i64 noV.2.1, .string noV.2.2] 23)
    have P6 := P5.alloc (by omega) (.cells #[.int .i64 noV.1, .int .i64 noV.2.1, .string noV.2.2] 23)
    have d4 := cS _ B8
    clear d3 b4 cS P4 P5 Q4
    go_wp2_with fail
    refine d4.mono ?_
    rintro e w5 ⟨rfl, b5⟩
    have hl5 : w4.heap.size + 1 ≤ w5.heap.size := by have := b5.size; simpa using this
    have B9 := B8.trans (b5.mono B8.size)
    have P7 := P6.trans (b5.mono (by simp; omega))
    have Q7 := Q5.trans (b5.mono (by simp; omega))
    have d5 := cT1 _ B9
    clear d4 b5 cT1 P6 Q5
    go_wp2_with fail
    refine d5.mono ?_
    rintro e w6 ⟨⟨q6, c6, rfl, I6⟩, b6⟩
    have B10 := B9.trans (b6.mono B9.size)
    have P8 := P7.trans (b6.mono (by omega))
    have Q8 := Q7.trans (b6.mono (by omega))
    obtain ⟨kp, _, hlp⟩ := box_at w2 _ _ P8 (by simp)
    obtain ⟨kq, _, hlq⟩ := box_at w3 _ _ Q8 (by simp)
    have x0 : w6.cell? ⟨w2.heap.size, 0, none⟩ = some (.int .i64 vt) := kp 0
    have x1 : w6.cell? ⟨w2.heap.size, 1, none⟩ = some (.int .i64 vn) := kp 1
    have x2 : w6.cell? ⟨w2.heap.size, 2, none⟩ = some (.string vs) := kp 2
    have y0 : w6.cell? ⟨w3.heap.size, 0, none⟩ = some (.int .i64 vt) := kq 0
    have y1 : w6.cell? ⟨w3.heap.size, 1, none⟩ = some (.int .i64 vn) := kq 1
    have y2 : w6.cell? ⟨w3.heap.size, 2, none⟩ = some (.string vs) := kq 2
    have hveq := valV_eql vt vn vs
    clear d5 b6 P7 Q7 P8 Q8 kp kq B3 B4 B5 B6 B7 B8 B9 B1 hl3 hl4 hl5
    have hlen : (natZ D).length = M := by unfold natZ; rw [List.length_map]; exact HD.out
    obtain ⟨tb, tf, rfl, htb, hcl⟩ := (id I6.out : IntsAt w6 q6 (natZ D)).resolve_left (by omega)
    have HCL : Aside (∀ j (h : j < D.length), w6.cell? ⟨tb, tf + j, none⟩ = some (.int .i64 (D[j] : Int))) := fun j hj => by
      have := hcl j (by rw [hlen, ← HD.out]; exact hj)
      rw [this]
      unfold natZ
      simp
    clear hcl I6 hlen
    go_wp2
    go_loopg [23] M (fun gg s23 wr => ∃ kk : Nat, kk + 1 ≤ M ∧ M - kk ≤ gg ∧ s23 = .int .i64 ((kk : Int) + 1) ∧ Aside (Below w6.heap.size w6 wr))
    case atStart => exact ⟨0, by omega, by omega, rfl, (show Aside _ from Below.refl _ _)⟩
    case round =>
      obtain ⟨kk, hkk, hgk, rfl, BR⟩ := hrel
      have hkz : (kk : Int) ≤ 1199 := by omega
      have hk0 : (0 : Int) ≤ (kk : Int) := by omega
      have hw1 : IntKind.i64.wrap (kk : Int) = kk := by rw [IntKind.wrap_i64]; omega
      have hbs := BR.out.size
      by_cases hlt : kk + 1 < M
      · have hltz : (kk : Int) + 1 < (M : Int) := by omega
        have e0 : wr.cell? ⟨tb, tf + kk, none⟩ = some (.int .i64 (D[kk]'(by rw [HD.out]; omega) : Int)) := by rw [BR.out.cell (p := ⟨tb, tf + kk, none⟩) htb]; exact HCL.out kk _
        have e1 : wr.cell? ⟨tb, tf + (kk + 1), none⟩ = some (.int .i64 (D[kk + 1]'(by rw [HD.out]; omega) : Int)) := by rw [BR.out.cell (p := ⟨tb, tf + (kk + 1), none⟩) htb]; exact HCL.out (kk + 1) _
        have hd := HPW.out kk (by rw [HD.out]; omega)
        generalize D[kk]'(by rw [HD.out]; omega) = da at e0 hd
        generalize D[kk + 1]'(by rw [HD.out]; omega) = db at e1 hd
        have hdz : ¬ (db : Int) ≤ (da : Int) := by omega
        have hdn : ¬ db ≤ da := by omega
        have htr : tb < wr.heap.size := by omega
        have BR2 : Aside (Below w6.heap.size w6 wr.drew) := BR.out.drew
        clear BR
        go_wp2_with fail
        go_region
        all_goals
          go_wp2
          go_roundg (M - (kk + 1))
          case measure => omega
          case rel => exact ⟨kk + 1, by omega, by omega, by go_num, BR2⟩
      · have hkM : kk + 1 = M := by omega
        have hltz : ¬ (kk : Int) + 1 < (M : Int) := by omega
        have z0 : wr.cell? ⟨w2.heap.size, 0, none⟩ = some (.int .i64 vt) := by rw [BR.out.cell (p := ⟨w2.heap.size, 0, none⟩) hlp]; exact x0
        have z1 : wr.cell? ⟨w2.heap.size, 1, none⟩ = some (.int .i64 vn) := by rw [BR.out.cell (p := ⟨w2.heap.size, 1, none⟩) hlp]; exact x1
        have z2 : wr.cell? ⟨w2.heap.size, 2, none⟩ = some (.string vs) := by rw [BR.out.cell (p := ⟨w2.heap.size, 2, none⟩) hlp]; exact x2
        have u0 : wr.cell? ⟨w3.heap.size, 0, none⟩ = some (.int .i64 vt) := by rw [BR.out.cell (p := ⟨w3.heap.size, 0, none⟩) hlq]; exact y0
        have u1 : wr.cell? ⟨w3.heap.size, 1, none⟩ = some (.int .i64 vn) := by rw [BR.out.cell (p := ⟨w3.heap.size, 1, none⟩) hlq]; exact y1
        have u2 : wr.cell? ⟨w3.heap.size, 2, none⟩ = some (.string vs) := by rw [BR.out.cell (p := ⟨w3.heap.size, 2, none⟩) hlq]; exact y2
        have hlp' : w2.heap.size < wr.heap.size := by omega
        have hlq' : w3.heap.size < wr.heap.size := by omega
        have B11 : Below w.heap.size w wr := B10.trans (BR.out.mono B10.size)
        have qM : ((M : Int) == (M : Int)) = true := by simp
        have qM1 : ((M : Int) - 1 == (M : Int) - 1) = true := by simp
        clear hkM BR x0 x1 x2 y0 y1 y2
        go_wp2
        go_ret
        exact ⟨rfl, B11⟩
  · have hV : errV E = .iface 32 (.int .i64 E) := by rw [errV, if_neg h1]
    rw [hV] at cR1
    clear hi hN hz hc hrv hsz hr htw hgW hg cS cR cT hR hV h1
    go_enter Tryz.func6, Tryz.ntmps6
    go_wp2_with fail
    refine c0.mono ?_
    rintro e w1 ⟨rfl, b1⟩
    have B1 := bv.trans (b1.mono bv.size)
    clear c0 b1 bc bi bv
    have B2 := B1.alloc B1.size (.cells #[.int .i64 1, .int .i64 3, .string ⟨#[]⟩] 23)
    have cR2 := cR1 _ B2
    clear cR1
    go_wp2_with fail
    refine cR2.mono ?_
    rintro e w2 ⟨rfl, b2⟩
    have B3 := B2.trans (b2.mono B2.size)
    have B4 := B3.alloc B3.size (.cells #[.int .i64 V.1, .int .i64 V.2.1, .string V.2.2] 23)
    clear cR2 b2
    go_wp2
    go_ret
    exact ⟨rfl, B4⟩
end Go.Proofs.YtfhlhdddhgkinaaGreatDoor
