/-
  The walk of VerifySound: what is sound runs.
-/
import Derived.Test.YtkoejkpjkcejcabDoorGyAq
namespace Go.Proofs.YtkoejkpjkcejcabDoor
open Go.RowKit
set_option linter.unusedVariables false

set_option maxHeartbeats 8000000 in
set_option maxRecDepth 20000 in
theorem sound_law (is : List I5) (p : Option Addr) (N c : Nat) (vz rv : Value) (zs : List (ByteArray × Int)) (rs : List V3) (w : World) (hr : REnv w) (htw : TW w) (hg : w.cell? ⟨1, 0, none⟩ = some (.iface 168 (.agg #[.pointer (some ⟨11, 32, none⟩)]))) (hgl : 1 < w.heap.size) (hi : InsAt w p is) (hN : is.length = N) (hNm : N ≤ maxLen) (hz : ∀ i ∈ is, i.2.2.2.2.size ≤ maxLen ∧ inB i.2.2.2.1) (hc : ColsV w vz zs) (hrv : ValsV w rv rs) (hsz : SizedV rs) :
    Calls Tryd.prog 6 #[.slice p N c, vz, rv] w fun e w' => e = .returned (.bool true) ∧ Below w.heap.size w w' := by
  have hgW : ∀ W, Below w.heap.size w W → W.cell? ⟨1, 0, none⟩ = some (.iface 168 (.agg #[.pointer (some ⟨11, 32, none⟩)])) := fun W b => by rw [b.cell (p := ⟨1, 0, none⟩) hgl]; exact hg
  obtain ⟨E1, hE1⟩ : ∃ E, (verP is zs).2.2 = E := ⟨_, rfl⟩
  obtain ⟨T, hT⟩ : ∃ T, typP is (verP is zs) = T := ⟨_, rfl⟩
  obtain ⟨⟨V, M, E⟩, hR⟩ : ∃ r, vmR is zs rs 1000000 = r := ⟨_, rfl⟩
  have bc := alB w (.cells #[.string ⟨#[120]⟩, .int .i64 1] 30)
  have bi := bc.alloc (by simp) (.cells #[.int .i64 2, .int .i64 0, .int .i64 0, .int .i64 0, .string ⟨#[]⟩, .int .i64 6, .int .i64 0, .int .i64 0, .int .i64 0, .string ⟨#[]⟩, .int .i64 7, .int .i64 0, .int .i64 0, .int .i64 0, .string ⟨#[]⟩] 50)
  have c0 := vType_any [((2 : Int), (0 : Int), (0 : Int), (0 : Int), (⟨#[]⟩ : ByteArray)), (6, 0, 0, 0, ⟨#[]⟩), (7, 0, 0, 0, ⟨#[]⟩)] (some ⟨w.heap.size + 1, 0, none⟩) 3 3 (.slice (some ⟨w.heap.size, 0, none⟩) 1 1) [(⟨#[120]⟩, 1)] _ (hr.on bi) (htw.on bi) (insLit _ _ (by simp) _ _ (fun j hj => by
    have : j = 0 ∨ j = 1 ∨ j = 2 := by simp at hj; omega
    rcases this with rfl | rfl | rfl <;> exact ⟨rfl, rfl, rfl, rfl, rfl⟩)) rfl (by decide) (fun i hi => by
    have : i.2.2.2.2 = ⟨#[]⟩ := by
      simp at hi
      rcases hi with rfl | rfl | rfl <;> rfl
    rw [this]; decide) ((colOne w _ rfl).on (alB _ _)) 1 0 fact_sound fact_type
  rw [show errV 0 = .nilIface from rfl] at c0
  have cT := fun W (b : Below w.heap.size w W) => vType_any is p N c vz zs W (hr.on b) (htw.on b) (hi.on b) hN hNm (fun i hi => (hz i hi).1) (hc.on b) T E1 hE1 hT
  have cR := fun W (b : Below w.heap.size w W) => vmRun_any is p N c vz rv zs rs 1000000 W (hr.on b) (htw.on b) (hi.on b) hN hNm hz (hc.on b) (hrv.on b) hsz V M E hR
  have cK := fun W (b : Below w.heap.size w W) => rowCheck_v vz rv zs rs W (htw.on b) (hc.on b) (hrv.on b) hsz
  have cS := fun W (b : Below w.heap.size w W) => same_any E 9 W (hgW W b)
  obtain ⟨pz, cz, rfl, -⟩ := id hc
  obtain ⟨q, cq, rfl, -, -⟩ := id hrv
  by_cases h1 : E1 = 0
  · subst h1
    rw [show errV 0 = .nilIface from rfl] at cT
    by_cases h2 : rowChk zs rs = 0
    · rw [h2, show errV 0 = .nilIface from rfl] at cK
      obtain ⟨hrow, hsch⟩ := rowR_of h2 hsz
      obtain ⟨l, t, hsnd, ht, -⟩ := snd_of hE1
      rw [hT] at ht
      subst ht
      have hlen := hsnd.most
      obtain ⟨hend, hle, -⟩ := snd_full hsnd hrow (fun i hi => (hz i hi).2) (fuel := 1000000) (by omega)
      have hne := snd_ne hE1
      have hpos := snd_some (rs := rs) (fuel := 1000000) hne (.inl (by decide))
      unfold vmR vmE at hR
      rw [if_neg (by rw [hE1]; simp [h2]), if_neg (by decide)] at hR
      simp only [Prod.mk.injEq] at hR
      obtain ⟨hV, hM, hE⟩ := hR
      rw [hE] at hend hV hpos
      rw [hM] at hle hpos
      have hMN : ¬ (N : Int) < (M : Int) := by omega
      rcases hend with h9 | ⟨h0, ⟨vt, vn, vs⟩, hv, hok⟩
      · subst h9
        have cS9 := fun W b => cS W b rfl
        rw [show errV 9 = .iface 37 (.int .i64 9) from rfl] at cR cS9
        clear hi hN hz hc hrv hsz hr htw hgW hg cS hE1 hT hV hM hE hrow hsnd hle hne hpos h2 hsch
        go_enter Tryd.func6, Tryd.ntmps6
        go_wp2_with fail
        refine c0.mono ?_
        rintro e w1 ⟨rfl, b1⟩
        have B1 := bi.trans (b1.mono bi.size)
        go_wp2_with fail
        refine (cT w1 B1).mono ?_
        rintro e w2 ⟨rfl, b2⟩
        have B2 := B1.trans (b2.mono B1.size)
        go_wp2_with fail
        refine (cR w2 B2).mono ?_
        rintro e w3 ⟨rfl, b3⟩
        have B3 := (B2.trans (b3.mono B2.size)).alloc (B2.trans (b3.mono B2.size)).size (.cells #[.int .i64 V.1, .int .i64 V.2.1, .string V.2.2] 23)
        have cK3 := cK _ B3
        clear cR cT c0 b1 b2 b3 cK
        go_wp2_with fail
        refine cK3.mono ?_
        rintro e w4 ⟨rfl, b4⟩
        have B4 := B3.trans (b4.mono B3.size)
        have cS4 := cS9 _ B4
        clear cK3 cS9 B3 b4
        go_wp2_with fail
        refine cS4.mono ?_
        rintro e w5 ⟨rfl, b5⟩
        have B5 := B4.trans (b5.mono B4.size)
        clear cS4 b5 B4
        go_wp2
        go_ret
        exact ⟨rfl, B5⟩
      · subst h0
        rw [if_pos rfl, hv] at hV
        obtain rfl : (vt, vn, vs) = V := hV
        simp only [show errV 0 = .nilIface from rfl] at cR
        obtain ⟨h5, hck, hin⟩ := hok
        simp only at h5 hck
        subst h5
        have hs40 : vs.size ≤ maxLen := by have := chk_size hck; unfold maxLen; simp at this; omega
        have cV := fun W => check_ok vt vn vs W hs40 hck
        have hM0 : 0 < M := by have := hpos rfl; omega
        have htt : (vt == vt) = true := by simp
        clear hi hN hz hc hrv hsz hr htw hgW hg cS hE1 hT hM hE hrow hsnd hle hne hpos h2 hsch hck hin hv
        go_enter Tryd.func6, Tryd.ntmps6
        go_wp2_with fail
        refine c0.mono ?_
        rintro e w1 ⟨rfl, b1⟩
        have B1 := bi.trans (b1.mono bi.size)
        go_wp2_with fail
        refine (cT w1 B1).mono ?_
        rintro e w2 ⟨rfl, b2⟩
        have B2 := B1.trans (b2.mono B1.size)
        go_wp2_with fail
        refine (cR w2 B2).mono ?_
        rintro e w3 ⟨rfl, b3⟩
        have B3 := (B2.trans (b3.mono B2.size)).alloc (B2.trans (b3.mono B2.size)).size (.cells #[.int .i64 vt, .int .i64 vn, .string vs] 23)
        have cK3 := cK _ B3
        clear cR cT c0 b1 b2 b3 cK
        go_wp2_with fail
        refine cK3.mono ?_
        rintro e w4 ⟨rfl, b4⟩
        have B4 := B3.trans (b4.mono B3.size)
        obtain ⟨k1, _, hl1⟩ := box_at w3 _ _ b4 (by simp)
        have e0 : w4.cell? ⟨w3.heap.size, 0, none⟩ = some (.int .i64 vt) := k1 0
        have e1 : w4.cell? ⟨w3.heap.size, 1, none⟩ = some (.int .i64 vn) := k1 1
        have e2 : w4.cell? ⟨w3.heap.size, 2, none⟩ = some (.string vs) := k1 2
        have cV4 := cV w4
        clear cK3 B3 b4 k1 cV
        go_wp2_with fail
        refine cV4.mono ?_
        rintro e w5 ⟨rfl, b5⟩
        have B5 := B4.trans (b5.mono B4.size)
        clear cV4 b5 B4
        go_wp2
        go_ret
        exact ⟨rfl, B5⟩
    · obtain ⟨K, hK⟩ : ∃ K, rowChk zs rs = K := ⟨_, rfl⟩
      unfold vmR vmE at hR
      rw [if_neg (show ¬ (verP is zs).2.2 ≠ 0 by rw [hE1]; simp), if_pos h2, hK] at hR
      rw [hK] at h2 cK
      simp only [Prod.mk.injEq] at hR
      obtain ⟨rfl, rfl, rfl⟩ := hR
      have hV : errV K = .iface 37 (.int .i64 K) := by rw [errV, if_neg h2]
      rw [hV] at cK cR
      clear hi hN hz hc hrv hsz hr htw hgW hg cS hE1 hT hV h2 hK
      go_enter Tryd.func6, Tryd.ntmps6
      go_wp2_with fail
      refine c0.mono ?_
      rintro e w1 ⟨rfl, b1⟩
      have B1 := bi.trans (b1.mono bi.size)
      go_wp2_with fail
      refine (cT w1 B1).mono ?_
      rintro e w2 ⟨rfl, b2⟩
      have B2 := B1.trans (b2.mono B1.size)
      go_wp2_with fail
      refine (cR w2 B2).mono ?_
      rintro e w3 ⟨rfl, b3⟩
      have B3 := (B2.trans (b3.mono B2.size)).alloc (B2.trans (b3.mono B2.size)).size (.cells #[.int .i64 noV.1, .int .i64 noV.2.1, .string noV.2.2] 23)
      have cK3 := cK _ B3
      clear cR cT c0 b1 b2 b3 cK
      go_wp2_with fail
      refine cK3.mono ?_
      rintro e w4 ⟨rfl, b4⟩
      have B4 := B3.trans (b4.mono B3.size)
      clear cK3 b4 B3
      go_wp2
      go_ret
      exact ⟨rfl, B4⟩
  · unfold vmR vmE at hR
    rw [if_pos (show (verP is zs).2.2 ≠ 0 by rw [hE1]; exact h1), if_pos (show (verP is zs).2.2 ≠ 0 by rw [hE1]; exact h1), hE1] at hR
    simp only [Prod.mk.injEq] at hR
    obtain ⟨rfl, rfl, rfl⟩ := hR
    have hV : errV E1 = .iface 37 (.int .i64 E1) := by rw [errV, if_neg h1]
    rw [hV] at cT cR
    clear hi hN hz hc hrv hsz hr htw hgW hg cS hE1 hT hV h1
    go_enter Tryd.func6, Tryd.ntmps6
    go_wp2_with fail
    refine c0.mono ?_
    rintro e w1 ⟨rfl, b1⟩
    have B1 := bi.trans (b1.mono bi.size)
    go_wp2_with fail
    refine (cT w1 B1).mono ?_
    rintro e w2 ⟨rfl, b2⟩
    have B2 := B1.trans (b2.mono B1.size)
    go_wp2_with fail
    refine (cR w2 B2).mono ?_
    rintro e w3 ⟨rfl, b3⟩
    have B3 := (B2.trans (b3.mono B2.size)).alloc (B2.trans (b3.mono B2.size)).size (.cells #[.int .i64 noV.1, .int .i64 noV.2.1, .string noV.2.2] 23)
    clear cR cT c0 b1 b2 b3 cK
    go_wp2
    go_ret
    exact ⟨rfl, B3⟩
end Go.Proofs.YtkoejkpjkcejcabDoor
