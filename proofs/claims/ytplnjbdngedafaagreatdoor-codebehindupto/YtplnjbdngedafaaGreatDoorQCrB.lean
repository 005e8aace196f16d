/-
  CodeRuns at any expression, columns and row.
-/
import Derived.Test.YtplnjbdngedafaaGreatDoorQCrL
namespace Go.Proofs.YtplnjbdngedafaaGreatDoor
open Go.RowKit
set_option linter.unusedVariables false

theorem cpP_sized {zs : List (ByteArray × Int)} : ∀ (x : Ex) (d : Nat), (∀ q ∈ x.pre d, nodeE q.1 = 0) → (∀ q ∈ x.pre d, inB q.1.vn) → (tyP zs x).2.1 = 0 → ∀ i ∈ cpP zs x, i.2.2.2.2.size ≤ 40 ∧ inB i.2.2.2.1 := by
  have hI0 : inB 0 := by unfold inB; decide
  have hI1 : inB 1 := by unfold inB; decide
  refine Ex.ind fun op nm vt vn vs pos l ih d hpre hin ht => ?_
  have hself : ((.node op nm vt vn vs pos l : Ex), d) ∈ (Ex.node op nm vt vn vs pos l).pre d := by rw [Ex.pre]; exact List.mem_cons_self ..
  by_cases h1 : op.data.toList = [118, 97, 108]
  · rw [cpP, if_pos h1]
    intro i hi
    rw [List.mem_singleton.1 hi]
    have hn := (node_ok (hpre _ hself)).2.2 (by simp [Ex.op, Lib.toList_data, h1])
    simp only [Ex.vt, Ex.vn, Ex.vs] at hn
    unfold ckV at hn
    by_cases hc : chk vt vn vs.data.toList = 0
    · have := chk_size hc
      have h40 : vs.size ≤ 40 := by simpa using this
      exact ⟨h40, hin _ hself⟩
    · rw [if_pos hc] at hn
      exact absurd hn hc
  by_cases h2 : op.data.toList = [99, 111, 108]
  · rw [cpP, if_neg h1, if_pos h2]
    intro i hi
    rw [List.mem_singleton.1 hi]
    exact ⟨(by decide : (⟨#[]⟩ : ByteArray).size ≤ 40), hI0⟩
  rw [cpP_op h1 h2]
  rw [tyP_op h1 h2] at ht
  have ht0 : (tysP zs l).2.1 = 0 := by
    apply Classical.byContradiction
    intro hh
    rw [if_pos hh] at ht
    exact hh ht
  obtain ⟨hmm, hall⟩ := tysP_ok ht0
  have hsub : ∀ y ∈ l, ∀ q ∈ y.pre (d + 1), q ∈ (Ex.node op nm vt vn vs pos l).pre d := fun y hy q hq => by
    rw [Ex.pre]; exact List.mem_cons_of_mem _ (pres_mem hy q hq)
  have hY : ∀ y ∈ l, ∀ i ∈ cpP zs y, i.2.2.2.2.size ≤ 40 ∧ inB i.2.2.2.1 := fun y hy => ih y hy (d + 1) (fun q hq => hpre q (hsub y hy q hq)) (fun q hq => hin q (hsub y hy q hq)) (hall y hy)
  have hG : ∀ (k : Nat), ∀ i ∈ (((l.map (cpP zs))[k]?.getD []) : List I5), i.2.2.2.2.size ≤ 40 ∧ inB i.2.2.2.1 := fun k i hi => by
    by_cases hk : k < l.length
    · rw [List.getElem?_eq_getElem (by rw [List.length_map]; exact hk), Option.getD_some, List.getElem_map] at hi
      exact hY _ (List.getElem_mem hk) i hi
    · rw [List.getElem?_eq_none (by rw [List.length_map]; omega)] at hi
      simp at hi
  have hch : ∀ (f s n : List I5), (∀ i ∈ f, i.2.2.2.2.size ≤ 40 ∧ inB i.2.2.2.1) → (∀ i ∈ s, i.2.2.2.2.size ≤ 40 ∧ inB i.2.2.2.1) → (∀ i ∈ n, i.2.2.2.2.size ≤ 40 ∧ inB i.2.2.2.1) → ∀ i ∈ chooseP f s n, i.2.2.2.2.size ≤ 40 ∧ inB i.2.2.2.1 := fun f s n hf hs hn i hi => by
    unfold chooseP at hi
    simp only [List.mem_append, List.mem_cons] at hi
    rcases hi with h | rfl | h | rfl | h
    · exact hf i h
    · exact ⟨(by decide : (⟨#[]⟩ : ByteArray).size ≤ 40), hI0⟩
    · exact hs i h
    · exact ⟨(by decide : (⟨#[]⟩ : ByteArray).size ≤ 40), hI0⟩
    · exact hn i h
  unfold combC
  split
  · exact hch _ _ _ (hG 0) (fun i hi => by rw [List.mem_singleton.1 hi]; exact ⟨(by decide : (⟨#[]⟩ : ByteArray).size ≤ 40), hI1⟩) (hG 1)
  split
  · exact hch _ _ _ (hG 0) (hG 1) (fun i hi => by rw [List.mem_singleton.1 hi]; exact ⟨(by decide : (⟨#[]⟩ : ByteArray).size ≤ 40), hI0⟩)
  split
  · exact hch _ _ _ (hG 0) (hG 1) (hG 2)
  · intro i hi
    rcases List.mem_append.1 hi with h | h
    · obtain ⟨p, hp, hip⟩ := List.mem_flatten.1 h
      obtain ⟨y, hy, rfl⟩ := List.mem_map.1 hp
      exact hY y hy i hip
    · rw [List.mem_singleton.1 h]
      exact ⟨(by decide : (⟨#[]⟩ : ByteArray).size ≤ 40), hI0⟩
theorem runs_code (x : Ex) (lo : Nat → Prop) (v vl vr : Value) (zs : List (ByteArray × Int)) (rs : List V3) (w : World) (henv : KEnv w) (hx : ExIn w lo v x) (hsz : (x.pre 1).length ≤ 1048576) (hxb : ExB x) (hcv : ColsV w vl zs) (hrv : ValsV w vr rs) (hrs : SizedV rs) :
    Calls Tryz.prog 3 #[v, vl, vr] w fun e w' => e = .returned (.bool true) ∧ Below w.heap.size w w' := by
  obtain ⟨o1, n1, t1, k1, s1, p1, m1, c1, a1, rfl⟩ := hx.agg
  obtain ⟨⟨T, H, P⟩, hof⟩ : ∃ r, ofP zs x = r := ⟨_, rfl⟩
  obtain ⟨⟨⟨vt, vk, vs⟩, ve⟩, hev⟩ : ∃ r, evP zs rs x = r := ⟨_, rfl⟩
  obtain ⟨⟨V', M, E⟩, hR⟩ : ∃ r, vmR (cpP zs x) zs rs 1000000 = r := ⟨_, rfl⟩
  have hpl := size_pre x 1
  have hlen : H = 0 → (cpP zs x).length ≤ 3 * x.size := fun h => by
    subst h
    have h0 : (ofP zs x).2.1 = 0 := by rw [hof]
    exact cp_len x (by rw [← (of_right h0).2.2]; exact h0)
  have mk : ∀ (OV : Bool) (hOV : ∀ W, Below w.heap.size w W → Calls Tryz.prog 12 #[errV E, .int .i64 9] W fun e w' => e = .returned (.bool OV) ∧ Below W.heap.size W w'), CrC w (.agg #[.string o1, .string n1, .int .i64 t1, .int .i64 k1, .string s1, .slice p1 m1 c1, .int .i64 a1]) vl vr (cpP zs x) T H P (x.pre 1).length (rowChk zs rs) (vt, vk, vs) V' M (errV ve) (errV E) OV := fun OV hOV => by
    refine ⟨henv, fun W b => compileX_any x lo _ vl zs W (henv.on b) (hx.on b) hsz (hcv.on b) T H P hof, fun W b => refOf_any x lo _ vl zs W (hx.on b) hsz (hcv.on b) T H P hof, fun hH W u b hu => ?_, fun W b => size_any x lo _ W (hx.on b) hsz, fun W b => eval_any x lo _ vl vr zs rs W (henv.on b) (hx.on b) hsz hxb (hcv.on b) (hrv.on b) hrs vt vk vs ve hev, fun hH W u b hu => ?_, fun W b => rowCheck_v vl vr zs rs W (henv.on b).tw (hcv.on b) (hrv.on b) hrs, hOV⟩
    · subst hH
      have h0 : (ofP zs x).2.1 = 0 := by rw [hof]
      obtain ⟨hck, hsch, hty⟩ := of_right h0
      obtain ⟨hs2, hd2⟩ := of_small h0
      have ht0 : (tyP zs x).2.1 = 0 := by rw [← hty]; exact h0
      obtain ⟨hs, ht⟩ := cp_sound hsch (ckP_zero hck).2 ht0 hs2 hd2
      obtain ⟨p, c, rfl, hi⟩ := hu.at
      have := vType_any (cpP zs x) p _ c vl zs W (henv.on b).rules (henv.on b).tw hi rfl (by have := hlen rfl; unfold maxLen; omega) (fun i hi => by have := (cpP_sized x 1 (ckP_zero hck).2 hxb ht0 i hi).1; unfold maxLen; omega) (hcv.on b) T 0 hs (by rw [ht, ← hty, hof])
      exact this
    · subst hH
      have h0 : (ofP zs x).2.1 = 0 := by rw [hof]
      obtain ⟨hck, hsch, hty⟩ := of_right h0
      obtain ⟨hs2, hd2⟩ := of_small h0
      have ht0 : (tyP zs x).2.1 = 0 := by rw [← hty]; exact h0
      obtain ⟨p, c, rfl, hi⟩ := hu.at
      exact vmRun_any (cpP zs x) p _ c vl vr zs rs 1000000 W (henv.on b).rules (henv.on b).tw hi rfl (by have := hlen rfl; unfold maxLen; omega) (fun i hi => by have := cpP_sized x 1 (ckP_zero hck).2 hxb ht0 i hi; exact ⟨by unfold maxLen; omega, this.2⟩) (hcv.on b) (hrv.on b) hrs V' M E hR
  have hgW : ∀ W, Below w.heap.size w W → W.cell? ⟨1, 0, none⟩ = some (.iface 161 (.agg #[.pointer (some ⟨5, 40, none⟩)])) := fun W b => (henv.on b).et
  obtain ⟨pz, cz, rfl, -⟩ := id hcv
  obtain ⟨q, cq, rfl, -, -⟩ := id hrv
  by_cases hH : H = 0
  · have hH' := hH
    subst hH
    have h0 : (ofP zs x).2.1 = 0 := by rw [hof]
    obtain ⟨hck, hsch, hty⟩ := of_right h0
    obtain ⟨hs2, hd2⟩ := of_small h0
    have ht0 : (tyP zs x).2.1 = 0 := by rw [← hty]; exact h0
    have hl6 := hlen rfl
    have hz6 : ¬ (6 * ((x.pre 1).length : Int)) < ((cpP zs x).length : Int) := by omega
    have hz200 : ((x.pre 1).length : Int) ≤ 200 := by omega
    have hver := (cp_sound hsch (ckP_zero hck).2 ht0 hs2 hd2).1
    by_cases hK : rowChk zs rs = 0
    · obtain ⟨hcm, -⟩ := cm_in hxb hrs h0 hK
      obtain ⟨hrow, -⟩ := rowR_of hK hrs
      have hruns := cp_runs hrow x 1 (ckP_zero hck).2 hxb ht0
      have hcv2 : evP zs rs x = cmP zs rs x := by rw [evP, if_neg (by simp [h0]), if_neg (by simp [hK])]
      rw [hcv2] at hev
      obtain ⟨r1, r2, r3⟩ := runs_end hruns (comes_err hcm) (fuel := 1000000) (by omega)
      unfold vmR vmE at hR
      rw [if_neg (by rw [if_neg (by simp [hver])]; simp [hK]), if_neg (by decide)] at hR
      simp only [Prod.mk.injEq] at hR
      obtain ⟨hV', hM, hE⟩ := hR
      rw [hM] at r3
      rcases hcm with ⟨e0, hok⟩ | e9
      · rw [hev] at e0 r1
        simp only at e0
        subst e0
        obtain ⟨f1, f2⟩ := r1 rfl
        rw [f1] at hE hV'
        subst hE
        rw [if_pos rfl, f2] at hV'
        obtain rfl : (vt, vk, vs) = V' := hV'
        have := mk false (fun W b => (same_nil 9 W).mono fun e w' h => ⟨h.1, by rw [h.2]; exact Below.refl _ _⟩)
        rw [hK] at this
        exact cr_val w o1 n1 t1 k1 s1 p1 m1 c1 a1 pz _ cz q _ cq (cpP zs x) T 0 P _ 0 (vt, vk, vs) (vt, vk, vs) M .nilIface .nilIface false hz6 hz200 r3 this
      · rw [hev] at e9
        simp only [Prod.mk.injEq] at e9
        obtain ⟨hvv, rfl⟩ := e9
        have f1 := r2 (by rw [hev])
        rw [f1] at hE hV'
        subst hE
        rw [if_neg (by decide)] at hV'
        subst hV'
        have := mk true (fun W b => same_any 9 9 W (hgW W b) rfl)
        rw [hK, hvv] at this
        exact cr_over w o1 n1 t1 k1 s1 p1 m1 c1 a1 pz _ cz q _ cq (cpP zs x) T 0 P _ 0 noV noV M .nilIface .nilIface true hz6 hz200 r3 this
    · have hve : evP zs rs x = (noV, rowChk zs rs) := by rw [evP, if_neg (by simp [h0]), if_pos hK]
      rw [hve] at hev
      simp only [Prod.mk.injEq] at hev
      obtain ⟨hv0, rfl⟩ := hev
      unfold vmR vmE at hR
      rw [if_neg (show ¬ (verP (cpP zs x) zs).2.2 ≠ 0 by simp [hver]), if_pos hK] at hR
      simp only [Prod.mk.injEq] at hR
      obtain ⟨rfl, rfl, rfl⟩ := hR
      have := mk (rowChk zs rs == 9) (fun W b => by
        rw [show errV (rowChk zs rs) = .iface 32 (.int .i64 (rowChk zs rs)) by rw [errV, if_neg hK]]
        exact same_err _ 9 W (hgW W b))
      rw [show errV (rowChk zs rs) = .iface 32 (.int .i64 (rowChk zs rs)) by rw [errV, if_neg hK]] at this
      exact cr_row w o1 n1 t1 k1 s1 p1 m1 c1 a1 pz _ cz q _ cq (cpP zs x) T 0 P _ (rowChk zs rs) _ _ _ .nilIface .nilIface _ hz6 hz200 hK this
  · have := mk (E == 9) (fun W b => by
      by_cases h0 : E = 0
      · subst h0
        exact (same_nil 9 W).mono fun e w' h => ⟨by rw [h.1], by rw [h.2]; exact Below.refl _ _⟩
      · rw [show errV E = .iface 32 (.int .i64 E) by rw [errV, if_neg h0]]
        exact same_err _ 9 W (hgW W b))
    exact cr_bad w o1 n1 t1 k1 s1 p1 m1 c1 a1 pz _ cz q _ cq (cpP zs x) T H P _ _ _ _ _ _ _ _ hH this
end Go.Proofs.YtplnjbdngedafaaGreatDoor
