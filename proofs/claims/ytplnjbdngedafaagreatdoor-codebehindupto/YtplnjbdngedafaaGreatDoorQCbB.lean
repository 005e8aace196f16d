/-
  CodeBehind at any expression, columns, row and number.
-/
import Derived.Test.YtplnjbdngedafaaGreatDoorQCbL
import Derived.Test.YtplnjbdngedafaaGreatDoorQCrB
namespace Go.Proofs.YtplnjbdngedafaaGreatDoor
open Go.RowKit
set_option linter.unusedVariables false

theorem qP_quiet (zs : List (ByteArray × Int)) : ∀ n, Quiet zs (qP n)
  | 0 => quiet_nil zs
  | n + 1 => by
    rw [qP]
    exact quiet_app (qP_quiet zs n) (quiet_pair (by simp [chk]))
theorem qP_sized : ∀ n, n ≤ 20 → ∀ i ∈ qP n, i.2.2.2.2.size ≤ 40 ∧ inB i.2.2.2.1
  | 0, _, i, hi => by rw [qP] at hi; simp at hi
  | n + 1, hn, i, hi => by
    rw [qP] at hi
    rcases List.mem_append.1 hi with h | h
    · exact qP_sized n (by omega) i h
    · simp only [List.mem_cons, List.not_mem_nil, or_false] at h
      rcases h with rfl | rfl
      · exact ⟨(by decide : (⟨#[]⟩ : ByteArray).size ≤ 40), by show inB (n : Int); unfold inB; omega⟩
      · exact ⟨(by decide : (⟨#[]⟩ : ByteArray).size ≤ 40), by show inB 0; unfold inB; decide⟩
theorem behind_code (x : Ex) (lo : Nat → Prop) (v vl vr : Value) (n : Int) (zs : List (ByteArray × Int)) (rs : List V3) (w : World) (henv : KEnv w) (hx : ExIn w lo v x) (hsz : (x.pre 1).length ≤ 1048576) (hxb : ExB x) (hcv : ColsV w vl zs) (hrv : ValsV w vr rs) (hrs : SizedV rs) :
    Calls Tryz.prog 4 #[v, vl, vr, .int .i64 n] w fun e w' => e = .returned (.bool true) ∧ Below w.heap.size w w' := by
  obtain ⟨o1, n1, t1, k1, s1, p1, m1, c1, a1, rfl⟩ := hx.agg
  obtain ⟨⟨T, H, P⟩, hof⟩ : ∃ r, ofP zs x = r := ⟨_, rfl⟩
  obtain ⟨⟨⟨vt, vk, vs⟩, ve⟩, hev⟩ : ∃ r, evP zs rs x = r := ⟨_, rfl⟩
  have hpl := size_pre x 1
  have hlen : H = 0 → (cpP zs x).length ≤ 3 * x.size := fun h => by
    subst h
    have h0 : (ofP zs x).2.1 = 0 := by rw [hof]
    exact cp_len x (by rw [← (of_right h0).2.2]; exact h0)
  have mk : ∀ (m : Nat), m ≤ 20 → ∀ (M : Nat) (E : Int), (H = 0 → vmR (qP m ++ cpP zs x) zs rs 1000000 = ((vt, vk, vs), M, E)) → CbC w (.agg #[.string o1, .string n1, .int .i64 t1, .int .i64 k1, .string s1, .slice p1 m1 c1, .int .i64 a1]) vl vr (cpP zs x) m T H P (vt, vk, vs) M (errV ve) (errV E) := fun m hm M E hR => by
    refine ⟨henv, fun W b => compileX_any x lo _ vl zs W (henv.on b) (hx.on b) hsz (hcv.on b) T H P hof, fun hH W u b hu => ?_, fun hH W u b hu => ?_, fun W b => eval_any x lo _ vl vr zs rs W (henv.on b) (hx.on b) hsz hxb (hcv.on b) (hrv.on b) hrs vt vk vs ve hev, fun hH W u b hu => ?_⟩
    · subst hH
      have h0 : (ofP zs x).2.1 = 0 := by rw [hof]
      obtain ⟨hck, hsch, hty⟩ := of_right h0
      obtain ⟨hs2, hd2⟩ := of_small h0
      have ht0 : (tyP zs x).2.1 = 0 := by rw [← hty]; exact h0
      obtain ⟨hs, ht⟩ := cp_sound hsch (ckP_zero hck).2 ht0 hs2 hd2
      obtain ⟨p, c, rfl, hi⟩ := hu.at
      exact vType_any (cpP zs x) p _ c vl zs W (henv.on b).rules (henv.on b).tw hi rfl (by have := hlen rfl; unfold maxLen; omega) (fun i hi => by have := (cpP_sized x 1 (ckP_zero hck).2 hxb ht0 i hi).1; unfold maxLen; omega) (hcv.on b) T 0 hs (by rw [ht, ← hty, hof])
    · subst hH
      have h0 : (ofP zs x).2.1 = 0 := by rw [hof]
      obtain ⟨hck, hsch, hty⟩ := of_right h0
      obtain ⟨hs2, hd2⟩ := of_small h0
      have ht0 : (tyP zs x).2.1 = 0 := by rw [← hty]; exact h0
      have hl := quiet_lays (qP_quiet zs m) (cp_lays x 1 (ckP_zero hck).2 ht0) (by cases x; rw [Ex.deep]; omega)
      have hln : (qP m ++ cpP zs x).length ≤ 1200 := by rw [List.length_append, qP_len]; have := hlen rfl; omega
      obtain ⟨hs, ht⟩ := lays_sound hl (by omega) hsch hln
      obtain ⟨p, c, rfl, hi⟩ := hu.at
      exact vType_any (qP m ++ cpP zs x) p _ c vl zs W (henv.on b).rules (henv.on b).tw hi rfl (by unfold maxLen; omega) (fun i hi => by
        rcases List.mem_append.1 hi with h | h
        · have := (qP_sized m hm i h).1; unfold maxLen; omega
        · have := (cpP_sized x 1 (ckP_zero hck).2 hxb ht0 i h).1; unfold maxLen; omega) (hcv.on b) T 0 hs (by rw [ht, ← hty, hof])
    · subst hH
      have h0 : (ofP zs x).2.1 = 0 := by rw [hof]
      obtain ⟨hck, hsch, hty⟩ := of_right h0
      obtain ⟨hs2, hd2⟩ := of_small h0
      have ht0 : (tyP zs x).2.1 = 0 := by rw [← hty]; exact h0
      have hln : (qP m ++ cpP zs x).length ≤ 1200 := by rw [List.length_append, qP_len]; have := hlen rfl; omega
      obtain ⟨p, c, rfl, hi⟩ := hu.at
      exact vmRun_any (qP m ++ cpP zs x) p _ c vl vr zs rs 1000000 W (henv.on b).rules (henv.on b).tw hi rfl (by unfold maxLen; omega) (fun i hi => by
        rcases List.mem_append.1 hi with h | h
        · have := qP_sized m hm i h; exact ⟨by unfold maxLen; omega, this.2⟩
        · have := cpP_sized x 1 (ckP_zero hck).2 hxb ht0 i h; exact ⟨by unfold maxLen; omega, this.2⟩) (hcv.on b) (hrv.on b) hrs (vt, vk, vs) M E (hR rfl)
  obtain ⟨pz, cz, rfl, -⟩ := id hcv
  obtain ⟨q, cq, rfl, -, -⟩ := id hrv
  by_cases hH : H = 0
  · have hH' := hH
    subst hH
    by_cases hn : n < 0 ∨ 20 < n
    · exact cb_out w o1 n1 t1 k1 s1 p1 m1 c1 a1 pz _ cz q _ cq (cpP zs x) P n hn henv (fun W b => compileX_any x lo _ _ zs W (henv.on b) (hx.on b) hsz (hcv.on b) T 0 P hof)
    · obtain ⟨m, rfl⟩ : ∃ m : Nat, n = m := ⟨n.toNat, by omega⟩
      have hm : m ≤ 20 := by omega
      have h0 : (ofP zs x).2.1 = 0 := by rw [hof]
      obtain ⟨hck, hsch, hty⟩ := of_right h0
      obtain ⟨hs2, hd2⟩ := of_small h0
      have ht0 : (tyP zs x).2.1 = 0 := by rw [← hty]; exact h0
      have hl6 := hlen rfl
      have hl600 : (cpP zs x).length ≤ 600 := by omega
      have hl := quiet_lays (qP_quiet zs m) (cp_lays x 1 (ckP_zero hck).2 ht0) (by cases x; rw [Ex.deep]; omega)
      have hln : (qP m ++ cpP zs x).length ≤ 1200 := by rw [List.length_append, qP_len]; omega
      obtain ⟨hver, -⟩ := lays_sound hl (by omega) hsch hln
      by_cases hK : rowChk zs rs = 0
      · obtain ⟨hcm, -⟩ := cm_in hxb hrs h0 hK
        obtain ⟨hrow, -⟩ := rowR_of hK hrs
        have hruns := quiet_runs (qP_quiet zs m) (cp_runs hrow x 1 (ckP_zero hck).2 hxb ht0)
        have hcv2 : evP zs rs x = cmP zs rs x := by rw [evP, if_neg (by simp [h0]), if_neg (by simp [hK])]
        rw [hcv2] at hev
        obtain ⟨r1, r2, r3⟩ := runs_end hruns (comes_err hcm) (fuel := 1000000) (by omega)
        have hR : vmR (qP m ++ cpP zs x) zs rs 1000000 = (if (runP rs 1000000 (qP m ++ cpP zs x) 0 0 [] []).2.2.2 = 0 then (runP rs 1000000 (qP m ++ cpP zs x) 0 0 [] []).2.1.headD noV else noV, (runP rs 1000000 (qP m ++ cpP zs x) 0 0 [] []).2.2.1.length, (runP rs 1000000 (qP m ++ cpP zs x) 0 0 [] []).2.2.2) := by
          unfold vmR vmE
          rw [if_neg (by rw [if_neg (by simp [hver])]; simp [hK]), if_neg (by decide)]
        rcases hcm with ⟨e0, hok⟩ | e9
        · rw [hev] at e0 r1
          simp only at e0
          subst e0
          obtain ⟨f1, f2⟩ := r1 rfl
          have := mk m hm _ 0 (fun _ => by rw [hR, f1, if_pos rfl, f2]; rfl)
          exact cb_val w o1 n1 t1 k1 s1 p1 m1 c1 a1 pz _ cz q _ cq (cpP zs x) m T 0 P (vt, vk, vs) _ .nilIface .nilIface hl600 hm this
        · rw [hev] at e9
          simp only [Prod.mk.injEq] at e9
          obtain ⟨hvv, rfl⟩ := e9
          have f1 := r2 (by rw [hev])
          have := mk m hm _ 9 (fun _ => by rw [hR, f1, if_neg (by decide), ← hvv])
          exact cb_err w o1 n1 t1 k1 s1 p1 m1 c1 a1 pz _ cz q _ cq (cpP zs x) m T 0 P (vt, vk, vs) _ .nilIface .nilIface 9 9 hl600 hm this
      · have hve : evP zs rs x = (noV, rowChk zs rs) := by rw [evP, if_neg (by simp [h0]), if_pos hK]
        rw [hve] at hev
        simp only [Prod.mk.injEq] at hev
        obtain ⟨hv0, rfl⟩ := hev
        have := mk m hm 0 (rowChk zs rs) (fun _ => by
          unfold vmR vmE
          rw [if_neg (show ¬ (verP (qP m ++ cpP zs x) zs).2.2 ≠ 0 by simp [hver]), if_pos hK, hv0])
        rw [show errV (rowChk zs rs) = .iface 32 (.int .i64 (rowChk zs rs)) by rw [errV, if_neg hK]] at this
        exact cb_err w o1 n1 t1 k1 s1 p1 m1 c1 a1 pz _ cz q _ cq (cpP zs x) m T 0 P (vt, vk, vs) _ .nilIface .nilIface _ _ hl600 hm this
  · have := mk 0 (by omega) 0 0 (fun h => absurd h hH)
    exact cb_bad w o1 n1 t1 k1 s1 p1 m1 c1 a1 pz _ cz q _ cq (cpP zs x) 0 T H P _ _ _ _ n hH this
end Go.Proofs.YtplnjbdngedafaaGreatDoor
