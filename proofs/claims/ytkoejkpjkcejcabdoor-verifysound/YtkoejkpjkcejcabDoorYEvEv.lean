/-
  What Eval of package eval comes to, of any expression, columns and row.
-/
import Derived.Test.YtkoejkpjkcejcabDoorYEvCn
import Derived.Test.YtkoejkpjkcejcabDoorYEvCo
import Derived.Test.YtkoejkpjkcejcabDoorYEvCq
namespace Go.Proofs.YtkoejkpjkcejcabDoor
open Go.RowKit Go.BigFrame
set_option linter.unusedVariables false

theorem rules_form : ∀ r ∈ kdRules, (kdCnt r = 3 → r.1 = [105, 102]) ∧ (kdCnt r = 1 → r.1 ≠ [97, 110, 100] ∧ r.1 ≠ [111, 114] ∧ r.1 ≠ [105, 102]) ∧ (kdCnt r = 2 → r.1 ≠ [105, 102]) := by decide
theorem come_any {zs : List (ByteArray × Int)} {b off c rb ro rc : Nat} {rs : List V3} (hn : zs.length ≤ 6) (hrow : RowR zs rs) : ∀ (x : Ex) (d : Nat), (∀ q ∈ x.pre d, nodeE q.1 = 0) → (∀ q ∈ x.pre d, inB q.1.vn) → (tyP zs x).2.1 = 0 → ComeAt zs b off c rb ro rc rs x := by
  refine Ex.ind fun op nm vt vn vs pos l ih d hpre hin ht => ?_
  by_cases hleaf : op.data.toList = [118, 97, 108] ∨ op.data.toList = [99, 111, 108]
  · exact come_leaf zs b off c rb ro rc rs hn hrow op nm vs vt vn pos l ht hleaf
  · have h1 : op.data.toList ≠ [118, 97, 108] := fun h => hleaf (.inl h)
    have h2 : op.data.toList ≠ [99, 111, 108] := fun h => hleaf (.inr h)
    rw [tyP_op h1 h2] at ht
    by_cases ht0 : (tysP zs l).2.1 = 0
    · rw [if_neg (fun hh => hh ht0)] at ht
      obtain ⟨hm, hall⟩ := tysP_ok ht0
      by_cases hr0 : (ruleP op.data.toList (tysP zs l).1).2 = 0
      · have hsub : ∀ y ∈ l, ∀ q ∈ y.pre (d + 1), q ∈ (Ex.node op nm vt vn vs pos l).pre d := fun y hy q hq => by
          rw [Ex.pre]; exact List.mem_cons_of_mem _ (pres_mem hy q hq)
        have hI : ∀ y ∈ l, ComeAt zs b off c rb ro rc rs y := fun y hy => ih y hy (d + 1) (fun q hq => hpre q (hsub y hy q hq)) (fun q hq => hin q (hsub y hy q hq)) (hall y hy)
        have hC : ∀ y ∈ l, comes (tyP zs y).1 (cmP zs rs y) := fun y hy => cm_comes hrow y (d + 1) (fun q hq => hpre q (hsub y hy q hq)) (fun q hq => hin q (hsub y hy q hq)) (hall y hy)
        rw [hm] at hr0
        obtain ⟨r, hf, hlen, _, _⟩ := ruleP_in (op := op.data.toList) (ts := l.map fun y => (tyP zs y).1) (T := (ruleP op.data.toList (l.map fun y => (tyP zs y).1)).1) (Prod.ext rfl hr0)
        rw [List.length_map] at hlen
        obtain ⟨hmem, he⟩ := kdFind_mem hf
        obtain ⟨f3, f1, f2⟩ := rules_form r hmem
        obtain ⟨c1, c3⟩ := kdCnt_ok r hmem
        rw [he] at f1 f2 f3
        match l, hlen, hI, hC with
        | [], hlen, _, _ => simp at hlen; omega
        | [x], hlen, hI, hC =>
          obtain ⟨g1, g2, g3⟩ := f1 hlen.symm
          exact come_1 zs b off c rb ro rc rs op nm vs vt vn pos x h1 h2 g1 g2 g3 (hI x (by simp)) _ (hC x (by simp))
        | [x, y], hlen, hI, hC =>
          exact come_2 zs b off c rb ro rc rs op nm vs vt vn pos x y h1 h2 (f2 hlen.symm) (hI x (by simp)) _ (hC x (by simp)) (hI y (by simp)) _ (hC y (by simp))
        | [x, y, z], hlen, hI, hC =>
          exact come_3 zs b off c rb ro rc rs op nm vs vt vn pos x y z h1 h2 (f3 hlen.symm) (hI x (by simp)) _ (hC x (by simp)) (hI y (by simp)) _ (hC y (by simp)) (hI z (by simp)) _ (hC z (by simp))
        | _ :: _ :: _ :: _ :: _, hlen, _, _ => simp at hlen; omega
      · rw [if_pos hr0] at ht
        exact absurd ht hr0
    · rw [if_pos ht0] at ht
      exact absurd ht ht0
/-- What Eval says. -/
def evP (zs : List (ByteArray × Int)) (rs : List V3) (x : Ex) : V3 × Int := if (ofP zs x).2.1 ≠ 0 then (noV, (ofP zs x).2.1) else if rowChk zs rs ≠ 0 then (noV, rowChk zs rs) else cmP zs rs x
theorem rcGo_ok : ∀ {zs : List (ByteArray × Int)} {rs : List V3}, rs.length = zs.length → rcGo zs rs = 0 → ∀ k (h : k < zs.length) (h2 : k < rs.length), rs[k].1 = zs[k].2 ∧ chk rs[k].1 rs[k].2.1 rs[k].2.2.data.toList = 0
  | z :: zs, r :: rs, hl, h, k, h1, h2 => by
    rw [rcGo] at h
    by_cases hc : chk r.1 r.2.1 r.2.2.data.toList = 0
    · rw [if_neg (fun hh => hh hc)] at h
      by_cases ht : r.1 = z.2
      · rw [if_neg (fun hh => hh ht)] at h
        match k, h1, h2 with
        | 0, _, _ => exact ⟨ht, hc⟩
        | k + 1, h1, h2 => exact rcGo_ok (by simpa using hl) h k (by simpa using h1) (by simpa using h2)
      · rw [if_pos ht] at h
        exact absurd h (by decide)
    · rw [if_pos hc] at h
      exact absurd h hc
  | [], _, _, _, k, h1, _ => absurd h1 (by simp)
  | _ :: _, [], hl, _, _, _, _ => by simp at hl
theorem rowR_of {zs : List (ByteArray × Int)} {rs : List V3} (h : rowChk zs rs = 0) (hb : SizedV rs) : RowR zs rs ∧ schE zs = 0 := by
  rw [rowChk] at h
  by_cases h0 : schE zs = 0
  · rw [if_neg (fun hh => hh h0)] at h
    by_cases hl : rs.length = zs.length
    · rw [if_neg (fun hh => hh hl)] at h
      refine ⟨⟨hl, fun k h1 h2 => ?_⟩, h0⟩
      obtain ⟨g1, g2⟩ := rcGo_ok hl h k h1 h2
      exact ⟨g1, g2, (hb _ (List.getElem_mem h2)).2⟩
    · rw [if_pos hl] at h
      exact absurd h (by decide)
  · rw [if_pos h0] at h
    exact absurd h h0
/-- The numbers of an expression are a machine's. -/
def ExB (x : Ex) : Prop := ∀ q ∈ x.pre 1, inB q.1.vn
theorem cm_in {zs : List (ByteArray × Int)} {rs : List V3} {x : Ex} (hx : ExB x) (hsz : SizedV rs) (h1 : (ofP zs x).2.1 = 0) (h2 : rowChk zs rs = 0) : comes (ofP zs x).1 (cmP zs rs x) ∧ ckP x = 0 ∧ schE zs = 0 ∧ tyP zs x = ofP zs x := by
  obtain ⟨hrow, hs⟩ := rowR_of h2 hsz
  have hck : ckP x = 0 := by
    by_cases hc : ckP x = 0
    · exact hc
    · rw [ofP, if_pos hc] at h1
      exact absurd h1 hc
  have hty : ofP zs x = tyP zs x := by rw [ofP, if_neg (fun hh => hh hck), if_neg (fun hh => hh hs)]
  rw [hty] at h1 ⊢
  exact ⟨cm_comes hrow x 1 (ckP_zero hck).2 hx h1, hck, hs, rfl⟩
set_option maxHeartbeats 4000000 in
set_option maxRecDepth 20000 in
theorem eval_any (x : Ex) (lo : Nat → Prop) (v vl vr : Value) (zs : List (ByteArray × Int)) (rs : List V3) (w : World) (henv : KEnv w) (hx : ExIn w lo v x) (hsz : (x.pre 1).length ≤ 1048576) (hxb : ExB x) (hcv : ColsV w vl zs) (hrv : ValsV w vr rs) (hrs : SizedV rs) (t k : Int) (s : ByteArray) (e : Int) (hR : evP zs rs x = ((t, k, s), e)) :
    Calls Tryd.prog 7 #[v, vl, vr] w fun e' w' => e' = .returned (.tuple #[.agg #[.int .i64 t, .int .i64 k, .string s], errV e]) ∧ Below w.heap.size w w' := by
  obtain ⟨o1, n1, t1, k1, s1, p1, m1, c1, a1, rfl⟩ := hx.agg
  obtain ⟨b1, box⟩ := come_box w #[.string o1, .string n1, .int .i64 t1, .int .i64 k1, .string s1, .slice p1 m1 c1, .int .i64 a1]
  obtain ⟨T, H, P, hof⟩ : ∃ T H P, ofP zs x = (T, H, P) := ⟨_, _, _, rfl⟩
  have cO := of_any x lo _ vl zs _ (henv.on b1) (hx.on b1) hsz (hcv.on b1) T H P hof
  unfold evP at hR
  have hci := cm_in (zs := zs) hxb hrs
  rw [hof] at hR hci
  simp only at hR hci
  by_cases hH : H = 0
  · subst hH
    rw [if_neg (by simp)] at hR
    have cK := fun W (hb : Below w.heap.size w W) => rowCheck_v vl vr zs rs W (henv.on hb).tw (hcv.on hb) (hrv.on hb) hrs
    by_cases hk : rowChk zs rs = 0
    · rw [if_neg (fun hh => hh hk)] at hR
      rw [hk, show errV 0 = .nilIface from rfl] at cK
      obtain ⟨hcm, hck, hs, hty⟩ := hci rfl hk
      obtain ⟨hrow, _⟩ := rowR_of hk hrs
      obtain ⟨hz1, hz2, _⟩ := schE_zero hs
      obtain ⟨q, c, rfl, hcols⟩ := id hcv
      obtain ⟨q2, c2, rfl, hrm, hvals⟩ := id hrv
      rcases hcols with h | ⟨b, off, rfl, _, _, hco⟩
      · exact absurd h hz1
      rcases hvals with h | ⟨rb, ro, rfl, hrl, hrc⟩
      · exact absurd (hrow.1 ▸ h) hz1
      have cC := fun W (hb : Below w.heap.size w W) => come_any (c := c) (rc := c2) (b := b) (off := off) (rb := rb) (ro := ro) hz2 hrow x 1 (ckP_zero hck).2 hxb (by rw [hty]) lo _ W t k s e (henv.on hb).rules (hx.on hb) (hco.on hb) (RowAt.on ⟨hrl, hrc⟩ hb) hR
      have hS : s.size ≤ 40 := by
        rcases hcm with h | h
        · rw [hR] at h
          have := chk_size h.2.2.1
          simpa using this
        · rw [hR] at h
          simp only [noV, Prod.mk.injEq] at h
          rw [h.1.2.2]
          decide
      have cF := fresh_any t k s
      clear hci hcm hck hs hty hrow hz1 hz2 hco hrc hR hof hxb hsz henv hx hcv hrv hk
      go_enter Tryd.func7, Tryd.ntmps7
      go_wp2_with fail
      refine cO.mono ?_
      rintro e' w1 ⟨rfl, b2⟩
      have B2 := b2.mono (show w.heap.size + 2 ≤ _ by simp)
      have B3 := B2.alloc (box w1 B2).2.2.1 (.cells #[.int .i64 0, .int .i64 P] 39)
      have cK3 := cK _ (box _ B3).2.2.2
      have hw1 := (box w1 B2).2.2.1
      clear cO cK b2
      go_wp2_with fail
      refine cK3.mono ?_
      rintro e' w3 ⟨rfl, b4⟩
      have B4 := B3.trans (b4.mono (by simp; omega))
      have cC4 := cC _ (box _ B4).2.2.2
      obtain ⟨hB, _, hl4, _⟩ := box w3 B4
      have g0 : w3.cell? ⟨w.heap.size, 0, none⟩ = some (.string o1) := hB 0
      have g1 : w3.cell? ⟨w.heap.size, 1, none⟩ = some (.string n1) := hB 1
      have g2 : w3.cell? ⟨w.heap.size, 2, none⟩ = some (.int .i64 t1) := hB 2
      have g3 : w3.cell? ⟨w.heap.size, 3, none⟩ = some (.int .i64 k1) := hB 3
      have g4 : w3.cell? ⟨w.heap.size, 4, none⟩ = some (.string s1) := hB 4
      have g5 : w3.cell? ⟨w.heap.size, 5, none⟩ = some (.slice p1 m1 c1) := hB 5
      have g6 : w3.cell? ⟨w.heap.size, 6, none⟩ = some (.int .i64 a1) := hB 6
      have hl5 : w.heap.size < w3.heap.size := by omega
      clear cK3 cC b4 hB
      go_wp2_with fail
      refine cC4.mono ?_
      rintro e' w5 ⟨rfl, b6⟩
      have B6 := B4.trans (b6.mono hl4)
      have hl7 := (box w5 B6).2.2.1
      have B7 := B6.alloc hl7 (.cells #[.int .i64 t, .int .i64 k, .string s] 23)
      have cF7 := cF (w5.alloc (.cells #[.int .i64 t, .int .i64 k, .string s] 23)) hS
      clear cC4 cF b6 g0 g1 g2 g3 g4 g5 g6
      go_wp2_with fail
      refine cF7.mono ?_
      rintro e' w7 ⟨rfl, b8⟩
      obtain ⟨_, ⟨f0, f1, f2, ff⟩, hl8, b9⟩ := box w7 (B7.trans (b8.mono (by simp; omega)))
      have hl9 : w.heap.size + 1 < w7.heap.size := by omega
      clear cF7 b8 B2 B3 B4 B6 B7
      go_wp2
      refine bodyPost_ret (v := .tuple #[.agg #[.int .i64 t, .int .i64 k, .string s], errV e]) (by simp [results, Tryd.results7, go_sem, World.cell?_setCell_other, World.cell?_setCell_same, f0, f1, f2]) rfl ⟨rfl, ?_⟩
      exact below3 b9 (by omega) _ _ _
    · rw [if_pos hk] at hR
      simp only [noV, Prod.mk.injEq] at hR
      obtain ⟨⟨rfl, rfl, rfl⟩, rfl⟩ := hR
      obtain ⟨K, hK⟩ : ∃ K, rowChk zs rs = K := ⟨_, rfl⟩
      rw [hK] at hk cK ⊢
      have cK2 : ∀ W, Below w.heap.size w W → Calls Tryd.prog 8 #[vl, vr] W fun e' w' => e' = .returned (.iface 37 (.int .i64 K)) ∧ Below W.heap.size W w' := fun W hb => (cK W hb).mono fun e' w' h => by rw [errV, if_neg hk] at h; exact h
      rw [errV, if_neg hk]
      clear hci hK cK hof hxb hsz henv hx hcv hrv hk
      go_enter Tryd.func7, Tryd.ntmps7
      go_wp2_with fail
      refine cO.mono ?_
      rintro e' w1 ⟨rfl, b2⟩
      have B2 := b2.mono (show w.heap.size + 2 ≤ _ by simp)
      have B3 := B2.alloc (box w1 B2).2.2.1 (.cells #[.int .i64 0, .int .i64 P] 39)
      have cK3 := cK2 _ (box _ B3).2.2.2
      have hw1 := (box w1 B2).2.2.1
      clear cO cK2 b2
      go_wp2_with fail
      refine cK3.mono ?_
      rintro e' w3 ⟨rfl, b4⟩
      obtain ⟨_, ⟨f0, f1, f2, ff⟩, hl8, b9⟩ := box w3 (B3.trans (b4.mono (by simp; omega)))
      have hl9 : w.heap.size + 1 < w3.heap.size := by omega
      clear cK3 b4 B2 B3
      go_wp2
      refine bodyPost_ret (v := .tuple #[.agg #[.int .i64 0, .int .i64 0, .string ⟨#[]⟩], .iface 37 (.int .i64 K)]) (by simp [results, Tryd.results7, go_sem, World.cell?_setCell_other, World.cell?_setCell_same, f0, f1, f2]) rfl ⟨rfl, ?_⟩
      exact below3 b9 (by omega) _ _ _
  · rw [if_pos hH] at hR
    simp only [noV, Prod.mk.injEq] at hR
    obtain ⟨⟨rfl, rfl, rfl⟩, rfl⟩ := hR
    rw [errV, if_neg hH]
    have hHb : (H != 0) = true := by simpa using hH
    clear hci hof hxb hsz henv hx hcv hrv hH
    go_enter Tryd.func7, Tryd.ntmps7
    go_wp2_with fail
    refine cO.mono ?_
    rintro e' w1 ⟨rfl, b2⟩
    obtain ⟨_, ⟨f0, f1, f2, ff⟩, hl8, b9⟩ := box w1 (b2.mono (by simp))
    have hl9 : w.heap.size + 1 < w1.heap.size := by omega
    clear cO b2
    go_wp2
    go_region
    all_goals
      go_wp2
      refine bodyPost_ret (v := .tuple #[.agg #[.int .i64 0, .int .i64 0, .string ⟨#[]⟩], .iface 37 (.int .i64 H)]) (by simp [results, Tryd.results7, go_sem, (res3 f0 f1 f2 hl9 (.int .i64 0) (.int .i64 0) (.string ⟨#[]⟩) (.cells #[.int .i64 H, .int .i64 P] 39)).1, (res3 f0 f1 f2 hl9 (.int .i64 0) (.int .i64 0) (.string ⟨#[]⟩) (.cells #[.int .i64 H, .int .i64 P] 39)).2.1, (res3 f0 f1 f2 hl9 (.int .i64 0) (.int .i64 0) (.string ⟨#[]⟩) (.cells #[.int .i64 H, .int .i64 P] 39)).2.2]) rfl ⟨rfl, ?_⟩
      exact Below.drew ((below3 b9 (by omega) _ _ _).alloc (by simp [World.setCell]; omega) _)
end Go.Proofs.YtkoejkpjkcejcabDoor
