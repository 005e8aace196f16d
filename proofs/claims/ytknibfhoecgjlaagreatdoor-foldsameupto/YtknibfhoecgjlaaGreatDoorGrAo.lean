/-
  EvEv, FdF, FdU, Iter, FdV, in one text.
-/
import Derived.Test.YtknibfhoecgjlaaGreatDoorQEvCn
import Derived.Test.YtknibfhoecgjlaaGreatDoorQEvCo
import Derived.Test.YtknibfhoecgjlaaGreatDoorQEvCq
import Derived.Test.YtknibfhoecgjlaaGreatDoorGrAn
import Derived.Test.YtknibfhoecgjlaaGreatDoorGrAf
import Derived.Test.YtknibfhoecgjlaaGreatDoorGrAm
import Derived.Maps.Own
import Derived.Maps.OwnSet
import Derived.Maps.Views
import Derived.Deep.LoopGhost
import Derived.Shelf.SlIter.Nil
import Derived.Shelf.SortM.Plain
import Derived.Shelf.SortM.SortNone
import Derived.Ground.GgzProg
import Derived.Ground.SlgmProg
import Derived.Test.YtknibfhoecgjlaaGreatDoorProg
import Derived.Test.YtknibfhoecgjlaaGreatDoorGrAi
import Derived.Sort.KeysCollected
namespace Go.Proofs.YtknibfhoecgjlaaGreatDoor
open Go.RowKit Go.BigFrame
set_option linter.unusedVariables false

theorem rules_form : ∀ r ∈ kdRules, (kdCnt r = 3 → r.1 = [105, 102]) ∧ (kdCnt r = 1 → r.1 ≠ [97, 110, 100] ∧ r.1 ≠ [111, 114] ∧ r.1 ≠ [105, 102]) ∧ (kdCnt r = 2 → r.1 ≠ [105, 102]) := by decide
theorem come_any {zs : List (ByteArray × Int)} {b off c rb ro rc : Nat} {rs : List V3} (hn : zs.length ≤ 6) (hrow : RowR zs rs) : ∀ (x : Ex) (d : Nat), (∀ q ∈ x.pre d, nodeE q.1 = 0) → (∀ q ∈ x.pre d, inB q.1.vn) → (tyP zs x).2.1 = 0 → ComeAt zs b off c rb ro rc rs x := by
  refine Ex.ind fun op nm vt vn vs pos l ih d hpre hin ht => ?_
  by_cases hleaf : op.data.toList = [118, 97, 108] ∨ op.data.toList = [99, 111, 108]
  · exact come_leaf zs b off c rb ro rc rs hn hrow op nm vs vt vn pos l ht hleaf
  · have h1 : op.data.toList ≠ [118, 97, 108] := fun h => hleaf (.inl h)
    have h2 : op.data.toList ≠ [99, 111, 108] := fun h => hleaf (.inr h)
    rw [tyP_op h1 h2] at ht
    by_cases ht0 : (tysP zs l).2.1 = 0
    · rw [if_neg (fun hh => hh ht0)] at ht
      obtain ⟨hm, hall⟩ := tysP_ok ht0
      by_cases hr0 : (ruleP op.data.toList (tysP zs l).1).2 = 0
      · have hsub : ∀ y ∈ l, ∀ q ∈ y.pre (d + 1), q ∈ (Ex.node op nm vt vn vs pos l).pre d := fun y hy q hq => by
          rw [Ex.pre]; exact List.mem_cons_of_mem _ (pres_mem hy q hq)
        have hI : ∀ y ∈ l, ComeAt zs b off c rb ro rc rs y := fun y hy => ih y hy (d + 1) (fun q hq => hpre q (hsub y hy q hq)) (fun q hq => hin q (hsub y hy q hq)) (hall y hy)
        have hC : ∀ y ∈ l, comes (tyP zs y).1 (cmP zs rs y) := fun y hy => cm_comes hrow y (d + 1) (fun q hq => hpre q (hsub y hy q hq)) (fun q hq => hin q (hsub y hy q hq)) (hall y hy)
        rw [hm] at hr0
        obtain ⟨r, hf, hlen, _, _⟩ := ruleP_in (op := op.data.toList) (ts := l.map fun y => (tyP zs y).1) (T := (ruleP op.data.toList (l.map fun y => (tyP zs y).1)).1) (Prod.ext rfl hr0)
        rw [List.length_map] at hlen
        obtain ⟨hmem, he⟩ := kdFind_mem hf
        obtain ⟨f3, f1, f2⟩ := rules_form r hmem
        obtain ⟨c1, c3⟩ := kdCnt_ok r hmem
        rw [he] at f1 f2 f3
        match l, hlen, hI, hC with
        | [], hlen, _, _ => simp at hlen; omega
        | [x], hlen, hI, hC =>
          obtain ⟨g1, g2, g3⟩ := f1 hlen.symm
          exact come_1 zs b off c rb ro rc rs op nm vs vt vn pos x h1 h2 g1 g2 g3 (hI x (by simp)) _ (hC x (by simp))
        | [x, y], hlen, hI, hC =>
          exact come_2 zs b off c rb ro rc rs op nm vs vt vn pos x y h1 h2 (f2 hlen.symm) (hI x (by simp)) _ (hC x (by simp)) (hI y (by simp)) _ (hC y (by simp))
        | [x, y, z], hlen, hI, hC =>
          exact come_3 zs b off c rb ro rc rs op nm vs vt vn pos x y z h1 h2 (f3 hlen.symm) (hI x (by simp)) _ (hC x (by simp)) (hI y (by simp)) _ (hC y (by simp)) (hI z (by simp)) _ (hC z (by simp))
        | _ :: _ :: _ :: _ :: _, hlen, _, _ => simp at hlen; omega
      · rw [if_pos hr0] at ht
        exact absurd ht hr0
    · rw [if_pos ht0] at ht
      exact absurd ht ht0
/-- What Eval says. -/
def evP (zs : List (ByteArray × Int)) (rs : List V3) (x : Ex) : V3 × Int := if (ofP zs x).2.1 ≠ 0 then (noV, (ofP zs x).2.1) else if rowChk zs rs ≠ 0 then (noV, rowChk zs rs) else cmP zs rs x
theorem rcGo_ok : ∀ {zs : List (ByteArray × Int)} {rs : List V3}, rs.length = zs.length → rcGo zs rs = 0 → ∀ k (h : k < zs.length) (h2 : k < rs.length), rs[k].1 = zs[k].2 ∧ chk rs[k].1 rs[k].2.1 rs[k].2.2.data.toList = 0
  | z :: zs, r :: rs, hl, h, k, h1, h2 => by
    rw [rcGo] at h
    by_cases hc : chk r.1 r.2.1 r.2.2.data.toList = 0
    · rw [if_neg (fun hh => hh hc)] at h
      by_cases ht : r.1 = z.2
      · rw [if_neg (fun hh => hh ht)] at h
        match k, h1, h2 with
        | 0, _, _ => exact ⟨ht, hc⟩
        | k + 1, h1, h2 => exact rcGo_ok (by simpa using hl) h k (by simpa using h1) (by simpa using h2)
      · rw [if_pos ht] at h
        exact absurd h (by decide)
    · rw [if_pos hc] at h
      exact absurd h hc
  | [], _, _, _, k, h1, _ => absurd h1 (by simp)
  | _ :: _, [], hl, _, _, _, _ => by simp at hl
theorem rowR_of {zs : List (ByteArray × Int)} {rs : List V3} (h : rowChk zs rs = 0) (hb : SizedV rs) : RowR zs rs ∧ schE zs = 0 := by
  rw [rowChk] at h
  by_cases h0 : schE zs = 0
  · rw [if_neg (fun hh => hh h0)] at h
    by_cases hl : rs.length = zs.length
    · rw [if_neg (fun hh => hh hl)] at h
      refine ⟨⟨hl, fun k h1 h2 => ?_⟩, h0⟩
      obtain ⟨g1, g2⟩ := rcGo_ok hl h k h1 h2
      exact ⟨g1, g2, (hb _ (List.getElem_mem h2)).2⟩
    · rw [if_pos hl] at h
      exact absurd h (by decide)
  · rw [if_pos h0] at h
    exact absurd h h0
/-- The numbers of an expression are a machine's. -/
def ExB (x : Ex) : Prop := ∀ q ∈ x.pre 1, inB q.1.vn
theorem cm_in {zs : List (ByteArray × Int)} {rs : List V3} {x : Ex} (hx : ExB x) (hsz : SizedV rs) (h1 : (ofP zs x).2.1 = 0) (h2 : rowChk zs rs = 0) : comes (ofP zs x).1 (cmP zs rs x) ∧ ckP x = 0 ∧ schE zs = 0 ∧ tyP zs x = ofP zs x := by
  obtain ⟨hrow, hs⟩ := rowR_of h2 hsz
  have hck : ckP x = 0 := by
    by_cases hc : ckP x = 0
    · exact hc
    · rw [ofP, if_pos hc] at h1
      exact absurd h1 hc
  have hty : ofP zs x = tyP zs x := by rw [ofP, if_neg (fun hh => hh hck), if_neg (fun hh => hh hs)]
  rw [hty] at h1 ⊢
  exact ⟨cm_comes hrow x 1 (ckP_zero hck).2 hx h1, hck, hs, rfl⟩
set_option maxHeartbeats 4000000 in
set_option maxRecDepth 20000 in
theorem eval_any (x : Ex) (lo : Nat → Prop) (v vl vr : Value) (zs : List (ByteArray × Int)) (rs : List V3) (w : World) (henv : KEnv w) (hx : ExIn w lo v x) (hsz : (x.pre 1).length ≤ 1048576) (hxb : ExB x) (hcv : ColsV w vl zs) (hrv : ValsV w vr rs) (hrs : SizedV rs) (t k : Int) (s : ByteArray) (e : Int) (hR : evP zs rs x = ((t, k, s), e)) :
    Calls Tryz.prog 18 #[v, vl, vr] w fun e' w' => e' = .returned (.tuple #[.agg #[.int .i64 t, .int .i64 k, .string s], errV e]) ∧ Below w.heap.size w w' := by
  obtain ⟨o1, n1, t1, k1, s1, p1, m1, c1, a1, rfl⟩ := hx.agg
  obtain ⟨b1, box⟩ := come_box w #[.string o1, .string n1, .int .i64 t1, .int .i64 k1, .string s1, .slice p1 m1 c1, .int .i64 a1]
  obtain ⟨T, H, P, hof⟩ : ∃ T H P, ofP zs x = (T, H, P) := ⟨_, _, _, rfl⟩
  have cO := of_any x lo _ vl zs _ (henv.on b1) (hx.on b1) hsz (hcv.on b1) T H P hof
  unfold evP at hR
  have hci := cm_in (zs := zs) hxb hrs
  rw [hof] at hR hci
  simp only at hR hci
  by_cases hH : H = 0
  · subst hH
    rw [if_neg (by simp)] at hR
    have cK := fun W (hb : Below w.heap.size w W) => rowCheck_v vl vr zs rs W (henv.on hb).tw (hcv.on hb) (hrv.on hb) hrs
    by_cases hk : rowChk zs rs = 0
    · rw [if_neg (fun hh => hh hk)] at hR
      rw [hk, show errV 0 = .nilIface from rfl] at cK
      obtain ⟨hcm, hck, hs, hty⟩ := hci rfl hk
      obtain ⟨hrow, _⟩ := rowR_of hk hrs
      obtain ⟨hz1, hz2, _⟩ := schE_zero hs
      obtain ⟨q, c, rfl, hcols⟩ := id hcv
      obtain ⟨q2, c2, rfl, hrm, hvals⟩ := id hrv
      rcases hcols with h | ⟨b, off, rfl, _, _, hco⟩
      · exact absurd h hz1
      rcases hvals with h | ⟨rb, ro, rfl, hrl, hrc⟩
      · exact absurd (hrow.1 ▸ h) hz1
      have cC := fun W (hb : Below w.heap.size w W) => come_any (c := c) (rc := c2) (b := b) (off := off) (rb := rb) (ro := ro) hz2 hrow x 1 (ckP_zero hck).2 hxb (by rw [hty]) lo _ W t k s e (henv.on hb).rules (hx.on hb) (hco.on hb) (RowAt.on ⟨hrl, hrc⟩ hb) hR
      have hS : s.size ≤ 40 := by
        rcases hcm with h | h
        · rw [hR] at h
          have := chk_size h.2.2.1
          simpa using this
        · rw [hR] at h
          simp only [noV, Prod.mk.injEq] at h
          rw [h.1.2.2]
          decide
      have cF := fresh_any t k s
      clear hci hcm hck hs hty hrow hz1 hz2 hco hrc hR hof hxb hsz henv hx hcv hrv hk
      go_enter Tryz.func18, Tryz.ntmps18
      go_wp2_with fail
      refine cO.mono ?_
      rintro e' w1 ⟨rfl, b2⟩
      have B2 := b2.mono (show w.heap.size + 2 ≤ _ by simp)
      have B3 := B2.alloc (box w1 B2).2.2.1 (.cells #[.int .i64 0, .int .i64 P] 59)
      have cK3 := cK _ (box _ B3).2.2.2
      have hw1 := (box w1 B2).2.2.1
      clear cO cK b2
      go_wp2_with fail
      refine cK3.mono ?_
      rintro e' w3 ⟨rfl, b4⟩
      have B4 := B3.trans (b4.mono (by simp; omega))
      have cC4 := cC _ (box _ B4).2.2.2
      obtain ⟨hB, _, hl4, _⟩ := box w3 B4
      have g0 : w3.cell? ⟨w.heap.size, 0, none⟩ = some (.string o1) := hB 0
      have g1 : w3.cell? ⟨w.heap.size, 1, none⟩ = some (.string n1) := hB 1
      have g2 : w3.cell? ⟨w.heap.size, 2, none⟩ = some (.int .i64 t1) := hB 2
      have g3 : w3.cell? ⟨w.heap.size, 3, none⟩ = some (.int .i64 k1) := hB 3
      have g4 : w3.cell? ⟨w.heap.size, 4, none⟩ = some (.string s1) := hB 4
      have g5 : w3.cell? ⟨w.heap.size, 5, none⟩ = some (.slice p1 m1 c1) := hB 5
      have g6 : w3.cell? ⟨w.heap.size, 6, none⟩ = some (.int .i64 a1) := hB 6
      have hl5 : w.heap.size < w3.heap.size := by omega
      clear cK3 cC b4 hB
      go_wp2_with fail
      refine cC4.mono ?_
      rintro e' w5 ⟨rfl, b6⟩
      have B6 := B4.trans (b6.mono hl4)
      have hl7 := (box w5 B6).2.2.1
      have B7 := B6.alloc hl7 (.cells #[.int .i64 t, .int .i64 k, .string s] 23)
      have cF7 := cF (w5.alloc (.cells #[.int .i64 t, .int .i64 k, .string s] 23)) hS
      clear cC4 cF b6 g0 g1 g2 g3 g4 g5 g6
      go_wp2_with fail
      refine cF7.mono ?_
      rintro e' w7 ⟨rfl, b8⟩
      obtain ⟨_, ⟨f0, f1, f2, ff⟩, hl8, b9⟩ := box w7 (B7.trans (b8.mono (by simp; omega)))
      have hl9 : w.heap.size + 1 < w7.heap.size := by omega
      clear cF7 b8 B2 B3 B4 B6 B7
      go_wp2
      refine bodyPost_ret (v := .tuple #[.agg #[.int .i64 t, .int .i64 k, .string s], errV e]) (by simp [results, Tryz.results18, go_sem, World.cell?_setCell_other, World.cell?_setCell_same, f0, f1, f2]) rfl ⟨rfl, ?_⟩
      exact below3 b9 (by omega) _ _ _
    · rw [if_pos hk] at hR
      simp only [noV, Prod.mk.injEq] at hR
      obtain ⟨⟨rfl, rfl, rfl⟩, rfl⟩ := hR
      obtain ⟨K, hK⟩ : ∃ K, rowChk zs rs = K := ⟨_, rfl⟩
      rw [hK] at hk cK ⊢
      have cK2 : ∀ W, Below w.heap.size w W → Calls Tryz.prog 37 #[vl, vr] W fun e' w' => e' = .returned (.iface 57 (.int .i64 K)) ∧ Below W.heap.size W w' := fun W hb => (cK W hb).mono fun e' w' h => by rw [errV, if_neg hk] at h; exact h
      rw [errV, if_neg hk]
      clear hci hK cK hof hxb hsz henv hx hcv hrv hk
      go_enter Tryz.func18, Tryz.ntmps18
      go_wp2_with fail
      refine cO.mono ?_
      rintro e' w1 ⟨rfl, b2⟩
      have B2 := b2.mono (show w.heap.size + 2 ≤ _ by simp)
      have B3 := B2.alloc (box w1 B2).2.2.1 (.cells #[.int .i64 0, .int .i64 P] 59)
      have cK3 := cK2 _ (box _ B3).2.2.2
      have hw1 := (box w1 B2).2.2.1
      clear cO cK2 b2
      go_wp2_with fail
      refine cK3.mono ?_
      rintro e' w3 ⟨rfl, b4⟩
      obtain ⟨_, ⟨f0, f1, f2, ff⟩, hl8, b9⟩ := box w3 (B3.trans (b4.mono (by simp; omega)))
      have hl9 : w.heap.size + 1 < w3.heap.size := by omega
      clear cK3 b4 B2 B3
      go_wp2
      refine bodyPost_ret (v := .tuple #[.agg #[.int .i64 0, .int .i64 0, .string ⟨#[]⟩], .iface 57 (.int .i64 K)]) (by simp [results, Tryz.results18, go_sem, World.cell?_setCell_other, World.cell?_setCell_same, f0, f1, f2]) rfl ⟨rfl, ?_⟩
      exact below3 b9 (by omega) _ _ _
  · rw [if_pos hH] at hR
    simp only [noV, Prod.mk.injEq] at hR
    obtain ⟨⟨rfl, rfl, rfl⟩, rfl⟩ := hR
    rw [errV, if_neg hH]
    have hHb : (H != 0) = true := by simpa using hH
    clear hci hof hxb hsz henv hx hcv hrv hH
    go_enter Tryz.func18, Tryz.ntmps18
    go_wp2_with fail
    refine cO.mono ?_
    rintro e' w1 ⟨rfl, b2⟩
    obtain ⟨_, ⟨f0, f1, f2, ff⟩, hl8, b9⟩ := box w1 (b2.mono (by simp))
    have hl9 : w.heap.size + 1 < w1.heap.size := by omega
    clear cO b2
    go_wp2
    go_region
    all_goals
      go_wp2
      refine bodyPost_ret (v := .tuple #[.agg #[.int .i64 0, .int .i64 0, .string ⟨#[]⟩], .iface 57 (.int .i64 H)]) (by simp [results, Tryz.results18, go_sem, (res3 f0 f1 f2 hl9 (.int .i64 0) (.int .i64 0) (.string ⟨#[]⟩) (.cells #[.int .i64 H, .int .i64 P] 59)).1, (res3 f0 f1 f2 hl9 (.int .i64 0) (.int .i64 0) (.string ⟨#[]⟩) (.cells #[.int .i64 H, .int .i64 P] 59)).2.1, (res3 f0 f1 f2 hl9 (.int .i64 0) (.int .i64 0) (.string ⟨#[]⟩) (.cells #[.int .i64 H, .int .i64 P] 59)).2.2]) rfl ⟨rfl, ?_⟩
      exact Below.drew ((below3 b9 (by omega) _ _ _).alloc (by simp [World.setCell]; omega) _)
end Go.Proofs.YtknibfhoecgjlaaGreatDoor
namespace Go.Proofs.YtknibfhoecgjlaaGreatDoor
open Go.RowKit
set_option linter.unusedVariables false

theorem rg_of {zs : List (ByteArray × Int)} {x : Ex} {T P : Int} (h : ofP zs x = (T, 0, P)) (hb : ExB x) : Rg zs T x := by
  have h0 : (ofP zs x).2.1 = 0 := by rw [h]
  have hck : ckP x = 0 := by
    by_cases hc : ckP x = 0
    · exact hc
    · rw [ofP, if_pos hc] at h0; exact absurd h0 hc
  have hs : schE zs = 0 := by
    by_cases hc : schE zs = 0
    · exact hc
    · rw [ofP, if_neg (fun hh => hh hck), if_pos hc] at h0; exact absurd h0 hc
  rw [ofP, if_neg (fun hh => hh hck), if_neg (fun hh => hh hs)] at h
  refine ⟨(allN_pre x 1).1 (ckP_zero hck).2, (allN_pre x 1).1 hb, ?_⟩
  rw [ty_zero (by rw [h]), h]
set_option maxHeartbeats 4000000 in
set_option maxRecDepth 20000 in
theorem fold_any {zs : List (ByteArray × Int)} (hS : ∀ (x : Ex) (T : Int) (lo : Nat → Prop) (v : Value) (w : World), Rg zs T x → REnv w → ExIn w lo v x → Calls Tryz.prog 23 #[v] w fun e w' => (∃ u, e = .returned u ∧ ExIn w' (fun b => w.heap.size ≤ b) u (fdP x)) ∧ Below w.heap.size w w') (x : Ex) (lo : Nat → Prop) (v vl : Value) (w : World) (henv : KEnv w) (hx : ExIn w lo v x) (hsz : (x.pre 1).length ≤ 1048576) (hxb : ExB x) (hcv : ColsV w vl zs) (T H P : Int) (hR : ofP zs x = (T, H, P)) :
    Calls Tryz.prog 7 #[v, vl] w fun e w' => (∃ u, e = .returned (.tuple #[u, errV H]) ∧ Aside (H = 0 → ExIn w' (fun b => w.heap.size ≤ b) u (fdP x)) ∧ Aside (H ≠ 0 → u = .agg #[.string ⟨#[]⟩, .string ⟨#[]⟩, .int .i64 0, .int .i64 0, .string ⟨#[]⟩, .slice none 0 0, .int .i64 0])) ∧ Below w.heap.size w w' := by
  obtain ⟨o1, n1, t1, k1, s1, p1, m1, c1, a1, rfl⟩ := hx.agg
  have bW : Below w.heap.size w ((w.alloc (.cells #[.string o1, .string n1, .int .i64 t1, .int .i64 k1, .string s1, .slice p1 m1 c1, .int .i64 a1] 26)).alloc (.cells #[.string ⟨#[]⟩, .string ⟨#[]⟩, .int .i64 0, .int .i64 0, .string ⟨#[]⟩, .slice none 0 0, .int .i64 0] 26)) := ((Below.refl _ w).alloc (Nat.le_refl _) _).alloc (by simp) _
  have X0 := box7_at (w.alloc (.cells #[.string o1, .string n1, .int .i64 t1, .int .i64 k1, .string s1, .slice p1 m1 c1, .int .i64 a1] 26)) (w.heap.size + 1) (by simp) (.string ⟨#[]⟩) (.string ⟨#[]⟩) (.int .i64 0) (.int .i64 0) (.string ⟨#[]⟩) (.slice none 0 0) (.int .i64 0) 26
  have XE := (box7_at w w.heap.size rfl (.string o1) (.string n1) (.int .i64 t1) (.int .i64 k1) (.string s1) (.slice p1 m1 c1) (.int .i64 a1) 26).on ((Below.refl _ (w.alloc (.cells #[.string o1, .string n1, .int .i64 t1, .int .i64 k1, .string s1, .slice p1 m1 c1, .int .i64 a1] 26))).alloc (Nat.le_refl _) (.cells #[.string ⟨#[]⟩, .string ⟨#[]⟩, .int .i64 0, .int .i64 0, .string ⟨#[]⟩, .slice none 0 0, .int .i64 0] 26))
  have KB : Hid (∀ W, Below (w.heap.size + 2) ((w.alloc (.cells #[.string o1, .string n1, .int .i64 t1, .int .i64 k1, .string s1, .slice p1 m1 c1, .int .i64 a1] 26)).alloc (.cells #[.string ⟨#[]⟩, .string ⟨#[]⟩, .int .i64 0, .int .i64 0, .string ⟨#[]⟩, .slice none 0 0, .int .i64 0] 26)) W → Box7 W w.heap.size (.string o1) (.string n1) (.int .i64 t1) (.int .i64 k1) (.string s1) (.slice p1 m1 c1) (.int .i64 a1) ∧ Box7 W (w.heap.size + 1) (.string ⟨#[]⟩) (.string ⟨#[]⟩) (.int .i64 0) (.int .i64 0) (.string ⟨#[]⟩) (.slice none 0 0) (.int .i64 0) ∧ w.heap.size + 2 ≤ W.heap.size ∧ Below w.heap.size w W) := fun W hb => by
    have hz := hb.size
    simp at hz
    exact ⟨XE.on (hb.mono (by simp)), X0.on (hb.mono (by simp)), by omega, bW.trans (hb.mono (by omega))⟩
  have cO := of_any x lo _ vl zs _ (henv.on bW) (hx.on bW) hsz (hcv.on bW) T H P hR
  obtain ⟨pz, cz, hvl, -⟩ := id hcv
  subst hvl
  by_cases h0 : H = 0
  · subst h0
    have cS := fun W (b : Below w.heap.size w W) => hS x T lo _ W (rg_of hR hxb) (henv.on b).rules (hx.on b)
    clear hS henv hx hsz hxb hcv hR X0 XE
    go_enter Tryz.func7, Tryz.ntmps7
    go_wp2_with fail
    refine cO.mono ?_
    rintro e w1 ⟨rfl, b1⟩
    have b1' : Below (w.heap.size + 2) ((w.alloc (.cells #[.string o1, .string n1, .int .i64 t1, .int .i64 k1, .string s1, .slice p1 m1 c1, .int .i64 a1] 26)).alloc (.cells #[.string ⟨#[]⟩, .string ⟨#[]⟩, .int .i64 0, .int .i64 0, .string ⟨#[]⟩, .slice none 0 0, .int .i64 0] 26)) w1 := b1.mono (by simp)
    obtain ⟨E1, -, hs1, B1⟩ := KB.out w1 b1'
    obtain ⟨e0, e1, e2, e3, e4, e5, e6, -, el⟩ := E1
    have B1a := B1.alloc B1.size (.cells #[.int .i64 0, .int .i64 P] 59)
    have c2 := cS _ B1a
    clear cO cS b1
    go_wp2_with fail
    refine c2.mono ?_
    rintro e w2 ⟨⟨u, rfl, hu⟩, b2⟩
    obtain ⟨r0, r1, r2, r3, r4, r5, r6, r7, r8, rfl⟩ := hu.agg
    have b2' : Below (w.heap.size + 2) ((w.alloc (.cells #[.string o1, .string n1, .int .i64 t1, .int .i64 k1, .string s1, .slice p1 m1 c1, .int .i64 a1] 26)).alloc (.cells #[.string ⟨#[]⟩, .string ⟨#[]⟩, .int .i64 0, .int .i64 0, .string ⟨#[]⟩, .slice none 0 0, .int .i64 0] 26)) w2 := (b1'.alloc hs1 _).trans (b2.mono (by simp; omega))
    obtain ⟨-, Z2, hs2, B2⟩ := KB.out w2 b2'
    have RZ := Z2.set (.string r0) (.string r1) (.int .i64 r2) (.int .i64 r3) (.string r4) (.slice r5 r6 r7) (.int .i64 r8)
    have BZ := below_set7F B2 (Nat.le_succ _) (.string r0) (.string r1) (.int .i64 r2) (.int .i64 r3) (.string r4) (.slice r5 r6 r7) (.int .i64 r8)
    have HU : Aside (ExIn w2 (fun b => w1.heap.size + 1 ≤ b) (.agg #[.string r0, .string r1, .int .i64 r2, .int .i64 r3, .string r4, .slice r5 r6 r7, .int .i64 r8]) (fdP x)) := ExIn.low (fun b _ h => by simpa using h) _ _ hu
    have UZ : Aside (ExIn _ (fun b => w.heap.size ≤ b) (.agg #[.string r0, .string r1, .int .i64 r2, .int .i64 r3, .string r4, .slice r5 r6 r7, .int .i64 r8]) (fdP x)) := ExIn.low (fun b _ h => by omega) _ _ (HU.out.set7 (z := w.heap.size + 1) (fun b hb => by omega) (.string r0) (.string r1) (.int .i64 r2) (.int .i64 r3) (.string r4) (.slice r5 r6 r7) (.int .i64 r8))
    obtain ⟨z0, z1, z2, z3, z4, z5, z6, zf, zl⟩ := Z2
    have HRZ : Aside (Box7 _ _ _ _ _ _ _ _ _) := RZ
    have HBZ : Aside (Below _ _ _) := BZ
    clear c2 b1' b2 b2' hu HU RZ BZ B1 B1a B2 KB bW e0 e1 e2 e3 e4 e5 e6 el
    go_wp2
    exact bodyPost_ret (v := .tuple #[.agg #[.string r0, .string r1, .int .i64 r2, .int .i64 r3, .string r4, .slice r5 r6 r7, .int .i64 r8], .nilIface]) (by simp [results, Tryz.results7, go_sem, HRZ.out.c0, HRZ.out.c1, HRZ.out.c2, HRZ.out.c3, HRZ.out.c4, HRZ.out.c5, HRZ.out.c6]) rfl ⟨⟨_, rfl, (show Aside _ from fun _ => UZ.out), (show Aside _ from fun h => absurd rfl h)⟩, HBZ.out⟩
  · have hHb : (H != 0) = true := by simpa using h0
    have hV : errV H = .iface 57 (.int .i64 H) := by rw [errV, if_neg h0]
    rw [hV]
    have H0 : Hid (H ≠ 0) := h0
    clear hS henv hx hsz hxb hcv hR X0 XE h0 hV
    go_enter Tryz.func7, Tryz.ntmps7
    go_wp2_with fail
    refine cO.mono ?_
    rintro e w1 ⟨rfl, b1⟩
    have b1' : Below (w.heap.size + 2) ((w.alloc (.cells #[.string o1, .string n1, .int .i64 t1, .int .i64 k1, .string s1, .slice p1 m1 c1, .int .i64 a1] 26)).alloc (.cells #[.string ⟨#[]⟩, .string ⟨#[]⟩, .int .i64 0, .int .i64 0, .string ⟨#[]⟩, .slice none 0 0, .int .i64 0] 26)) w1 := b1.mono (by simp)
    obtain ⟨-, Z1, hs1, B1⟩ := KB.out w1 b1'
    obtain ⟨W3, hW3⟩ : ∃ W3, w1.alloc (.cells #[.int .i64 H, .int .i64 P] 59) = W3 := ⟨_, rfl⟩
    have Z3 : Box7 W3 (w.heap.size + 1) (.string ⟨#[]⟩) (.string ⟨#[]⟩) (.int .i64 0) (.int .i64 0) (.string ⟨#[]⟩) (.slice none 0 0) (.int .i64 0) := by rw [← hW3]; exact Z1.on ((Below.refl _ _).alloc (Nat.le_refl _) _)
    have B3 : Below w.heap.size w W3 := by rw [← hW3]; exact B1.alloc B1.size _
    have f0 : W3.cell? ⟨w1.heap.size, 0, none⟩ = some (.int .i64 H) := by rw [← hW3, World.cell?_alloc_at _ _ _ _ rfl]; rfl
    have hl3 : w1.heap.size < W3.heap.size := by rw [← hW3]; simp
    have RZ := Z3.set (.string ⟨#[]⟩) (.string ⟨#[]⟩) (.int .i64 0) (.int .i64 0) (.string ⟨#[]⟩) (.slice none 0 0) (.int .i64 0)
    have BZ := below_set7F B3 (Nat.le_succ _) (.string ⟨#[]⟩) (.string ⟨#[]⟩) (.int .i64 0) (.int .i64 0) (.string ⟨#[]⟩) (.slice none 0 0) (.int .i64 0)
    have HRZ : Aside (Box7 _ _ _ _ _ _ _ _ _) := RZ
    have HBZ : Aside (Below _ _ _) := BZ
    obtain ⟨z0, z1, z2, z3, z4, z5, z6, zf, zl⟩ := Z3
    have hne : ¬ w.heap.size + 1 = w1.heap.size := by omega
    have hne2 : ¬ w1.heap.size = w.heap.size + 1 := by omega
    clear cO b1 b1' Z1 B1 B3 RZ BZ KB bW
    go_wp2
    clear hW3
    go_region
    all_goals
      go_wp2
      exact bodyPost_ret (v := .tuple #[.agg #[.string ⟨#[]⟩, .string ⟨#[]⟩, .int .i64 0, .int .i64 0, .string ⟨#[]⟩, .slice none 0 0, .int .i64 0], .iface 57 (.int .i64 H)]) (by simp [results, Tryz.results7, go_sem, HRZ.out.c0, HRZ.out.c1, HRZ.out.c2, HRZ.out.c3, HRZ.out.c4, HRZ.out.c5, HRZ.out.c6]) rfl ⟨⟨_, rfl, (show Aside _ from fun h => absurd h H0.out), (show Aside _ from fun _ => rfl)⟩, HBZ.out.drew⟩
end Go.Proofs.YtknibfhoecgjlaaGreatDoor
namespace Go.Proofs.YtknibfhoecgjlaaGreatDoor
open Go.RowKit Go.Maps
set_option linter.unusedVariables false

/-- How what stands at a name is read: it does not matter. -/
abbrev nmR : Value → Option (DataW Unit × List MemPlace) := fun _ => some (.nil, [])
theorem nmK : Keyed Tryz.prog 9 := string_keyed Tryz.underlying9
/-- A map that has just these names. -/
def NmAt (w : World) (mb n : Nat) (S : List (List UInt8)) : Prop := ∃ D, w.ownsMap Tryz.prog 9 nmR mb n D ∧ ∀ x, has D (.string x) = true ↔ x ∈ S
theorem NmAt.kept {w w' : World} {mb n : Nat} {S : List (List UInt8)} (h : NmAt w mb n S) (hk : w'.heap[mb]? = w.heap[mb]?) : NmAt w' mb n S := by
  obtain ⟨D, ⟨es, clock, hb, F, hs, hD⟩, h2⟩ := h
  exact ⟨D, ⟨es, clock, hk.trans hb, F, hs, hD⟩, h2⟩
theorem NmAt.lt {w : World} {mb n : Nat} {S : List (List UInt8)} (h : NmAt w mb n S) : mb < w.heap.size := by
  obtain ⟨D, h1, -⟩ := h
  exact h1.lt
theorem NmAt.on {w w' : World} {mb n : Nat} {S : List (List UInt8)} (h : NmAt w mb n S) (hb : Below w.heap.size w w') : NmAt w' mb n S := h.kept (hb.block mb h.lt)
theorem NmAt.mono {w : World} {mb n n' : Nat} {S : List (List UInt8)} (h : NmAt w mb n S) (hn : n ≤ n') : NmAt w mb n' S := by
  obtain ⟨D, h1, h2⟩ := h
  exact ⟨D, h1.mono hn, h2⟩
theorem keyB (s : ByteArray) (hs : s.size ≤ maxLen) : keyOf Tryz.prog 9 (.string s) = some (.string s.data.toList) := by
  simp [keyOf, Tryz.underlying9, mapKey]
  exact hs
theorem nm_put {w w' : World} {mb n : Nat} {S : List (List UInt8)} {D : DataW Unit} {x : List UInt8} (h1 : w.ownsMap Tryz.prog 9 nmR mb n D) (h2 : ∀ x, has D (.string x) = true ↔ x ∈ S) (h3 : w'.ownsMap Tryz.prog 9 nmR mb (n + 1) (D.put (.string x) .nil)) : NmAt w' mb (n + 1) (S ++ [x]) := by
  refine ⟨_, h3, fun y => ?_⟩
  by_cases hy : y = x
  · subst hy
    rw [has_put_same (k := .string y) h1.isMap trivial]
    simp
  · rw [has_put_other (fun e => hy (by injection e)), h2 y]
    simp [hy]
theorem but_grown {r : Nat} {w w' : World} (h : w.grownBy w' (some r)) (hr : r ≤ w.heap.size) : But r w w' :=
  ⟨(Below.refl _ w).grown h hr (fun j hj => by injection hj with hj; omega), h.size, fun k hk hkr => h.block k hk (fun e => by injection e with e; exact hkr e)⟩
mutual
/-- The names of the columns, as they come. -/
def colsP : Ex → List (List UInt8)
  | .node op nm _ _ _ _ l => (if op.data.toList = [99, 111, 108] then [nm.data.toList] else []) ++ colssP l
def colssP : List Ex → List (List UInt8)
  | [] => []
  | x :: xs => colsP x ++ colssP xs
end
theorem colss_take {l : List Ex} {k : Nat} (h : k < l.length) : colssP (l.take (k + 1)) = colssP (l.take k) ++ colsP l[k] := by
  induction l generalizing k with
  | nil => exact absurd h (Nat.not_lt_zero _)
  | cons x xs ih =>
    cases k with
    | zero => simp [colssP]
    | succ k =>
      rw [List.take_succ_cons, List.take_succ_cons, colssP, colssP, ih (by simpa using h), List.append_assoc]
      rfl
theorem fdSizes_take {l : List Ex} {k : Nat} (h : k < l.length) : Ex.sizes (l.take (k + 1)) = Ex.sizes (l.take k) + l[k].size := by
  induction l generalizing k with
  | nil => exact absurd h (Nat.not_lt_zero _)
  | cons x xs ih =>
    cases k with
    | zero => simp [Ex.sizes]
    | succ k =>
      rw [List.take_succ_cons, List.take_succ_cons, Ex.sizes, Ex.sizes, ih (by simpa using h)]
      simp only [List.getElem_cons_succ]
      omega
theorem fdSizes_take_le (l : List Ex) (k : Nat) : Ex.sizes (l.take k) ≤ Ex.sizes l := by
  induction l generalizing k with
  | nil => simp [Ex.sizes]
  | cons x xs ih =>
    cases k with
    | zero => simp [Ex.sizes]
    | succ k => rw [List.take_succ_cons, Ex.sizes, Ex.sizes]; have := ih k; omega
set_option maxHeartbeats 4000000 in
set_option maxRecDepth 20000 in
theorem gather_any (mb : Nat) : ∀ (x : Ex) (lo : Nat → Prop) (v : Value) (n : Nat) (S : List (List UInt8)) (w : World), AllN (fun q => q.nm.size ≤ 400) x → ExIn w lo v x → (∀ b, lo b → b ≠ mb) → NmAt w mb n S → n + x.size ≤ 1048576 →
    Calls Tryz.prog 28 #[v, .map (some mb)] w fun e w' => e = .returned (.tuple #[]) ∧ NmAt w' mb (n + x.size) (S ++ colsP x) ∧ But mb w w' := by
  refine Ex.ind fun op nm vt vn vs pos l ih lo v n S w hA hx hlo hN hsz => ?_
  rw [ExIn] at hx
  obtain ⟨p, ca, rfl, ⟨hm, hmc⟩, ho, hnm, hvs, hparts⟩ := hx
  rw [Ex.size] at hsz
  have HA : Aside (∀ y ∈ l, AllN (fun q => q.nm.size ≤ 400) y) := hA.part
  have hn4 : nm.size ≤ 400 := hA.self
  clear hA
  have HSZ : Hid (n + (1 + Ex.sizes l) ≤ 1048576) := hsz
  have hmb := hN.lt
  have HI : Aside (∀ y ∈ l, ∀ (lo : Nat → Prop) (v : Value) (n : Nat) (S : List (List UInt8)) (w : World), AllN (fun q => q.nm.size ≤ 400) y → ExIn w lo v y → (∀ b, lo b → b ≠ mb) → NmAt w mb n S → n + y.size ≤ 1048576 → Calls Tryz.prog 28 #[v, .map (some mb)] w fun e w' => e = .returned (.tuple #[]) ∧ NmAt w' mb (n + y.size) (S ++ colsP y) ∧ But mb w w') := ih
  have HPA : Aside (l.length = 0 ∨ ∃ b off, p = some ⟨b, off, none⟩ ∧ b < w.heap.size ∧ lo b ∧ ExsIn w lo b off l) := hparts
  have HLO : Aside (∀ b, lo b → b ≠ mb) := hlo
  have HLW : ∀ j (h : j < l.length), ∀ W, But mb w W → ∃ ba oa, p = some ⟨ba, oa, none⟩ ∧ ba < W.heap.size ∧ ∃ u0 u1 u2 u3 u4 u5 u6 u7 u8, W.cell? ⟨ba, oa + j * 7, none⟩ = some (.string u0) ∧ W.cell? ⟨ba, oa + j * 7 + 1, none⟩ = some (.string u1) ∧ W.cell? ⟨ba, oa + j * 7 + 2, none⟩ = some (.int .i64 u2) ∧ W.cell? ⟨ba, oa + j * 7 + 3, none⟩ = some (.int .i64 u3) ∧ W.cell? ⟨ba, oa + j * 7 + 4, none⟩ = some (.string u4) ∧ W.cell? ⟨ba, oa + j * 7 + 5, none⟩ = some (.slice u5 u6 u7) ∧ W.cell? ⟨ba, oa + j * 7 + 6, none⟩ = some (.int .i64 u8) ∧ ExIn W lo (.agg #[.string u0, .string u1, .int .i64 u2, .int .i64 u3, .string u4, .slice u5 u6 u7, .int .i64 u8]) l[j] := fun j h W hb => by
    rcases HPA.out with h0 | ⟨ba, oa, e, hbl, hloB, hE⟩
    · exact absurd h0 (by omega)
    · obtain ⟨v0, v1, v2, v3, v4, v5, v6, e0, e1, e2, e3, e4, e5, e6, hy⟩ := exsIn_at w lo ba l oa hE j h
      obtain ⟨u0, u1, u2, u3, u4, u5, u6, u7, u8, huu⟩ := hy.agg
      injection huu with huu
      simp only [Array.mk.injEq, List.cons.injEq, and_true] at huu
      obtain ⟨rfl, rfl, rfl, rfl, rfl, rfl, rfl⟩ := huu
      have kA : ∀ o, W.cell? ⟨ba, o, none⟩ = w.cell? ⟨ba, o, none⟩ := fun o => hb.cell o hbl (HLO.out _ hloB)
      have hs := hb.size
      exact ⟨ba, oa, e, by omega, u0, u1, u2, u3, u4, u5, u6, u7, u8, by rw [kA]; exact e0, by rw [kA]; exact e1, by rw [kA]; exact e2, by rw [kA]; exact e3, by rw [kA]; exact e4, by rw [kA]; exact e5, by rw [kA]; exact e6, hy.but hb HLO.out⟩
  have HL : Aside (∀ j (h : j < l.length), ∀ W, But mb w W → ∃ ba oa, p = some ⟨ba, oa, none⟩ ∧ ba < W.heap.size ∧ ∃ u0 u1 u2 u3 u4 u5 u6 u7 u8, W.cell? ⟨ba, oa + j * 7, none⟩ = some (.string u0) ∧ W.cell? ⟨ba, oa + j * 7 + 1, none⟩ = some (.string u1) ∧ W.cell? ⟨ba, oa + j * 7 + 2, none⟩ = some (.int .i64 u2) ∧ W.cell? ⟨ba, oa + j * 7 + 3, none⟩ = some (.int .i64 u3) ∧ W.cell? ⟨ba, oa + j * 7 + 4, none⟩ = some (.string u4) ∧ W.cell? ⟨ba, oa + j * 7 + 5, none⟩ = some (.slice u5 u6 u7) ∧ W.cell? ⟨ba, oa + j * 7 + 6, none⟩ = some (.int .i64 u8) ∧ ExIn W lo (.agg #[.string u0, .string u1, .int .i64 u2, .int .i64 u3, .string u4, .slice u5 u6 u7, .int .i64 u8]) l[j]) := HLW
  obtain ⟨N, hNl⟩ : ∃ N, l.length = N := ⟨_, rfl⟩
  have HNL : Hid (l.length = N) := hNl
  rw [hNl] at hm hmc
  simp only [hNl]
  have BX : Aside (Box7 (w.alloc (.cells #[.string op, .string nm, .int .i64 vt, .int .i64 vn, .string vs, .slice p N ca, .int .i64 pos] 26)) w.heap.size (.string op) (.string nm) (.int .i64 vt) (.int .i64 vn) (.string vs) (.slice p N ca) (.int .i64 pos)) := box7_alloc _ _ _ _ _ _ _ _ _
  have B0 : Aside (But mb w (w.alloc (.cells #[.string op, .string nm, .int .i64 vt, .int .i64 vn, .string vs, .slice p N ca, .int .i64 pos] 26))) := (But.refl mb w).alloc (by omega) _
  have N0 : Aside (NmAt (w.alloc (.cells #[.string op, .string nm, .int .i64 vt, .int .i64 vn, .string vs, .slice p N ca, .int .i64 pos] 26)) mb n S) := hN.on ((Below.refl _ w).alloc (Nat.le_refl _) _)
  have hmz : (N : Int) ≤ 9223372036854775807 := by unfold maxLen at hm; omega
  have HN0 := hN
  by_cases hop : op.data.toList = [99, 111, 108]
  · have q1 : (op.toList == [99, 111, 108]) = true := by rw [Lib.toList_data]; simpa using hop
    obtain ⟨S1, hS1⟩ : ∃ S1, S1 = S ++ (if op.data.toList = [99, 111, 108] then [nm.data.toList] else []) := ⟨_, rfl⟩
    have HS1 : Hid (S1 = S ++ (if op.data.toList = [99, 111, 108] then [nm.data.toList] else [])) := hS1
    have hS2 : S1 = S ++ [nm.data.toList] := by rw [hS1, if_pos hop]
    have HS2 : Hid (S1 = S ++ [nm.data.toList]) := hS2
    have cl := fun W => clone_any nm W (by omega)
    have HKY : Hid (nm.size ≤ maxLen) := hnm
    clear hop hS1 hS2 hparts hlo ih hsz hN HN0 HLW HPA hNl
    go_enter Tryz.func28, Tryz.ntmps28
    go_wp2_with fail
    refine (cl _).mono ?_
    rintro e w1 ⟨rfl, b1⟩
    have X1 : Box7 w1 w.heap.size (.string op) (.string nm) (.int .i64 vt) (.int .i64 vn) (.string vs) (.slice p N ca) (.int .i64 pos) := BX.out.on b1
    obtain ⟨D, oD, hD⟩ := N0.out.on b1
    have B1' : But mb w w1 := B0.out.trans (But.of_below' b1 (by simp; omega))
    have hs1 := B1'.size
    clear cl b1 N0 B0 BX
    go_wp2_with (first | (at_mapUpdate; refine wpList_mapUpdate_own _ rfl _ _ _ 65 rfl 9 71 nmK Tryz.underlying65 _ mb n D rfl oD (by have := HSZ.out; unfold maxLen; omega) _ _ _ rfl rfl (keyB nm HKY.out) .nil [] rfl ?_) | go_in)
    intro w2 o2 g2
    have N1 : Aside (NmAt w2 mb (n + 1) S1) := by rw [HS2.out]; exact nm_put oD hD o2
    have b2 := but_grown g2 (by omega)
    have B1 : Aside (But mb w w2) := B1'.trans b2
    have X2 := X1.but b2 (by omega)
    obtain ⟨a0, a1, a2, a3, a4, a5, a6, -, al2⟩ := X2
    clear oD hD o2 g2 b2 X1 B1'
    go_wp2
    go_loopg [5, 17] N (fun gg s5 s17 wr => ∃ (kk : Nat), s17 = .int .i64 kk ∧ kk ≤ N ∧ N - kk ≤ gg ∧ Aside (NmAt wr mb (n + 1 + Ex.sizes (l.take kk)) (S1 ++ colssP (l.take kk))) ∧ Aside (But mb w wr))
    case atStart => exact ⟨0, rfl, Nat.zero_le _, by omega, (show Aside _ by rw [List.take_zero, colssP, Ex.sizes, List.append_nil]; exact N1.out), B1⟩
    case round =>
      obtain ⟨kk, rfl, hkk, hg, NW, BW⟩ := hrel
      by_cases hlt : kk < N
      · have hltz : (kk : Int) < (N : Int) := by omega
        have h0z : (0 : Int) ≤ (kk : Int) := by omega
        have hk2 : kk < l.length := by rw [HNL.out]; exact hlt
        obtain ⟨ba, oa, rfl, hbl, u0, u1, u2, u3, u4, u5, u6, u7, u8, e0, e1, e2, e3, e4, e5, e6, hy⟩ := HL.out kk hk2 wr BW.out
        have b3 : Below wr.heap.size wr (wr.alloc (.cells #[.string u0, .string u1, .int .i64 u2, .int .i64 u3, .string u4, .slice u5 u6 u7, .int .i64 u8] 26)) := (Below.refl _ wr).alloc (Nat.le_refl _) _
        have hst := fdSizes_take hk2
        have hsl := fdSizes_take_le l (kk + 1)
        have cY := HI.out _ (List.getElem_mem hk2) lo _ (n + 1 + Ex.sizes (l.take kk)) (S1 ++ colssP (l.take kk)) (wr.alloc (.cells #[.string u0, .string u1, .int .i64 u2, .int .i64 u3, .string u4, .slice u5 u6 u7, .int .i64 u8] 26)) (HA.out _ (List.getElem_mem hk2)) (hy.on b3) HLO.out (NW.out.on b3) (by have := HSZ.out; omega)
        rw [List.append_assoc, ← colss_take hk2, Nat.add_assoc (n + 1), ← hst] at cY
        have HKL : Hid (kk < N) := hlt
        have hbw := (BW.out.alloc (by have := BW.out.size; omega) (.cells #[.string u0, .string u1, .int .i64 u2, .int .i64 u3, .string u4, .slice u5 u6 u7, .int .i64 u8] 26))
        clear hst hsl hk2 NW hy b3
        go_wp2_with fail
        refine cY.mono ?_
        rintro e w4 ⟨rfl, n4, b4⟩
        have NW4 : Aside (NmAt w4 mb (n + 1 + Ex.sizes (l.take (kk + 1))) (S1 ++ colssP (l.take (kk + 1)))) := n4
        have BW4 : Aside (But mb w w4) := hbw.trans b4
        clear cY n4 b4 hbw BW e0 e1 e2 e3 e4 e5 e6
        go_wp2
        go_roundg (N - (kk + 1))
        case measure => have := HKL.out; omega
        case rel => exact ⟨kk + 1, by go_num, by have := HKL.out; omega, by omega, NW4, BW4⟩
      · have hkz : ¬ (kk : Int) < (N : Int) := by omega
        obtain rfl : kk = N := by omega
        have NW1 := NW.out
        have BW1 := BW.out
        rw [show l.take kk = l by rw [← HNL.out]; exact List.take_length] at NW1
        have NF : Aside (NmAt wr mb (n + (1 + Ex.sizes l)) (S ++ colsP (.node op nm vt vn vs pos l))) := by
          rw [colsP, ← List.append_assoc, ← HS1.out, ← Nat.add_assoc]; exact NW1
        clear NW NW1
        go_wp2
        go_end0
        refine ⟨rfl, ?_, BW1⟩
        rw [Ex.size]
        exact NF.out
  · have q1 : (op.toList == [99, 111, 108]) = false := by rw [Lib.toList_data]; simpa using hop
    obtain ⟨S1, hS1⟩ : ∃ S1, S1 = S ++ (if op.data.toList = [99, 111, 108] then [nm.data.toList] else []) := ⟨_, rfl⟩
    have HS1 : Hid (S1 = S ++ (if op.data.toList = [99, 111, 108] then [nm.data.toList] else [])) := hS1
    have hS2 : S1 = S := by rw [hS1, if_neg hop, List.append_nil]
    have N1 : Aside (NmAt (w.alloc (.cells #[.string op, .string nm, .int .i64 vt, .int .i64 vn, .string vs, .slice p N ca, .int .i64 pos] 26)) mb (n + 1) S1) := by rw [hS2]; exact N0.out.mono (by omega)
    have B1 := B0
    clear hop hS1 hS2 hparts hlo ih hsz hN HN0 HLW HPA hNl N0 B0 BX
    go_enter Tryz.func28, Tryz.ntmps28
    go_wp2
    go_loopg [5, 17] N (fun gg s5 s17 wr => ∃ (kk : Nat), s17 = .int .i64 kk ∧ kk ≤ N ∧ N - kk ≤ gg ∧ Aside (NmAt wr mb (n + 1 + Ex.sizes (l.take kk)) (S1 ++ colssP (l.take kk))) ∧ Aside (But mb w wr))
    case atStart => exact ⟨0, rfl, Nat.zero_le _, by omega, (show Aside _ by rw [List.take_zero, colssP, Ex.sizes, List.append_nil]; exact N1.out), B1⟩
    case round =>
      obtain ⟨kk, rfl, hkk, hg, NW, BW⟩ := hrel
      by_cases hlt : kk < N
      · have hltz : (kk : Int) < (N : Int) := by omega
        have h0z : (0 : Int) ≤ (kk : Int) := by omega
        have hk2 : kk < l.length := by rw [HNL.out]; exact hlt
        obtain ⟨ba, oa, rfl, hbl, u0, u1, u2, u3, u4, u5, u6, u7, u8, e0, e1, e2, e3, e4, e5, e6, hy⟩ := HL.out kk hk2 wr BW.out
        have b3 : Below wr.heap.size wr (wr.alloc (.cells #[.string u0, .string u1, .int .i64 u2, .int .i64 u3, .string u4, .slice u5 u6 u7, .int .i64 u8] 26)) := (Below.refl _ wr).alloc (Nat.le_refl _) _
        have hst := fdSizes_take hk2
        have hsl := fdSizes_take_le l (kk + 1)
        have cY := HI.out _ (List.getElem_mem hk2) lo _ (n + 1 + Ex.sizes (l.take kk)) (S1 ++ colssP (l.take kk)) (wr.alloc (.cells #[.string u0, .string u1, .int .i64 u2, .int .i64 u3, .string u4, .slice u5 u6 u7, .int .i64 u8] 26)) (HA.out _ (List.getElem_mem hk2)) (hy.on b3) HLO.out (NW.out.on b3) (by have := HSZ.out; omega)
        rw [List.append_assoc, ← colss_take hk2, Nat.add_assoc (n + 1), ← hst] at cY
        have HKL : Hid (kk < N) := hlt
        have hbw := (BW.out.alloc (by have := BW.out.size; omega) (.cells #[.string u0, .string u1, .int .i64 u2, .int .i64 u3, .string u4, .slice u5 u6 u7, .int .i64 u8] 26))
        clear hst hsl hk2 NW hy b3
        go_wp2_with fail
        refine cY.mono ?_
        rintro e w4 ⟨rfl, n4, b4⟩
        have NW4 : Aside (NmAt w4 mb (n + 1 + Ex.sizes (l.take (kk + 1))) (S1 ++ colssP (l.take (kk + 1)))) := n4
        have BW4 : Aside (But mb w w4) := hbw.trans b4
        clear cY n4 b4 hbw BW e0 e1 e2 e3 e4 e5 e6
        go_wp2
        go_roundg (N - (kk + 1))
        case measure => have := HKL.out; omega
        case rel => exact ⟨kk + 1, by go_num, by have := HKL.out; omega, by omega, NW4, BW4⟩
      · have hkz : ¬ (kk : Int) < (N : Int) := by omega
        obtain rfl : kk = N := by omega
        have NW1 := NW.out
        have BW1 := BW.out
        rw [show l.take kk = l by rw [← HNL.out]; exact List.take_length] at NW1
        have NF : Aside (NmAt wr mb (n + (1 + Ex.sizes l)) (S ++ colsP (.node op nm vt vn vs pos l))) := by
          rw [colsP, ← List.append_assoc, ← HS1.out, ← Nat.add_assoc]; exact NW1
        clear NW NW1
        go_wp2
        go_end0
        refine ⟨rfl, ?_, BW1⟩
        rw [Ex.size]
        exact NF.out
end Go.Proofs.YtknibfhoecgjlaaGreatDoor
namespace Go.Proofs
open Go.RowKit Go.Maps Go.Sort Go.Shelf
def Tryz.keys30_ren : Go.Shelf.Ren := ⟨fun | 7 => 30 | 10 => 60 | n => n, fun | 23 => 65 | 26 => 9 | 3 => 71 | 28 => 69 | 0 => 0 | 27 => 68 | 33 => 79 | 4 => 4 | n => n, fun | n => n⟩
theorem Tryz.keys30 : Go.Proofs.SlLaysZ.n7 Tryz.prog Tryz.keys30_ren := {
  mixed := by kernel_rfl
  f7 := ⟨Tryz.f30.name, by decide, Tryz.func30.trans (congrArg some (by kernel_rfl))⟩
  f10 := ⟨Tryz.f60.name, by decide, Tryz.func60.trans (congrArg some (by kernel_rfl))⟩
  t0 := Tryz.underlying0
  a0 := Tryz.isAgg0
  z0 := Tryz.sizeOf0
  v0 := Tryz.zeroValue0
  t4 := Tryz.underlying4
  a4 := Tryz.isAgg4
  z4 := Tryz.sizeOf4
  v4 := Tryz.zeroValue4
  t23 := Tryz.underlying65
  a23 := Tryz.isAgg65
  z23 := Tryz.sizeOf65
  v23 := Tryz.zeroValue65
  t26 := Tryz.underlying9
  a26 := Tryz.isAgg9
  z26 := Tryz.sizeOf9
  v26 := Tryz.zeroValue9
  t27 := Tryz.underlying68
  a27 := Tryz.isAgg68
  z27 := Tryz.sizeOf68
  v27 := Tryz.zeroValue68
  t28 := Tryz.underlying69
  a28 := Tryz.isAgg69
  z28 := Tryz.sizeOf69
  v28 := Tryz.zeroValue69
  t33 := Tryz.underlying79
  a33 := Tryz.isAgg79
  z33 := Tryz.sizeOf79
  v33 := Tryz.zeroValue79 }
def Tryz.sorted29_ren : Go.Shelf.Ren := ⟨fun | 6 => 29 | 8 => 58 | 9 => 59 | 11 => 85 | 13 => 87 | 12 => 86 | 23 => 113 | 24 => 114 | 14 => 104 | 15 => 105 | 16 => 106 | 17 => 107 | 18 => 108 | 19 => 109 | 20 => 110 | 21 => 111 | 22 => 112 | 25 => 126 | 26 => 127 | 27 => 128 | 28 => 129 | 29 => 130 | 30 => 131 | 31 => 136 | n => n, fun | 26 => 9 | 28 => 69 | 24 => 38 | 0 => 0 | 3 => 3 | 37 => 127 | 48 => 170 | 50 => 102 | 4 => 4 | 40 => 163 | 39 => 162 | 45 => 96 | 5 => 5 | 9 => 9 | 51 => 183 | 55 => 187 | 57 => 194 | 58 => 82 | 33 => 79 | n => n, fun | n => n⟩
theorem Tryz.sorted29 : Go.Proofs.SlLaysZ.n6 Tryz.prog Tryz.sorted29_ren := {
  mixed := by kernel_rfl
  f6 := ⟨Tryz.f29.name, by decide, Tryz.func29.trans (congrArg some (by kernel_rfl))⟩
  f8 := ⟨Tryz.f58.name, by decide, Tryz.func58.trans (congrArg some (by kernel_rfl))⟩
  f11 := ⟨Tryz.f85.name, by decide, Tryz.func85.trans (congrArg some (by kernel_rfl))⟩
  t0 := Tryz.underlying0
  a0 := Tryz.isAgg0
  z0 := Tryz.sizeOf0
  v0 := Tryz.zeroValue0
  t24 := Tryz.underlying38
  a24 := Tryz.isAgg38
  z24 := Tryz.sizeOf38
  v24 := Tryz.zeroValue38
  t26 := Tryz.underlying9
  a26 := Tryz.isAgg9
  z26 := Tryz.sizeOf9
  v26 := Tryz.zeroValue9
  t28 := Tryz.underlying69
  a28 := Tryz.isAgg69
  z28 := Tryz.sizeOf69
  v28 := Tryz.zeroValue69
  i26 := by kernel_rfl }
def Tryz.sort59_ren : Go.Shelf.Ren := ⟨fun | 6 => 59 | 8 => 87 | 9 => 86 | 19 => 113 | 20 => 114 | 21 => 104 | 22 => 105 | 23 => 106 | 24 => 107 | 25 => 108 | 26 => 109 | 27 => 110 | 28 => 111 | 29 => 112 | 36 => 126 | 31 => 127 | 32 => 128 | 37 => 129 | 38 => 130 | 39 => 131 | 41 => 136 | n => n, fun | 27 => 38 | 29 => 9 | 3 => 3 | 32 => 127 | 26 => 38 | 0 => 0 | 44 => 170 | 46 => 102 | 4 => 4 | 36 => 163 | 35 => 162 | 41 => 96 | 5 => 5 | 9 => 9 | 53 => 183 | 57 => 187 | 63 => 194 | 64 => 82 | n => n, fun | n => n⟩
theorem Tryz.sort59 : Go.Proofs.SlLaysM.n6 Tryz.prog Tryz.sort59_ren := {
  mixed := by kernel_rfl
  f6 := ⟨Tryz.f59.name, by decide, Tryz.func59.trans (congrArg some (by kernel_rfl))⟩
  f8 := Tryz.func87.trans (congrArg some (by kernel_rfl))
  f9 := ⟨Tryz.f86.name, by decide, Tryz.func86.trans (congrArg some (by kernel_rfl))⟩
  f19 := Tryz.func113.trans (congrArg some (by kernel_rfl))
  f20 := Tryz.func114.trans (congrArg some (by kernel_rfl))
  f21 := ⟨Tryz.f104.name, by decide, Tryz.func104.trans (congrArg some (by kernel_rfl))⟩
  f22 := ⟨Tryz.f105.name, by decide, Tryz.func105.trans (congrArg some (by kernel_rfl))⟩
  f23 := ⟨Tryz.f106.name, by decide, Tryz.func106.trans (congrArg some (by kernel_rfl))⟩
  f24 := ⟨Tryz.f107.name, by decide, Tryz.func107.trans (congrArg some (by kernel_rfl))⟩
  f25 := ⟨Tryz.f108.name, by decide, Tryz.func108.trans (congrArg some (by kernel_rfl))⟩
  f26 := ⟨Tryz.f109.name, by decide, Tryz.func109.trans (congrArg some (by kernel_rfl))⟩
  f27 := ⟨Tryz.f110.name, by decide, Tryz.func110.trans (congrArg some (by kernel_rfl))⟩
  f28 := ⟨Tryz.f111.name, by decide, Tryz.func111.trans (congrArg some (by kernel_rfl))⟩
  f29 := ⟨Tryz.f112.name, by decide, Tryz.func112.trans (congrArg some (by kernel_rfl))⟩
  f31 := Tryz.func127.trans (congrArg some (by kernel_rfl))
  f32 := Tryz.func128.trans (congrArg some (by kernel_rfl))
  f36 := ⟨Tryz.f126.name, by decide, Tryz.func126.trans (congrArg some (by kernel_rfl))⟩
  f37 := ⟨Tryz.f129.name, by decide, Tryz.func129.trans (congrArg some (by kernel_rfl))⟩
  f38 := ⟨Tryz.f130.name, by decide, Tryz.func130.trans (congrArg some (by kernel_rfl))⟩
  f39 := ⟨Tryz.f131.name, by decide, Tryz.func131.trans (congrArg some (by kernel_rfl))⟩
  f41 := ⟨Tryz.f136.name, by decide, Tryz.func136.trans (congrArg some (by kernel_rfl))⟩
  t0 := Tryz.underlying0
  a0 := Tryz.isAgg0
  z0 := Tryz.sizeOf0
  v0 := Tryz.zeroValue0
  t3 := Tryz.underlying3
  a3 := Tryz.isAgg3
  z3 := Tryz.sizeOf3
  v3 := Tryz.zeroValue3
  t4 := Tryz.underlying4
  a4 := Tryz.isAgg4
  z4 := Tryz.sizeOf4
  v4 := Tryz.zeroValue4
  t5 := Tryz.underlying5
  a5 := Tryz.isAgg5
  z5 := Tryz.sizeOf5
  v5 := Tryz.zeroValue5
  t9 := Tryz.underlying9
  a9 := Tryz.isAgg9
  z9 := Tryz.sizeOf9
  v9 := Tryz.zeroValue9
  t26 := Tryz.underlying38
  a26 := Tryz.isAgg38
  z26 := Tryz.sizeOf38
  v26 := Tryz.zeroValue38
  t27 := Tryz.underlying38
  a27 := Tryz.isAgg38
  z27 := Tryz.sizeOf38
  v27 := Tryz.zeroValue38
  t29 := Tryz.underlying9
  a29 := Tryz.isAgg9
  z29 := Tryz.sizeOf9
  v29 := Tryz.zeroValue9
  t32 := Tryz.underlying127
  a32 := Tryz.isAgg127
  z32 := Tryz.sizeOf127
  v32 := Tryz.zeroValue127
  t35 := Tryz.underlying162
  a35 := Tryz.isAgg162
  z35 := Tryz.sizeOf162
  v35 := Tryz.zeroValue162
  t36 := Tryz.underlying163
  a36 := Tryz.isAgg163
  z36 := Tryz.sizeOf163
  v36 := Tryz.zeroValue163
  t41 := Tryz.underlying96
  a41 := Tryz.isAgg96
  z41 := Tryz.sizeOf96
  v41 := Tryz.zeroValue96
  t44 := Tryz.underlying170
  a44 := Tryz.isAgg170
  z44 := Tryz.sizeOf170
  v44 := Tryz.zeroValue170
  t46 := Tryz.underlying102
  a46 := Tryz.isAgg102
  z46 := Tryz.sizeOf102
  v46 := Tryz.zeroValue102
  t53 := Tryz.underlying183
  a53 := Tryz.isAgg183
  z53 := Tryz.sizeOf183
  v53 := Tryz.zeroValue183
  t57 := Tryz.underlying187
  a57 := Tryz.isAgg187
  z57 := Tryz.sizeOf187
  v57 := Tryz.zeroValue187
  t63 := Tryz.underlying194
  a63 := Tryz.isAgg194
  z63 := Tryz.sizeOf194
  v63 := Tryz.zeroValue194
  t64 := Tryz.underlying82
  a64 := Tryz.isAgg82
  z64 := Tryz.sizeOf82
  v64 := Tryz.zeroValue82 }

theorem Tryz.sorts29 (m : Nat) : AnyZ.SortsIn Tryz.prog Tryz.sorted29_ren Fence.wide m :=
  ⟨fun blk off cap ss W hH hblk hsz => callsIn_wide.2 (AnyM.slices_Sort_string Tryz.sort59 blk off cap ss W hH hblk hsz),
   fun p cap W => callsIn_wide.2 (AnyM.slices_Sort_string_none Tryz.sort59 p cap W)⟩
theorem Tryz.maps_Keys_30 (mb : Option Nat) (W : World) : CallsIn Fence.wide 5 Tryz.prog 30 #[.map mb] W fun e w' => e = .returned (.func (.func 60) #[] #[.pointer (some ⟨W.heap.size, 0, none⟩)]) ∧ w' = W.alloc (.cells #[.map mb] 65) :=
  AnyZ.keys_in Tryz.keys30 Fence.wide 5 trivial rfl mb W
set_option maxHeartbeats 1000000 in
theorem Tryz.slices_Sorted_keys_29_30 {H : Type} (b nn : Nat) (D0 : DataW H) (R : Value → Option (DataW H × List MemPlace)) (w : World) (hown : w.ownsMap Tryz.prog 9 R b nn D0) (hmax : Maps.size D0 ≤ maxLen) (hbytes : Maps.size D0 * 16 ≤ 140737488355328) :
    CallsIn Fence.wide 5 Tryz.prog 29 #[.func (.func 60) #[] #[.pointer (some ⟨w.heap.size, 0, none⟩)]] (w.alloc (.cells #[.map (some b)] 65)) fun e w' => ∃ (v : Value) (ss : List (List UInt8)), e = .returned v ∧ ss.Perm (strKeys D0) ∧
      w'.ownsRow (w.alloc (.cells #[.map (some b)] 65)).heap.size 9 1 v ss.length ((ss.mergeSort (fun x y => decide (x ≤ y))).map encStr) ∧ (v = .slice none 0 0 ↔ ss = []) ∧ Below (w.alloc (.cells #[.map (some b)] 65)).heap.size (w.alloc (.cells #[.map (some b)] 65)) w' := by
  have hbl := hown.lt
  have hseq : SeqGives Fence.wide 2 Tryz.prog 60 #[.pointer (some ⟨w.heap.size, 0, none⟩)] encStr (fun ss => ss.Perm (strKeys D0)) (Maps.size D0) (w.alloc (.cells #[.map (some b)] 65)) :=
    AnyZ.keys_gives (ρ := Tryz.keys30_ren) { Tryz.keys30 with } Fence.wide _ trivial rfl (by omega) w.heap.size b nn D0 _ (by simp) (by simp) (by
      obtain ⟨es, clock, hb, Ft, hs, hD⟩ := hown
      exact ⟨es, clock, (Below.heap_alloc _ _ b hbl).trans hb, Ft, hs, hD⟩)
  exact AnyZ.sorted_in Tryz.sorted29 Fence.wide 5 trivial trivial trivial trivial rfl (by omega) (Tryz.sorts29 _) (enters_of Tryz.func59 (by kernel_rfl) rfl) 60 #[.pointer (some ⟨w.heap.size, 0, none⟩)] trivial (enters_of Tryz.func60 (by kernel_rfl) rfl) _ _ hmax hbytes _ hseq
set_option maxHeartbeats 1000000 in
theorem Tryz.slices_Sorted_keys_nil_29_30 (w : World) :
    CallsIn Fence.wide 5 Tryz.prog 29 #[.func (.func 60) #[] #[.pointer (some ⟨w.heap.size, 0, none⟩)]] (w.alloc (.cells #[.map none] 65)) fun e w' => ∃ (v : Value) (ss : List (List UInt8)), e = .returned v ∧ ss = [] ∧
      w'.ownsRow (w.alloc (.cells #[.map none] 65)).heap.size 9 1 v ss.length ((ss.mergeSort (fun x y => decide (x ≤ y))).map encStr) ∧ (v = .slice none 0 0 ↔ ss = []) ∧ Below (w.alloc (.cells #[.map none] 65)).heap.size (w.alloc (.cells #[.map none] 65)) w' := by
  have hseq : SeqGives Fence.wide 2 Tryz.prog 60 #[.pointer (some ⟨w.heap.size, 0, none⟩)] encStr (fun ss : List (List UInt8) => ss = []) 0 (w.alloc (.cells #[.map none] 65)) :=
    AnyZ.keys_gives_nil (ρ := Tryz.keys30_ren) { Tryz.keys30 with } Fence.wide _ trivial rfl w.heap.size _ (by simp) (by simp)
  exact AnyZ.sorted_in Tryz.sorted29 Fence.wide 5 trivial trivial trivial trivial rfl (by omega) (Tryz.sorts29 _) (enters_of Tryz.func59 (by kernel_rfl) rfl) 60 #[.pointer (some ⟨w.heap.size, 0, none⟩)] trivial (enters_of Tryz.func60 (by kernel_rfl) rfl) _ 0 (Nat.zero_le _) (by omega) _ hseq
end Go.Proofs
namespace Go.Proofs.YtknibfhoecgjlaaGreatDoor
open Go.RowKit Go.Maps Go.Sort
set_option linter.unusedVariables false

theorem nm_keys {w : World} {mb n : Nat} {D : DataW Unit} (h : w.ownsMap Tryz.prog 9 nmR mb n D) : (strKeys D).Nodup ∧ ∀ x, x ∈ strKeys D ↔ has D (.string x) = true := by
  obtain ⟨es, rfl, hp, -⟩ := h.entries nmK
  obtain ⟨es', he, hk'⟩ := h.keysOf
  injection he with he
  subst he
  have hk : ∀ p ∈ es, ∃ x, p.1 = .string x := fun p hp => by
    obtain ⟨key, hkey⟩ := hk' p hp
    obtain ⟨x, -, e, -⟩ := Maps.keyOf_str Tryz.underlying9 hkey
    exact ⟨x, e⟩
  refine ⟨?_, fun x => ?_⟩
  · show (es.map fun p => strOf p.1).Nodup
    refine List.pairwise_map.2 (hp.imp_of_mem fun {p q} hp' hq' hne e => hne ?_)
    obtain ⟨a, ha⟩ := hk p hp'
    obtain ⟨b, hb⟩ := hk q hq'
    rw [ha, hb] at e ⊢
    exact congrArg _ e
  · rw [has_eq, List.any_eq_true]
    show x ∈ es.map (fun p => strOf p.1) ↔ _
    rw [List.mem_map]
    constructor
    · rintro ⟨p, hp, rfl⟩
      obtain ⟨a, ha⟩ := hk p hp
      refine ⟨p, hp, ?_⟩
      rw [ha]
      exact WideAt.sameKey_self trivial
    · rintro ⟨p, hp, hs⟩
      obtain ⟨a, ha⟩ := hk p hp
      rw [ha] at hs
      have := (WideAt.sameKey_iff (a := .string a) (b := .string x) trivial).1 hs
      injection this with this
      exact ⟨p, hp, by rw [ha]; exact this⟩
theorem ownsRow_low {W : World} {base base' : Nat} {e : TypeId} {size : Nat} {v : Value} {k : Nat} {xs : List Value} (h : W.ownsRow base e size v k xs) (hb : base' ≤ base) : W.ownsRow base' e size v k xs := by
  refine ⟨h.1, ?_⟩
  rcases h.2 with hn | ⟨g, cap, cur, e1, h1, rest⟩
  · exact .inl hn
  · exact .inr ⟨g, cap, cur, e1, Nat.le_trans hb h1, rest⟩
theorem nameT_size {s : ByteArray} (h : nameT s.data.toList = true) : s.size ≤ 400 := by
  rw [nameT, Bool.and_eq_true] at h
  have h1 := h.1
  unfold lettersB at h1
  simp only [Bool.and_eq_true, decide_eq_true_eq] at h1
  have : s.data.toList.length ≤ 8 := by omega
  show s.data.size ≤ 400
  rw [← Array.length_toList]
  omega
/-- The names of the columns, each once, by bytes. -/
def NmS (ss : List (List UInt8)) (x : Ex) : Prop := ss.Pairwise (fun a b => a ≤ b ∧ a ≠ b) ∧ ∀ y, y ∈ ss ↔ y ∈ colsP x
theorem nmS_of {ss ks : List (List UInt8)} {x : Ex} (hp : ss.Perm ks) (hn : ks.Nodup) (hm : ∀ y, y ∈ ks ↔ y ∈ colsP x) : NmS (ss.mergeSort leB) x := by
  have tr : ∀ a b c : List UInt8, leB a b = true → leB b c = true → leB a c = true := fun a b c h1 h2 => by simp only [leB, decide_eq_true_eq] at *; exact List.le_trans h1 h2
  have tot : ∀ a b : List UInt8, (leB a b || leB b a) = true := fun a b => by simp only [leB, Bool.or_eq_true, decide_eq_true_eq]; exact List.le_total a b
  have hP := (List.mergeSort_perm ss leB).trans hp
  refine ⟨?_, fun y => by rw [hP.mem_iff, hm]⟩
  have h1 := List.pairwise_mergeSort tr tot ss
  have h2 : (ss.mergeSort leB).Nodup := hP.nodup_iff.2 hn
  exact (h1.and h2).imp fun {a b} h => ⟨of_decide_eq_true h.1, h.2⟩
theorem node_nm {x : Ex} (h : nodeE x = 0) : x.nm.size ≤ 400 := by
  rw [nodeE, nodeB] at h
  by_cases hc : (x.op.toList == [99, 111, 108]) = true
  · split at h
    · exact absurd h (by decide)
    · rename_i h1
      have hnt : nameT x.nm.data.toList = true := by
        cases hh : nameT x.nm.data.toList with
        | true => rfl
        | false => rw [hc, hh] at h1; simp at h1
      exact nameT_size hnt
  · split at h
    · exact absurd h (by decide)
    · split at h
      · exact absurd h (by decide)
      · rename_i h2
        have hcf : (x.op.toList == [99, 111, 108]) = false := by simpa using hc
        have : x.nm.toList = [] := by
          rw [hcf] at h2
          simp at h2
          exact h2.2.1
        rw [Lib.toList_data] at this
        have hs : x.nm.data.size = 0 := by rw [← Array.length_toList, this]; rfl
        show x.nm.data.size ≤ 400
        omega
set_option maxHeartbeats 2000000 in
set_option maxRecDepth 20000 in
theorem uses_any (x : Ex) (lo : Nat → Prop) (v : Value) (w : World) (henv : TEnv w) (hx : ExIn w lo v x) (hsz : (x.pre 1).length ≤ 1048576) :
    Calls Tryz.prog 12 #[v] w fun e w' => (∃ u, e = .returned (.tuple #[u, errV (ckP x)]) ∧ Aside (ckP x = 0 → ∃ ss : List (List UInt8), NmS ss x ∧ w'.ownsRow w.heap.size 9 1 u ss.length (ss.map encStr)) ∧ Aside (ckP x ≠ 0 → u = .slice none 0 0)) ∧ Below w.heap.size w w' := by
  obtain ⟨o1, n1, t1, k1, s1, p1, m1, c1, a1, rfl⟩ := hx.agg
  have bE := (Below.refl _ w).alloc (Nat.le_refl _) (.cells #[.string o1, .string n1, .int .i64 t1, .int .i64 k1, .string s1, .slice p1 m1 c1, .int .i64 a1] 26)
  have cK := check_tree x lo _ _ (henv.on bE) (hx.on bE) hsz
  obtain ⟨K, hK⟩ : ∃ K, ckP x = K := ⟨_, rfl⟩
  rw [hK] at cK ⊢
  by_cases h0 : K = 0
  · subst h0
    rw [show errV 0 = .nilIface from rfl] at cK
    have HX : Aside (ExIn w lo (.agg #[.string o1, .string n1, .int .i64 t1, .int .i64 k1, .string s1, .slice p1 m1 c1, .int .i64 a1]) x) := hx
    have HA : Aside (AllN (fun q => q.nm.size ≤ 400) x) := (allN_pre x 1).1 fun q hq => node_nm ((ckP_zero hK).2 q hq)
    have HZ : Hid (x.size ≤ 1048576) := by show _ ≤ _; rw [← size_pre x 1]; exact hsz
    have hmm := @run_makeMap Tryz.prog
    clear hx henv hsz hK
    go_enter Tryz.func12, Tryz.ntmps12
    go_wp2_with fail
    refine cK.mono ?_
    rintro e w1 ⟨rfl, b1⟩
    have X1 := (box7_alloc w (.string o1) (.string n1) (.int .i64 t1) (.int .i64 k1) (.string s1) (.slice p1 m1 c1) (.int .i64 a1) 26).on b1
    have B1 : Below w.heap.size w w1 := bE.trans (b1.mono bE.size)
    have hs1 := B1.size
    obtain ⟨a0, a1', a2, a3, a4, a5, a6, -, al1⟩ := id X1
    have H1 : ExIn (w1.alloc (.map #[] 0)) (fun b => b ≠ w1.heap.size) (.agg #[.string o1, .string n1, .int .i64 t1, .int .i64 k1, .string s1, .slice p1 m1 c1, .int .i64 a1]) x :=
      (ExIn.low (fun b hb _ => by omega) _ _ (HX.out.on B1)).on ((Below.refl _ w1).alloc (Nat.le_refl _) _)
    have cG := gather_any w1.heap.size x (fun b => b ≠ w1.heap.size) _ 0 [] (w1.alloc (.map #[] 0)) HA.out H1 (fun b h => h) ⟨_, World.ownsMap_made w1 Tryz.prog 9 nmR, fun y => by simp [has]⟩ (by have := HZ.out; omega)
    clear cK b1 H1 HX
    go_wp2_with fail
    refine cG.mono ?_
    rintro e w2 ⟨rfl, ⟨D, oD, hD⟩, b2⟩
    have hs2 : w1.heap.size + 1 ≤ w2.heap.size := by have := b2.size; simpa using this
    have B2 : Below w.heap.size w w2 := (B1.alloc B1.size _).trans (b2.below.mono hs1)
    have hsD := oD.size_le
    have cE := callsIn_wide.1 (Tryz.maps_Keys_30 (some w1.heap.size) w2)
    have cS := callsIn_wide.1 (Tryz.slices_Sorted_keys_29_30 w1.heap.size _ D nmR w2 oD (by have := HZ.out; unfold maxLen; omega) (by have := HZ.out; omega))
    have HK : Aside ((strKeys D).Nodup ∧ ∀ y, y ∈ strKeys D ↔ y ∈ colsP x) := ⟨(nm_keys oD).1, fun y => by rw [(nm_keys oD).2, hD, List.nil_append]⟩
    clear cG oD hD b2 X1 HA
    go_wp2_with fail
    refine cE.mono ?_
    rintro e w3 ⟨rfl, rfl⟩
    go_wp2_with fail
    refine cS.mono ?_
    rintro e w4 ⟨u, ss, rfl, hP, hrow, -, b4⟩
    have B4 : Below w.heap.size w w4 := (B2.alloc B2.size _).trans (b4.mono (by simp; omega))
    go_wp2
    go_ret2
    refine ⟨⟨_, rfl, (show Aside _ from fun _ => ⟨_, nmS_of hP HK.out.1 HK.out.2, ?_⟩), (show Aside _ from fun h => absurd rfl h)⟩, B4⟩
    rw [List.length_mergeSort]
    exact ownsRow_low hrow (by simp; omega)
  · have hV : errV K = .iface 57 (.int .i64 K) := by rw [errV, if_neg h0]
    rw [hV] at cK ⊢
    have H0 : Hid (K ≠ 0) := h0
    clear hx henv hsz hK h0 hV
    go_enter Tryz.func12, Tryz.ntmps12
    go_wp2_with fail
    refine cK.mono ?_
    rintro e w1 ⟨rfl, b1⟩
    have B1 : Below w.heap.size w w1 := bE.trans (b1.mono bE.size)
    clear cK b1
    go_wp2
    go_ret2
    exact ⟨⟨_, rfl, (show Aside _ from fun h => absurd h H0.out), (show Aside _ from fun _ => rfl)⟩, B1⟩
end Go.Proofs.YtknibfhoecgjlaaGreatDoor
