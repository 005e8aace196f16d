/-
  EvEv, AgI, WdP, QyP, TreePl, in one text.
-/
import Derived.Test.YticdcnbeemkapaaGreatDoorQEvCn
import Derived.Test.YticdcnbeemkapaaGreatDoorQEvCo
import Derived.Test.YticdcnbeemkapaaGreatDoorQEvCq
import Derived.Test.YticdcnbeemkapaaGreatDoorGrAk
import Derived.WalkSmall
import Derived.Laws.Rows
import Derived.Deep.LoopGhost
import Derived.Test.YticdcnbeemkapaaGreatDoorProg
import Derived.RowKit
import Derived.Test.YticdcnbeemkapaaGreatDoorGrAf
import Derived.Test.YticdcnbeemkapaaGreatDoorGrAd
import Derived.Test.YticdcnbeemkapaaGreatDoorGrAg
namespace Go.Proofs.YticdcnbeemkapaaGreatDoor
open Go.RowKit Go.BigFrame
set_option linter.unusedVariables false

theorem rules_form : ∀ r ∈ kdRules, (kdCnt r = 3 → r.1 = [105, 102]) ∧ (kdCnt r = 1 → r.1 ≠ [97, 110, 100] ∧ r.1 ≠ [111, 114] ∧ r.1 ≠ [105, 102]) ∧ (kdCnt r = 2 → r.1 ≠ [105, 102]) := by decide
theorem come_any {zs : List (ByteArray × Int)} {b off c rb ro rc : Nat} {rs : List V3} (hn : zs.length ≤ 6) (hrow : RowR zs rs) : ∀ (x : Ex) (d : Nat), (∀ q ∈ x.pre d, nodeE q.1 = 0) → (∀ q ∈ x.pre d, inB q.1.vn) → (tyP zs x).2.1 = 0 → ComeAt zs b off c rb ro rc rs x := by
  refine Ex.ind fun op nm vt vn vs pos l ih d hpre hin ht => ?_
  by_cases hleaf : op.data.toList = [118, 97, 108] ∨ op.data.toList = [99, 111, 108]
  · exact come_leaf zs b off c rb ro rc rs hn hrow op nm vs vt vn pos l ht hleaf
  · have h1 : op.data.toList ≠ [118, 97, 108] := fun h => hleaf (.inl h)
    have h2 : op.data.toList ≠ [99, 111, 108] := fun h => hleaf (.inr h)
    rw [tyP_op h1 h2] at ht
    by_cases ht0 : (tysP zs l).2.1 = 0
    · rw [if_neg (fun hh => hh ht0)] at ht
      obtain ⟨hm, hall⟩ := tysP_ok ht0
      by_cases hr0 : (ruleP op.data.toList (tysP zs l).1).2 = 0
      · have hsub : ∀ y ∈ l, ∀ q ∈ y.pre (d + 1), q ∈ (Ex.node op nm vt vn vs pos l).pre d := fun y hy q hq => by
          rw [Ex.pre]; exact List.mem_cons_of_mem _ (pres_mem hy q hq)
        have hI : ∀ y ∈ l, ComeAt zs b off c rb ro rc rs y := fun y hy => ih y hy (d + 1) (fun q hq => hpre q (hsub y hy q hq)) (fun q hq => hin q (hsub y hy q hq)) (hall y hy)
        have hC : ∀ y ∈ l, comes (tyP zs y).1 (cmP zs rs y) := fun y hy => cm_comes hrow y (d + 1) (fun q hq => hpre q (hsub y hy q hq)) (fun q hq => hin q (hsub y hy q hq)) (hall y hy)
        rw [hm] at hr0
        obtain ⟨r, hf, hlen, _, _⟩ := ruleP_in (op := op.data.toList) (ts := l.map fun y => (tyP zs y).1) (T := (ruleP op.data.toList (l.map fun y => (tyP zs y).1)).1) (Prod.ext rfl hr0)
        rw [List.length_map] at hlen
        obtain ⟨hmem, he⟩ := kdFind_mem hf
        obtain ⟨f3, f1, f2⟩ := rules_form r hmem
        obtain ⟨c1, c3⟩ := kdCnt_ok r hmem
        rw [he] at f1 f2 f3
        match l, hlen, hI, hC with
        | [], hlen, _, _ => simp at hlen; omega
        | [x], hlen, hI, hC =>
          obtain ⟨g1, g2, g3⟩ := f1 hlen.symm
          exact come_1 zs b off c rb ro rc rs op nm vs vt vn pos x h1 h2 g1 g2 g3 (hI x (by simp)) _ (hC x (by simp))
        | [x, y], hlen, hI, hC =>
          exact come_2 zs b off c rb ro rc rs op nm vs vt vn pos x y h1 h2 (f2 hlen.symm) (hI x (by simp)) _ (hC x (by simp)) (hI y (by simp)) _ (hC y (by simp))
        | [x, y, z], hlen, hI, hC =>
          exact come_3 zs b off c rb ro rc rs op nm vs vt vn pos x y z h1 h2 (f3 hlen.symm) (hI x (by simp)) _ (hC x (by simp)) (hI y (by simp)) _ (hC y (by simp)) (hI z (by simp)) _ (hC z (by simp))
        | _ :: _ :: _ :: _ :: _, hlen, _, _ => simp at hlen; omega
      · rw [if_pos hr0] at ht
        exact absurd ht hr0
    · rw [if_pos ht0] at ht
      exact absurd ht ht0
/-- What Eval says. -/
def evP (zs : List (ByteArray × Int)) (rs : List V3) (x : Ex) : V3 × Int := if (ofP zs x).2.1 ≠ 0 then (noV, (ofP zs x).2.1) else if rowChk zs rs ≠ 0 then (noV, rowChk zs rs) else cmP zs rs x
theorem rcGo_ok : ∀ {zs : List (ByteArray × Int)} {rs : List V3}, rs.length = zs.length → rcGo zs rs = 0 → ∀ k (h : k < zs.length) (h2 : k < rs.length), rs[k].1 = zs[k].2 ∧ chk rs[k].1 rs[k].2.1 rs[k].2.2.data.toList = 0
  | z :: zs, r :: rs, hl, h, k, h1, h2 => by
    rw [rcGo] at h
    by_cases hc : chk r.1 r.2.1 r.2.2.data.toList = 0
    · rw [if_neg (fun hh => hh hc)] at h
      by_cases ht : r.1 = z.2
      · rw [if_neg (fun hh => hh ht)] at h
        match k, h1, h2 with
        | 0, _, _ => exact ⟨ht, hc⟩
        | k + 1, h1, h2 => exact rcGo_ok (by simpa using hl) h k (by simpa using h1) (by simpa using h2)
      · rw [if_pos ht] at h
        exact absurd h (by decide)
    · rw [if_pos hc] at h
      exact absurd h hc
  | [], _, _, _, k, h1, _ => absurd h1 (by simp)
  | _ :: _, [], hl, _, _, _, _ => by simp at hl
theorem rowR_of {zs : List (ByteArray × Int)} {rs : List V3} (h : rowChk zs rs = 0) (hb : SizedV rs) : RowR zs rs ∧ schE zs = 0 := by
  rw [rowChk] at h
  by_cases h0 : schE zs = 0
  · rw [if_neg (fun hh => hh h0)] at h
    by_cases hl : rs.length = zs.length
    · rw [if_neg (fun hh => hh hl)] at h
      refine ⟨⟨hl, fun k h1 h2 => ?_⟩, h0⟩
      obtain ⟨g1, g2⟩ := rcGo_ok hl h k h1 h2
      exact ⟨g1, g2, (hb _ (List.getElem_mem h2)).2⟩
    · rw [if_pos hl] at h
      exact absurd h (by decide)
  · rw [if_pos h0] at h
    exact absurd h h0
/-- The numbers of an expression are a machine's. -/
def ExB (x : Ex) : Prop := ∀ q ∈ x.pre 1, inB q.1.vn
theorem cm_in {zs : List (ByteArray × Int)} {rs : List V3} {x : Ex} (hx : ExB x) (hsz : SizedV rs) (h1 : (ofP zs x).2.1 = 0) (h2 : rowChk zs rs = 0) : comes (ofP zs x).1 (cmP zs rs x) ∧ ckP x = 0 ∧ schE zs = 0 ∧ tyP zs x = ofP zs x := by
  obtain ⟨hrow, hs⟩ := rowR_of h2 hsz
  have hck : ckP x = 0 := by
    by_cases hc : ckP x = 0
    · exact hc
    · rw [ofP, if_pos hc] at h1
      exact absurd h1 hc
  have hty : ofP zs x = tyP zs x := by rw [ofP, if_neg (fun hh => hh hck), if_neg (fun hh => hh hs)]
  rw [hty] at h1 ⊢
  exact ⟨cm_comes hrow x 1 (ckP_zero hck).2 hx h1, hck, hs, rfl⟩
set_option maxHeartbeats 4000000 in
set_option maxRecDepth 20000 in
theorem eval_any (x : Ex) (lo : Nat → Prop) (v vl vr : Value) (zs : List (ByteArray × Int)) (rs : List V3) (w : World) (henv : KEnv w) (hx : ExIn w lo v x) (hsz : (x.pre 1).length ≤ 1048576) (hxb : ExB x) (hcv : ColsV w vl zs) (hrv : ValsV w vr rs) (hrs : SizedV rs) (t k : Int) (s : ByteArray) (e : Int) (hR : evP zs rs x = ((t, k, s), e)) :
    Calls Tryz.prog 8 #[v, vl, vr] w fun e' w' => e' = .returned (.tuple #[.agg #[.int .i64 t, .int .i64 k, .string s], errV e]) ∧ Below w.heap.size w w' := by
  obtain ⟨o1, n1, t1, k1, s1, p1, m1, c1, a1, rfl⟩ := hx.agg
  obtain ⟨b1, box⟩ := come_box w #[.string o1, .string n1, .int .i64 t1, .int .i64 k1, .string s1, .slice p1 m1 c1, .int .i64 a1]
  obtain ⟨T, H, P, hof⟩ : ∃ T H P, ofP zs x = (T, H, P) := ⟨_, _, _, rfl⟩
  have cO := of_any x lo _ vl zs _ (henv.on b1) (hx.on b1) hsz (hcv.on b1) T H P hof
  unfold evP at hR
  have hci := cm_in (zs := zs) hxb hrs
  rw [hof] at hR hci
  simp only at hR hci
  by_cases hH : H = 0
  · subst hH
    rw [if_neg (by simp)] at hR
    have cK := fun W (hb : Below w.heap.size w W) => rowCheck_v vl vr zs rs W (henv.on hb).tw (hcv.on hb) (hrv.on hb) hrs
    by_cases hk : rowChk zs rs = 0
    · rw [if_neg (fun hh => hh hk)] at hR
      rw [hk, show errV 0 = .nilIface from rfl] at cK
      obtain ⟨hcm, hck, hs, hty⟩ := hci rfl hk
      obtain ⟨hrow, _⟩ := rowR_of hk hrs
      obtain ⟨hz1, hz2, _⟩ := schE_zero hs
      obtain ⟨q, c, rfl, hcols⟩ := id hcv
      obtain ⟨q2, c2, rfl, hrm, hvals⟩ := id hrv
      rcases hcols with h | ⟨b, off, rfl, _, _, hco⟩
      · exact absurd h hz1
      rcases hvals with h | ⟨rb, ro, rfl, hrl, hrc⟩
      · exact absurd (hrow.1 ▸ h) hz1
      have cC := fun W (hb : Below w.heap.size w W) => come_any (c := c) (rc := c2) (b := b) (off := off) (rb := rb) (ro := ro) hz2 hrow x 1 (ckP_zero hck).2 hxb (by rw [hty]) lo _ W t k s e (henv.on hb).rules (hx.on hb) (hco.on hb) (RowAt.on ⟨hrl, hrc⟩ hb) hR
      have hS : s.size ≤ 40 := by
        rcases hcm with h | h
        · rw [hR] at h
          have := chk_size h.2.2.1
          simpa using this
        · rw [hR] at h
          simp only [noV, Prod.mk.injEq] at h
          rw [h.1.2.2]
          decide
      have cF := fresh_any t k s
      clear hci hcm hck hs hty hrow hz1 hz2 hco hrc hR hof hxb hsz henv hx hcv hrv hk
      go_enter Tryz.func8, Tryz.ntmps8
      go_wp2_with fail
      refine cO.mono ?_
      rintro e' w1 ⟨rfl, b2⟩
      have B2 := b2.mono (show w.heap.size + 2 ≤ _ by simp)
      have B3 := B2.alloc (box w1 B2).2.2.1 (.cells #[.int .i64 0, .int .i64 P] 46)
      have cK3 := cK _ (box _ B3).2.2.2
      have hw1 := (box w1 B2).2.2.1
      clear cO cK b2
      go_wp2_with fail
      refine cK3.mono ?_
      rintro e' w3 ⟨rfl, b4⟩
      have B4 := B3.trans (b4.mono (by simp; omega))
      have cC4 := cC _ (box _ B4).2.2.2
      obtain ⟨hB, _, hl4, _⟩ := box w3 B4
      have g0 : w3.cell? ⟨w.heap.size, 0, none⟩ = some (.string o1) := hB 0
      have g1 : w3.cell? ⟨w.heap.size, 1, none⟩ = some (.string n1) := hB 1
      have g2 : w3.cell? ⟨w.heap.size, 2, none⟩ = some (.int .i64 t1) := hB 2
      have g3 : w3.cell? ⟨w.heap.size, 3, none⟩ = some (.int .i64 k1) := hB 3
      have g4 : w3.cell? ⟨w.heap.size, 4, none⟩ = some (.string s1) := hB 4
      have g5 : w3.cell? ⟨w.heap.size, 5, none⟩ = some (.slice p1 m1 c1) := hB 5
      have g6 : w3.cell? ⟨w.heap.size, 6, none⟩ = some (.int .i64 a1) := hB 6
      have hl5 : w.heap.size < w3.heap.size := by omega
      clear cK3 cC b4 hB
      go_wp2_with fail
      refine cC4.mono ?_
      rintro e' w5 ⟨rfl, b6⟩
      have B6 := B4.trans (b6.mono hl4)
      have hl7 := (box w5 B6).2.2.1
      have B7 := B6.alloc hl7 (.cells #[.int .i64 t, .int .i64 k, .string s] 23)
      have cF7 := cF (w5.alloc (.cells #[.int .i64 t, .int .i64 k, .string s] 23)) hS
      clear cC4 cF b6 g0 g1 g2 g3 g4 g5 g6
      go_wp2_with fail
      refine cF7.mono ?_
      rintro e' w7 ⟨rfl, b8⟩
      obtain ⟨_, ⟨f0, f1, f2, ff⟩, hl8, b9⟩ := box w7 (B7.trans (b8.mono (by simp; omega)))
      have hl9 : w.heap.size + 1 < w7.heap.size := by omega
      clear cF7 b8 B2 B3 B4 B6 B7
      go_wp2
      refine bodyPost_ret (v := .tuple #[.agg #[.int .i64 t, .int .i64 k, .string s], errV e]) (by simp [results, Tryz.results8, go_sem, World.cell?_setCell_other, World.cell?_setCell_same, f0, f1, f2]) rfl ⟨rfl, ?_⟩
      exact below3 b9 (by omega) _ _ _
    · rw [if_pos hk] at hR
      simp only [noV, Prod.mk.injEq] at hR
      obtain ⟨⟨rfl, rfl, rfl⟩, rfl⟩ := hR
      obtain ⟨K, hK⟩ : ∃ K, rowChk zs rs = K := ⟨_, rfl⟩
      rw [hK] at hk cK ⊢
      have cK2 : ∀ W, Below w.heap.size w W → Calls Tryz.prog 18 #[vl, vr] W fun e' w' => e' = .returned (.iface 42 (.int .i64 K)) ∧ Below W.heap.size W w' := fun W hb => (cK W hb).mono fun e' w' h => by rw [errV, if_neg hk] at h; exact h
      rw [errV, if_neg hk]
      clear hci hK cK hof hxb hsz henv hx hcv hrv hk
      go_enter Tryz.func8, Tryz.ntmps8
      go_wp2_with fail
      refine cO.mono ?_
      rintro e' w1 ⟨rfl, b2⟩
      have B2 := b2.mono (show w.heap.size + 2 ≤ _ by simp)
      have B3 := B2.alloc (box w1 B2).2.2.1 (.cells #[.int .i64 0, .int .i64 P] 46)
      have cK3 := cK2 _ (box _ B3).2.2.2
      have hw1 := (box w1 B2).2.2.1
      clear cO cK2 b2
      go_wp2_with fail
      refine cK3.mono ?_
      rintro e' w3 ⟨rfl, b4⟩
      obtain ⟨_, ⟨f0, f1, f2, ff⟩, hl8, b9⟩ := box w3 (B3.trans (b4.mono (by simp; omega)))
      have hl9 : w.heap.size + 1 < w3.heap.size := by omega
      clear cK3 b4 B2 B3
      go_wp2
      refine bodyPost_ret (v := .tuple #[.agg #[.int .i64 0, .int .i64 0, .string ⟨#[]⟩], .iface 42 (.int .i64 K)]) (by simp [results, Tryz.results8, go_sem, World.cell?_setCell_other, World.cell?_setCell_same, f0, f1, f2]) rfl ⟨rfl, ?_⟩
      exact below3 b9 (by omega) _ _ _
  · rw [if_pos hH] at hR
    simp only [noV, Prod.mk.injEq] at hR
    obtain ⟨⟨rfl, rfl, rfl⟩, rfl⟩ := hR
    rw [errV, if_neg hH]
    have hHb : (H != 0) = true := by simpa using hH
    clear hci hof hxb hsz henv hx hcv hrv hH
    go_enter Tryz.func8, Tryz.ntmps8
    go_wp2_with fail
    refine cO.mono ?_
    rintro e' w1 ⟨rfl, b2⟩
    obtain ⟨_, ⟨f0, f1, f2, ff⟩, hl8, b9⟩ := box w1 (b2.mono (by simp))
    have hl9 : w.heap.size + 1 < w1.heap.size := by omega
    clear cO b2
    go_wp2
    go_region
    all_goals
      go_wp2
      refine bodyPost_ret (v := .tuple #[.agg #[.int .i64 0, .int .i64 0, .string ⟨#[]⟩], .iface 42 (.int .i64 H)]) (by simp [results, Tryz.results8, go_sem, (res3 f0 f1 f2 hl9 (.int .i64 0) (.int .i64 0) (.string ⟨#[]⟩) (.cells #[.int .i64 H, .int .i64 P] 46)).1, (res3 f0 f1 f2 hl9 (.int .i64 0) (.int .i64 0) (.string ⟨#[]⟩) (.cells #[.int .i64 H, .int .i64 P] 46)).2.1, (res3 f0 f1 f2 hl9 (.int .i64 0) (.int .i64 0) (.string ⟨#[]⟩) (.cells #[.int .i64 H, .int .i64 P] 46)).2.2]) rfl ⟨rfl, ?_⟩
      exact Below.drew ((below3 b9 (by omega) _ _ _).alloc (by simp [World.setCell]; omega) _)
end Go.Proofs.YticdcnbeemkapaaGreatDoor
namespace Go.Proofs.YticdcnbeemkapaaGreatDoor
open Go.RowKit
set_option linter.unusedVariables false

/-- Is a word one of an aggregate? -/
def isAg (s : List UInt8) : Bool := decide (s = [99, 111, 117, 110, 116]) || (decide (s = [115, 117, 109]) || (decide (s = [108, 101, 97, 115, 116]) || decide (s = [109, 111, 115, 116])))
def aggsL : List (List UInt8) := [[99, 111, 117, 110, 116], [115, 117, 109], [108, 101, 97, 115, 116], [109, 111, 115, 116]]
def aggsC : Array Value := #[.string ⟨#[99, 111, 117, 110, 116]⟩, .string ⟨#[115, 117, 109]⟩, .string ⟨#[108, 101, 97, 115, 116]⟩, .string ⟨#[109, 111, 115, 116]⟩]
/-- What package query's variable holds: the words of aggregates. -/
structure AEnv (w : World) : Prop where
  big : 6 ≤ w.heap.size
  ags : ∃ t fr, w.heap[5]? = some (.cells aggsC t fr)
theorem AEnv.onB {w w' : World} {n : Nat} (h : AEnv w) (hb : Below n w w') (hn : 6 ≤ n) (hs : w.heap.size ≤ w'.heap.size) : AEnv w' := by
  refine ⟨by have := h.big; omega, ?_⟩
  obtain ⟨t, fr, h1⟩ := h.ags
  exact ⟨t, fr, by rw [hb.block _ (by omega)]; exact h1⟩
theorem AEnv.on {w w' : World} (h : AEnv w) (hb : Below w.heap.size w w') : AEnv w' := h.onB hb h.big hb.size
theorem agg_at (k : Nat) (hk : k < 4) : ∃ S : ByteArray, (∀ W : World, Sem.run Tryz.prog (Instr.index 237 (.agg aggsC) (.int .i64 (k : Int))) W = .ok (.string S) W) ∧ aggsL[k]'hk = S.data.toList := by
  have h : k = 0 ∨ k = 1 ∨ k = 2 ∨ k = 3 := by omega
  rcases h with rfl | rfl | rfl | rfl
  · exact ⟨⟨#[99, 111, 117, 110, 116]⟩, fun W => by kernel_rfl, rfl⟩
  · exact ⟨⟨#[115, 117, 109]⟩, fun W => by kernel_rfl, rfl⟩
  · exact ⟨⟨#[108, 101, 97, 115, 116]⟩, fun W => by kernel_rfl, rfl⟩
  · exact ⟨⟨#[109, 111, 115, 116]⟩, fun W => by kernel_rfl, rfl⟩
theorem isAg_any (s : List UInt8) : isAg s = aggsL.any (· == s) := by
  have e : ∀ a : List UInt8, decide (s = a) = (a == s) := fun a => by
    by_cases h : s = a
    · subst h; simp
    · have h2 : ¬ a = s := fun h2 => h h2.symm
      simp [h, h2]
  simp only [isAg, aggsL, List.any_cons, List.any_nil, Bool.or_false, e]
set_option maxHeartbeats 1000000 in
set_option maxRecDepth 20000 in
theorem isAgg_any (x : ByteArray) (w : World) (henv : AEnv w) :
    Calls Tryz.prog 121 #[.string x] w fun e w' => e = .returned (.bool (isAg x.data.toList)) ∧ w' = w := by
  obtain ⟨tt, fr, hgl⟩ := henv.ags
  rw [isAg_any]
  obtain ⟨R, hR⟩ : ∃ R, aggsL.any (· == x.data.toList) = R := ⟨_, rfl⟩
  have HR : Hid (aggsL.any (· == x.data.toList) = R) := hR
  rw [hR]
  clear hR
  go_enter Tryz.func121, Tryz.ntmps121
  go_wp2_with (refine wpList_load_row rfl 237 _ rfl 5 rfl tt _ fr _ hgl Tryz.underlying237 rfl (by kernel_rfl) ?_)
  have hat := agg_at
  generalize Value.agg aggsC = AR at hat ⊢
  clear hgl
  go_loopg [4, 6] 4 (fun gg _ s6 wr => ∃ kk : Nat, kk ≤ 4 ∧ 4 - kk ≤ gg ∧ s6 = .int .i64 kk ∧ wr = w ∧ Hid ((aggsL.drop kk).any (· == x.data.toList) = R))
  case atStart => exact ⟨0, Nat.zero_le _, by omega, rfl, rfl, HR⟩
  case round =>
    obtain ⟨kk, hkk, hg, rfl, rfl, HE⟩ := hrel
    clear HR
    by_cases hlt : kk < 4
    · have hltz : (kk : Int) < 4 := by omega
      obtain ⟨S, hS, hS1⟩ := hat kk hlt
      clear hat
      have hd : aggsL.drop kk = S.data.toList :: aggsL.drop (kk + 1) := by
        rw [List.drop_eq_getElem_cons (show kk < aggsL.length from hlt)]
        exact congrArg (· :: _) hS1
      have HS : Hid ((S.data.toList :: aggsL.drop (kk + 1)).any (· == x.data.toList) = R) := by show _ = _; rw [← hd]; exact HE.out
      clear hd hS1 HE
      by_cases he : S.data.toList = x.data.toList
      · have hq : (S.toList == x.toList) = true := by rw [Lib.toList_data, Lib.toList_data]; simpa using he
        have hR2 : true = R := by
          have hb : (S.data.toList == x.data.toList) = true := by simpa using he
          rw [← HS.out, List.any_cons, hb]; rfl
        subst hR2
        clear HS
        go_wp2
        go_ret
        exact ⟨rfl, rfl⟩
      · have hq : (S.toList == x.toList) = false := by rw [Lib.toList_data, Lib.toList_data]; simpa using he
        have HS2 : Hid ((aggsL.drop (kk + 1)).any (· == x.data.toList) = R) := by
          show _ = _
          have hb : (S.data.toList == x.data.toList) = false := by simpa using he
          rw [← HS.out, List.any_cons, hb, Bool.false_or]
        clear HS
        go_wp2
        go_roundg (4 - (kk + 1))
        case measure => omega
        case rel => exact ⟨kk + 1, by omega, by omega, by go_num, rfl, HS2⟩
    · have hltz : ¬ (kk : Int) < 4 := by omega
      have hR2 : false = R := by rw [← HE.out, List.drop_eq_nil_of_le (by show 4 ≤ kk; omega)]; rfl
      subst hR2
      clear HE
      go_wp2
      go_ret
      exact ⟨rfl, rfl⟩
end Go.Proofs.YticdcnbeemkapaaGreatDoor
namespace Go.Proofs.YticdcnbeemkapaaGreatDoor
open Go.RowKit
set_option linter.unusedVariables false

/-- Numbers that rise by d, from s on, n of them. -/
def prg (s d : Int) (n : Nat) : List Int := (List.range n).map fun (i : Nat) => s + (i : Int) * d
theorem prg_len (s d : Int) (n : Nat) : (prg s d n).length = n := by simp [prg]
theorem prg_at {s d : Int} {n i : Nat} (h : i < (prg s d n).length) : (prg s d n)[i] = s + (i : Int) * d := by simp [prg]
theorem prg_zero (s d : Int) : prg s d 0 = [] := rfl
theorem prg_snoc (s d : Int) (n : Nat) : prg s d (n + 1) = prg s d n ++ [s + (n : Int) * d] := by simp [prg, List.range_succ]
theorem prg_cons (s d : Int) (n : Nat) : prg s d (n + 1) = s :: prg (s + d) d n := by
  apply List.ext_getElem
  · simp [prg]
  · intro i h1 h2
    cases i with
    | zero => simp [prg]
    | succ i =>
      simp only [prg, List.getElem_map, List.getElem_range, List.getElem_cons_succ]
      have : ((i + 1 : Nat) : Int) * d = (i : Int) * d + d := by
        rw [Int.natCast_add, Int.add_mul]; simp
      rw [this]; omega
theorem prg_app (s d : Int) (n m : Nat) : prg s d n ++ prg (s + (n : Int) * d) d m = prg s d (n + m) := by
  induction m with
  | zero => simp [prg_zero]
  | succ m ih =>
    rw [prg_snoc, ← List.append_assoc, ih, ← Nat.add_assoc, prg_snoc]
    congr 2
    rw [Int.natCast_add, Int.add_mul]; omega
/-- May a size and a slide be so? -/
def wdB (size slide : Int) : Prop := 1 ≤ size ∧ size ≤ 1000 ∧ 1 ≤ slide ∧ slide ≤ size ∧ size ≤ 10 * slide
instance (size slide : Int) : Decidable (wdB size slide) := by unfold wdB; infer_instance
def wdE (size slide : Int) : Int := if wdB size slide then 0 else 1
/-- How many windows hold a time; where the first one begins. -/
def stN (at_ size slide : Int) : Nat := min (at_ / slide + 1).toNat ((size - 1 - at_ % slide) / slide + 1).toNat
def stS (at_ size slide : Int) : Int := (at_ / slide + 1 - (stN at_ size slide : Int)) * slide
def stP (at_ size slide : Int) : List Int := prg (stS at_ size slide) slide (stN at_ size slide)
/-- The error of Starts. -/
def stE (at_ size slide : Int) : Int := if wdB size slide ∧ 0 ≤ at_ ∧ at_ ≤ 1000000 then 0 else 1
/-- The number of the first window that ends above a; how many of these end at most at b. -/
def dnK (a size slide : Int) : Int := if a < size then 0 else (a - size) / slide + 1
def dnN (a b size slide : Int) : Nat := if b < size then 0 else ((b - size) / slide + 1 - dnK a size slide).toNat
def dnP (a b size slide : Int) : List Int := prg (dnK a size slide * slide) slide (dnN a b size slide)
def dnR (a b : Int) : Prop := -1 ≤ a ∧ a ≤ 1000000 ∧ a ≤ b ∧ b ≤ 1001000
instance (a b : Int) : Decidable (dnR a b) := by unfold dnR; infer_instance
/-- The error of Done. -/
def dnE (a b size slide : Int) : Int := if wdB size slide ∧ dnR a b then (if 300 < dnN a b size slide then 4 else 0) else 1
theorem div_mul_le {a d : Int} (hd : 0 < d) : a / d * d ≤ a ∧ a < a / d * d + d := by
  have h1 := Int.emod_add_mul_ediv a d
  have h2 := Int.emod_nonneg a (by omega : d ≠ 0)
  have h3 := Int.emod_lt_of_pos a hd
  rw [Int.mul_comm] at h1
  omega
/-- Which numbers of windows hold a time. -/
theorem st_iff {at_ size slide : Int} (hw : wdB size slide) (h0 : 0 ≤ at_) (k : Int) :
    (at_ / slide + 1 - (stN at_ size slide : Int) ≤ k ∧ k ≤ at_ / slide) ↔ (0 ≤ k ∧ k * slide ≤ at_ ∧ at_ < k * slide + size) := by
  obtain ⟨s1, s2, s3, s4, s5⟩ := hw
  have hd : 0 < slide := by omega
  obtain ⟨d1, d2⟩ := div_mul_le (a := at_) hd
  have q0 : 0 ≤ at_ / slide := Int.ediv_nonneg h0 (by omega)
  have hr : at_ % slide = at_ - at_ / slide * slide := by
    have := Int.emod_add_mul_ediv at_ slide
    rw [Int.mul_comm] at this
    omega
  obtain ⟨r1, r2⟩ := div_mul_le (a := size - 1 - at_ % slide) hd
  have rq : 0 ≤ (size - 1 - at_ % slide) / slide := Int.ediv_nonneg (by omega) (by omega)
  have hN : (stN at_ size slide : Int) = min (at_ / slide + 1) ((size - 1 - at_ % slide) / slide + 1) := by
    rw [stN]; omega
  generalize hQ : at_ / slide = Q at *
  generalize hV : (size - 1 - at_ % slide) / slide = V at *
  rw [hN]
  have up : k ≤ Q ↔ k * slide ≤ at_ := by
    constructor
    · intro h
      have := Int.mul_le_mul_of_nonneg_right h (by omega : 0 ≤ slide)
      omega
    · intro h
      by_cases hk : k ≤ Q
      · exact hk
      · have := Int.mul_le_mul_of_nonneg_right (show Q + 1 ≤ k by omega) (by omega : 0 ≤ slide)
        rw [Int.add_mul] at this
        omega
  have dn : Q - V ≤ k ↔ at_ < k * slide + size := by
    have key : (Q - V) * slide = Q * slide - V * slide := Int.sub_mul ..
    constructor
    · intro h
      have := Int.mul_le_mul_of_nonneg_right h (by omega : 0 ≤ slide)
      rw [key] at this
      omega
    · intro h
      by_cases hk : Q - V ≤ k
      · exact hk
      · have := Int.mul_le_mul_of_nonneg_right (show k ≤ Q - V - 1 by omega) (by omega : 0 ≤ slide)
        rw [Int.sub_mul, key] at this
        omega
  constructor
  · rintro ⟨h1, h2⟩
    exact ⟨by omega, up.1 h2, dn.1 (by omega)⟩
  · rintro ⟨h1, h2, h3⟩
    have hu := up.2 h2
    have hd' := dn.2 h3
    exact ⟨by omega, hu⟩
theorem st_pos {at_ size slide : Int} (hw : wdB size slide) (h0 : 0 ≤ at_) : 1 ≤ stN at_ size slide := by
  have hd : 0 < slide := by have := hw.2.2.1; omega
  obtain ⟨d1, d2⟩ := div_mul_le (a := at_) hd
  have q0 : 0 ≤ at_ / slide := Int.ediv_nonneg h0 (by omega)
  have := (st_iff hw h0 (at_ / slide)).2 ⟨q0, d1, by have := hw.2.2.2.1; omega⟩
  omega
/-- Numbers that rise by the slide, and are just those of the windows that hold a time. -/
theorem st_unique {at_ size slide : Int} (hw : wdB size slide) (h0 : 0 ≤ at_) {k : Int} {n : Nat} (hn : 1 ≤ n) (hl : k + (n : Int) = at_ / slide + 1) (hk : 0 ≤ k) (hin : at_ < k * slide + size) (hout : k = 0 ∨ (k - 1) * slide + size ≤ at_) : prg (k * slide) slide n = stP at_ size slide := by
  have hd : 0 < slide := by have := hw.2.2.1; omega
  obtain ⟨d1, d2⟩ := div_mul_le (a := at_) hd
  have hm : k * slide ≤ at_ := by
    have := Int.mul_le_mul_of_nonneg_right (show k ≤ at_ / slide by omega) (by omega : 0 ≤ slide)
    omega
  have h1 := (st_iff hw h0 k).2 ⟨hk, hm, hin⟩
  have h2 := st_pos hw h0
  have h3 : (stN at_ size slide : Int) ≤ (n : Int) := by
    rcases hout with h | h
    · have := (st_iff hw h0 (at_ / slide + 1 - (stN at_ size slide : Int))).1 ⟨by omega, by omega⟩
      omega
    · by_cases hc : (stN at_ size slide : Int) ≤ (n : Int)
      · exact hc
      · have := (st_iff hw h0 (k - 1)).1 ⟨by omega, by omega⟩
        omega
  have hN : stN at_ size slide = n := by omega
  rw [stP, stS, hN]
  congr 1
  congr 1
  omega
/-- Which numbers of windows end above a, and at most at b. -/
theorem dn_iff {a b size slide : Int} (hw : wdB size slide) (k : Int) : (dnK a size slide ≤ k ∧ k < dnK a size slide + (dnN a b size slide : Int)) ↔ (0 ≤ k ∧ a < k * slide + size ∧ k * slide + size ≤ b ∧ dnK a size slide ≤ k) := by
  obtain ⟨s1, s2, s3, s4, s5⟩ := hw
  have hd : 0 < slide := by omega
  have k0 : 0 ≤ dnK a size slide := by
    rw [dnK]
    split
    · omega
    · have : 0 ≤ (a - size) / slide := Int.ediv_nonneg (by omega) (by omega)
      omega
  have lo : dnK a size slide ≤ k → a < k * slide + size := fun h => by
    rw [dnK] at h
    split at h
    · have := Int.mul_le_mul_of_nonneg_right h (by omega : 0 ≤ slide)
      omega
    · obtain ⟨e1, e2⟩ := div_mul_le (a := a - size) hd
      have := Int.mul_le_mul_of_nonneg_right h (by omega : 0 ≤ slide)
      rw [Int.add_mul] at this
      omega
  constructor
  · rintro ⟨h1, h2⟩
    refine ⟨by omega, lo h1, ?_, h1⟩
    rw [dnN] at h2
    split at h2
    · omega
    · obtain ⟨e1, e2⟩ := div_mul_le (a := b - size) hd
      have := Int.mul_le_mul_of_nonneg_right (show k ≤ (b - size) / slide by omega) (by omega : 0 ≤ slide)
      omega
  · rintro ⟨h1, h2, h3, h4⟩
    refine ⟨h4, ?_⟩
    have hk0 := Int.mul_nonneg h1 (by omega : 0 ≤ slide)
    rw [dnN, if_neg (by omega)]
    obtain ⟨e1, e2⟩ := div_mul_le (a := b - size) hd
    have : k ≤ (b - size) / slide := by
      by_cases hc : k ≤ (b - size) / slide
      · exact hc
      · have := Int.mul_le_mul_of_nonneg_right (show (b - size) / slide + 1 ≤ k by omega) (by omega : 0 ≤ slide)
        rw [Int.add_mul] at this
        omega
    omega
theorem dn_low {a size slide : Int} (hw : wdB size slide) (k : Int) : dnK a size slide ≤ k ↔ (0 ≤ k ∧ a < k * slide + size) := by
  obtain ⟨s1, s2, s3, s4, s5⟩ := hw
  have hd : 0 < slide := by omega
  constructor
  · intro h
    rw [dnK] at h
    split at h
    · have := Int.mul_le_mul_of_nonneg_right h (by omega : 0 ≤ slide)
      omega
    · obtain ⟨e1, e2⟩ := div_mul_le (a := a - size) hd
      have : 0 ≤ (a - size) / slide := Int.ediv_nonneg (by omega) (by omega)
      have := Int.mul_le_mul_of_nonneg_right h (by omega : 0 ≤ slide)
      rw [Int.add_mul] at this
      omega
  · rintro ⟨h1, h2⟩
    rw [dnK]
    split
    · exact h1
    · obtain ⟨e1, e2⟩ := div_mul_le (a := a - size) hd
      by_cases hc : (a - size) / slide + 1 ≤ k
      · exact hc
      · have := Int.mul_le_mul_of_nonneg_right (show k ≤ (a - size) / slide by omega) (by omega : 0 ≤ slide)
        omega
theorem dn_count {a b size slide : Int} (hw : wdB size slide) (n : Nat) (h1 : n = 0 ∨ (dnK a size slide + (n : Int) - 1) * slide + size ≤ b) (h2 : b < (dnK a size slide + (n : Int)) * slide + size) : dnN a b size slide = n := by
  have k0 := ((dn_low hw (dnK a size slide)).1 (Int.le_refl _)).1
  have key := fun k => dn_iff (a := a) (b := b) hw k
  have hlo := fun k => dn_low (a := a) hw k
  by_cases hc : dnN a b size slide = n
  · exact hc
  · exfalso
    rcases Nat.lt_or_gt_of_ne hc with h | h
    · rcases h1 with h1 | h1
      · omega
      · have hk := (hlo (dnK a size slide + (n : Int) - 1)).1 (by omega)
        have := (key (dnK a size slide + (n : Int) - 1)).2 ⟨hk.1, hk.2, h1, by omega⟩
        omega
    · have := (key (dnK a size slide + (n : Int))).1 ⟨by omega, by omega⟩
      omega
theorem dnN_eq (a b size slide : Int) (hw : wdB size slide) : dnN a b size slide = (dnK b size slide - dnK a size slide).toNat := by
  have k0 := ((dn_low (a := a) hw (dnK a size slide)).1 (Int.le_refl _)).1
  rw [dnN]
  split
  · rename_i h
    rw [dnK.eq_def b, if_pos h]
    omega
  · rename_i h
    rw [dnK.eq_def b, if_neg h]
theorem dnK_mono {a b size slide : Int} (hw : wdB size slide) (h : a ≤ b) : dnK a size slide ≤ dnK b size slide := by
  have h1 := (dn_low (a := b) hw (dnK b size slide)).1 (Int.le_refl _)
  exact (dn_low hw _).2 ⟨h1.1, by omega⟩
/-- Each window is done at one time. -/
theorem dn_join {a m b size slide : Int} (hw : wdB size slide) (h1 : a ≤ m) (h2 : m ≤ b) : dnP a m size slide ++ dnP m b size slide = dnP a b size slide := by
  have g1 := dnK_mono hw h1
  have g2 := dnK_mono hw h2
  have e1 := dnN_eq a m size slide hw
  have e2 := dnN_eq m b size slide hw
  have e3 := dnN_eq a b size slide hw
  have hk : dnK m size slide * slide = dnK a size slide * slide + (dnN a m size slide : Int) * slide := by
    rw [← Int.add_mul]
    congr 1
    omega
  rw [dnP, dnP, dnP, hk, prg_app]
  congr 1
  omega
theorem stK_eq {at_ size slide : Int} (hw : wdB size slide) (h0 : 0 ≤ at_) : dnK at_ size slide = at_ / slide + 1 - (stN at_ size slide : Int) := by
  have hp := st_pos hw h0
  have h1 := (st_iff hw h0 (at_ / slide + 1 - (stN at_ size slide : Int))).1 ⟨by omega, by omega⟩
  have h2 := (dn_low (a := at_) hw _).2 ⟨h1.1, h1.2.2⟩
  have h3 := (dn_low (a := at_) hw _).1 (Int.le_refl _)
  have hm : dnK at_ size slide * slide ≤ at_ := by
    have := Int.mul_le_mul_of_nonneg_right h2 (show 0 ≤ slide by have := hw.2.2.1; omega)
    omega
  have h4 := (st_iff hw h0 _).2 ⟨h3.1, hm, h3.2⟩
  omega
theorem stN_le {at_ size slide : Int} (hw : wdB size slide) (h0 : 0 ≤ at_) : stN at_ size slide ≤ 10 := by
  obtain ⟨s1, s2, s3, s4, s5⟩ := hw
  have hd : 0 < slide := by omega
  have hr := Int.emod_nonneg at_ (by omega : slide ≠ 0)
  have hq : (size - 1 - at_ % slide) / slide < 10 := Int.ediv_lt_of_lt_mul hd (by omega)
  rw [stN]
  omega
/-- What is done from a time on, and in a size more, is what holds it. -/
theorem dn_st {at_ size slide : Int} (hw : wdB size slide) (h0 : 0 ≤ at_) : dnP at_ (at_ + size) size slide = stP at_ size slide := by
  have hk := stK_eq hw h0
  have hn : dnN at_ (at_ + size) size slide = stN at_ size slide := by
    rw [dnN, if_neg (by omega), hk, show at_ + size - size = at_ by omega]
    omega
  rw [dnP, stP, stS, hn, hk]
/-- What holds a time: of each, and of the ends. -/
theorem st_each {at_ size slide : Int} (hw : wdB size slide) (h0 : 0 ≤ at_) {i : Nat} (h : i < stN at_ size slide) : 0 ≤ stS at_ size slide + (i : Int) * slide ∧ stS at_ size slide + (i : Int) * slide ≤ at_ ∧ at_ < stS at_ size slide + (i : Int) * slide + size := by
  have := (st_iff hw h0 (at_ / slide + 1 - (stN at_ size slide : Int) + (i : Int))).1 ⟨by omega, by omega⟩
  rw [Int.add_mul] at this
  have hnn := Int.mul_nonneg this.1 (show 0 ≤ slide by have := hw.2.2.1; omega)
  rw [Int.add_mul] at hnn
  rw [stS]
  exact ⟨hnn, this.2.1, this.2.2⟩
theorem st_first {at_ size slide : Int} (hw : wdB size slide) (h0 : 0 ≤ at_) (h : slide ≤ stS at_ size slide) : stS at_ size slide - slide + size ≤ at_ := by
  have hd : 0 < slide := by have := hw.2.2.1; omega
  have hp := st_pos hw h0
  have hk : 1 ≤ at_ / slide + 1 - (stN at_ size slide : Int) := by
    rw [stS] at h
    by_cases hc : 1 ≤ at_ / slide + 1 - (stN at_ size slide : Int)
    · exact hc
    · have := Int.mul_le_mul_of_nonneg_right (show at_ / slide + 1 - (stN at_ size slide : Int) ≤ 0 by omega) (by omega : 0 ≤ slide)
      omega
  by_cases hc : stS at_ size slide - slide + size ≤ at_
  · exact hc
  · exfalso
    have h1 := (st_iff hw h0 (at_ / slide + 1 - (stN at_ size slide : Int))).1 ⟨by omega, by omega⟩
    have e : (at_ / slide + 1 - (stN at_ size slide : Int) - 1) * slide = stS at_ size slide - slide := by rw [Int.sub_mul, stS]; omega
    have := (st_iff hw h0 (at_ / slide + 1 - (stN at_ size slide : Int) - 1)).2 ⟨by omega, by rw [e]; rw [stS]; omega, by rw [e]; omega⟩
    omega
theorem st_last {at_ size slide : Int} (hw : wdB size slide) : at_ < stS at_ size slide + ((stN at_ size slide : Int) - 1) * slide + slide := by
  have hd : 0 < slide := by have := hw.2.2.1; omega
  obtain ⟨d1, d2⟩ := div_mul_le (a := at_) hd
  have e : stS at_ size slide + ((stN at_ size slide : Int) - 1) * slide = at_ / slide * slide := by
    rw [stS, ← Int.add_mul]
    congr 1
    omega
  rw [e]
  exact d2
/-- What is done ends at most at the time. -/
theorem dn_each {a b size slide : Int} (hw : wdB size slide) {i : Nat} (h : i < dnN a b size slide) : dnK a size slide * slide + (i : Int) * slide + size ≤ b := by
  have := ((dn_iff (a := a) (b := b) hw (dnK a size slide + (i : Int))).1 ⟨by omega, by omega⟩).2.2.1
  rw [Int.add_mul] at this
  exact this
/-- Of a size that is so many slides. -/
theorem st_many {at_ slide many : Int} (hs : 1 ≤ slide) (h0 : 0 ≤ at_) (hm : 1 ≤ many) : (stN at_ (slide * many) slide : Int) = min (at_ / slide + 1) many := by
  have hd : 0 < slide := by omega
  have hr0 := Int.emod_nonneg at_ (by omega : slide ≠ 0)
  have hr1 := Int.emod_lt_of_pos at_ hd
  have q0 : 0 ≤ at_ / slide := Int.ediv_nonneg h0 (by omega)
  have e : (slide * many - 1 - at_ % slide) / slide = many - 1 := by
    obtain ⟨e1, e2⟩ := div_mul_le (a := slide * many - 1 - at_ % slide) hd
    generalize (slide * many - 1 - at_ % slide) / slide = V at *
    have hc : slide * many = many * slide := Int.mul_comm ..
    rw [hc] at e1 e2
    have u1 : V < many := by
      by_cases hh : V < many
      · exact hh
      · have := Int.mul_le_mul_of_nonneg_right (show many ≤ V by omega) (by omega : 0 ≤ slide)
        omega
    have u2 : many - 2 < V := by
      by_cases hh : many - 2 < V
      · exact hh
      · have := Int.mul_le_mul_of_nonneg_right (show V ≤ many - 2 by omega) (by omega : 0 ≤ slide)
        rw [Int.sub_mul] at this
        omega
    omega
  rw [stN, e]
  omega
end Go.Proofs.YticdcnbeemkapaaGreatDoor
namespace Go.Proofs.YticdcnbeemkapaaGreatDoor
open Go.RowKit
set_option linter.unusedVariables false

/-- An aggregate as plain data. -/
structure Ag where
  what : ByteArray
  arg : Ex
  name : ByteArray
/-- A query as plain data. -/
structure Qy where
  frm : ByteArray
  whr : Ex
  cols : List Ex
  names : List ByteArray
  group : List ByteArray
  size : Int
  slide : Int
  aggs : List Ag
abbrev Cl := ByteArray × Int
/-- Is an expression nothing? -/
def noE : Ex → Bool
  | .node op nm vt vn vs _ l => decide (op.data.toList = []) && (decide (nm.data.toList = []) && (decide (vt = 0) && (decide (vn = 0) && (decide (vs.data.toList = []) && decide (l.length = 0)))))
/-- One by one: the columns of expressions. -/
def plCols (zs : List Cl) : List Cl → List Ex → List ByteArray → List Cl × Int
  | out, [], _ => (out, 0)
  | out, x :: xs, ns => if (ofP zs x).2.1 ≠ 0 then ([], (ofP zs x).2.1) else plCols zs (out ++ [(ns.headD ⟨#[]⟩, (ofP zs x).1)]) xs ns.tail
/-- One by one: the columns of a group. -/
def plGroup (zs : List Cl) : List Cl → List ByteArray → List Cl × Int
  | out, [] => (out, 0)
  | out, g :: gs => if findN g.data.toList zs < 0 then ([], 5) else if 0 ≤ findN g.data.toList out then ([], 7) else plGroup zs (out ++ [zs[(findN g.data.toList zs).toNat]?.getD (⟨#[]⟩, 0)]) gs
/-- What is wrong with an aggregate, and its type. -/
def agT (zs : List Cl) (a : Ag) : Int × Int :=
  if isAg a.what.data.toList = false then (0, 2)
  else if a.what.data.toList = [99, 111, 117, 110, 116] then (if noE a.arg = true then (1, 0) else (0, 3))
  else if (ofP zs a.arg).2.1 ≠ 0 then (0, (ofP zs a.arg).2.1)
  else if a.what.data.toList = [115, 117, 109] ∧ (ofP zs a.arg).1 ≠ 1 then (0, 8)
  else ((ofP zs a.arg).1, 0)
def plAggs (zs : List Cl) : List Cl → List Ag → List Cl × Int
  | out, [] => (out, 0)
  | out, a :: l => if (agT zs a).2 ≠ 0 then ([], (agT zs a).2) else plAggs zs (out ++ [(a.name, (agT zs a).1)]) l
/-- What is wrong ahead of the expressions. -/
def plHead (zs : List Cl) (q : Qy) : Int :=
  if schE zs ≠ 0 then schE zs
  else if q.size = 0 ∧ (q.slide ≠ 0 ∨ q.aggs.length ≠ 0 ∨ q.group.length ≠ 0 ∨ q.names.length ≠ q.cols.length) then 3
  else if q.size ≠ 0 ∧ (q.cols.length ≠ 0 ∨ q.names.length ≠ 0) then 3
  else if q.size ≠ 0 ∧ ¬ wdB q.size q.slide then 1
  else if q.cols.length + q.group.length + q.aggs.length = 0 then 5
  else if 6 < q.cols.length + q.group.length + q.aggs.length then 4
  else 0
def plWhere (zs : List Cl) (x : Ex) : Int := if noE x = true then 0 else if (ofP zs x).2.1 ≠ 0 then (ofP zs x).2.1 else if (ofP zs x).1 ≠ 2 then 8 else 0
/-- The columns of what comes of a query; the fault. -/
def planP (zs : List Cl) (q : Qy) : List Cl × Int :=
  if plHead zs q ≠ 0 then ([], plHead zs q)
  else if plWhere zs q.whr ≠ 0 then ([], plWhere zs q.whr)
  else
    let a := plCols zs [] q.cols q.names
    if a.2 ≠ 0 then ([], a.2) else
    let b := plGroup zs a.1 q.group
    if b.2 ≠ 0 then ([], b.2) else
    let c := plAggs zs b.1 q.aggs
    if c.2 ≠ 0 then ([], c.2) else
    if schE c.1 ≠ 0 then ([], schE c.1) else (c.1, 0)
end Go.Proofs.YticdcnbeemkapaaGreatDoor
namespace Go.Proofs.YticdcnbeemkapaaGreatDoor
set_option linter.unusedVariables false

/-- What the program reads of words: the expression, and what is left. -/
def readE (ts : List Tok) : Option Ex × List Tok := uE (ts.length * 8 + 8) 0 ts
/-- Where the next word stands; of none: the end. -/
def placeT (ts : List Tok) (en : Nat) : Nat := match ts with
  | [] => en
  | t :: _ => t.2.2
/-- What Parse says of a text: the expression, the fault, and where. -/
def parseP (l : List UInt8) : Ex × Int × Nat :=
  if (lexAll l).2.1 ≠ 0 then (ex0, (lexAll l).2.1, (lexAll l).2.2)
  else match readE (lexAll l).1 with
    | (some x, []) => if tgB x = true then (ex0, 4, 0) else (x, 0, 0)
    | (_, r) => (ex0, 2, placeT r l.length)
end Go.Proofs.YticdcnbeemkapaaGreatDoor
