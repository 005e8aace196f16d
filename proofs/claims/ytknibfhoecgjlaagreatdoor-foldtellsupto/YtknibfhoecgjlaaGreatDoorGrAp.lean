/-
  EvEv, FdW, KdOps, in one text.
-/
import Derived.Test.YtknibfhoecgjlaaGreatDoorQEvCn
import Derived.Test.YtknibfhoecgjlaaGreatDoorQEvCo
import Derived.Test.YtknibfhoecgjlaaGreatDoorQEvCq
import Derived.Test.YtknibfhoecgjlaaGreatDoorGrAm
import Derived.Test.YtknibfhoecgjlaaGreatDoorGrAo
import Derived.Test.YtknibfhoecgjlaaGreatDoorQTreeSm
import Derived.Test.YtknibfhoecgjlaaGreatDoorGrAj
import Derived.Test.YtknibfhoecgjlaaGreatDoorGrAg
import Derived.Test.YtknibfhoecgjlaaGreatDoorGrAd
import Derived.Deep.QuietTactic
import Derived.BigQuiet
import Derived.WalkSmall
namespace Go.Proofs.YtknibfhoecgjlaaGreatDoor
open Go.RowKit Go.BigFrame
set_option linter.unusedVariables false

theorem rules_form : ∀ r ∈ kdRules, (kdCnt r = 3 → r.1 = [105, 102]) ∧ (kdCnt r = 1 → r.1 ≠ [97, 110, 100] ∧ r.1 ≠ [111, 114] ∧ r.1 ≠ [105, 102]) ∧ (kdCnt r = 2 → r.1 ≠ [105, 102]) := by decide
theorem come_any {zs : List (ByteArray × Int)} {b off c rb ro rc : Nat} {rs : List V3} (hn : zs.length ≤ 6) (hrow : RowR zs rs) : ∀ (x : Ex) (d : Nat), (∀ q ∈ x.pre d, nodeE q.1 = 0) → (∀ q ∈ x.pre d, inB q.1.vn) → (tyP zs x).2.1 = 0 → ComeAt zs b off c rb ro rc rs x := by
  refine Ex.ind fun op nm vt vn vs pos l ih d hpre hin ht => ?_
  by_cases hleaf : op.data.toList = [118, 97, 108] ∨ op.data.toList = [99, 111, 108]
  · exact come_leaf zs b off c rb ro rc rs hn hrow op nm vs vt vn pos l ht hleaf
  · have h1 : op.data.toList ≠ [118, 97, 108] := fun h => hleaf (.inl h)
    have h2 : op.data.toList ≠ [99, 111, 108] := fun h => hleaf (.inr h)
    rw [tyP_op h1 h2] at ht
    by_cases ht0 : (tysP zs l).2.1 = 0
    · rw [if_neg (fun hh => hh ht0)] at ht
      obtain ⟨hm, hall⟩ := tysP_ok ht0
      by_cases hr0 : (ruleP op.data.toList (tysP zs l).1).2 = 0
      · have hsub : ∀ y ∈ l, ∀ q ∈ y.pre (d + 1), q ∈ (Ex.node op nm vt vn vs pos l).pre d := fun y hy q hq => by
          rw [Ex.pre]; exact List.mem_cons_of_mem _ (pres_mem hy q hq)
        have hI : ∀ y ∈ l, ComeAt zs b off c rb ro rc rs y := fun y hy => ih y hy (d + 1) (fun q hq => hpre q (hsub y hy q hq)) (fun q hq => hin q (hsub y hy q hq)) (hall y hy)
        have hC : ∀ y ∈ l, comes (tyP zs y).1 (cmP zs rs y) := fun y hy => cm_comes hrow y (d + 1) (fun q hq => hpre q (hsub y hy q hq)) (fun q hq => hin q (hsub y hy q hq)) (hall y hy)
        rw [hm] at hr0
        obtain ⟨r, hf, hlen, _, _⟩ := ruleP_in (op := op.data.toList) (ts := l.map fun y => (tyP zs y).1) (T := (ruleP op.data.toList (l.map fun y => (tyP zs y).1)).1) (Prod.ext rfl hr0)
        rw [List.length_map] at hlen
        obtain ⟨hmem, he⟩ := kdFind_mem hf
        obtain ⟨f3, f1, f2⟩ := rules_form r hmem
        obtain ⟨c1, c3⟩ := kdCnt_ok r hmem
        rw [he] at f1 f2 f3
        match l, hlen, hI, hC with
        | [], hlen, _, _ => simp at hlen; omega
        | [x], hlen, hI, hC =>
          obtain ⟨g1, g2, g3⟩ := f1 hlen.symm
          exact come_1 zs b off c rb ro rc rs op nm vs vt vn pos x h1 h2 g1 g2 g3 (hI x (by simp)) _ (hC x (by simp))
        | [x, y], hlen, hI, hC =>
          exact come_2 zs b off c rb ro rc rs op nm vs vt vn pos x y h1 h2 (f2 hlen.symm) (hI x (by simp)) _ (hC x (by simp)) (hI y (by simp)) _ (hC y (by simp))
        | [x, y, z], hlen, hI, hC =>
          exact come_3 zs b off c rb ro rc rs op nm vs vt vn pos x y z h1 h2 (f3 hlen.symm) (hI x (by simp)) _ (hC x (by simp)) (hI y (by simp)) _ (hC y (by simp)) (hI z (by simp)) _ (hC z (by simp))
        | _ :: _ :: _ :: _ :: _, hlen, _, _ => simp at hlen; omega
      · rw [if_pos hr0] at ht
        exact absurd ht hr0
    · rw [if_pos ht0] at ht
      exact absurd ht ht0
/-- What Eval says. -/
def evP (zs : List (ByteArray × Int)) (rs : List V3) (x : Ex) : V3 × Int := if (ofP zs x).2.1 ≠ 0 then (noV, (ofP zs x).2.1) else if rowChk zs rs ≠ 0 then (noV, rowChk zs rs) else cmP zs rs x
theorem rcGo_ok : ∀ {zs : List (ByteArray × Int)} {rs : List V3}, rs.length = zs.length → rcGo zs rs = 0 → ∀ k (h : k < zs.length) (h2 : k < rs.length), rs[k].1 = zs[k].2 ∧ chk rs[k].1 rs[k].2.1 rs[k].2.2.data.toList = 0
  | z :: zs, r :: rs, hl, h, k, h1, h2 => by
    rw [rcGo] at h
    by_cases hc : chk r.1 r.2.1 r.2.2.data.toList = 0
    · rw [if_neg (fun hh => hh hc)] at h
      by_cases ht : r.1 = z.2
      · rw [if_neg (fun hh => hh ht)] at h
        match k, h1, h2 with
        | 0, _, _ => exact ⟨ht, hc⟩
        | k + 1, h1, h2 => exact rcGo_ok (by simpa using hl) h k (by simpa using h1) (by simpa using h2)
      · rw [if_pos ht] at h
        exact absurd h (by decide)
    · rw [if_pos hc] at h
      exact absurd h hc
  | [], _, _, _, k, h1, _ => absurd h1 (by simp)
  | _ :: _, [], hl, _, _, _, _ => by simp at hl
theorem rowR_of {zs : List (ByteArray × Int)} {rs : List V3} (h : rowChk zs rs = 0) (hb : SizedV rs) : RowR zs rs ∧ schE zs = 0 := by
  rw [rowChk] at h
  by_cases h0 : schE zs = 0
  · rw [if_neg (fun hh => hh h0)] at h
    by_cases hl : rs.length = zs.length
    · rw [if_neg (fun hh => hh hl)] at h
      refine ⟨⟨hl, fun k h1 h2 => ?_⟩, h0⟩
      obtain ⟨g1, g2⟩ := rcGo_ok hl h k h1 h2
      exact ⟨g1, g2, (hb _ (List.getElem_mem h2)).2⟩
    · rw [if_pos hl] at h
      exact absurd h (by decide)
  · rw [if_pos h0] at h
    exact absurd h h0
/-- The numbers of an expression are a machine's. -/
def ExB (x : Ex) : Prop := ∀ q ∈ x.pre 1, inB q.1.vn
theorem cm_in {zs : List (ByteArray × Int)} {rs : List V3} {x : Ex} (hx : ExB x) (hsz : SizedV rs) (h1 : (ofP zs x).2.1 = 0) (h2 : rowChk zs rs = 0) : comes (ofP zs x).1 (cmP zs rs x) ∧ ckP x = 0 ∧ schE zs = 0 ∧ tyP zs x = ofP zs x := by
  obtain ⟨hrow, hs⟩ := rowR_of h2 hsz
  have hck : ckP x = 0 := by
    by_cases hc : ckP x = 0
    · exact hc
    · rw [ofP, if_pos hc] at h1
      exact absurd h1 hc
  have hty : ofP zs x = tyP zs x := by rw [ofP, if_neg (fun hh => hh hck), if_neg (fun hh => hh hs)]
  rw [hty] at h1 ⊢
  exact ⟨cm_comes hrow x 1 (ckP_zero hck).2 hx h1, hck, hs, rfl⟩
set_option maxHeartbeats 4000000 in
set_option maxRecDepth 20000 in
theorem eval_any (x : Ex) (lo : Nat → Prop) (v vl vr : Value) (zs : List (ByteArray × Int)) (rs : List V3) (w : World) (henv : KEnv w) (hx : ExIn w lo v x) (hsz : (x.pre 1).length ≤ 1048576) (hxb : ExB x) (hcv : ColsV w vl zs) (hrv : ValsV w vr rs) (hrs : SizedV rs) (t k : Int) (s : ByteArray) (e : Int) (hR : evP zs rs x = ((t, k, s), e)) :
    Calls Tryz.prog 18 #[v, vl, vr] w fun e' w' => e' = .returned (.tuple #[.agg #[.int .i64 t, .int .i64 k, .string s], errV e]) ∧ Below w.heap.size w w' := by
  obtain ⟨o1, n1, t1, k1, s1, p1, m1, c1, a1, rfl⟩ := hx.agg
  obtain ⟨b1, box⟩ := come_box w #[.string o1, .string n1, .int .i64 t1, .int .i64 k1, .string s1, .slice p1 m1 c1, .int .i64 a1]
  obtain ⟨T, H, P, hof⟩ : ∃ T H P, ofP zs x = (T, H, P) := ⟨_, _, _, rfl⟩
  have cO := of_any x lo _ vl zs _ (henv.on b1) (hx.on b1) hsz (hcv.on b1) T H P hof
  unfold evP at hR
  have hci := cm_in (zs := zs) hxb hrs
  rw [hof] at hR hci
  simp only at hR hci
  by_cases hH : H = 0
  · subst hH
    rw [if_neg (by simp)] at hR
    have cK := fun W (hb : Below w.heap.size w W) => rowCheck_v vl vr zs rs W (henv.on hb).tw (hcv.on hb) (hrv.on hb) hrs
    by_cases hk : rowChk zs rs = 0
    · rw [if_neg (fun hh => hh hk)] at hR
      rw [hk, show errV 0 = .nilIface from rfl] at cK
      obtain ⟨hcm, hck, hs, hty⟩ := hci rfl hk
      obtain ⟨hrow, _⟩ := rowR_of hk hrs
      obtain ⟨hz1, hz2, _⟩ := schE_zero hs
      obtain ⟨q, c, rfl, hcols⟩ := id hcv
      obtain ⟨q2, c2, rfl, hrm, hvals⟩ := id hrv
      rcases hcols with h | ⟨b, off, rfl, _, _, hco⟩
      · exact absurd h hz1
      rcases hvals with h | ⟨rb, ro, rfl, hrl, hrc⟩
      · exact absurd (hrow.1 ▸ h) hz1
      have cC := fun W (hb : Below w.heap.size w W) => come_any (c := c) (rc := c2) (b := b) (off := off) (rb := rb) (ro := ro) hz2 hrow x 1 (ckP_zero hck).2 hxb (by rw [hty]) lo _ W t k s e (henv.on hb).rules (hx.on hb) (hco.on hb) (RowAt.on ⟨hrl, hrc⟩ hb) hR
      have hS : s.size ≤ 40 := by
        rcases hcm with h | h
        · rw [hR] at h
          have := chk_size h.2.2.1
          simpa using this
        · rw [hR] at h
          simp only [noV, Prod.mk.injEq] at h
          rw [h.1.2.2]
          decide
      have cF := fresh_any t k s
      clear hci hcm hck hs hty hrow hz1 hz2 hco hrc hR hof hxb hsz henv hx hcv hrv hk
      go_enter Tryz.func18, Tryz.ntmps18
      go_wp2_with fail
      refine cO.mono ?_
      rintro e' w1 ⟨rfl, b2⟩
      have B2 := b2.mono (show w.heap.size + 2 ≤ _ by simp)
      have B3 := B2.alloc (box w1 B2).2.2.1 (.cells #[.int .i64 0, .int .i64 P] 59)
      have cK3 := cK _ (box _ B3).2.2.2
      have hw1 := (box w1 B2).2.2.1
      clear cO cK b2
      go_wp2_with fail
      refine cK3.mono ?_
      rintro e' w3 ⟨rfl, b4⟩
      have B4 := B3.trans (b4.mono (by simp; omega))
      have cC4 := cC _ (box _ B4).2.2.2
      obtain ⟨hB, _, hl4, _⟩ := box w3 B4
      have g0 : w3.cell? ⟨w.heap.size, 0, none⟩ = some (.string o1) := hB 0
      have g1 : w3.cell? ⟨w.heap.size, 1, none⟩ = some (.string n1) := hB 1
      have g2 : w3.cell? ⟨w.heap.size, 2, none⟩ = some (.int .i64 t1) := hB 2
      have g3 : w3.cell? ⟨w.heap.size, 3, none⟩ = some (.int .i64 k1) := hB 3
      have g4 : w3.cell? ⟨w.heap.size, 4, none⟩ = some (.string s1) := hB 4
      have g5 : w3.cell? ⟨w.heap.size, 5, none⟩ = some (.slice p1 m1 c1) := hB 5
      have g6 : w3.cell? ⟨w.heap.size, 6, none⟩ = some (.int .i64 a1) := hB 6
      have hl5 : w.heap.size < w3.heap.size := by omega
      clear cK3 cC b4 hB
      go_wp2_with fail
      refine cC4.mono ?_
      rintro e' w5 ⟨rfl, b6⟩
      have B6 := B4.trans (b6.mono hl4)
      have hl7 := (box w5 B6).2.2.1
      have B7 := B6.alloc hl7 (.cells #[.int .i64 t, .int .i64 k, .string s] 23)
      have cF7 := cF (w5.alloc (.cells #[.int .i64 t, .int .i64 k, .string s] 23)) hS
      clear cC4 cF b6 g0 g1 g2 g3 g4 g5 g6
      go_wp2_with fail
      refine cF7.mono ?_
      rintro e' w7 ⟨rfl, b8⟩
      obtain ⟨_, ⟨f0, f1, f2, ff⟩, hl8, b9⟩ := box w7 (B7.trans (b8.mono (by simp; omega)))
      have hl9 : w.heap.size + 1 < w7.heap.size := by omega
      clear cF7 b8 B2 B3 B4 B6 B7
      go_wp2
      refine bodyPost_ret (v := .tuple #[.agg #[.int .i64 t, .int .i64 k, .string s], errV e]) (by simp [results, Tryz.results18, go_sem, World.cell?_setCell_other, World.cell?_setCell_same, f0, f1, f2]) rfl ⟨rfl, ?_⟩
      exact below3 b9 (by omega) _ _ _
    · rw [if_pos hk] at hR
      simp only [noV, Prod.mk.injEq] at hR
      obtain ⟨⟨rfl, rfl, rfl⟩, rfl⟩ := hR
      obtain ⟨K, hK⟩ : ∃ K, rowChk zs rs = K := ⟨_, rfl⟩
      rw [hK] at hk cK ⊢
      have cK2 : ∀ W, Below w.heap.size w W → Calls Tryz.prog 37 #[vl, vr] W fun e' w' => e' = .returned (.iface 57 (.int .i64 K)) ∧ Below W.heap.size W w' := fun W hb => (cK W hb).mono fun e' w' h => by rw [errV, if_neg hk] at h; exact h
      rw [errV, if_neg hk]
      clear hci hK cK hof hxb hsz henv hx hcv hrv hk
      go_enter Tryz.func18, Tryz.ntmps18
      go_wp2_with fail
      refine cO.mono ?_
      rintro e' w1 ⟨rfl, b2⟩
      have B2 := b2.mono (show w.heap.size + 2 ≤ _ by simp)
      have B3 := B2.alloc (box w1 B2).2.2.1 (.cells #[.int .i64 0, .int .i64 P] 59)
      have cK3 := cK2 _ (box _ B3).2.2.2
      have hw1 := (box w1 B2).2.2.1
      clear cO cK2 b2
      go_wp2_with fail
      refine cK3.mono ?_
      rintro e' w3 ⟨rfl, b4⟩
      obtain ⟨_, ⟨f0, f1, f2, ff⟩, hl8, b9⟩ := box w3 (B3.trans (b4.mono (by simp; omega)))
      have hl9 : w.heap.size + 1 < w3.heap.size := by omega
      clear cK3 b4 B2 B3
      go_wp2
      refine bodyPost_ret (v := .tuple #[.agg #[.int .i64 0, .int .i64 0, .string ⟨#[]⟩], .iface 57 (.int .i64 K)]) (by simp [results, Tryz.results18, go_sem, World.cell?_setCell_other, World.cell?_setCell_same, f0, f1, f2]) rfl ⟨rfl, ?_⟩
      exact below3 b9 (by omega) _ _ _
  · rw [if_pos hH] at hR
    simp only [noV, Prod.mk.injEq] at hR
    obtain ⟨⟨rfl, rfl, rfl⟩, rfl⟩ := hR
    rw [errV, if_neg hH]
    have hHb : (H != 0) = true := by simpa using hH
    clear hci hof hxb hsz henv hx hcv hrv hH
    go_enter Tryz.func18, Tryz.ntmps18
    go_wp2_with fail
    refine cO.mono ?_
    rintro e' w1 ⟨rfl, b2⟩
    obtain ⟨_, ⟨f0, f1, f2, ff⟩, hl8, b9⟩ := box w1 (b2.mono (by simp))
    have hl9 : w.heap.size + 1 < w1.heap.size := by omega
    clear cO b2
    go_wp2
    go_region
    all_goals
      go_wp2
      refine bodyPost_ret (v := .tuple #[.agg #[.int .i64 0, .int .i64 0, .string ⟨#[]⟩], .iface 57 (.int .i64 H)]) (by simp [results, Tryz.results18, go_sem, (res3 f0 f1 f2 hl9 (.int .i64 0) (.int .i64 0) (.string ⟨#[]⟩) (.cells #[.int .i64 H, .int .i64 P] 59)).1, (res3 f0 f1 f2 hl9 (.int .i64 0) (.int .i64 0) (.string ⟨#[]⟩) (.cells #[.int .i64 H, .int .i64 P] 59)).2.1, (res3 f0 f1 f2 hl9 (.int .i64 0) (.int .i64 0) (.string ⟨#[]⟩) (.cells #[.int .i64 H, .int .i64 P] 59)).2.2]) rfl ⟨rfl, ?_⟩
      exact Below.drew ((below3 b9 (by omega) _ _ _).alloc (by simp [World.setCell]; omega) _)
end Go.Proofs.YtknibfhoecgjlaaGreatDoor
namespace Go.Proofs.YtknibfhoecgjlaaGreatDoor
open Go.RowKit
set_option linter.unusedVariables false
--BEGIN
mutual
theorem sameE_refl (b : Bool) : ∀ x : Ex, sameE b x x = true
  | .node o n t k s p l => by
    rw [sameE, sameL_refl b l]
    simp
theorem sameL_refl (b : Bool) : ∀ l : List Ex, sameL b l l = true
  | [] => by rw [sameL]
  | x :: xs => by rw [sameL, sameE_refl b x, sameL_refl b xs]; rfl
end
theorem cols_mem {y : List UInt8} {z : Ex} : ∀ {l : List Ex}, z ∈ l → y ∈ colsP z → y ∈ colssP l
  | x :: xs, h, hy => by
    rw [colssP]
    rcases List.mem_cons.1 h with rfl | h
    · exact List.mem_append_left _ hy
    · exact List.mem_append_right _ (cols_mem h hy)
theorem mem_cols {y : List UInt8} : ∀ {l : List Ex}, y ∈ colssP l → ∃ z ∈ l, y ∈ colsP z
  | [], h => by rw [colssP] at h; simp at h
  | x :: xs, h => by
    rw [colssP] at h
    rcases List.mem_append.1 h with h | h
    · exact ⟨x, List.mem_cons_self .., h⟩
    · obtain ⟨z, hz, hy⟩ := mem_cols h
      exact ⟨z, List.mem_cons_of_mem _ hz, hy⟩
theorem cols_part {y : List UInt8} {x z : Ex} (hz : z ∈ x.args) (hy : y ∈ colsP z) : y ∈ colsP x := by
  cases x with
  | node op nm vt vn vs pos l =>
    rw [colsP]
    exact List.mem_append_right _ (cols_mem (show z ∈ l from hz) hy)
theorem ins_cols (op nm : ByteArray) (vt vn : Int) (vs : ByteArray) (pos : Int) (l : List Ex) {y : List UInt8} (h : y ∈ colsP (insP (.node op nm vt vn vs pos l))) : y ∈ colsP (.node op nm vt vn vs pos l) := by
  rcases ins_ways op nm vt vn vs pos l with ⟨v, _, e⟩ | ⟨f, r, z, rfl, _, _, hz, e⟩ | ⟨f, r, z, rfl, _, _, hz, e⟩ | e
  · rw [e, colsP, colssP, if_neg (by decide)] at h
    simp at h
  · rw [e] at h
    exact cols_part (x := .node op nm vt vn vs pos (f :: r)) (List.mem_of_getElem? hz) h
  · rw [e] at h
    exact cols_part (x := .node op nm vt vn vs pos (f :: r)) (List.mem_cons_self (a := f) (l := r)) (cols_part (List.mem_of_getElem? hz) h)
  · rw [e] at h; exact h
/-- It has no other columns. -/
theorem fd_cols : ∀ (x : Ex) (y : List UInt8), y ∈ colsP (fdP x) → y ∈ colsP x := by
  refine Ex.ind fun op nm vt vn vs pos l ih y h => ?_
  rw [fdP_eq] at h
  have h := ins_cols _ _ _ _ _ _ _ h
  rw [colsP] at h ⊢
  rcases List.mem_append.1 h with h | h
  · exact List.mem_append_left _ h
  · obtain ⟨z, hz, hy⟩ := mem_cols h
    obtain ⟨z', hz', rfl⟩ := List.mem_map.1 hz
    exact List.mem_append_right _ (cols_mem hz' (ih z' hz' y hy))
/-- A name put into a list that rises. -/
def insN (n : List UInt8) : List (List UInt8) → List (List UInt8)
  | [] => [n]
  | a :: l => if a = n then a :: l else if a ≤ n then a :: insN n l else n :: a :: l
theorem insN_mem (n y : List UInt8) : ∀ l, y ∈ insN n l ↔ y = n ∨ y ∈ l
  | [] => by simp [insN]
  | a :: l => by
    rw [insN]
    split
    · rename_i h; subst h; simp
    · split
      · rw [List.mem_cons, insN_mem n y l, List.mem_cons]
        constructor
        · rintro (h | h | h)
          · exact .inr (.inl h)
          · exact .inl h
          · exact .inr (.inr h)
        · rintro (h | h | h)
          · exact .inr (.inl h)
          · exact .inl h
          · exact .inr (.inr h)
      · simp
theorem insN_up (n : List UInt8) : ∀ l : List (List UInt8), l.Pairwise (fun a b => a ≤ b ∧ a ≠ b) → (insN n l).Pairwise (fun a b => a ≤ b ∧ a ≠ b)
  | [], _ => by simp [insN]
  | a :: l, h => by
    obtain ⟨h1, h2⟩ := List.pairwise_cons.1 h
    rw [insN]
    split
    · exact h
    · rename_i hne
      split
      · rename_i hle
        refine List.pairwise_cons.2 ⟨fun y hy => ?_, insN_up n l h2⟩
        rcases (insN_mem n y l).1 hy with rfl | hy
        · exact ⟨hle, hne⟩
        · exact h1 y hy
      · rename_i hle
        have hna : n ≤ a := (List.le_total a n).resolve_left hle
        refine List.pairwise_cons.2 ⟨fun y hy => ?_, h⟩
        rcases List.mem_cons.1 hy with rfl | hy
        · exact ⟨hna, fun e => hne e.symm⟩
        · obtain ⟨h3, h4⟩ := h1 y hy
          refine ⟨List.le_trans hna h3, fun e => ?_⟩
          subst e
          exact h4 (List.le_antisymm h3 hna)
/-- The names of the columns in their order, each once. -/
def usP (x : Ex) : List (List UInt8) := (colsP x).foldl (fun l n => insN n l) []
theorem us_gen : ∀ (ns l : List (List UInt8)), l.Pairwise (fun a b => a ≤ b ∧ a ≠ b) → (ns.foldl (fun l n => insN n l) l).Pairwise (fun a b => a ≤ b ∧ a ≠ b) ∧ ∀ y, y ∈ ns.foldl (fun l n => insN n l) l ↔ y ∈ l ∨ y ∈ ns
  | [], l, h => ⟨h, fun y => by simp⟩
  | n :: ns, l, h => by
    rw [List.foldl_cons]
    obtain ⟨h1, h2⟩ := us_gen ns (insN n l) (insN_up n l h)
    refine ⟨h1, fun y => ?_⟩
    rw [h2, insN_mem, List.mem_cons]
    constructor
    · rintro ((h | h) | h)
      · exact .inr (.inl h)
      · exact .inl h
      · exact .inr (.inr h)
    · rintro (h | h | h)
      · exact .inl (.inr h)
      · exact .inl (.inl h)
      · exact .inr h
theorem us_nmS (x : Ex) : NmS (usP x) x := by
  obtain ⟨h1, h2⟩ := us_gen (colsP x) [] List.Pairwise.nil
  exact ⟨h1, fun y => by rw [usP, h2]; simp⟩
theorem up_unique {a b : List (List UInt8)} (ha : a.Pairwise (fun a b => a ≤ b ∧ a ≠ b)) (hb : b.Pairwise (fun a b => a ≤ b ∧ a ≠ b)) (h : ∀ y, y ∈ a ↔ y ∈ b) : a = b := by
  have hp : a.Perm b := (List.perm_ext_iff_of_nodup (ha.imp fun h => h.2) (hb.imp fun h => h.2)).2 h
  exact List.Perm.eq_of_pairwise (le := fun a b => a ≤ b) (fun a b _ _ h1 h2 => List.le_antisymm h1 h2) (ha.imp fun h => h.1) (hb.imp fun h => h.1) hp
theorem nmS_eq {ss : List (List UInt8)} {x : Ex} (h : NmS ss x) : ss = usP x := up_unique h.1 (us_nmS x).1 fun y => by rw [h.2, (us_nmS x).2]
theorem ck_lims {x : Ex} (h : ckP x = 0) : x.size ≤ 200 ∧ x.deep ≤ 30 := by
  have h1 := (ckP_zero h).1
  rw [tg_small, Ex.small] at h1
  simp only [Bool.not_eq_false', Bool.and_eq_true, decide_eq_true_eq] at h1
  exact h1
theorem ck_of {x : Ex} (h1 : x.size ≤ 200) (h2 : x.deep ≤ 30) (h3 : AllN (fun q => nodeE q = 0) x) : ckP x = 0 := by
  rw [ckP, tg_small, if_neg (by rw [Ex.small]; simp; omega)]
  have := (allN_pre x 1).2 h3
  have key : ∀ l : List (Ex × Nat), (∀ q ∈ l, nodeE q.1 = 0) → (foldP fck 0 l).1 = 0 := fun l => by
    induction l with
    | nil => intro _; rfl
    | cons q l ih =>
      intro h
      rw [foldP]
      have h0 := h q (List.mem_cons_self ..)
      have e : fck 0 q.1 q.2 = (0, true) := by rw [fck, h0]; rfl
      rw [e]
      exact ih fun q hq => h q (List.mem_cons_of_mem _ hq)
  exact key _ this
/-- Made short it is right as a whole, over the same columns. -/
theorem fd_of {zs : List (ByteArray × Int)} {x : Ex} {T P : Int} (h : ofP zs x = (T, 0, P)) (hb : ExB x) : ofP zs (fdP x) = (T, 0, 0) ∧ ckP (fdP x) = 0 ∧ ExB (fdP x) := by
  have h0 : (ofP zs x).2.1 = 0 := by rw [h]
  have hck : ckP x = 0 := by
    by_cases hc : ckP x = 0
    · exact hc
    · rw [ofP, if_pos hc] at h0; exact absurd h0 hc
  have hs : schE zs = 0 := by
    by_cases hc : schE zs = 0
    · exact hc
    · rw [ofP, if_neg (fun hh => hh hck), if_pos hc] at h0; exact absurd h0 hc
  rw [ofP, if_neg (fun hh => hh hck), if_neg (fun hh => hh hs)] at h
  have hr : Rg zs T x := ⟨(allN_pre x 1).1 (ckP_zero hck).2, (allN_pre x 1).1 hb, by rw [ty_zero (by rw [h]), h]⟩
  obtain ⟨r1, -⟩ := fd_right x T hr
  have hz := fd_size x
  obtain ⟨s1, s2⟩ := ck_lims hck
  have hc' := ck_of (x := fdP x) (by omega) (by omega) r1.nd
  exact ⟨by rw [ofP, if_neg (fun hh => hh hc'), if_neg (fun hh => hh hs), r1.ty], hc', (allN_pre _ 1).2 r1.bd⟩
--END
end Go.Proofs.YtknibfhoecgjlaaGreatDoor
namespace Go.Proofs.YtknibfhoecgjlaaGreatDoor
open Go.RowKit Go.BigFrame
set_option linter.unusedVariables false

def opsS : List ByteArray := kdRules.map fun r => ⟨r.1.toArray⟩
/-- Texts one behind the other. -/
def StrsAt (w : World) (p : Option Addr) (ss : List ByteArray) : Prop := ∃ b off, p = some ⟨b, off, none⟩ ∧ b < w.heap.size ∧ ∀ j (h : j < ss.length), w.cell? ⟨b, off + j, none⟩ = some (.string ss[j])
theorem StrsAt.on {w w' : World} {p : Option Addr} {ss : List ByteArray} (h : StrsAt w p ss) (hb : Below w.heap.size w w') : StrsAt w' p ss := by
  obtain ⟨b, off, e, hl, h⟩ := h
  exact ⟨b, off, e, by have := hb.size; omega, fun j hj => by rw [hb.cell (p := ⟨b, _, none⟩) hl]; exact h j hj⟩
theorem info_strO : (Tryz.prog.info? 9).map (fun i => (i.zero, i.size, i.bytes)) = some (some (.string ⟨#[]⟩), 1, 16) := by kernel_rfl
theorem ownStrs {W : World} {B : Nat} {q : Option Addr} {c n : Nat} {ss : List ByteArray} (hn : ss.length = n) (h0 : 0 < n) (h : W.ownsRow B 9 1 (.slice q n c) n (ss.map .string)) : StrsAt W q ss := by
  rcases h.2 with ⟨e1, _⟩ | ⟨g, cap, cur, e1, hb, hg, hm, hx, hs, ht⟩
  · injection e1 with e1 e2; omega
  · injection e1 with e1 e2 e3
    subst e1
    refine ⟨g, 0, rfl, (Array.getElem?_eq_some_iff.1 hg).1, fun j hj => ?_⟩
    have h1 := h.cells (g := g) rfl j (.string ss[j]) (by rw [List.getElem?_map, List.getElem?_eq_getElem hj]; rfl)
    rw [Go.WideShapes.add_plain] at h1
    simpa using h1
theorem opsS_take {k : Nat} (hk : k < 17) {S : ByteArray} (h : (kdRules[k]'hk).1 = S.data.toList) : opsS.take k ++ [S] = opsS.take (k + 1) := by
  have hl : k < opsS.length := hk
  rw [List.take_add_one, List.getElem?_eq_getElem hl]
  have : opsS[k] = S := by
    have h1 : opsS[k] = (⟨(kdRules[k]'hk).1.toArray⟩ : ByteArray) := List.getElem_map (l := kdRules) (fun r : KRule => (⟨r.1.toArray⟩ : ByteArray))
    rw [h1, h]
  rw [this]
  rfl
set_option maxHeartbeats 2000000 in
theorem texts_same (p q : Option Addr) (c d N : Nat) (ss : List ByteArray) (w : World) (hN : ss.length = N) (hl : N ≤ 9223372036854775807) (hp : StrsAt w p ss) (hq : StrsAt w q ss) :
    Calls Tryz.prog 13 #[.slice p N c, .slice q N d] w fun e w' => e = .returned (.bool true) ∧ Below w.heap.size w w' := by
  obtain ⟨b1, o1, rfl, l1, h1⟩ := hp
  obtain ⟨b2, o2, rfl, l2, h2⟩ := hq
  have HN : Hid (ss.length = N) := hN
  have qn : ((N : Int) != (N : Int)) = false := by simp
  go_enter Tryz.func13, Tryz.ntmps13
  go_wp2
  go_loopg [5] N (fun gg s5 wr => ∃ kk : Nat, kk ≤ N ∧ N - kk ≤ gg ∧ s5 = .int .i64 kk ∧ Aside (Below w.heap.size w wr))
  case atStart => exact ⟨0, Nat.zero_le _, by omega, rfl, (show Aside _ from Below.refl _ _)⟩
  case round =>
    obtain ⟨kk, hkk, hg, rfl, BW⟩ := hrel
    by_cases hlt : kk < N
    · have hltz : (kk : Int) < (N : Int) := by omega
      have h0z : (0 : Int) ≤ (kk : Int) := by omega
      have hk2 : kk < ss.length := by rw [HN.out]; exact hlt
      have e1 : wr.cell? ⟨b1, o1 + kk, none⟩ = some (.string ss[kk]) := by rw [BW.out.cell (p := ⟨b1, _, none⟩) l1]; exact h1 kk hk2
      have e2 : wr.cell? ⟨b2, o2 + kk, none⟩ = some (.string ss[kk]) := by rw [BW.out.cell (p := ⟨b2, _, none⟩) l2]; exact h2 kk hk2
      generalize ss[kk] = S at e1 e2
      have qs : (S.toList == S.toList) = true := by simp
      go_wp2
      go_quiet (fail)
      go_wp2
      go_roundg (N - (kk + 1))
      case measure => omega
      case rel => exact ⟨kk + 1, by omega, by omega, by go_num, (show Aside _ by repeat (first | exact BW.out | apply below_drewN | refine Below.drew ?_))⟩
    · have hltz : ¬ (kk : Int) < (N : Int) := by omega
      go_wp2
      go_ret
      exact ⟨rfl, BW.out⟩
end Go.Proofs.YtknibfhoecgjlaaGreatDoor
