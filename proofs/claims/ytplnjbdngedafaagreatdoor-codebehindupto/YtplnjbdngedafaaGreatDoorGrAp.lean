/-
  EvEv, VmM, VmA, in one text.
-/
import Derived.Test.YtplnjbdngedafaaGreatDoorQEvCn
import Derived.Test.YtplnjbdngedafaaGreatDoorQEvCo
import Derived.Test.YtplnjbdngedafaaGreatDoorQEvCq
import Derived.Test.YtplnjbdngedafaaGreatDoorGrAn
import Derived.Test.YtplnjbdngedafaaGreatDoorGrAo
import Derived.Test.YtplnjbdngedafaaGreatDoorGrAm
import Derived.Lib.OthersKept
import Derived.Lib.BufferMore
import Derived.Deep.RegionLaw
namespace Go.Proofs.YtplnjbdngedafaaGreatDoor
open Go.RowKit Go.BigFrame
set_option linter.unusedVariables false

theorem rules_form : ∀ r ∈ kdRules, (kdCnt r = 3 → r.1 = [105, 102]) ∧ (kdCnt r = 1 → r.1 ≠ [97, 110, 100] ∧ r.1 ≠ [111, 114] ∧ r.1 ≠ [105, 102]) ∧ (kdCnt r = 2 → r.1 ≠ [105, 102]) := by decide
theorem come_any {zs : List (ByteArray × Int)} {b off c rb ro rc : Nat} {rs : List V3} (hn : zs.length ≤ 6) (hrow : RowR zs rs) : ∀ (x : Ex) (d : Nat), (∀ q ∈ x.pre d, nodeE q.1 = 0) → (∀ q ∈ x.pre d, inB q.1.vn) → (tyP zs x).2.1 = 0 → ComeAt zs b off c rb ro rc rs x := by
  refine Ex.ind fun op nm vt vn vs pos l ih d hpre hin ht => ?_
  by_cases hleaf : op.data.toList = [118, 97, 108] ∨ op.data.toList = [99, 111, 108]
  · exact come_leaf zs b off c rb ro rc rs hn hrow op nm vs vt vn pos l ht hleaf
  · have h1 : op.data.toList ≠ [118, 97, 108] := fun h => hleaf (.inl h)
    have h2 : op.data.toList ≠ [99, 111, 108] := fun h => hleaf (.inr h)
    rw [tyP_op h1 h2] at ht
    by_cases ht0 : (tysP zs l).2.1 = 0
    · rw [if_neg (fun hh => hh ht0)] at ht
      obtain ⟨hm, hall⟩ := tysP_ok ht0
      by_cases hr0 : (ruleP op.data.toList (tysP zs l).1).2 = 0
      · have hsub : ∀ y ∈ l, ∀ q ∈ y.pre (d + 1), q ∈ (Ex.node op nm vt vn vs pos l).pre d := fun y hy q hq => by
          rw [Ex.pre]; exact List.mem_cons_of_mem _ (pres_mem hy q hq)
        have hI : ∀ y ∈ l, ComeAt zs b off c rb ro rc rs y := fun y hy => ih y hy (d + 1) (fun q hq => hpre q (hsub y hy q hq)) (fun q hq => hin q (hsub y hy q hq)) (hall y hy)
        have hC : ∀ y ∈ l, comes (tyP zs y).1 (cmP zs rs y) := fun y hy => cm_comes hrow y (d + 1) (fun q hq => hpre q (hsub y hy q hq)) (fun q hq => hin q (hsub y hy q hq)) (hall y hy)
        rw [hm] at hr0
        obtain ⟨r, hf, hlen, _, _⟩ := ruleP_in (op := op.data.toList) (ts := l.map fun y => (tyP zs y).1) (T := (ruleP op.data.toList (l.map fun y => (tyP zs y).1)).1) (Prod.ext rfl hr0)
        rw [List.length_map] at hlen
        obtain ⟨hmem, he⟩ := kdFind_mem hf
        obtain ⟨f3, f1, f2⟩ := rules_form r hmem
        obtain ⟨c1, c3⟩ := kdCnt_ok r hmem
        rw [he] at f1 f2 f3
        match l, hlen, hI, hC with
        | [], hlen, _, _ => simp at hlen; omega
        | [x], hlen, hI, hC =>
          obtain ⟨g1, g2, g3⟩ := f1 hlen.symm
          exact come_1 zs b off c rb ro rc rs op nm vs vt vn pos x h1 h2 g1 g2 g3 (hI x (by simp)) _ (hC x (by simp))
        | [x, y], hlen, hI, hC =>
          exact come_2 zs b off c rb ro rc rs op nm vs vt vn pos x y h1 h2 (f2 hlen.symm) (hI x (by simp)) _ (hC x (by simp)) (hI y (by simp)) _ (hC y (by simp))
        | [x, y, z], hlen, hI, hC =>
          exact come_3 zs b off c rb ro rc rs op nm vs vt vn pos x y z h1 h2 (f3 hlen.symm) (hI x (by simp)) _ (hC x (by simp)) (hI y (by simp)) _ (hC y (by simp)) (hI z (by simp)) _ (hC z (by simp))
        | _ :: _ :: _ :: _ :: _, hlen, _, _ => simp at hlen; omega
      · rw [if_pos hr0] at ht
        exact absurd ht hr0
    · rw [if_pos ht0] at ht
      exact absurd ht ht0
/-- What Eval says. -/
def evP (zs : List (ByteArray × Int)) (rs : List V3) (x : Ex) : V3 × Int := if (ofP zs x).2.1 ≠ 0 then (noV, (ofP zs x).2.1) else if rowChk zs rs ≠ 0 then (noV, rowChk zs rs) else cmP zs rs x
theorem rcGo_ok : ∀ {zs : List (ByteArray × Int)} {rs : List V3}, rs.length = zs.length → rcGo zs rs = 0 → ∀ k (h : k < zs.length) (h2 : k < rs.length), rs[k].1 = zs[k].2 ∧ chk rs[k].1 rs[k].2.1 rs[k].2.2.data.toList = 0
  | z :: zs, r :: rs, hl, h, k, h1, h2 => by
    rw [rcGo] at h
    by_cases hc : chk r.1 r.2.1 r.2.2.data.toList = 0
    · rw [if_neg (fun hh => hh hc)] at h
      by_cases ht : r.1 = z.2
      · rw [if_neg (fun hh => hh ht)] at h
        match k, h1, h2 with
        | 0, _, _ => exact ⟨ht, hc⟩
        | k + 1, h1, h2 => exact rcGo_ok (by simpa using hl) h k (by simpa using h1) (by simpa using h2)
      · rw [if_pos ht] at h
        exact absurd h (by decide)
    · rw [if_pos hc] at h
      exact absurd h hc
  | [], _, _, _, k, h1, _ => absurd h1 (by simp)
  | _ :: _, [], hl, _, _, _, _ => by simp at hl
theorem rowR_of {zs : List (ByteArray × Int)} {rs : List V3} (h : rowChk zs rs = 0) (hb : SizedV rs) : RowR zs rs ∧ schE zs = 0 := by
  rw [rowChk] at h
  by_cases h0 : schE zs = 0
  · rw [if_neg (fun hh => hh h0)] at h
    by_cases hl : rs.length = zs.length
    · rw [if_neg (fun hh => hh hl)] at h
      refine ⟨⟨hl, fun k h1 h2 => ?_⟩, h0⟩
      obtain ⟨g1, g2⟩ := rcGo_ok hl h k h1 h2
      exact ⟨g1, g2, (hb _ (List.getElem_mem h2)).2⟩
    · rw [if_pos hl] at h
      exact absurd h (by decide)
  · rw [if_pos h0] at h
    exact absurd h h0
/-- The numbers of an expression are a machine's. -/
def ExB (x : Ex) : Prop := ∀ q ∈ x.pre 1, inB q.1.vn
theorem cm_in {zs : List (ByteArray × Int)} {rs : List V3} {x : Ex} (hx : ExB x) (hsz : SizedV rs) (h1 : (ofP zs x).2.1 = 0) (h2 : rowChk zs rs = 0) : comes (ofP zs x).1 (cmP zs rs x) ∧ ckP x = 0 ∧ schE zs = 0 ∧ tyP zs x = ofP zs x := by
  obtain ⟨hrow, hs⟩ := rowR_of h2 hsz
  have hck : ckP x = 0 := by
    by_cases hc : ckP x = 0
    · exact hc
    · rw [ofP, if_pos hc] at h1
      exact absurd h1 hc
  have hty : ofP zs x = tyP zs x := by rw [ofP, if_neg (fun hh => hh hck), if_neg (fun hh => hh hs)]
  rw [hty] at h1 ⊢
  exact ⟨cm_comes hrow x 1 (ckP_zero hck).2 hx h1, hck, hs, rfl⟩
set_option maxHeartbeats 4000000 in
set_option maxRecDepth 20000 in
theorem eval_any (x : Ex) (lo : Nat → Prop) (v vl vr : Value) (zs : List (ByteArray × Int)) (rs : List V3) (w : World) (henv : KEnv w) (hx : ExIn w lo v x) (hsz : (x.pre 1).length ≤ 1048576) (hxb : ExB x) (hcv : ColsV w vl zs) (hrv : ValsV w vr rs) (hrs : SizedV rs) (t k : Int) (s : ByteArray) (e : Int) (hR : evP zs rs x = ((t, k, s), e)) :
    Calls Tryz.prog 9 #[v, vl, vr] w fun e' w' => e' = .returned (.tuple #[.agg #[.int .i64 t, .int .i64 k, .string s], errV e]) ∧ Below w.heap.size w w' := by
  obtain ⟨o1, n1, t1, k1, s1, p1, m1, c1, a1, rfl⟩ := hx.agg
  obtain ⟨b1, box⟩ := come_box w #[.string o1, .string n1, .int .i64 t1, .int .i64 k1, .string s1, .slice p1 m1 c1, .int .i64 a1]
  obtain ⟨T, H, P, hof⟩ : ∃ T H P, ofP zs x = (T, H, P) := ⟨_, _, _, rfl⟩
  have cO := of_any x lo _ vl zs _ (henv.on b1) (hx.on b1) hsz (hcv.on b1) T H P hof
  unfold evP at hR
  have hci := cm_in (zs := zs) hxb hrs
  rw [hof] at hR hci
  simp only at hR hci
  by_cases hH : H = 0
  · subst hH
    rw [if_neg (by simp)] at hR
    have cK := fun W (hb : Below w.heap.size w W) => rowCheck_v vl vr zs rs W (henv.on hb).tw (hcv.on hb) (hrv.on hb) hrs
    by_cases hk : rowChk zs rs = 0
    · rw [if_neg (fun hh => hh hk)] at hR
      rw [hk, show errV 0 = .nilIface from rfl] at cK
      obtain ⟨hcm, hck, hs, hty⟩ := hci rfl hk
      obtain ⟨hrow, _⟩ := rowR_of hk hrs
      obtain ⟨hz1, hz2, _⟩ := schE_zero hs
      obtain ⟨q, c, rfl, hcols⟩ := id hcv
      obtain ⟨q2, c2, rfl, hrm, hvals⟩ := id hrv
      rcases hcols with h | ⟨b, off, rfl, _, _, hco⟩
      · exact absurd h hz1
      rcases hvals with h | ⟨rb, ro, rfl, hrl, hrc⟩
      · exact absurd (hrow.1 ▸ h) hz1
      have cC := fun W (hb : Below w.heap.size w W) => come_any (c := c) (rc := c2) (b := b) (off := off) (rb := rb) (ro := ro) hz2 hrow x 1 (ckP_zero hck).2 hxb (by rw [hty]) lo _ W t k s e (henv.on hb).rules (hx.on hb) (hco.on hb) (RowAt.on ⟨hrl, hrc⟩ hb) hR
      have hS : s.size ≤ 40 := by
        rcases hcm with h | h
        · rw [hR] at h
          have := chk_size h.2.2.1
          simpa using this
        · rw [hR] at h
          simp only [noV, Prod.mk.injEq] at h
          rw [h.1.2.2]
          decide
      have cF := fresh_any t k s
      clear hci hcm hck hs hty hrow hz1 hz2 hco hrc hR hof hxb hsz henv hx hcv hrv hk
      go_enter Tryz.func9, Tryz.ntmps9
      go_wp2_with fail
      refine cO.mono ?_
      rintro e' w1 ⟨rfl, b2⟩
      have B2 := b2.mono (show w.heap.size + 2 ≤ _ by simp)
      have B3 := B2.alloc (box w1 B2).2.2.1 (.cells #[.int .i64 0, .int .i64 P] 34)
      have cK3 := cK _ (box _ B3).2.2.2
      have hw1 := (box w1 B2).2.2.1
      clear cO cK b2
      go_wp2_with fail
      refine cK3.mono ?_
      rintro e' w3 ⟨rfl, b4⟩
      have B4 := B3.trans (b4.mono (by simp; omega))
      have cC4 := cC _ (box _ B4).2.2.2
      obtain ⟨hB, _, hl4, _⟩ := box w3 B4
      have g0 : w3.cell? ⟨w.heap.size, 0, none⟩ = some (.string o1) := hB 0
      have g1 : w3.cell? ⟨w.heap.size, 1, none⟩ = some (.string n1) := hB 1
      have g2 : w3.cell? ⟨w.heap.size, 2, none⟩ = some (.int .i64 t1) := hB 2
      have g3 : w3.cell? ⟨w.heap.size, 3, none⟩ = some (.int .i64 k1) := hB 3
      have g4 : w3.cell? ⟨w.heap.size, 4, none⟩ = some (.string s1) := hB 4
      have g5 : w3.cell? ⟨w.heap.size, 5, none⟩ = some (.slice p1 m1 c1) := hB 5
      have g6 : w3.cell? ⟨w.heap.size, 6, none⟩ = some (.int .i64 a1) := hB 6
      have hl5 : w.heap.size < w3.heap.size := by omega
      clear cK3 cC b4 hB
      go_wp2_with fail
      refine cC4.mono ?_
      rintro e' w5 ⟨rfl, b6⟩
      have B6 := B4.trans (b6.mono hl4)
      have hl7 := (box w5 B6).2.2.1
      have B7 := B6.alloc hl7 (.cells #[.int .i64 t, .int .i64 k, .string s] 23)
      have cF7 := cF (w5.alloc (.cells #[.int .i64 t, .int .i64 k, .string s] 23)) hS
      clear cC4 cF b6 g0 g1 g2 g3 g4 g5 g6
      go_wp2_with fail
      refine cF7.mono ?_
      rintro e' w7 ⟨rfl, b8⟩
      obtain ⟨_, ⟨f0, f1, f2, ff⟩, hl8, b9⟩ := box w7 (B7.trans (b8.mono (by simp; omega)))
      have hl9 : w.heap.size + 1 < w7.heap.size := by omega
      clear cF7 b8 B2 B3 B4 B6 B7
      go_wp2
      refine bodyPost_ret (v := .tuple #[.agg #[.int .i64 t, .int .i64 k, .string s], errV e]) (by simp [results, Tryz.results9, go_sem, World.cell?_setCell_other, World.cell?_setCell_same, f0, f1, f2]) rfl ⟨rfl, ?_⟩
      exact below3 b9 (by omega) _ _ _
    · rw [if_pos hk] at hR
      simp only [noV, Prod.mk.injEq] at hR
      obtain ⟨⟨rfl, rfl, rfl⟩, rfl⟩ := hR
      obtain ⟨K, hK⟩ : ∃ K, rowChk zs rs = K := ⟨_, rfl⟩
      rw [hK] at hk cK ⊢
      have cK2 : ∀ W, Below w.heap.size w W → Calls Tryz.prog 11 #[vl, vr] W fun e' w' => e' = .returned (.iface 32 (.int .i64 K)) ∧ Below W.heap.size W w' := fun W hb => (cK W hb).mono fun e' w' h => by rw [errV, if_neg hk] at h; exact h
      rw [errV, if_neg hk]
      clear hci hK cK hof hxb hsz henv hx hcv hrv hk
      go_enter Tryz.func9, Tryz.ntmps9
      go_wp2_with fail
      refine cO.mono ?_
      rintro e' w1 ⟨rfl, b2⟩
      have B2 := b2.mono (show w.heap.size + 2 ≤ _ by simp)
      have B3 := B2.alloc (box w1 B2).2.2.1 (.cells #[.int .i64 0, .int .i64 P] 34)
      have cK3 := cK2 _ (box _ B3).2.2.2
      have hw1 := (box w1 B2).2.2.1
      clear cO cK2 b2
      go_wp2_with fail
      refine cK3.mono ?_
      rintro e' w3 ⟨rfl, b4⟩
      obtain ⟨_, ⟨f0, f1, f2, ff⟩, hl8, b9⟩ := box w3 (B3.trans (b4.mono (by simp; omega)))
      have hl9 : w.heap.size + 1 < w3.heap.size := by omega
      clear cK3 b4 B2 B3
      go_wp2
      refine bodyPost_ret (v := .tuple #[.agg #[.int .i64 0, .int .i64 0, .string ⟨#[]⟩], .iface 32 (.int .i64 K)]) (by simp [results, Tryz.results9, go_sem, World.cell?_setCell_other, World.cell?_setCell_same, f0, f1, f2]) rfl ⟨rfl, ?_⟩
      exact below3 b9 (by omega) _ _ _
  · rw [if_pos hH] at hR
    simp only [noV, Prod.mk.injEq] at hR
    obtain ⟨⟨rfl, rfl, rfl⟩, rfl⟩ := hR
    rw [errV, if_neg hH]
    have hHb : (H != 0) = true := by simpa using hH
    clear hci hof hxb hsz henv hx hcv hrv hH
    go_enter Tryz.func9, Tryz.ntmps9
    go_wp2_with fail
    refine cO.mono ?_
    rintro e' w1 ⟨rfl, b2⟩
    obtain ⟨_, ⟨f0, f1, f2, ff⟩, hl8, b9⟩ := box w1 (b2.mono (by simp))
    have hl9 : w.heap.size + 1 < w1.heap.size := by omega
    clear cO b2
    go_wp2
    go_region
    all_goals
      go_wp2
      refine bodyPost_ret (v := .tuple #[.agg #[.int .i64 0, .int .i64 0, .string ⟨#[]⟩], .iface 32 (.int .i64 H)]) (by simp [results, Tryz.results9, go_sem, (res3 f0 f1 f2 hl9 (.int .i64 0) (.int .i64 0) (.string ⟨#[]⟩) (.cells #[.int .i64 H, .int .i64 P] 34)).1, (res3 f0 f1 f2 hl9 (.int .i64 0) (.int .i64 0) (.string ⟨#[]⟩) (.cells #[.int .i64 H, .int .i64 P] 34)).2.1, (res3 f0 f1 f2 hl9 (.int .i64 0) (.int .i64 0) (.string ⟨#[]⟩) (.cells #[.int .i64 H, .int .i64 P] 34)).2.2]) rfl ⟨rfl, ?_⟩
      exact Below.drew ((below3 b9 (by omega) _ _ _).alloc (by simp [World.setCell]; omega) _)
end Go.Proofs.YtplnjbdngedafaaGreatDoor
namespace Go.Proofs.YtplnjbdngedafaaGreatDoor
open Go.RowKit
set_option linter.unusedVariables false

/-- All is kept but the machine's block, and rows of values behind it. -/
def MKeeps (b : Nat) (w w' : World) : Prop := Below b w w' ∧ Lib.OthersKept 23 (some b) w w'
theorem MKeeps.refl (b : Nat) (w : World) : MKeeps b w w := ⟨Below.refl _ _, Lib.OthersKept.refl _ _ _⟩
theorem MKeeps.trans {b : Nat} {w w1 w2 : World} (h : MKeeps b w w1) (k : MKeeps b w1 w2) : MKeeps b w w2 := ⟨h.1.trans k.1, h.2.trans k.2⟩
theorem MKeeps.of_below {b : Nat} {w w' : World} (h : Below w.heap.size w w') (hb : b ≤ w.heap.size) : MKeeps b w w' :=
  ⟨h.mono hb, fun k o hk _ _ => by rw [h.block k (Array.getElem?_eq_some_iff.1 hk).1]; exact hk⟩
theorem MKeeps.on {b : Nat} {w w1 w2 : World} (h : MKeeps b w w1) (k : Below w1.heap.size w1 w2) (hb : b ≤ w1.heap.size) : MKeeps b w w2 := h.trans (MKeeps.of_below k hb)
theorem MKeeps.set {b : Nat} {w w1 : World} (h : MKeeps b w w1) (o : Nat) (v : Value) : MKeeps b w (w1.setCell ⟨b, o, none⟩ v) :=
  ⟨h.1.setCell (p := ⟨b, o, none⟩) (Nat.le_refl _) v, h.2.setCell ⟨b, o, none⟩ rfl v⟩
theorem MKeeps.drew {b : Nat} {w w1 : World} (h : MKeeps b w w1) : MKeeps b w w1.drew := ⟨h.1.drew, h.2.drew⟩
theorem MKeeps.alloc {b : Nat} {w w1 : World} (h : MKeeps b w w1) (hb : b ≤ w1.heap.size) (o : Obj) : MKeeps b w (w1.alloc o) := ⟨h.1.alloc hb o, h.2.alloc o⟩
/-- The machine lies in block b: it is at instruction k, has the row rv, and these values on its stack. -/
def MchAt (w : World) (b : Nat) (k : Int) (rv : Value) (q : Option Addr) (c : Nat) (st : List V3) : Prop :=
  (∃ cs, w.heap[b]? = some (.cells cs 97 (0, 0))) ∧ w.cell? ⟨b, 0, none⟩ = some (.int .i64 k) ∧ w.cell? ⟨b, 1, none⟩ = some rv ∧ w.cell? ⟨b, 2, none⟩ = some (.slice q st.length c) ∧ w.ownsRow (b + 1) 23 3 (.slice q st.length c) st.length (vcells st)
theorem MchAt.lt {w : World} {b : Nat} {k : Int} {rv : Value} {q : Option Addr} {c : Nat} {st : List V3} (h : MchAt w b k rv q c st) : b < w.heap.size := by
  obtain ⟨⟨cs, h⟩, -⟩ := h
  exact (Array.getElem?_eq_some_iff.1 h).1
theorem MchAt.fz {w : World} {b : Nat} {k : Int} {rv : Value} {q : Option Addr} {c : Nat} {st : List V3} (h : MchAt w b k rv q c st) (o : Nat) : w.frozen? ⟨b, o, none⟩ = false := by
  obtain ⟨⟨cs, h⟩, -⟩ := h
  simp [World.frozen?, h]
/-- What keeps the machine's own blocks keeps it. -/
theorem MchAt.keep {w w' : World} {b : Nat} {k : Int} {rv : Value} {q : Option Addr} {c : Nat} {st : List V3} (h : MchAt w b k rv q c st) (hk : ∀ g o, w.heap[g]? = some o → (g = b ∨ b < g ∧ ∃ cs, o = .cells cs 23 (0, 0)) → w'.heap[g]? = some o) : MchAt w' b k rv q c st := by
  obtain ⟨⟨cs, h0⟩, h1, h2, h3, h4⟩ := h
  have hb := hk b _ h0 (.inl rfl)
  have he : ∀ o, w'.cell? ⟨b, o, none⟩ = w.cell? ⟨b, o, none⟩ := fun o => World.cell?_of_block (w := w) (a := ⟨b, o, none⟩) (by rw [hb, h0])
  refine ⟨⟨cs, hb⟩, by rw [he]; exact h1, by rw [he]; exact h2, by rw [he]; exact h3, h4.1, ?_⟩
  rcases h4.2 with hn | ⟨g, cap, cur, e, h5, hg, rest⟩
  · exact .inl hn
  · exact .inr ⟨g, cap, cur, e, h5, hk g _ hg (.inr ⟨by omega, cur, rfl⟩), rest⟩
theorem MchAt.on {w w' : World} {b : Nat} {k : Int} {rv : Value} {q : Option Addr} {c : Nat} {st : List V3} (h : MchAt w b k rv q c st) (hb : Below w.heap.size w w') : MchAt w' b k rv q c st :=
  h.keep fun g o hg _ => by rw [hb.block g (Array.getElem?_eq_some_iff.1 hg).1]; exact hg
theorem MchAt.others {w w' : World} {b L : Nat} {k : Int} {rv : Value} {q : Option Addr} {c : Nat} {st : List V3} (h : MchAt w b k rv q c st) (hL : L < b) (hb : Lib.OthersKept 3 (some L) w w') : MchAt w' b k rv q c st := by
  obtain ⟨⟨cs, h0⟩, -⟩ := id h
  refine h.keep fun g o hg hgo => ?_
  refine hb g o hg (fun e => by have := Option.some.inj e; omega) fun c2 fz e => ?_
  rcases hgo with rfl | ⟨_, cs2, rfl⟩
  · rw [h0] at hg
    rw [← Option.some.inj hg] at e
    injection e with _ e _
    exact absurd e (by decide)
  · injection e with _ e _
    exact absurd e (by decide)
theorem MchAt.set0 {w : World} {b : Nat} {k : Int} {rv : Value} {q : Option Addr} {c : Nat} {st : List V3} (h : MchAt w b k rv q c st) (k' : Int) : MchAt (w.setCell ⟨b, 0, none⟩ (.int .i64 k')) b k' rv q c st := by
  obtain ⟨⟨cs, h0⟩, h1, h2, h3, h4⟩ := h
  refine ⟨⟨_, Lib.heap_setCell_same h0 _⟩, cell_eq h1, by rw [cell_ne (by decide)]; exact h2, by rw [cell_ne (by decide)]; exact h3, h4.1, ?_⟩
  rcases h4.2 with hn | ⟨g, cap, cur, e, h5, hg, rest⟩
  · exact .inl hn
  · exact .inr ⟨g, cap, cur, e, h5, by rw [Below.heap_setCell _ _ _ _ (by show g ≠ b; omega)]; exact hg, rest⟩
theorem MchAt.set2 {w : World} {b : Nat} {k : Int} {rv : Value} {q q' : Option Addr} {c c' : Nat} {st st' : List V3} (h : MchAt w b k rv q c st) (ho : w.ownsRow (b + 1) 23 3 (.slice q' st'.length c') st'.length (vcells st')) : MchAt (w.setCell ⟨b, 2, none⟩ (.slice q' st'.length c')) b k rv q' c' st' := by
  obtain ⟨⟨cs, h0⟩, h1, h2, h3, h4⟩ := h
  refine ⟨⟨_, Lib.heap_setCell_same h0 _⟩, by rw [cell_ne (by decide)]; exact h1, by rw [cell_ne (by decide)]; exact h2, cell_eq h3, ho.1, ?_⟩
  rcases ho.2 with hn | ⟨g, cap, cur, e, h5, hg, rest⟩
  · exact .inl hn
  · exact .inr ⟨g, cap, cur, e, h5, by rw [Below.heap_setCell _ _ _ _ (by show g ≠ b; omega)]; exact hg, rest⟩
theorem vcells_take : ∀ (vs : List V3) (l : Nat), (vcells vs).take (l * 3) = vcells (vs.take l)
  | [], l => by simp [vcells]
  | v :: vs, 0 => by simp [vcells]
  | v :: vs, l + 1 => by
    rw [vcells, show (l + 1) * 3 = l * 3 + 3 by omega, List.take_succ_cons, List.take_succ_cons, List.take_succ_cons, vcells_take vs l, List.take_succ_cons, vcells]
theorem own_take {w : World} {B : Nat} {q : Option Addr} {c l : Nat} {st : List V3} (hl : l ≤ st.length) (h0 : st.length ≠ 0) (h : w.ownsRow B 23 3 (.slice q st.length c) st.length (vcells st)) : w.ownsRow B 23 3 (.slice q (st.take l).length c) (st.take l).length (vcells (st.take l)) := by
  have hlen : (st.take l).length = l := by rw [List.length_take]; omega
  refine ⟨by rw [vcells_len], .inr ?_⟩
  rcases h.2 with ⟨_, h⟩ | ⟨g, cap, cur, e, h1, h2, h3, h4, h5, h6⟩
  · exact absurd h h0
  · injection e with e1 e2 e3
    subst e1 e3
    refine ⟨g, c, cur, rfl, h1, h2, by omega, h4, h5, ?_⟩
    rw [hlen, ← vcells_take, ← h6, List.take_take, Nat.min_eq_left (by omega)]
end Go.Proofs.YtplnjbdngedafaaGreatDoor
namespace Go.Proofs.YtplnjbdngedafaaGreatDoor
open Go.RowKit
set_option linter.unusedVariables false

/-- A value as the walk has it. -/
def valW (v : V3) : Value := .agg #[.int .i64 v.1, .int .i64 v.2.1, .string v.2.2]
theorem MKeeps.grown {b : Nat} {w w' : World} {v : Value} {n : Nat} {xs : List Value} (hg : w.grownBy w' v.ownBlock) (ho : w.ownsRow (b + 1) 23 3 v n xs) (hb : b ≤ w.heap.size) : MKeeps b w w' := by
  refine ⟨(Below.refl b w).grown hg hb fun k hk => by have := (ho.lt k hk).1; omega, (Lib.OthersKept.refl _ _ w).grown hg fun g hgg => ?_⟩
  rcases ho.2 with ⟨rfl, _⟩ | ⟨g', cap, cur, rfl, _, h2, _⟩
  · exact absurd hgg (by simp [Value.ownBlock])
  · have : g' = g := by simpa [Value.ownBlock] using hgg
    subst this
    exact ⟨_, _, h2⟩
/-- append to a slice that is one's own, inside a statement that draws its order. -/
theorem step_append_mine {P : Program} {ops : Array Oper} {o : Oper} {a : Act} {w : World} {K : Act → World → Prop} {Q : Exit → Act → World → Prop} {E : Prop}
    (hg : o.guard = none) (s x : Operand) (t : TypeId) (hop : o.op = Op.call { callee := Callee.builtin Builtin.append, args := #[s, x], argTypes := #[t, t] })
    (base : Nat) (e : TypeId) (i : TypeInfo) (z : Value) (size bytes : Nat) (h1 : P.underlying t = some (.slice e)) (h2 : P.info? e = some i) (h3 : i.zero = some z) (h4 : i.size = size) (h5 : i.bytes = bytes) (h6 : z.cells.size = size) (h7 : 0 < size)
    (v : Value) (n : Nat) (xs : List Value) (hs : a.eval s = v) (hown : w.ownsRow base e size v n xs)
    (ad : Addr) (m c : Nat) (news : List Value) (hx : a.eval x = .slice (some ad) m c) (hn : news.length = m * size) (hc : ∀ j u, news[j]? = some u → w.cell? (ad.add j) = some u) (h1c : ∀ u ∈ news, u.oneCell' = true)
    (b1 : n + m ≤ maxLen) (b2 : (n + m) * bytes ≤ 140737488355328) (hb : base ≤ w.heap.size)
    (hK : ∀ q' c' w', w'.ownsRow base e size (.slice q' (n + m) c') (n + m) (xs ++ news) → w.grownBy w' v.ownBlock → K (a.put o.dst (.slice q' (n + m) c')) w') :
    if Region.wanted o (yielded ops a.tmps) = true then Oper.wp P o a w K Q else E := by
  have hw : Region.wanted o (yielded ops a.tmps) = true := by simp [Region.wanted, hg]
  rw [if_pos hw]
  obtain ⟨v', w', hrun, r1, r2, _⟩ := run_append_own (P := P) w base t o.type e i z size bytes h1 h2 h3 h4 h5 h6 h7 v n xs hown ad m c news hn hc h1c b1 b2 hb
  obtain ⟨q', c', rfl⟩ := lown_slice r1
  unfold Oper.wp
  simp [execOp, hop, resolve, invoke, builtin, hs, hx, hrun, Result.andThen]
  exact hK q' c' w' r1 r2
theorem news_one {w : World} {T : TypeId} {g : Nat} (hg : w.heap.size = g) (cs : List Value) : ∀ j u, cs[j]? = some u → (w.alloc (.cells cs.toArray T)).cell? ((⟨g, 0, none⟩ : Addr).add j) = some u := by
  intro j u hu
  rw [Go.WideShapes.add_plain, World.cell?_alloc_at _ _ _ _ (by simp [hg])]
  simpa using hu
theorem one3 (t n : Int) (s : ByteArray) : ∀ u ∈ ([.int .i64 t, .int .i64 n, .string s] : List Value), u.oneCell' = true := by
  intro u hu
  simp at hu
  rcases hu with rfl | rfl | rfl <;> rfl
/-- What is needed behind the append of a value to the machine's stack. -/
theorem lay_end {w w1 w2 : World} {b : Nat} {k : Int} {rv : Value} {q q' : Option Addr} {c c' N : Nat} {st : List V3} {t n : Int} {s : ByteArray} (hM : MchAt w b k rv q c st) (hN : st.length = N) (hw : Below w.heap.size w w1) (ho : w2.ownsRow (b + 1) 23 3 (.slice q' (N + 1) c') (N + 1) (vcells st ++ [.int .i64 t, .int .i64 n, .string s])) (hg : w1.grownBy w2 (Value.slice q N c).ownBlock) :
    w2.frozen? ⟨b, 2, none⟩ = false ∧ w2.cell? ⟨b, 2, none⟩ = some (.slice q N c) ∧ MchAt (w2.setCell ⟨b, 2, none⟩ (.slice q' (N + 1) c')) b k rv q' c' (st ++ [(t, n, s)]) ∧ MKeeps b w (w2.setCell ⟨b, 2, none⟩ (.slice q' (N + 1) c')) := by
  have hM1 := hM.on hw
  have hb1 := hM1.lt
  have hM1' := hM1
  obtain ⟨⟨cs, h0⟩, h1, h2, h3, h4⟩ := hM1
  rw [hN] at h3 h4
  have hne : some b ≠ (Value.slice q N c).ownBlock := fun e => by
    have := (h4.lt b e.symm).1
    omega
  have hb : w2.heap[b]? = w1.heap[b]? := hg.block b hb1 hne
  have he : ∀ o, w2.cell? ⟨b, o, none⟩ = w1.cell? ⟨b, o, none⟩ := fun o => World.cell?_of_block (w := w1) (a := ⟨b, o, none⟩) hb
  have hk2 : MKeeps b w w2 := (MKeeps.of_below hw (Nat.le_of_lt hM.lt)).trans (MKeeps.grown hg h4 (Nat.le_of_lt hb1))
  refine ⟨by rw [World.frozen?_of_block (w := w1) (a := ⟨b, 2, none⟩) hb]; exact hM1'.fz 2, by rw [he]; exact h3, ?_, hk2.set _ _⟩
  have hl : (st ++ [(t, n, s)]).length = N + 1 := by rw [List.length_append, hN]; rfl
  have ho' : w2.ownsRow (b + 1) 23 3 (.slice q' (st ++ [(t, n, s)]).length c') (st ++ [(t, n, s)]).length (vcells (st ++ [(t, n, s)])) := by
    rw [hl, vcells_append]; exact ho
  refine ⟨⟨_, Lib.heap_setCell_same (by rw [hb]; exact h0) _⟩, by rw [cell_ne (by decide), he]; exact h1, by rw [cell_ne (by decide), he]; exact h2, by rw [hl]; exact cell_eq (u := .slice q N c) (by rw [he]; exact h3), ho'.1, ?_⟩
  rcases ho'.2 with hn | ⟨g, cap, cur, e, h5, hgg, rest⟩
  · exact .inl hn
  · exact .inr ⟨g, cap, cur, e, h5, by rw [Below.heap_setCell _ _ _ _ (by show g ≠ b; omega)]; exact hgg, rest⟩
set_option maxHeartbeats 2000000 in
set_option maxRecDepth 20000 in
theorem lay_any (b : Nat) (k : Int) (rv : Value) (q : Option Addr) (c : Nat) (st : List V3) (t n : Int) (s : ByteArray) (w : World) (h : MchAt w b k rv q c st) (hl : st.length ≤ 64) :
    Calls Tryz.prog 75 #[.pointer (some ⟨b, 0, none⟩), .agg #[.int .i64 t, .int .i64 n, .string s]] w fun e w' => e = .returned (.tuple #[]) ∧ (∃ q' c', Aside (MchAt w' b k rv q' c' (st ++ [(t, n, s)]))) ∧ Aside (MKeeps b w w') := by
  obtain ⟨i0, hi, hz0, hz1, hz2⟩ := info_parts info_val
  have hbl := h.lt
  have hfz := h.fz 2
  have HM : Aside (MchAt w b k rv q c st) := h
  obtain ⟨-, -, -, c2, ho⟩ := h
  generalize hN : st.length = N at c2 ho hl
  have HO : Aside (w.ownsRow (b + 1) 23 3 (.slice q N c) N (vcells st)) := ho
  have HN : Hid (st.length = N) := hN
  clear ho hN
  go_enter Tryz.func75, Tryz.ntmps75
  go_wp2
  go_region_law (refine step_append_mine rfl (.tmp 8) (.tmp 10) 28 rfl (b + 1) 23 i0 _ 3 32 Tryz.underlying28 hi hz0 hz1 hz2 rfl (by decide) (.slice q N c) N (vcells st) (by simp [Act.eval]) ((lown_below (HO.out.alloc _) ⟨rfl, rfl, rfl, Nat.le_refl _, fun _ _ => rfl⟩ : World.ownsRow (w.alloc _).drew (b + 1) 23 3 (.slice q N c) N (vcells st)).alloc _) ⟨w.heap.size + 1, 0, none⟩ 1 1 [.int .i64 t, .int .i64 n, .string s] (by simp [Act.eval]) rfl (news_one (by simp) _) (one3 t n s) (by simp [maxLen]; omega) (by omega) (by simp; omega) ?_; intro q' c' w5 ho hg; obtain ⟨f1, f2, f3, f4⟩ := lay_end HM.out HN.out (by first | exact ((alB w _).drew.alloc (by simp) _)) ho hg)
  all_goals
    go_wp2
    go_end0
    exact ⟨rfl, ⟨q', c', f3⟩, f4⟩
/-- The upper end of a list of values. -/
theorem val_slice_l {w : World} {B : Nat} {q : Option Addr} {c N l : Nat} {st : List V3} (h : w.ownsRow B 23 3 (.slice q N c) N (vcells st)) (hn : st.length = N) (hl : l < N) : ∃ p1 c1, (∀ W, Sem.run Tryz.prog (Instr.slice 28 (.slice q N c) (some (.int .i64 (l : Int))) none none) W = .ok (.slice p1 (N - l) c1) W) ∧ (∀ W, Sem.run Tryz.prog (Instr.slice 28 (.slice q N c) none (some (.int .i64 (l : Int))) none) W = .ok (.slice q l c) W) ∧ ∃ g, p1 = some ⟨g, l * 3, none⟩ ∧ g < w.heap.size ∧ B ≤ g ∧ ∀ j (hj : j < (st.drop l).length), w.cell? ⟨g, l * 3 + j * 3, none⟩ = some (.int .i64 (st.drop l)[j].1) ∧ w.cell? ⟨g, l * 3 + j * 3 + 1, none⟩ = some (.int .i64 (st.drop l)[j].2.1) ∧ w.cell? ⟨g, l * 3 + j * 3 + 2, none⟩ = some (.string (st.drop l)[j].2.2) := by
  rcases h.2 with ⟨_, h0⟩ | ⟨g, cap, cur, e, hB, hg, h1, h2, h3, h4⟩
  · omega
  injection e with e1 e2 e3
  subst e1 e3
  have g2 : ∀ W, Sem.run Tryz.prog (Go.sizeOf (Tryz.prog.elem 28)) W = .ok 3 W := fun W => by kernel_rfl
  refine ⟨some ⟨g, l * 3, none⟩, c - l, fun W => ?_, fun W => ?_, g, rfl, (Array.getElem?_eq_some_iff.1 hg).1, hB, fun j hj => ?_⟩
  · rw [run_slice_l W 28 (some ⟨g, 0, none⟩) N c (by kernel_rfl) .i64 l (by omega) (by omega), g2 W]
    show Result.ok (sliced (some ⟨g, 0, none⟩) l N c 3) W = _
    rw [sliced, if_neg (by omega), Option.map_some, Go.WideShapes.add_plain, Nat.zero_add]
  · rw [run_slice_h W 28 (some ⟨g, 0, none⟩) N c (by kernel_rfl) .i64 l (by omega) (by omega), g2 W]
    show Result.ok (sliced (some ⟨g, 0, none⟩) 0 l c 3) W = _
    rw [sliced]
    simp [Addr.add]
  · rw [List.length_drop] at hj
    have hj2 : l + j < st.length := by omega
    obtain ⟨a0, a1, a2⟩ := vcells_at hj2
    have k1 := h.cells (g := g) rfl _ _ a0
    have k2 := h.cells (g := g) rfl _ _ a1
    have k3 := h.cells (g := g) rfl _ _ a2
    rw [Go.WideShapes.add_plain] at k1 k2 k3
    rw [List.getElem_drop]
    rw [show l * 3 + j * 3 = 0 + (l + j) * 3 by omega]
    exact ⟨k1, by rw [Nat.add_assoc]; exact k2, by rw [Nat.add_assoc]; exact k3⟩
set_option maxHeartbeats 2000000 in
theorem take_any' (b : Nat) (k : Int) (rv : Value) (q : Option Addr) (c : Nat) (st : List V3) (n : Nat) (w : World) (h : MchAt w b k rv q c st) (hn : 1 ≤ n) (hn2 : n ≤ st.length) (h64 : st.length ≤ 64) :
    Calls Tryz.prog 77 #[.pointer (some ⟨b, 0, none⟩), .int .i64 n] w fun e w' => (∃ g o c1, e = .returned (.slice (some ⟨g, o, none⟩) n c1) ∧ g < w'.heap.size ∧ b < g ∧ ∀ j (hj : j < (st.drop (st.length - n)).length), w'.cell? ⟨g, o + j * 3, none⟩ = some (.int .i64 (st.drop (st.length - n))[j].1) ∧ w'.cell? ⟨g, o + j * 3 + 1, none⟩ = some (.int .i64 (st.drop (st.length - n))[j].2.1) ∧ w'.cell? ⟨g, o + j * 3 + 2, none⟩ = some (.string (st.drop (st.length - n))[j].2.2)) ∧ Aside (MchAt w' b k rv q c (st.take (st.length - n))) ∧ Aside (MKeeps b w w') := by
  have hbl := h.lt
  have hfz := h.fz 2
  have HM : Aside (MchAt w b k rv q c st) := h
  obtain ⟨-, -, -, c2, ho⟩ := h
  have hlen : (st.take (st.length - n)).length = st.length - n := by rw [List.length_take]; omega
  have ht := own_take (l := st.length - n) (by omega) (by omega) ho
  have hM2 := HM.out.set2 ht
  rw [hlen] at hM2
  have HM2 : Aside (MchAt (w.setCell ⟨b, 2, none⟩ (.slice q (st.length - n) c)) b k rv q c (st.take (st.length - n))) := hM2
  have HK : Aside (MKeeps b w (w.setCell ⟨b, 2, none⟩ (.slice q (st.length - n) c))) := (MKeeps.refl b w).set _ _
  obtain ⟨p1, c1, r1, r2, g, rfl, hg, hB, hcell⟩ := val_slice_l (l := st.length - n) ho rfl (by omega)
  have hcell2 : Aside (∀ j (hj : j < (st.drop (st.length - n)).length), (w.setCell ⟨b, 2, none⟩ (.slice q (st.length - n) c)).cell? ⟨g, (st.length - n) * 3 + j * 3, none⟩ = some (.int .i64 (st.drop (st.length - n))[j].1) ∧ (w.setCell ⟨b, 2, none⟩ (.slice q (st.length - n) c)).cell? ⟨g, (st.length - n) * 3 + j * 3 + 1, none⟩ = some (.int .i64 (st.drop (st.length - n))[j].2.1) ∧ (w.setCell ⟨b, 2, none⟩ (.slice q (st.length - n) c)).cell? ⟨g, (st.length - n) * 3 + j * 3 + 2, none⟩ = some (.string (st.drop (st.length - n))[j].2.2)) := fun j hj => by
    have hne : ∀ o, (w.setCell ⟨b, 2, none⟩ (.slice q (st.length - n) c)).cell? ⟨g, o, none⟩ = w.cell? ⟨g, o, none⟩ := fun o => World.cell?_of_block (w := w) (a := ⟨g, o, none⟩) (Below.heap_setCell _ _ _ _ (by show g ≠ b; omega))
    rw [hne, hne, hne]
    exact hcell j hj
  have hsub : ((st.length - n : Nat) : Int) = (st.length : Int) - (n : Int) := by omega
  have hnn : st.length - (st.length - n) = n := by omega
  rw [hnn, hsub] at r1
  rw [hsub] at r2
  clear hsub
  generalize st.drop (st.length - n) = dr at hcell2 ⊢
  generalize st.take (st.length - n) = tk at HM2 ⊢
  generalize st.length - n = l at r1 r2 HM2 HK hcell2
  have hgz : g < (w.setCell ⟨b, 2, none⟩ (.slice q l c)).heap.size := by simpa [World.setCell] using hg
  have hbg : b < g := by omega
  generalize st.length = NN at c2 r1 r2 h64 hn2
  clear hcell ht hM2 ho HM hlen hnn hB
  go_enter Tryz.func77, Tryz.ntmps77
  go_wp2
  go_ret
  exact ⟨⟨g, l * 3, c1, rfl, hgz, hbg, hcell2.out⟩, HM2, HK⟩
set_option maxHeartbeats 4000000 in
set_option maxRecDepth 20000 in
theorem operate_any (b : Nat) (k : Int) (rv : Value) (q : Option Addr) (c : Nat) (st : List V3) (m : Int) (w : World) (hr : REnv w) (henv : ∀ W, Below b w W → REnv W) (h : MchAt w b k rv q c st) (h64 : st.length ≤ 64) (h0 : opE m = 0) (n : Nat) (hC : cntN (opN m) = n) (hn1 : 1 ≤ n) (hn : n ≤ st.length) (hsz : ∀ v ∈ st, v.2.2.size ≤ maxLen ∧ inB v.2.1) (T K : Int) (S : ByteArray) (E : Int) (hR : doP (opN m) (st.drop (st.length - n)) = ((T, K, S), E)) :
    Calls Tryz.prog 76 #[.pointer (some ⟨b, 0, none⟩), .int .i64 m] w fun e w' => e = .returned (errV E) ∧ Aside (E = 0 → ∃ q' c', MchAt w' b k rv q' c' (st.take (st.length - n) ++ [(T, K, S)])) ∧ Aside (MKeeps b w w') := by
  have cO := codeOp_any m w hr
  rw [h0] at cO
  simp only [show errV 0 = .nilIface from rfl] at cO
  have hbl := h.lt
  have HM : Aside (MchAt w b k rv q c st) := h
  have HE : Aside (∀ W, Below b w W → REnv W) := henv
  have cK := fun W hW => kindCount_any ⟨(opN m).toArray⟩ W hW n hC
  have HZ : Aside (∀ v ∈ st, v.2.2.size ≤ maxLen ∧ inB v.2.1) := hsz
  have HR : Hid (doP (opN m) (st.drop (st.length - n)) = ((T, K, S), E)) := hR
  obtain ⟨RV, hRV⟩ : ∃ RV, errV E = RV := ⟨_, rfl⟩
  have HRV : Hid (errV E = RV) := hRV
  obtain ⟨Z, hZ⟩ : ∃ Z : Prop, (E = 0) = Z := ⟨_, rfl⟩
  have HZZ : Hid ((E = 0) = Z) := hZ
  rw [hRV, hZ]
  clear henv hsz hR h hr h0 hRV hZ
  go_enter Tryz.func76, Tryz.ntmps76
  go_wp2_with fail
  refine cO.mono ?_
  rintro e w1 ⟨rfl, b1⟩
  have k1 := MKeeps.of_below b1 (Nat.le_of_lt hbl)
  have cK1 := cK w1 (HE.out _ k1.1)
  clear cO cK
  go_wp2_with fail
  refine cK1.mono ?_
  rintro e w2 ⟨⟨E0, rfl, hE0⟩, b2⟩
  obtain rfl : E0 = 0 := hE0 (by omega)
  simp only [show errV 0 = .nilIface from rfl]
  have M2 := (HM.out.on b1).on b2
  have K2 : MKeeps b w w2 := k1.on b2 (by have := b1.size; omega)
  have cT := take_any' b k rv q c st n w2 M2 hn1 hn h64
  clear cK1 b1 b2 hE0 k1 M2
  go_wp2_with fail
  refine cT.mono ?_
  rintro e w3 ⟨⟨g, o, c1, rfl, hg, hbg, hcell⟩, M3, K3⟩
  have hdl : (st.drop (st.length - n)).length = n := by rw [List.length_drop]; omega
  have K3' := K2.trans K3.out
  have cD := do_any ⟨(opN m).toArray⟩ (some ⟨g, o, none⟩) c1 n (st.drop (st.length - n)) w3 (HE.out _ K3'.1) hdl (by omega) (.inr ⟨g, o, rfl, hg, hcell⟩) (fun v hv => HZ.out v (List.mem_of_mem_drop hv)) T K S E HR.out
  have hs64 : (st.take (st.length - n)).length ≤ 64 := by rw [List.length_take]; omega
  clear cT hcell K3 K2 HR HZ
  by_cases hE : E = 0
  · subst hE
    simp only [show errV 0 = .nilIface from rfl] at cD
    obtain rfl : Value.nilIface = RV := HRV.out
    clear HRV
    go_wp2_with fail
    refine cD.mono ?_
    rintro e w4 ⟨rfl, b4⟩
    have hl3 := M3.out.lt
    have M4 := M3.out.on b4
    have M5 := M4.on (alB w4 (.cells #[.int .i64 T, .int .i64 K, .string S] 23))
    have K5 : MKeeps b w (w4.alloc (.cells #[.int .i64 T, .int .i64 K, .string S] 23)) := (K3'.on b4 (Nat.le_of_lt hl3)).alloc (Nat.le_of_lt M4.lt) _
    have cL := lay_any b k rv q c (st.take (st.length - n)) T K S _ M5 hs64
    clear cD b4 M3 M4 M5
    go_wp2_with fail
    refine cL.mono ?_
    rintro e w6 ⟨rfl, ⟨q', c', M6⟩, K6⟩
    have K7 : Aside (MKeeps b w w6) := K5.trans K6.out
    have M7 : Aside (Z → ∃ q' c', MchAt w6 b k rv q' c' (st.take (st.length - n) ++ [(T, K, S)])) := fun _ => ⟨q', c', M6.out⟩
    clear cL K5 K6 M6
    go_wp2
    go_ret
    exact ⟨rfl, M7, K7⟩
  · have hV : errV E = .iface 32 (.int .i64 E) := by rw [errV, if_neg hE]
    have M7 : ∀ w6, Aside (Z → ∃ q' c', MchAt w6 b k rv q' c' (st.take (st.length - n) ++ [(T, K, S)])) := fun _ h => absurd (HZZ.out.mpr h) hE
    rw [hV] at cD
    obtain rfl : Value.iface 32 (.int .i64 E) = RV := hV.symm.trans HRV.out
    clear hV hE HRV HZZ
    go_wp2_with fail
    refine cD.mono ?_
    rintro e w4 ⟨rfl, b4⟩
    have K5 : Aside (MKeeps b w (w4.alloc (.cells #[.int .i64 T, .int .i64 K, .string S] 23))) := (K3'.on b4 (Nat.le_of_lt M3.out.lt)).alloc (by have := M3.out.lt; have := b4.size; omega) _
    clear cD b4 M3
    go_wp2
    go_ret
    exact ⟨rfl, M7 _, K5⟩
end Go.Proofs.YtplnjbdngedafaaGreatDoor
