/-
  The walk of sluicelaw1.KindHolds, for every expression, columns and row.
-/
import Derived.Test.YtomakklbfjkdpaaDoorEvEv
namespace Go.Proofs.YtomakklbfjkdpaaDoor
open Go.RowKit Go.BigFrame
set_option linter.unusedVariables false

theorem rule_less : ruleP [60] [3, 3] = (2, 0) := by decide
set_option maxHeartbeats 4000000 in
set_option maxRecDepth 20000 in
theorem holds_law (x : Ex) (lo : Nat → Prop) (v vl vr : Value) (zs : List (ByteArray × Int)) (rs : List V3) (w : World) (henv : KEnv w) (hx : ExIn w lo v x) (hsz : (x.pre 1).length ≤ 1048576) (hxb : ExB x) (hcv : ColsV w vl zs) (hrv : ValsV w vr rs) (hrs : SizedV rs) :
    Calls Tryd.prog 5 #[v, vl, vr] w fun e' w' => e' = .returned (.bool true) ∧ Below w.heap.size w w' := by
  obtain ⟨o1, n1, t1, k1, s1, p1, m1, c1, a1, rfl⟩ := hx.agg
  have b0 : Below w.heap.size w ((w.alloc (.cells #[.string o1, .string n1, .int .i64 t1, .int .i64 k1, .string s1, .slice p1 m1 c1, .int .i64 a1] 27)).alloc (.cells #[.int .i64 3, .int .i64 3] 3)) := ((Below.refl _ w).alloc (Nat.le_refl _) _).alloc (by simp) _
  have cL := rule_any ⟨#[60]⟩ (some ⟨w.heap.size + 1, 0, none⟩) 2 2 [3, 3] _ (henv.on b0).rules rfl (by decide) (.inr ⟨_, _, rfl, by simp, fun j hj => by
    have : j = 0 ∨ j = 1 := by simp at hj; omega
    rcases this with rfl | rfl
    · rw [World.cell?_alloc_at _ _ _ _ (by simp)]; rfl
    · rw [World.cell?_alloc_at _ _ _ _ (by simp)]; rfl⟩) 2 0 rule_less
  rw [show errV 0 = .nilIface from rfl] at cL
  obtain ⟨T, H, P, hof⟩ : ∃ T H P, ofP zs x = (T, H, P) := ⟨_, _, _, rfl⟩
  obtain ⟨t, k, s, e, hev⟩ : ∃ t k s e, evP zs rs x = ((t, k, s), e) := ⟨_, _, _, _, rfl⟩
  have cO := fun W (hb : Below w.heap.size w W) => of_any x lo _ vl zs W (henv.on hb) (hx.on hb) hsz (hcv.on hb) T H P hof
  have cE := fun W (hb : Below w.heap.size w W) => eval_any x lo _ vl vr zs rs W (henv.on hb) (hx.on hb) hsz hxb (hcv.on hb) (hrv.on hb) hrs t k s e hev
  have cK := fun W (hb : Below w.heap.size w W) => rowCheck_v vl vr zs rs W (henv.on hb).tw (hcv.on hb) (hrv.on hb) hrs
  have HET : Aside (∀ W, Below w.heap.size w W → W.cell? ⟨1, 0, none⟩ = some (.iface 114 (.agg #[.pointer (some ⟨5, 32, none⟩)]))) := fun W hb => (henv.on hb).et
  have hci := cm_in (zs := zs) hxb hrs
  unfold evP at hev
  rw [hof] at hev hci
  simp only at hev hci
  have E0 : Hid (∀ W, Below (w.heap.size + 1) (w.alloc (.cells #[.string o1, .string n1, .int .i64 t1, .int .i64 k1, .string s1, .slice p1 m1 c1, .int .i64 a1] 27)) W → (∀ i, W.cell? ⟨w.heap.size, i, none⟩ = (#[.string o1, .string n1, .int .i64 t1, .int .i64 k1, .string s1, .slice p1 m1 c1, .int .i64 a1] : Array Value)[i]?) ∧ w.heap.size < W.heap.size ∧ Below w.heap.size w W) := fun W hb => by
    obtain ⟨h1, _, h3⟩ := box_at w _ _ hb (Nat.lt_succ_self _)
    exact ⟨h1, h3, ((Below.refl _ w).alloc (Nat.le_refl _) _).trans (hb.mono (Nat.le_succ _))⟩
  clear henv hx hsz hxb hcv hrv hof
  by_cases hH : H = 0
  · subst hH
    rw [if_neg (by simp)] at hev
    have hHb : ((0 : Int) != 0) = false := rfl
    by_cases hk : rowChk zs rs = 0
    · rw [if_neg (fun hh => hh hk)] at hev
      rw [hk, show errV 0 = .nilIface from rfl] at cK
      obtain ⟨hcm, _⟩ := hci rfl hk
      rw [hev] at hcm
      clear hci hk hrs
      rcases hcm with ⟨h0, hok⟩ | h9
      · simp only at h0
        subst h0
        obtain ⟨rfl, hck, hin⟩ := hok
        simp only at hck hin
        have hsz : s.size ≤ maxLen := by
          have := chk_size hck
          unfold maxLen
          simp at this
          omega
        rw [show errV 0 = .nilIface from rfl] at cE
        have cV := fun W => check_ok t k s W hsz hck
        have htt : (t == t) = true := by simp
        clear hck hin hev hsz
        go_enter Tryd.func5, Tryd.ntmps5
        go_wp2_with fail
        refine cL.mono ?_
        rintro e' w1 ⟨rfl, b1⟩
        have B1 : Below (w.heap.size + 1) (w.alloc (.cells #[.string o1, .string n1, .int .i64 t1, .int .i64 k1, .string s1, .slice p1 m1 c1, .int .i64 a1] 27)) w1 := ((Below.refl _ _).alloc (by simp) _).trans (b1.mono (by simp))
        obtain ⟨hB, hl, bw1⟩ := E0.out w1 B1
        have cO1 := cO w1 bw1
        have g0 : w1.cell? ⟨w.heap.size, 0, none⟩ = some (.string o1) := hB 0
        have g1 : w1.cell? ⟨w.heap.size, 1, none⟩ = some (.string n1) := hB 1
        have g2 : w1.cell? ⟨w.heap.size, 2, none⟩ = some (.int .i64 t1) := hB 2
        have g3 : w1.cell? ⟨w.heap.size, 3, none⟩ = some (.int .i64 k1) := hB 3
        have g4 : w1.cell? ⟨w.heap.size, 4, none⟩ = some (.string s1) := hB 4
        have g5 : w1.cell? ⟨w.heap.size, 5, none⟩ = some (.slice p1 m1 c1) := hB 5
        have g6 : w1.cell? ⟨w.heap.size, 6, none⟩ = some (.int .i64 a1) := hB 6
        clear cL cO b1 hB
        go_wp2_with fail
        refine cO1.mono ?_
        rintro e' w2 ⟨rfl, b2⟩
        have B2 := B1.trans (b2.mono (show w.heap.size + 1 ≤ _ by omega))
        have B3 := B2.alloc (E0.out w2 B2).2.1 (.cells #[.int .i64 0, .int .i64 P] 43)
        obtain ⟨hB, hl3, bw3⟩ := E0.out _ B3
        have cE3 := cE _ bw3
        have hl2 := (E0.out w2 B2).2.1
        have d0 : (w2.alloc (.cells #[.int .i64 0, .int .i64 P] 43)).cell? ⟨w.heap.size, 0, none⟩ = some (.string o1) := hB 0
        have d1 : (w2.alloc (.cells #[.int .i64 0, .int .i64 P] 43)).cell? ⟨w.heap.size, 1, none⟩ = some (.string n1) := hB 1
        have d2 : (w2.alloc (.cells #[.int .i64 0, .int .i64 P] 43)).cell? ⟨w.heap.size, 2, none⟩ = some (.int .i64 t1) := hB 2
        have d3 : (w2.alloc (.cells #[.int .i64 0, .int .i64 P] 43)).cell? ⟨w.heap.size, 3, none⟩ = some (.int .i64 k1) := hB 3
        have d4 : (w2.alloc (.cells #[.int .i64 0, .int .i64 P] 43)).cell? ⟨w.heap.size, 4, none⟩ = some (.string s1) := hB 4
        have d5 : (w2.alloc (.cells #[.int .i64 0, .int .i64 P] 43)).cell? ⟨w.heap.size, 5, none⟩ = some (.slice p1 m1 c1) := hB 5
        have d6 : (w2.alloc (.cells #[.int .i64 0, .int .i64 P] 43)).cell? ⟨w.heap.size, 6, none⟩ = some (.int .i64 a1) := hB 6
        clear cO1 cE b2 hB g0 g1 g2 g3 g4 g5 g6
        go_wp2_with fail
        refine cE3.mono ?_
        rintro e' w4 ⟨rfl, b4⟩
        have B4 := B3.trans (b4.mono (show w.heap.size + 1 ≤ _ by omega))
        have hl4 := (E0.out w4 B4).2.1
        obtain ⟨k1f, _, hlf⟩ := box_at w2 _ _ b4 (by simp)
        have f0 : w4.cell? ⟨w2.heap.size, 0, none⟩ = some (.int .i64 0) := k1f 0
        have B5 := B4.alloc hl4 (.cells #[.int .i64 t, .int .i64 k, .string s] 24)
        have cK5 := cK _ (E0.out _ B5).2.2
        clear cE3 cK b4 k1f d0 d1 d2 d3 d4 d5 d6
        go_wp2_with fail
        refine cK5.mono ?_
        rintro e' w6 ⟨rfl, b6⟩
        have B6 := B5.trans (b6.mono (by simp; omega))
        obtain ⟨k2f, _, hlg⟩ := box_at w4 _ _ b6 (by simp)
        have v0 : w6.cell? ⟨w4.heap.size, 0, none⟩ = some (.int .i64 t) := k2f 0
        have v1 : w6.cell? ⟨w4.heap.size, 1, none⟩ = some (.int .i64 k) := k2f 1
        have v2 : w6.cell? ⟨w4.heap.size, 2, none⟩ = some (.string s) := k2f 2
        clear cK5 b6 k2f f0
        go_wp2_with fail
        refine (cV _).mono ?_
        rintro e' w7 ⟨rfl, b7⟩
        have B7 := B6.trans (b7.mono (show w.heap.size + 1 ≤ _ from (E0.out w6 B6).2.1))
        have bf := (E0.out w7 B7).2.2
        clear cV b7 v0 v1 v2
        go_wp2
        go_ret
        exact ⟨rfl, bf⟩
      · simp only [noV, Prod.mk.injEq] at h9
        obtain ⟨⟨rfl, rfl, rfl⟩, rfl⟩ := h9
        rw [show errV 9 = .iface 41 (.int .i64 9) from rfl] at cE
        clear hev
        go_enter Tryd.func5, Tryd.ntmps5
        go_wp2_with fail
        refine cL.mono ?_
        rintro e' w1 ⟨rfl, b1⟩
        have B1 : Below (w.heap.size + 1) (w.alloc (.cells #[.string o1, .string n1, .int .i64 t1, .int .i64 k1, .string s1, .slice p1 m1 c1, .int .i64 a1] 27)) w1 := ((Below.refl _ _).alloc (by simp) _).trans (b1.mono (by simp))
        obtain ⟨hB, hl, bw1⟩ := E0.out w1 B1
        have cO1 := cO w1 bw1
        have g0 : w1.cell? ⟨w.heap.size, 0, none⟩ = some (.string o1) := hB 0
        have g1 : w1.cell? ⟨w.heap.size, 1, none⟩ = some (.string n1) := hB 1
        have g2 : w1.cell? ⟨w.heap.size, 2, none⟩ = some (.int .i64 t1) := hB 2
        have g3 : w1.cell? ⟨w.heap.size, 3, none⟩ = some (.int .i64 k1) := hB 3
        have g4 : w1.cell? ⟨w.heap.size, 4, none⟩ = some (.string s1) := hB 4
        have g5 : w1.cell? ⟨w.heap.size, 5, none⟩ = some (.slice p1 m1 c1) := hB 5
        have g6 : w1.cell? ⟨w.heap.size, 6, none⟩ = some (.int .i64 a1) := hB 6
        clear cL cO b1 hB
        go_wp2_with fail
        refine cO1.mono ?_
        rintro e' w2 ⟨rfl, b2⟩
        have B2 := B1.trans (b2.mono (show w.heap.size + 1 ≤ _ by omega))
        have B3 := B2.alloc (E0.out w2 B2).2.1 (.cells #[.int .i64 0, .int .i64 P] 43)
        obtain ⟨hB, hl3, bw3⟩ := E0.out _ B3
        have cE3 := cE _ bw3
        have hl2 := (E0.out w2 B2).2.1
        have d0 : (w2.alloc (.cells #[.int .i64 0, .int .i64 P] 43)).cell? ⟨w.heap.size, 0, none⟩ = some (.string o1) := hB 0
        have d1 : (w2.alloc (.cells #[.int .i64 0, .int .i64 P] 43)).cell? ⟨w.heap.size, 1, none⟩ = some (.string n1) := hB 1
        have d2 : (w2.alloc (.cells #[.int .i64 0, .int .i64 P] 43)).cell? ⟨w.heap.size, 2, none⟩ = some (.int .i64 t1) := hB 2
        have d3 : (w2.alloc (.cells #[.int .i64 0, .int .i64 P] 43)).cell? ⟨w.heap.size, 3, none⟩ = some (.int .i64 k1) := hB 3
        have d4 : (w2.alloc (.cells #[.int .i64 0, .int .i64 P] 43)).cell? ⟨w.heap.size, 4, none⟩ = some (.string s1) := hB 4
        have d5 : (w2.alloc (.cells #[.int .i64 0, .int .i64 P] 43)).cell? ⟨w.heap.size, 5, none⟩ = some (.slice p1 m1 c1) := hB 5
        have d6 : (w2.alloc (.cells #[.int .i64 0, .int .i64 P] 43)).cell? ⟨w.heap.size, 6, none⟩ = some (.int .i64 a1) := hB 6
        clear cO1 cE b2 hB g0 g1 g2 g3 g4 g5 g6
        go_wp2_with fail
        refine cE3.mono ?_
        rintro e' w4 ⟨rfl, b4⟩
        have B4 := B3.trans (b4.mono (show w.heap.size + 1 ≤ _ by omega))
        have hl4 := (E0.out w4 B4).2.1
        obtain ⟨k1f, _, hlf⟩ := box_at w2 _ _ b4 (by simp)
        have f0 : w4.cell? ⟨w2.heap.size, 0, none⟩ = some (.int .i64 0) := k1f 0
        have B5 := B4.alloc hl4 (.cells #[.int .i64 0, .int .i64 0, .string ⟨#[]⟩] 24)
        have cK5 := cK _ (E0.out _ B5).2.2
        clear cE3 cK b4 k1f d0 d1 d2 d3 d4 d5 d6
        go_wp2_with fail
        refine cK5.mono ?_
        rintro e' w6 ⟨rfl, b6⟩
        have B6 := B5.trans (b6.mono (by simp; omega))
        have cS := same_err 9 9 w6 (HET.out w6 (E0.out w6 B6).2.2)
        clear cK5 b6 f0
        go_wp2_with fail
        refine cS.mono ?_
        rintro e' w7 ⟨rfl, b7⟩
        have B7 := B6.trans (b7.mono (show w.heap.size + 1 ≤ _ from (E0.out w6 B6).2.1))
        have bf := (E0.out w7 B7).2.2
        clear cS b7
        go_wp2
        go_ret
        exact ⟨rfl, bf⟩
    · rw [if_pos hk] at hev
      obtain ⟨K, hK⟩ : ∃ K, rowChk zs rs = K := ⟨_, rfl⟩
      rw [hK] at hk hev cK
      simp only [noV, Prod.mk.injEq] at hev
      obtain ⟨⟨rfl, rfl, rfl⟩, rfl⟩ := hev
      have cE' := cE
      have cK' := cK
      clear cE cK
      have cE : ∀ W, Below w.heap.size w W → Calls Tryd.prog 15 #[.agg #[.string o1, .string n1, .int .i64 t1, .int .i64 k1, .string s1, .slice p1 m1 c1, .int .i64 a1], vl, vr] W fun e' w' => e' = .returned (.tuple #[.agg #[.int .i64 0, .int .i64 0, .string ⟨#[]⟩], .iface 41 (.int .i64 K)]) ∧ Below W.heap.size W w' := fun W hb => (cE' W hb).mono fun e' w' h => by rw [errV, if_neg hk] at h; exact h
      have cK : ∀ W, Below w.heap.size w W → Calls Tryd.prog 16 #[vl, vr] W fun e' w' => e' = .returned (.iface 41 (.int .i64 K)) ∧ Below W.heap.size W w' := fun W hb => (cK' W hb).mono fun e' w' h => by rw [errV, if_neg hk] at h; exact h
      clear hci hk hrs cE' cK' hK
      go_enter Tryd.func5, Tryd.ntmps5
      go_wp2_with fail
      refine cL.mono ?_
      rintro e' w1 ⟨rfl, b1⟩
      have B1 : Below (w.heap.size + 1) (w.alloc (.cells #[.string o1, .string n1, .int .i64 t1, .int .i64 k1, .string s1, .slice p1 m1 c1, .int .i64 a1] 27)) w1 := ((Below.refl _ _).alloc (by simp) _).trans (b1.mono (by simp))
      obtain ⟨hB, hl, bw1⟩ := E0.out w1 B1
      have cO1 := cO w1 bw1
      have g0 : w1.cell? ⟨w.heap.size, 0, none⟩ = some (.string o1) := hB 0
      have g1 : w1.cell? ⟨w.heap.size, 1, none⟩ = some (.string n1) := hB 1
      have g2 : w1.cell? ⟨w.heap.size, 2, none⟩ = some (.int .i64 t1) := hB 2
      have g3 : w1.cell? ⟨w.heap.size, 3, none⟩ = some (.int .i64 k1) := hB 3
      have g4 : w1.cell? ⟨w.heap.size, 4, none⟩ = some (.string s1) := hB 4
      have g5 : w1.cell? ⟨w.heap.size, 5, none⟩ = some (.slice p1 m1 c1) := hB 5
      have g6 : w1.cell? ⟨w.heap.size, 6, none⟩ = some (.int .i64 a1) := hB 6
      clear cL cO b1 hB
      go_wp2_with fail
      refine cO1.mono ?_
      rintro e' w2 ⟨rfl, b2⟩
      have B2 := B1.trans (b2.mono (show w.heap.size + 1 ≤ _ by omega))
      have B3 := B2.alloc (E0.out w2 B2).2.1 (.cells #[.int .i64 0, .int .i64 P] 43)
      obtain ⟨hB, hl3, bw3⟩ := E0.out _ B3
      have cE3 := cE _ bw3
      have hl2 := (E0.out w2 B2).2.1
      have d0 : (w2.alloc (.cells #[.int .i64 0, .int .i64 P] 43)).cell? ⟨w.heap.size, 0, none⟩ = some (.string o1) := hB 0
      have d1 : (w2.alloc (.cells #[.int .i64 0, .int .i64 P] 43)).cell? ⟨w.heap.size, 1, none⟩ = some (.string n1) := hB 1
      have d2 : (w2.alloc (.cells #[.int .i64 0, .int .i64 P] 43)).cell? ⟨w.heap.size, 2, none⟩ = some (.int .i64 t1) := hB 2
      have d3 : (w2.alloc (.cells #[.int .i64 0, .int .i64 P] 43)).cell? ⟨w.heap.size, 3, none⟩ = some (.int .i64 k1) := hB 3
      have d4 : (w2.alloc (.cells #[.int .i64 0, .int .i64 P] 43)).cell? ⟨w.heap.size, 4, none⟩ = some (.string s1) := hB 4
      have d5 : (w2.alloc (.cells #[.int .i64 0, .int .i64 P] 43)).cell? ⟨w.heap.size, 5, none⟩ = some (.slice p1 m1 c1) := hB 5
      have d6 : (w2.alloc (.cells #[.int .i64 0, .int .i64 P] 43)).cell? ⟨w.heap.size, 6, none⟩ = some (.int .i64 a1) := hB 6
      clear cO1 cE b2 hB g0 g1 g2 g3 g4 g5 g6
      go_wp2_with fail
      refine cE3.mono ?_
      rintro e' w4 ⟨rfl, b4⟩
      have B4 := B3.trans (b4.mono (show w.heap.size + 1 ≤ _ by omega))
      have hl4 := (E0.out w4 B4).2.1
      obtain ⟨k1f, _, hlf⟩ := box_at w2 _ _ b4 (by simp)
      have f0 : w4.cell? ⟨w2.heap.size, 0, none⟩ = some (.int .i64 0) := k1f 0
      have B5 := B4.alloc hl4 (.cells #[.int .i64 0, .int .i64 0, .string ⟨#[]⟩] 24)
      have cK5 := cK _ (E0.out _ B5).2.2
      clear cE3 cK b4 k1f d0 d1 d2 d3 d4 d5 d6
      go_wp2_with fail
      refine cK5.mono ?_
      rintro e' w6 ⟨rfl, b6⟩
      have B6 := B5.trans (b6.mono (by simp; omega))
      have bf := (E0.out w6 B6).2.2
      clear cK5 b6 f0
      go_wp2
      go_ret
      exact ⟨rfl, bf⟩
  · rw [if_pos hH] at hev
    simp only [noV, Prod.mk.injEq] at hev
    obtain ⟨⟨rfl, rfl, rfl⟩, rfl⟩ := hev
    have cE' := cE
    clear cE
    have cE : ∀ W, Below w.heap.size w W → Calls Tryd.prog 15 #[.agg #[.string o1, .string n1, .int .i64 t1, .int .i64 k1, .string s1, .slice p1 m1 c1, .int .i64 a1], vl, vr] W fun e' w' => e' = .returned (.tuple #[.agg #[.int .i64 0, .int .i64 0, .string ⟨#[]⟩], .iface 41 (.int .i64 H)]) ∧ Below W.heap.size W w' := fun W hb => (cE' W hb).mono fun e' w' h => by rw [errV, if_neg hH] at h; exact h
    have hHb : (H != 0) = true := by simpa using hH
    clear hci hrs cE' cK hH
    go_enter Tryd.func5, Tryd.ntmps5
    go_wp2_with fail
    refine cL.mono ?_
    rintro e' w1 ⟨rfl, b1⟩
    have B1 : Below (w.heap.size + 1) (w.alloc (.cells #[.string o1, .string n1, .int .i64 t1, .int .i64 k1, .string s1, .slice p1 m1 c1, .int .i64 a1] 27)) w1 := ((Below.refl _ _).alloc (by simp) _).trans (b1.mono (by simp))
    obtain ⟨hB, hl, bw1⟩ := E0.out w1 B1
    have cO1 := cO w1 bw1
    have g0 : w1.cell? ⟨w.heap.size, 0, none⟩ = some (.string o1) := hB 0
    have g1 : w1.cell? ⟨w.heap.size, 1, none⟩ = some (.string n1) := hB 1
    have g2 : w1.cell? ⟨w.heap.size, 2, none⟩ = some (.int .i64 t1) := hB 2
    have g3 : w1.cell? ⟨w.heap.size, 3, none⟩ = some (.int .i64 k1) := hB 3
    have g4 : w1.cell? ⟨w.heap.size, 4, none⟩ = some (.string s1) := hB 4
    have g5 : w1.cell? ⟨w.heap.size, 5, none⟩ = some (.slice p1 m1 c1) := hB 5
    have g6 : w1.cell? ⟨w.heap.size, 6, none⟩ = some (.int .i64 a1) := hB 6
    clear cL cO b1 hB
    go_wp2_with fail
    refine cO1.mono ?_
    rintro e' w2 ⟨rfl, b2⟩
    have B2 := B1.trans (b2.mono (show w.heap.size + 1 ≤ _ by omega))
    have B3 := B2.alloc (E0.out w2 B2).2.1 (.cells #[.int .i64 H, .int .i64 P] 43)
    obtain ⟨hB, hl3, bw3⟩ := E0.out _ B3
    have cE3 := cE _ bw3
    have hl2 := (E0.out w2 B2).2.1
    have d0 : (w2.alloc (.cells #[.int .i64 H, .int .i64 P] 43)).cell? ⟨w.heap.size, 0, none⟩ = some (.string o1) := hB 0
    have d1 : (w2.alloc (.cells #[.int .i64 H, .int .i64 P] 43)).cell? ⟨w.heap.size, 1, none⟩ = some (.string n1) := hB 1
    have d2 : (w2.alloc (.cells #[.int .i64 H, .int .i64 P] 43)).cell? ⟨w.heap.size, 2, none⟩ = some (.int .i64 t1) := hB 2
    have d3 : (w2.alloc (.cells #[.int .i64 H, .int .i64 P] 43)).cell? ⟨w.heap.size, 3, none⟩ = some (.int .i64 k1) := hB 3
    have d4 : (w2.alloc (.cells #[.int .i64 H, .int .i64 P] 43)).cell? ⟨w.heap.size, 4, none⟩ = some (.string s1) := hB 4
    have d5 : (w2.alloc (.cells #[.int .i64 H, .int .i64 P] 43)).cell? ⟨w.heap.size, 5, none⟩ = some (.slice p1 m1 c1) := hB 5
    have d6 : (w2.alloc (.cells #[.int .i64 H, .int .i64 P] 43)).cell? ⟨w.heap.size, 6, none⟩ = some (.int .i64 a1) := hB 6
    clear cO1 cE b2 hB g0 g1 g2 g3 g4 g5 g6
    go_wp2_with fail
    refine cE3.mono ?_
    rintro e' w4 ⟨rfl, b4⟩
    have B4 := B3.trans (b4.mono (show w.heap.size + 1 ≤ _ by omega))
    have hl4 := (E0.out w4 B4).2.1
    obtain ⟨k1f, _, hlf⟩ := box_at w2 _ _ b4 (by simp)
    have f0 : w4.cell? ⟨w2.heap.size, 0, none⟩ = some (.int .i64 H) := k1f 0
    have B5 := B4.alloc hl4 (.cells #[.int .i64 0, .int .i64 0, .string ⟨#[]⟩] 24)
    have cS := same_err H H (w4.alloc (.cells #[.int .i64 0, .int .i64 0, .string ⟨#[]⟩] 24)) (HET.out _ (E0.out _ B5).2.2)
    rw [show (H == H) = true by simp] at cS
    clear cE3 b4 k1f d0 d1 d2 d3 d4 d5 d6
    go_wp2_with fail
    refine cS.mono ?_
    rintro e' w7 ⟨rfl, b7⟩
    have B7 := B5.trans (b7.mono (by simp; omega))
    have bf := (E0.out w7 B7).2.2
    clear cS b7
    go_wp2
    go_ret
    exact ⟨rfl, bf⟩
end Go.Proofs.YtomakklbfjkdpaaDoor
