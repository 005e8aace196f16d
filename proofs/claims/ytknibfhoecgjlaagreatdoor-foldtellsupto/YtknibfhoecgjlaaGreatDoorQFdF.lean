/-
  Package fold's Fold at any expression and columns, over what short gives. (Written by wip/gen_fdf.py.)
-/
import Derived.Test.YtknibfhoecgjlaaGreatDoorQFdI
import Derived.Test.YtknibfhoecgjlaaGreatDoorGrAp
import Derived.Test.YtknibfhoecgjlaaGreatDoorGrAf
namespace Go.Proofs.YtknibfhoecgjlaaGreatDoor
open Go.RowKit
set_option linter.unusedVariables false

theorem rg_of {zs : List (ByteArray × Int)} {x : Ex} {T P : Int} (h : ofP zs x = (T, 0, P)) (hb : ExB x) : Rg zs T x := by
  have h0 : (ofP zs x).2.1 = 0 := by rw [h]
  have hck : ckP x = 0 := by
    by_cases hc : ckP x = 0
    · exact hc
    · rw [ofP, if_pos hc] at h0; exact absurd h0 hc
  have hs : schE zs = 0 := by
    by_cases hc : schE zs = 0
    · exact hc
    · rw [ofP, if_neg (fun hh => hh hck), if_pos hc] at h0; exact absurd h0 hc
  rw [ofP, if_neg (fun hh => hh hck), if_neg (fun hh => hh hs)] at h
  refine ⟨(allN_pre x 1).1 (ckP_zero hck).2, (allN_pre x 1).1 hb, ?_⟩
  rw [ty_zero (by rw [h]), h]
set_option maxHeartbeats 4000000 in
set_option maxRecDepth 20000 in
theorem fold_any {zs : List (ByteArray × Int)} (hS : ∀ (x : Ex) (T : Int) (lo : Nat → Prop) (v : Value) (w : World), Rg zs T x → REnv w → ExIn w lo v x → Calls Tryz.prog 23 #[v] w fun e w' => (∃ u, e = .returned u ∧ ExIn w' (fun b => w.heap.size ≤ b) u (fdP x)) ∧ Below w.heap.size w w') (x : Ex) (lo : Nat → Prop) (v vl : Value) (w : World) (henv : KEnv w) (hx : ExIn w lo v x) (hsz : (x.pre 1).length ≤ 1048576) (hxb : ExB x) (hcv : ColsV w vl zs) (T H P : Int) (hR : ofP zs x = (T, H, P)) :
    Calls Tryz.prog 7 #[v, vl] w fun e w' => (∃ u, e = .returned (.tuple #[u, errV H]) ∧ Aside (H = 0 → ExIn w' (fun b => w.heap.size ≤ b) u (fdP x)) ∧ Aside (H ≠ 0 → u = .agg #[.string ⟨#[]⟩, .string ⟨#[]⟩, .int .i64 0, .int .i64 0, .string ⟨#[]⟩, .slice none 0 0, .int .i64 0])) ∧ Below w.heap.size w w' := by
  obtain ⟨o1, n1, t1, k1, s1, p1, m1, c1, a1, rfl⟩ := hx.agg
  have bW : Below w.heap.size w ((w.alloc (.cells #[.string o1, .string n1, .int .i64 t1, .int .i64 k1, .string s1, .slice p1 m1 c1, .int .i64 a1] 26)).alloc (.cells #[.string ⟨#[]⟩, .string ⟨#[]⟩, .int .i64 0, .int .i64 0, .string ⟨#[]⟩, .slice none 0 0, .int .i64 0] 26)) := ((Below.refl _ w).alloc (Nat.le_refl _) _).alloc (by simp) _
  have X0 := box7_at (w.alloc (.cells #[.string o1, .string n1, .int .i64 t1, .int .i64 k1, .string s1, .slice p1 m1 c1, .int .i64 a1] 26)) (w.heap.size + 1) (by simp) (.string ⟨#[]⟩) (.string ⟨#[]⟩) (.int .i64 0) (.int .i64 0) (.string ⟨#[]⟩) (.slice none 0 0) (.int .i64 0) 26
  have XE := (box7_at w w.heap.size rfl (.string o1) (.string n1) (.int .i64 t1) (.int .i64 k1) (.string s1) (.slice p1 m1 c1) (.int .i64 a1) 26).on ((Below.refl _ (w.alloc (.cells #[.string o1, .string n1, .int .i64 t1, .int .i64 k1, .string s1, .slice p1 m1 c1, .int .i64 a1] 26))).alloc (Nat.le_refl _) (.cells #[.string ⟨#[]⟩, .string ⟨#[]⟩, .int .i64 0, .int .i64 0, .string ⟨#[]⟩, .slice none 0 0, .int .i64 0] 26))
  have KB : Hid (∀ W, Below (w.heap.size + 2) ((w.alloc (.cells #[.string o1, .string n1, .int .i64 t1, .int .i64 k1, .string s1, .slice p1 m1 c1, .int .i64 a1] 26)).alloc (.cells #[.string ⟨#[]⟩, .string ⟨#[]⟩, .int .i64 0, .int .i64 0, .string ⟨#[]⟩, .slice none 0 0, .int .i64 0] 26)) W → Box7 W w.heap.size (.string o1) (.string n1) (.int .i64 t1) (.int .i64 k1) (.string s1) (.slice p1 m1 c1) (.int .i64 a1) ∧ Box7 W (w.heap.size + 1) (.string ⟨#[]⟩) (.string ⟨#[]⟩) (.int .i64 0) (.int .i64 0) (.string ⟨#[]⟩) (.slice none 0 0) (.int .i64 0) ∧ w.heap.size + 2 ≤ W.heap.size ∧ Below w.heap.size w W) := fun W hb => by
    have hz := hb.size
    simp at hz
    exact ⟨XE.on (hb.mono (by simp)), X0.on (hb.mono (by simp)), by omega, bW.trans (hb.mono (by omega))⟩
  have cO := of_any x lo _ vl zs _ (henv.on bW) (hx.on bW) hsz (hcv.on bW) T H P hR
  obtain ⟨pz, cz, hvl, -⟩ := id hcv
  subst hvl
  by_cases h0 : H = 0
  · subst h0
    have cS := fun W (b : Below w.heap.size w W) => hS x T lo _ W (rg_of hR hxb) (henv.on b).rules (hx.on b)
    clear hS henv hx hsz hxb hcv hR X0 XE
    go_enter Tryz.func7, Tryz.ntmps7
    go_wp2_with fail
    refine cO.mono ?_
    rintro e w1 ⟨rfl, b1⟩
    have b1' : Below (w.heap.size + 2) ((w.alloc (.cells #[.string o1, .string n1, .int .i64 t1, .int .i64 k1, .string s1, .slice p1 m1 c1, .int .i64 a1] 26)).alloc (.cells #[.string ⟨#[]⟩, .string ⟨#[]⟩, .int .i64 0, .int .i64 0, .string ⟨#[]⟩, .slice none 0 0, .int .i64 0] 26)) w1 := b1.mono (by simp)
    obtain ⟨E1, -, hs1, B1⟩ := KB.out w1 b1'
    obtain ⟨e0, e1, e2, e3, e4, e5, e6, -, el⟩ := E1
    have B1a := B1.alloc B1.size (.cells #[.int .i64 0, .int .i64 P] 59)
    have c2 := cS _ B1a
    clear cO cS b1
    go_wp2_with fail
    refine c2.mono ?_
    rintro e w2 ⟨⟨u, rfl, hu⟩, b2⟩
    obtain ⟨r0, r1, r2, r3, r4, r5, r6, r7, r8, rfl⟩ := hu.agg
    have b2' : Below (w.heap.size + 2) ((w.alloc (.cells #[.string o1, .string n1, .int .i64 t1, .int .i64 k1, .string s1, .slice p1 m1 c1, .int .i64 a1] 26)).alloc (.cells #[.string ⟨#[]⟩, .string ⟨#[]⟩, .int .i64 0, .int .i64 0, .string ⟨#[]⟩, .slice none 0 0, .int .i64 0] 26)) w2 := (b1'.alloc hs1 _).trans (b2.mono (by simp; omega))
    obtain ⟨-, Z2, hs2, B2⟩ := KB.out w2 b2'
    have RZ := Z2.set (.string r0) (.string r1) (.int .i64 r2) (.int .i64 r3) (.string r4) (.slice r5 r6 r7) (.int .i64 r8)
    have BZ := below_set7F B2 (Nat.le_succ _) (.string r0) (.string r1) (.int .i64 r2) (.int .i64 r3) (.string r4) (.slice r5 r6 r7) (.int .i64 r8)
    have HU : Aside (ExIn w2 (fun b => w1.heap.size + 1 ≤ b) (.agg #[.string r0, .string r1, .int .i64 r2, .int .i64 r3, .string r4, .slice r5 r6 r7, .int .i64 r8]) (fdP x)) := ExIn.low (fun b _ h => by simpa using h) _ _ hu
    have UZ : Aside (ExIn _ (fun b => w.heap.size ≤ b) (.agg #[.string r0, .string r1, .int .i64 r2, .int .i64 r3, .string r4, .slice r5 r6 r7, .int .i64 r8]) (fdP x)) := ExIn.low (fun b _ h => by omega) _ _ (HU.out.set7 (z := w.heap.size + 1) (fun b hb => by omega) (.string r0) (.string r1) (.int .i64 r2) (.int .i64 r3) (.string r4) (.slice r5 r6 r7) (.int .i64 r8))
    obtain ⟨z0, z1, z2, z3, z4, z5, z6, zf, zl⟩ := Z2
    have HRZ : Aside (Box7 _ _ _ _ _ _ _ _ _) := RZ
    have HBZ : Aside (Below _ _ _) := BZ
    clear c2 b1' b2 b2' hu HU RZ BZ B1 B1a B2 KB bW e0 e1 e2 e3 e4 e5 e6 el
    go_wp2
    exact bodyPost_ret (v := .tuple #[.agg #[.string r0, .string r1, .int .i64 r2, .int .i64 r3, .string r4, .slice r5 r6 r7, .int .i64 r8], .nilIface]) (by simp [results, Tryz.results7, go_sem, HRZ.out.c0, HRZ.out.c1, HRZ.out.c2, HRZ.out.c3, HRZ.out.c4, HRZ.out.c5, HRZ.out.c6]) rfl ⟨⟨_, rfl, (show Aside _ from fun _ => UZ.out), (show Aside _ from fun h => absurd rfl h)⟩, HBZ.out⟩
  · have hHb : (H != 0) = true := by simpa using h0
    have hV : errV H = .iface 57 (.int .i64 H) := by rw [errV, if_neg h0]
    rw [hV]
    have H0 : Hid (H ≠ 0) := h0
    clear hS henv hx hsz hxb hcv hR X0 XE h0 hV
    go_enter Tryz.func7, Tryz.ntmps7
    go_wp2_with fail
    refine cO.mono ?_
    rintro e w1 ⟨rfl, b1⟩
    have b1' : Below (w.heap.size + 2) ((w.alloc (.cells #[.string o1, .string n1, .int .i64 t1, .int .i64 k1, .string s1, .slice p1 m1 c1, .int .i64 a1] 26)).alloc (.cells #[.string ⟨#[]⟩, .string ⟨#[]⟩, .int .i64 0, .int .i64 0, .string ⟨#[]⟩, .slice none 0 0, .int .i64 0] 26)) w1 := b1.mono (by simp)
    obtain ⟨-, Z1, hs1, B1⟩ := KB.out w1 b1'
    obtain ⟨W3, hW3⟩ : ∃ W3, w1.alloc (.cells #[.int .i64 H, .int .i64 P] 59) = W3 := ⟨_, rfl⟩
    have Z3 : Box7 W3 (w.heap.size + 1) (.string ⟨#[]⟩) (.string ⟨#[]⟩) (.int .i64 0) (.int .i64 0) (.string ⟨#[]⟩) (.slice none 0 0) (.int .i64 0) := by rw [← hW3]; exact Z1.on ((Below.refl _ _).alloc (Nat.le_refl _) _)
    have B3 : Below w.heap.size w W3 := by rw [← hW3]; exact B1.alloc B1.size _
    have f0 : W3.cell? ⟨w1.heap.size, 0, none⟩ = some (.int .i64 H) := by rw [← hW3, World.cell?_alloc_at _ _ _ _ rfl]; rfl
    have hl3 : w1.heap.size < W3.heap.size := by rw [← hW3]; simp
    have RZ := Z3.set (.string ⟨#[]⟩) (.string ⟨#[]⟩) (.int .i64 0) (.int .i64 0) (.string ⟨#[]⟩) (.slice none 0 0) (.int .i64 0)
    have BZ := below_set7F B3 (Nat.le_succ _) (.string ⟨#[]⟩) (.string ⟨#[]⟩) (.int .i64 0) (.int .i64 0) (.string ⟨#[]⟩) (.slice none 0 0) (.int .i64 0)
    have HRZ : Aside (Box7 _ _ _ _ _ _ _ _ _) := RZ
    have HBZ : Aside (Below _ _ _) := BZ
    obtain ⟨z0, z1, z2, z3, z4, z5, z6, zf, zl⟩ := Z3
    have hne : ¬ w.heap.size + 1 = w1.heap.size := by omega
    have hne2 : ¬ w1.heap.size = w.heap.size + 1 := by omega
    clear cO b1 b1' Z1 B1 B3 RZ BZ KB bW
    go_wp2
    clear hW3
    go_region
    all_goals
      go_wp2
      exact bodyPost_ret (v := .tuple #[.agg #[.string ⟨#[]⟩, .string ⟨#[]⟩, .int .i64 0, .int .i64 0, .string ⟨#[]⟩, .slice none 0 0, .int .i64 0], .iface 57 (.int .i64 H)]) (by simp [results, Tryz.results7, go_sem, HRZ.out.c0, HRZ.out.c1, HRZ.out.c2, HRZ.out.c3, HRZ.out.c4, HRZ.out.c5, HRZ.out.c6]) rfl ⟨⟨_, rfl, (show Aside _ from fun h => absurd h H0.out), (show Aside _ from fun _ => rfl)⟩, HBZ.out.drew⟩
end Go.Proofs.YtknibfhoecgjlaaGreatDoor
