/-
  sluicelaw4.BatchFilters: the law's walk.
-/
import Derived.Test.YticdcnbeemkapaaGreatDoorQBfT
import Derived.Deep.DeepCutAuto
namespace Go.Proofs.YticdcnbeemkapaaGreatDoor
open Go.RowKit Go.BigFrame
set_option linter.unusedVariables false
set_option linter.unusedSimpArgs false

theorem qyA_F {x : Ex} (h : (x.pre 1).length ≤ 1048576) : QyA (qyF x) := by
  refine ⟨h, fun y hy => ?_, fun a ha => (by cases ha), fun s hs => ?_, (by show inM 0; simp [inM]), (by show inM 0; simp [inM])⟩
  · rw [List.mem_singleton.1 hy]; decide
  · rw [List.mem_singleton.1 hs]; decide
set_option maxHeartbeats 8000000 in
set_option maxRecDepth 20000 in
theorem filters_any (x : Ex) (v vl vr : Value) (zs : List Cl) (rws : List (List V3)) (w : World) (henv : KEnv w) (haenv : AEnv w) (het : EtAt w) (hx : ExIn w anyB v x) (hsz : (x.pre 1).length ≤ 1048575) (hxb : ExB x) (hcv : ColsV w vl zs) (hrv : RowsV w vr rws) :
    Calls Tryz.prog 3 #[v, vl, vr] w fun e w' => e = .returned (.bool true) ∧ Below w.heap.size w w' := by
  obtain ⟨xp, xc, rfl, -⟩ := id hx.whole
  have bb : ∀ (X : World) o, Below X.heap.size X (X.alloc o) := fun X o => (Below.refl _ _).alloc (Nat.le_refl _) o
  go_enter Tryz.func3, Tryz.ntmps3
  go_wp2
  have hb3 : Below w.heap.size w (((w.alloc (.cells #[.string x.op, .string x.nm, .int .i64 x.vt, .int .i64 x.vn, .string x.vs, .slice xp x.args.length xc, .int .i64 x.pos] 26)).alloc (.cells #[.string ⟨#[120]⟩, .int .i64 1] 30)).alloc (.cells #[.string ⟨#[99, 111, 108]⟩, .string ⟨#[120]⟩, .int .i64 0, .int .i64 0, .string ⟨#[]⟩, .slice none 0 0, .int .i64 0] 26)) := (((Below.refl w.heap.size w).alloc (Nat.le_refl _) _).alloc (by simp) _).alloc (by simp; omega) _
  have hbx : Blk (((w.alloc (.cells #[.string x.op, .string x.nm, .int .i64 x.vt, .int .i64 x.vn, .string x.vs, .slice xp x.args.length xc, .int .i64 x.pos] 26)).alloc (.cells #[.string ⟨#[120]⟩, .int .i64 1] 30)).alloc (.cells #[.string ⟨#[99, 111, 108]⟩, .string ⟨#[120]⟩, .int .i64 0, .int .i64 0, .string ⟨#[]⟩, .slice none 0 0, .int .i64 0] 26)) w.heap.size #[.string x.op, .string x.nm, .int .i64 x.vt, .int .i64 x.vn, .string x.vs, .slice xp x.args.length xc, .int .i64 x.pos] 26 := ((blk_alloc w _ _).on (bb _ _)).on (bb _ _)
  have hbc : Blk (((w.alloc (.cells #[.string x.op, .string x.nm, .int .i64 x.vt, .int .i64 x.vn, .string x.vs, .slice xp x.args.length xc, .int .i64 x.pos] 26)).alloc (.cells #[.string ⟨#[120]⟩, .int .i64 1] 30)).alloc (.cells #[.string ⟨#[99, 111, 108]⟩, .string ⟨#[120]⟩, .int .i64 0, .int .i64 0, .string ⟨#[]⟩, .slice none 0 0, .int .i64 0] 26)) (w.heap.size + 1) #[.string ⟨#[120]⟩, .int .i64 1] 30 := (blk_at (by simp)).on (bb _ _)
  have hbg : Blk (((w.alloc (.cells #[.string x.op, .string x.nm, .int .i64 x.vt, .int .i64 x.vn, .string x.vs, .slice xp x.args.length xc, .int .i64 x.pos] 26)).alloc (.cells #[.string ⟨#[120]⟩, .int .i64 1] 30)).alloc (.cells #[.string ⟨#[99, 111, 108]⟩, .string ⟨#[120]⟩, .int .i64 0, .int .i64 0, .string ⟨#[]⟩, .slice none 0 0, .int .i64 0] 26)) (w.heap.size + 1 + 1) (xC colX none 0) 26 := blk_at (by simp)
  generalize ((w.alloc (.cells #[.string x.op, .string x.nm, .int .i64 x.vt, .int .i64 x.vn, .string x.vs, .slice xp x.args.length xc, .int .i64 x.pos] 26)).alloc (.cells #[.string ⟨#[120]⟩, .int .i64 1] 30)).alloc (.cells #[.string ⟨#[99, 111, 108]⟩, .string ⟨#[120]⟩, .int .i64 0, .int .i64 0, .string ⟨#[]⟩, .slice none 0 0, .int .i64 0] 26) = W3 at hb3 hbx hbc hbg ⊢
  refine call_F W3 (henv.on hb3) (haenv.on hb3) (het.on hb3) _ rfl (w.heap.size + 1 + 1) (w.heap.size + 1) rfl rfl rfl hbg hbc ?_
  intro vs W4 hg4 hO4 hN4
  generalize hA : putL vs _ 0 _ = A
  have hA1 : A = ⟨((.agg #[.string x.op, .string x.nm, .int .i64 x.vt, .int .i64 x.vn, .string x.vs, .slice xp x.args.length xc, .int .i64 x.pos]) :: (vl) :: (vr) :: (.pointer (some ⟨w.heap.size, 0, none⟩)) :: (undef) :: (undef) :: (.bool false) :: (.slice (some ⟨w.heap.size + 1, 0, none⟩) 1 1) :: (.pointer (some ⟨w.heap.size + 1 + 1, 0, none⟩)) :: (vs 14) :: (vs 15) :: (undef) :: (undef) :: (undef) :: (undef) :: (undef) :: (undef) :: (undef) :: (undef) :: (undef) :: (undef) :: (undef) :: (undef) :: (undef) :: (undef) :: (undef) :: (.agg #[.string ⟨#[120]⟩, .int .i64 1]) :: (.slice (some ⟨w.heap.size + 1, 0, none⟩) 1 1) :: (.agg #[.string ⟨#[99, 111, 108]⟩, .string ⟨#[120]⟩, .int .i64 0, .int .i64 0, .string ⟨#[]⟩, .slice none 0 0, .int .i64 0]) :: (vs 11) :: (vs 0) :: (vs 1) :: (vs 2) :: (vs 3) :: (vs 4) :: (vs 5) :: (vs 6) :: (vs 7) :: (vs 8) :: (vs 9) :: (vs 10) :: (vs 12) :: (vs 13) :: (undef) :: (undef) :: (undef) :: (undef) :: (undef) :: (undef) :: (undef) :: (undef) :: (undef) :: (undef) :: (undef) :: (undef) :: (undef) :: (undef) :: (undef) :: (undef) :: (undef) :: (undef) :: (undef) :: (undef) :: (undef) :: (undef) :: (undef) :: (undef) :: (undef) :: (undef) :: (undef) :: (undef) :: (undef) :: (undef) :: (undef) :: (undef) :: (undef) :: (undef) :: (undef) :: (undef) :: (undef) :: (undef) :: (undef) :: (undef) :: (undef) :: (undef) :: (undef) :: (undef) :: (undef) :: (undef) :: (undef) :: (undef) :: (undef) :: (undef) :: (undef) :: (undef) :: (undef) :: (undef) :: (undef) :: (undef) :: (undef) :: (undef) :: (undef) :: (undef) :: (undef) :: (undef) :: (undef) :: (undef) :: (undef) :: (undef) :: (undef) :: (undef) :: (undef) :: (undef) :: (undef) :: (undef) :: (undef) :: (undef) :: (undef) :: (undef) :: (undef) :: (undef) :: (undef) :: (undef) :: (undef) :: (undef) :: (undef) :: (undef) :: (undef) :: (undef) :: (undef) :: (undef) :: (undef) :: (undef) :: (undef) :: (undef) :: (undef) :: (undef) :: (undef) :: (undef) :: (undef) :: (undef) :: (undef) :: (undef) :: (undef) :: (undef) :: (undef) :: (undef) :: (undef) :: (undef) :: (undef) :: (undef) :: (undef) :: (undef) :: (undef) :: (undef) :: (undef) :: (undef) :: (undef) :: (undef) :: (undef) :: (undef) :: (undef) :: []).toArray, []⟩ := hA.symm.trans (by kernel_rfl)
  clear hA
  rw [hA1, hN4]
  clear hA1 hN4
  obtain ⟨q9, c9, e9, hO⟩ := hO4
  rw [e9]
  clear e9
  rcases hO with hO | ⟨b9, rfl, hl9, hO⟩
  · exact absurd hO (by decide)
  obtain ⟨rq, rc, z0, z1, z2, hV⟩ := hO 1 (by decide)
  have z0 : W4.cell? ⟨b9, 3, none⟩ = some (.slice rq 1 rc) := z0
  rcases hV with hV | ⟨br, orr, rfl, hlr, hV⟩
  · exact absurd hV (by decide)
  obtain ⟨-, y1, -⟩ := hV 0 (by decide)
  have y1 : W4.cell? ⟨br, orr + 1, none⟩ = some (.int .i64 4) := by
    have h := y1
    rw [Nat.zero_mul, Nat.add_zero] at h
    exact h
  clear hO hV z1 z2
  have B4 : Below w.heap.size w W4 := hb3.trans (hg4.mono hb3.size)
  have hbx4 := hbx.on hg4
  clear hbx hbc hbg hb3 hg4
  obtain ⟨T, H, P, hof⟩ : ∃ T H P, ofP zs x = (T, H, P) := ⟨_, _, _, rfl⟩
  have cO := of_any x anyB _ vl zs W4 (henv.on B4) (hx.on B4) (by omega) (hcv.on B4) T H P hof
  have hld := fun W (h : Blk W w.heap.size #[.string x.op, .string x.nm, .int .i64 x.vt, .int .i64 x.vn, .string x.vs, .slice xp x.args.length xc, .int .i64 x.pos] 26) => @ld_row W _ _ _ _ h Tryz.underlying26 rfl (by kernel_rfl)
  have HENV := (show Aside (KEnv w) from henv)
  have HAENV := (show Aside (AEnv w) from haenv)
  have HET := (show Aside (EtAt w) from het)
  have HX := (show Aside (ExIn w anyB _ x) from hx)
  have HCV := (show Aside (ColsV w vl zs) from hcv)
  have HRV := (show Aside (RowsV w vr rws) from hrv)
  have HOF : Hid (ofP zs x = (T, H, P)) := hof
  have HXB := (show Aside (ExB x) from hxb)
  have HB4 := (show Aside (Below w.heap.size w W4) from B4)
  clear henv haenv het hx hxb hcv hrv hof
  obtain ⟨rq', rcc', rfl, hrm, hRB, hRS⟩ := id HRV.out
  have HRB : Aside (RowsB w rq' rws) := hRB
  have HRS : Aside (∀ r ∈ rws, SizedV r ∧ r.length ≤ maxLen) := hRS
  clear hRB hRS
  go_wp2_with (refine hld _ hbx4 rfl _ rfl rfl ?_)
  go_wp2_with fail
  refine cO.mono ?_
  rintro e W5 ⟨rfl, b5⟩
  have hbx5 := hbx4.on b5
  have B5 := B4.trans (b5.mono B4.size)
  have hl5 := B5.size
  have lx5 := hbx5.lt
  clear cO hbx4 z0 y1 hl9 hlr b5 B4 HB4
  have k1 := hbx5.on (bb W5 (.cells #[.int .i64 H, .int .i64 P] 46))
  have HB5 := (show Aside (Below w.heap.size w W5) from B5)
  clear B5
  obtain ⟨CK, hck⟩ : ∃ CK, ckP (notX x) = CK := ⟨_, rfl⟩
  have hnot : ExIn ((W5.alloc (.cells #[.int .i64 H, .int .i64 P] 46)).alloc (.cells #[.string x.op, .string x.nm, .int .i64 x.vt, .int .i64 x.vn, .string x.vs, .slice xp x.args.length xc, .int .i64 x.pos] 26)) anyB (.agg #[.string ⟨#[110, 111, 116]⟩, .string ⟨#[]⟩, .int .i64 0, .int .i64 0, .string ⟨#[]⟩, .slice (some ⟨W5.heap.size + 1, 0, none⟩) 1 1, .int .i64 0]) (notX x) := mk1_in ⟨#[110, 111, 116]⟩ (by decide) ((HX.out.on HB5.out).on (bb W5 (.cells #[.int .i64 H, .int .i64 P] 46))) (W5.heap.size + 1) (by simp)
  have B7 : Below w.heap.size w (((W5.alloc (.cells #[.int .i64 H, .int .i64 P] 46)).alloc (.cells #[.string x.op, .string x.nm, .int .i64 x.vt, .int .i64 x.vn, .string x.vs, .slice xp x.args.length xc, .int .i64 x.pos] 26)).alloc (.cells #[.string ⟨#[110, 111, 116]⟩, .string ⟨#[]⟩, .int .i64 0, .int .i64 0, .string ⟨#[]⟩, .slice (some ⟨W5.heap.size + 1, 0, none⟩) 1 1, .int .i64 0] 26)) := ((HB5.out.alloc hl5 _).alloc (by simp; omega) _).alloc (by simp; omega) _
  have cCk := check_tree (notX x) anyB _ (((W5.alloc (.cells #[.int .i64 H, .int .i64 P] 46)).alloc (.cells #[.string x.op, .string x.nm, .int .i64 x.vt, .int .i64 x.vn, .string x.vs, .slice xp x.args.length xc, .int .i64 x.pos] 26)).alloc (.cells #[.string ⟨#[110, 111, 116]⟩, .string ⟨#[]⟩, .int .i64 0, .int .i64 0, .string ⟨#[]⟩, .slice (some ⟨W5.heap.size + 1, 0, none⟩) 1 1, .int .i64 0] 26)) (HENV.out.on B7).tenv (hnot.on (bb _ _)) (by rw [len_mk, pres_one, len_two x]; omega)
  rw [hck] at cCk
  have hbx7 : Blk (((W5.alloc (.cells #[.int .i64 H, .int .i64 P] 46)).alloc (.cells #[.string x.op, .string x.nm, .int .i64 x.vt, .int .i64 x.vn, .string x.vs, .slice xp x.args.length xc, .int .i64 x.pos] 26)).alloc (.cells #[.string ⟨#[110, 111, 116]⟩, .string ⟨#[]⟩, .int .i64 0, .int .i64 0, .string ⟨#[]⟩, .slice (some ⟨W5.heap.size + 1, 0, none⟩) 1 1, .int .i64 0] 26)) w.heap.size #[.string x.op, .string x.nm, .int .i64 x.vt, .int .i64 x.vn, .string x.vs, .slice xp x.args.length xc, .int .i64 x.pos] 26 := (k1.on (bb _ _)).on (bb _ _)
  have hbn7 : Blk (((W5.alloc (.cells #[.int .i64 H, .int .i64 P] 46)).alloc (.cells #[.string x.op, .string x.nm, .int .i64 x.vt, .int .i64 x.vn, .string x.vs, .slice xp x.args.length xc, .int .i64 x.pos] 26)).alloc (.cells #[.string ⟨#[110, 111, 116]⟩, .string ⟨#[]⟩, .int .i64 0, .int .i64 0, .string ⟨#[]⟩, .slice (some ⟨W5.heap.size + 1, 0, none⟩) 1 1, .int .i64 0] 26)) (W5.heap.size + 1 + 1) #[.string ⟨#[110, 111, 116]⟩, .string ⟨#[]⟩, .int .i64 0, .int .i64 0, .string ⟨#[]⟩, .slice (some ⟨W5.heap.size + 1, 0, none⟩) 1 1, .int .i64 0] 26 := blk_at (by simp)
  have HN7 : Aside (ExIn (((W5.alloc (.cells #[.int .i64 H, .int .i64 P] 46)).alloc (.cells #[.string x.op, .string x.nm, .int .i64 x.vt, .int .i64 x.vn, .string x.vs, .slice xp x.args.length xc, .int .i64 x.pos] 26)).alloc (.cells #[.string ⟨#[110, 111, 116]⟩, .string ⟨#[]⟩, .int .i64 0, .int .i64 0, .string ⟨#[]⟩, .slice (some ⟨W5.heap.size + 1, 0, none⟩) 1 1, .int .i64 0] 26)) anyB (.agg #[.string ⟨#[110, 111, 116]⟩, .string ⟨#[]⟩, .int .i64 0, .int .i64 0, .string ⟨#[]⟩, .slice (some ⟨W5.heap.size + 1, 0, none⟩) 1 1, .int .i64 0]) (notX x)) := hnot.on (bb _ _)
  have HB7 := (show Aside _ from B7)
  have HX7 := (show Aside _ from hbx7)
  have HNN := (show Aside _ from hbn7)
  have HCK : Hid (ckP (notX x) = CK) := hck
  clear hnot B7 hck hbx7 hbn7
  by_cases h1 : H = 0
  · subst h1
    by_cases h2 : T = 2
    · subst h2
      by_cases h3 : CK = 0
      · subst h3
        rw [show errV 0 = .nilIface from rfl] at cCk
        go_wp2_with (refine hld _ k1 rfl _ rfl rfl ?_)
        refine cCk.mono ?_
        rintro e W6 ⟨rfl, b6⟩
        have hs6 := b6.size
        simp at hs6
        have B6 := HB7.out.trans (b6.mono HB7.out.size)
        have hbx6 := Blk.on HX7.out b6
        have hbn6 := Blk.on HNN.out b6
        have HN6 : Aside (ExIn W6 anyB (.agg #[.string ⟨#[110, 111, 116]⟩, .string ⟨#[]⟩, .int .i64 0, .int .i64 0, .string ⟨#[]⟩, .slice (some ⟨W5.heap.size + 1, 0, none⟩) 1 1, .int .i64 0]) (notX x)) := ExIn.on HN7.out b6
        have HB6 := (show Aside _ from B6)
        clear cCk b6 HX7 HNN HN7 HB7 k1 hbx5 B6
        by_cases h4 : rws.length ≤ 40
        · have h4z : ¬ (40 : Int) < (rws.length : Int) := by omega
          go_wp2
          refine call_S (n := W6.heap.size) (x := x) (xp := xp) (xc := xc) W6 _ rfl w.heap.size (Nat.le_refl _) rfl rfl hbx6 ?_
          intro vs2 gq g1 g2 W10 hlow hgq hv6 hQ hG1 hG2
          simp only [putL, Act.put, List.setIfInBounds_toArray, List.set_cons_zero, List.set_cons_succ, hv6]
          have hQ : Blk W10 gq #[.string ⟨#[116]⟩, .string x.op, .string x.nm, .int .i64 x.vt, .int .i64 x.vn, .string x.vs, .slice xp x.args.length xc, .int .i64 x.pos, .slice (some ⟨g1, 0, none⟩) 1 1, .slice (some ⟨g2, 0, none⟩) 1 1, .slice none 0 0, .int .i64 0, .int .i64 0, .slice none 0 0] 39 := hQ
          have hbx10 := Blk.on hbx6 hlow
          have hbn10 := Blk.on hbn6 hlow
          have HN10 : Aside (ExIn W10 anyB (.agg #[.string ⟨#[110, 111, 116]⟩, .string ⟨#[]⟩, .int .i64 0, .int .i64 0, .string ⟨#[]⟩, .slice (some ⟨W5.heap.size + 1, 0, none⟩) 1 1, .int .i64 0]) (notX x)) := ExIn.on HN6.out hlow
          have B10 : Below w.heap.size w W10 := HB6.out.trans (hlow.mono HB6.out.size)
          have hldq := fun W (cs : Array Value) (g : Nat) (h : Blk W g cs 39) (hs : cs.size = 14) => @ld_row W g cs _ _ h Tryz.underlying39 rfl (by rw [hs]; exact size_qyU)
          have hbn11 := hbn10.on (bb W10 (.cells #[.string ⟨#[116]⟩, .string x.op, .string x.nm, .int .i64 x.vt, .int .i64 x.vn, .string x.vs, .slice xp x.args.length xc, .int .i64 x.pos, .slice (some ⟨g1, 0, none⟩) 1 1, .slice (some ⟨g2, 0, none⟩) 1 1, .slice none 0 0, .int .i64 0, .int .i64 0, .slice none 0 0] 39))
          have hldn := @ld_row _ _ _ _ _ hbn11 Tryz.underlying26 rfl (by kernel_rfl)
          have HG1 := (show Aside _ from hG1)
          have HG2 := (show Aside _ from hG2)
          have HB10 := (show Aside _ from B10)
          have hs10 := hlow.size
          have hQ12 := hQ.on (bb W10 (.cells #[.string ⟨#[116]⟩, .string ⟨#[110, 111, 116]⟩, .string ⟨#[]⟩, .int .i64 0, .int .i64 0, .string ⟨#[]⟩, .slice (some ⟨W5.heap.size + 1, 0, none⟩) 1 1, .int .i64 0, .slice (some ⟨g1, 0, none⟩) 1 1, .slice (some ⟨g2, 0, none⟩) 1 1, .slice none 0 0, .int .i64 0, .int .i64 0, .slice none 0 0] 39))
          have hP12 : Blk (W10.alloc (.cells #[.string ⟨#[116]⟩, .string ⟨#[110, 111, 116]⟩, .string ⟨#[]⟩, .int .i64 0, .int .i64 0, .string ⟨#[]⟩, .slice (some ⟨W5.heap.size + 1, 0, none⟩) 1 1, .int .i64 0, .slice (some ⟨g1, 0, none⟩) 1 1, .slice (some ⟨g2, 0, none⟩) 1 1, .slice none 0 0, .int .i64 0, .int .i64 0, .slice none 0 0] 39)) W10.heap.size #[.string ⟨#[116]⟩, .string ⟨#[110, 111, 116]⟩, .string ⟨#[]⟩, .int .i64 0, .int .i64 0, .string ⟨#[]⟩, .slice (some ⟨W5.heap.size + 1, 0, none⟩) 1 1, .int .i64 0, .slice (some ⟨g1, 0, none⟩) 1 1, .slice (some ⟨g2, 0, none⟩) 1 1, .slice none 0 0, .int .i64 0, .int .i64 0, .slice none 0 0] 39 := blk_alloc _ _ _
          have B12 := B10.trans ((bb W10 (.cells #[.string ⟨#[116]⟩, .string ⟨#[110, 111, 116]⟩, .string ⟨#[]⟩, .int .i64 0, .int .i64 0, .string ⟨#[]⟩, .slice (some ⟨W5.heap.size + 1, 0, none⟩) 1 1, .int .i64 0, .slice (some ⟨g1, 0, none⟩) 1 1, .slice (some ⟨g2, 0, none⟩) 1 1, .slice none 0 0, .int .i64 0, .int .i64 0, .slice none 0 0] 39)).mono B10.size)
          have hXI : ExIn (W10.alloc (.cells #[.string ⟨#[116]⟩, .string ⟨#[110, 111, 116]⟩, .string ⟨#[]⟩, .int .i64 0, .int .i64 0, .string ⟨#[]⟩, .slice (some ⟨W5.heap.size + 1, 0, none⟩) 1 1, .int .i64 0, .slice (some ⟨g1, 0, none⟩) 1 1, .slice (some ⟨g2, 0, none⟩) 1 1, .slice none 0 0, .int .i64 0, .int .i64 0, .slice none 0 0] 39)) anyB (exV x xp xc) x := HX.out.on B12
          have hNI : ExIn (W10.alloc (.cells #[.string ⟨#[116]⟩, .string ⟨#[110, 111, 116]⟩, .string ⟨#[]⟩, .int .i64 0, .int .i64 0, .string ⟨#[]⟩, .slice (some ⟨W5.heap.size + 1, 0, none⟩) 1 1, .int .i64 0, .slice (some ⟨g1, 0, none⟩) 1 1, .slice (some ⟨g2, 0, none⟩) 1 1, .slice none 0 0, .int .i64 0, .int .i64 0, .slice none 0 0] 39)) anyB (exV (notX x) (some ⟨W5.heap.size + 1, 0, none⟩) 1) (notX x) := ExIn.on HN10.out (bb _ _)
          have h1I := Blk.on HG1.out (bb W10 (.cells #[.string ⟨#[116]⟩, .string ⟨#[110, 111, 116]⟩, .string ⟨#[]⟩, .int .i64 0, .int .i64 0, .string ⟨#[]⟩, .slice (some ⟨W5.heap.size + 1, 0, none⟩) 1 1, .int .i64 0, .slice (some ⟨g1, 0, none⟩) 1 1, .slice (some ⟨g2, 0, none⟩) 1 1, .slice none 0 0, .int .i64 0, .int .i64 0, .slice none 0 0] 39))
          have h2I := Blk.on HG2.out (bb W10 (.cells #[.string ⟨#[116]⟩, .string ⟨#[110, 111, 116]⟩, .string ⟨#[]⟩, .int .i64 0, .int .i64 0, .string ⟨#[]⟩, .slice (some ⟨W5.heap.size + 1, 0, none⟩) 1 1, .int .i64 0, .slice (some ⟨g1, 0, none⟩) 1 1, .slice (some ⟨g2, 0, none⟩) 1 1, .slice none 0 0, .int .i64 0, .int .i64 0, .slice none 0 0] 39))
          have hyI : ∀ W, ExIn W anyB (exV oneX none 0) oneX := fun W => ex_leaf (by decide) (by decide) (by decide)
          obtain ⟨RE, hRE⟩ : ∃ RE, rwsP zs rws = RE := ⟨_, rfl⟩
          have hEA : btE zs (qyF x) rws = RE := by rw [btE, ch_qyF HOF.out, if_neg (by simp), hRE]
          have hEB : btE zs (qyF (notX x)) rws = RE := by rw [btE, ch_qyF (of_not HOF.out HCK.out), if_neg (by simp), hRE]
          have cRA := run_s (qyF x) anyB vl (.slice rq' rws.length rcc') zs rws xp xc (some ⟨g1, 0, none⟩) 1 (some ⟨g2, 0, none⟩) 1 none 0 none 0 _ (HENV.out.on B12) (HAENV.out.on B12) (EtAt.on HET.out B12) (qyBe_F rfl hXI h1I (hyI _) h2I) (ColsV.on HCV.out B12) (qyA_F (by omega)) rfl ⟨HXB.out, fun y hy => by rw [List.mem_singleton.1 hy]; exact exb_leaf (by simp [inB])⟩ (RowsV.on HRV.out B12) RE hEA
          have cRB := fun W (hb : Below (W10.alloc (.cells #[.string ⟨#[116]⟩, .string ⟨#[110, 111, 116]⟩, .string ⟨#[]⟩, .int .i64 0, .int .i64 0, .string ⟨#[]⟩, .slice (some ⟨W5.heap.size + 1, 0, none⟩) 1 1, .int .i64 0, .slice (some ⟨g1, 0, none⟩) 1 1, .slice (some ⟨g2, 0, none⟩) 1 1, .slice none 0 0, .int .i64 0, .int .i64 0, .slice none 0 0] 39)).heap.size (W10.alloc (.cells #[.string ⟨#[116]⟩, .string ⟨#[110, 111, 116]⟩, .string ⟨#[]⟩, .int .i64 0, .int .i64 0, .string ⟨#[]⟩, .slice (some ⟨W5.heap.size + 1, 0, none⟩) 1 1, .int .i64 0, .slice (some ⟨g1, 0, none⟩) 1 1, .slice (some ⟨g2, 0, none⟩) 1 1, .slice none 0 0, .int .i64 0, .int .i64 0, .slice none 0 0] 39)) W) => run_s (qyF (notX x)) anyB vl (.slice rq' rws.length rcc') zs rws (some ⟨W5.heap.size + 1, 0, none⟩) 1 (some ⟨g1, 0, none⟩) 1 (some ⟨g2, 0, none⟩) 1 none 0 none 0 W (HENV.out.on (B12.trans (hb.mono B12.size))) (HAENV.out.on (B12.trans (hb.mono B12.size))) (EtAt.on HET.out (B12.trans (hb.mono B12.size))) (qyBe_F rfl (hNI.on hb) (h1I.on hb) (hyI _) (h2I.on hb)) (ColsV.on HCV.out (B12.trans (hb.mono B12.size))) (qyA_F (by rw [len_mk, pres_one, len_two x]; omega)) rfl ⟨bd_mk (fun y hy => by rw [List.mem_singleton.1 hy]; exact HXB.out), fun y hy => by rw [List.mem_singleton.1 hy]; exact exb_leaf (by simp [inB])⟩ (RowsV.on HRV.out (B12.trans (hb.mono B12.size))) RE hEB
          have HRE : Hid (rwsP zs rws = RE) := hRE
          have HB12 := (show Aside _ from B12)
          have hbx12 := hbx10.on (bb W10 (.cells #[.string ⟨#[116]⟩, .string ⟨#[110, 111, 116]⟩, .string ⟨#[]⟩, .int .i64 0, .int .i64 0, .string ⟨#[]⟩, .slice (some ⟨W5.heap.size + 1, 0, none⟩) 1 1, .int .i64 0, .slice (some ⟨g1, 0, none⟩) 1 1, .slice (some ⟨g2, 0, none⟩) 1 1, .slice none 0 0, .int .i64 0, .int .i64 0, .slice none 0 0] 39))
          have HX12 := (show Aside _ from hbx12)
          obtain ⟨RV, hRV⟩ : ∃ RV, errV RE = RV := ⟨_, rfl⟩
          have HRV2 : Hid (errV RE = RV) := hRV
          rw [hRV] at cRA
          simp only [hRV] at cRB
          clear hG1 hG2 B10 hlow hbx6 hbn6 HN6 HB6 hXI hNI h1I h2I hyI hEA hEB hRE B12 hRV hbn10 hbx10 HN10 HG1 HG2 HB10 hbx12
          go_wp2_with (first | (refine hldq _ _ _ hQ rfl rfl _ rfl rfl ?_) | (refine hldn rfl _ rfl rfl ?_) | (refine hldq _ _ _ hQ12 rfl rfl _ rfl rfl ?_))
          refine cRA.mono ?_
          rintro e W13 ⟨⟨ua, rfl, HOA⟩, b13⟩
          have hP13 := hP12.on b13
          have cRB := cRB _ b13
          have HX13 := (show Aside _ from Blk.on HX12.out b13)
          have HB13 := (show Aside _ from HB12.out.trans (b13.mono HB12.out.size))
          clear cRA hP12 hQ12 hQ hldn hbn11 HX12 HB12 b13
          go_wp2_with (refine hldq _ _ _ hP13 rfl rfl _ rfl rfl ?_)
          refine cRB.mono ?_
          rintro e W14 ⟨⟨ub, rfl, HOB⟩, b14⟩
          have HX14 := (show Aside _ from Blk.on HX13.out b14)
          have HB14 := (show Aside _ from HB13.out.trans (b14.mono HB13.out.size))
          clear cRB hP13 hldq HX13 HB13 b14
          by_cases hE0 : RE = 0
          · subst hE0
            obtain rfl : RV = .nilIface := HRV2.out.symm
            have hOA := HOA.out
            have hOB := HOB.out
            rw [if_pos rfl] at hOA hOB
            obtain ⟨qa, ca, rfl, -⟩ := hOA
            obtain ⟨qb, cb, rfl, -⟩ := hOB
            have hre : rwsE zs rws = 0 := by
              have := HRE.out
              rw [rwsP] at this
              split at this
              · omega
              · exact this
            obtain ⟨l1, l2⟩ := len_both HOF.out HCK.out HXB.out rws (fun r hr => ⟨rwsE_all hre r hr, (HRS.out r hr).1⟩)
            have l1 : (btO zs (qyF x) rws).length = _ := l1
            have l2 : (btO zs (qyF (notX x)) rws).length = _ := l2
            generalize (btO zs (qyF x) rws).length = LA at l1 ⊢
            generalize (btO zs (qyF (notX x)) rws).length = LB at l2 ⊢
            have HL1 : Hid (LA = yesN zs x rws + ovrN zs x rws) := l1
            have HL2 : Hid (LB = othN zs x rws + ovrN zs x rws) := l2
            have hN40 : (rws.length : Int) ≤ 40 := by omega
            clear l1 l2 hre HOA HOB HRE HRV2 h4z
            go_wp2
            go_loopg [20, 21, 22, 23, 24, 25] rws.length (fun gg s20 s21 s22 s23 _ _ wr => ∃ kk y o u : Nat, kk ≤ rws.length ∧ rws.length - kk ≤ gg ∧ y ≤ kk ∧ o ≤ kk ∧ u ≤ kk ∧ s23 = .int .i64 (kk : Int) ∧ s20 = .int .i64 (y : Int) ∧ s21 = .int .i64 (o : Int) ∧ s22 = .int .i64 (u : Int) ∧ Aside (Below W14.heap.size W14 wr) ∧ Hid (y = yesN zs x (rws.take kk)) ∧ Hid (o = othN zs x (rws.take kk)) ∧ Hid (u = ovrN zs x (rws.take kk)))
            case atStart => exact ⟨0, 0, 0, 0, Nat.zero_le _, by omega, Nat.le_refl _, Nat.le_refl _, Nat.le_refl _, rfl, rfl, rfl, rfl, (show Aside _ from Below.refl _ _), (show Hid _ from rfl), (show Hid _ from rfl), (show Hid _ from rfl)⟩
            case round =>
              obtain ⟨kk, y, o, u, hkk, hgk, hy, ho, hu, rfl, rfl, rfl, rfl, BJ, HY, HO, HU⟩ := hrel
              have hy40 : (y : Int) ≤ 40 := by omega
              have ho40 : (o : Int) ≤ 40 := by omega
              have hu40 : (u : Int) ≤ 40 := by omega
              have Bw : Below w.heap.size w wr := HB14.out.trans (BJ.out.mono HB14.out.size)
              by_cases hlt : kk < rws.length
              · have hltz : (kk : Int) < (rws.length : Int) := by omega
                have k0 : (0 : Int) ≤ (kk : Int) := by omega
                obtain ⟨rb, ro, q', qc, rfl, hbl, hcell, hv⟩ := (RowsB.on HRB.out Bw).at hlt
                obtain ⟨hs4, hs5⟩ := HRS.out _ (List.getElem_mem hlt)
                obtain ⟨t, k, s, e, hev⟩ : ∃ t k s e, evP zs rws[kk] x = ((t, k, s), e) := ⟨_, _, _, _, rfl⟩
                have cE := fun W (hb : Below wr.heap.size wr W) => eval_any x anyB (.agg #[.string x.op, .string x.nm, .int .i64 x.vt, .int .i64 x.vn, .string x.vs, .slice xp x.args.length xc, .int .i64 x.pos]) vl (.slice q' rws[kk].length qc) zs rws[kk] W (HENV.out.on (Bw.trans (hb.mono Bw.size))) (ExIn.on HX.out (Bw.trans (hb.mono Bw.size))) (by omega) HXB.out (ColsV.on HCV.out (Bw.trans (hb.mono Bw.size))) ⟨q', qc, rfl, hs5, hv.on hb⟩ hs4 t k s e hev
                have sy := yesN_step (zs := zs) (x := x) hlt
                have so := othN_step (zs := zs) (x := x) hlt
                have su := ovrN_step (zs := zs) (x := x) hlt
                rw [hev] at sy so su
                rw [← HY.out] at sy
                rw [← HO.out] at so
                rw [← HU.out] at su
                have HSY : Hid _ := sy
                have HSO : Hid _ := so
                have HSU : Hid _ := su
                have hxr := Blk.on HX14.out BJ.out
                have hHl : w.heap.size < wr.heap.size := hxr.lt
                clear sy so su hev hv hs4 hs5 HY HO HU
                generalize rws[kk].length = NK at cE hcell
                go_wp2
                refine call_T (n := wr.heap.size) (t := t) (k := k) (s := s) wr _ rfl w.heap.size #[.string x.op, .string x.nm, .int .i64 x.vt, .int .i64 x.vn, .string x.vs, .slice xp x.args.length xc, .int .i64 x.pos] vl rb ro kk rws.length rcc' q' NK qc e (Nat.le_refl _) rfl rfl rfl rfl rfl hxr hHl rfl k0 hltz hbl hcell cE ?_
                intro vs3 gv W24 hl3 hgv hv10 hV hv12
                have c1 := hV.cell 1
                have lgv := hV.lt
                simp at c1
                have BJ2 : Aside (Below W14.heap.size W14 W24) := BJ.out.trans (hl3.mono BJ.out.size)
                clear cE hxr hcell hV hl3 BJ
                by_cases he : e = 0
                · subst he
                  rw [show errV 0 = .nilIface from rfl] at hv12
                  by_cases hk : k = 1
                  · subst hk
                    have hkb : ((1 : Int) == 1) = true := rfl
                    have h1 : Hid (y + 1 = yesN zs x (rws.take (kk + 1))) := by show _ = _; rw [HSY.out]; simp [hkb]
                    have h2 : Hid (o = othN zs x (rws.take (kk + 1))) := by show _ = _; rw [HSO.out]; simp [hkb]
                    have h3 : Hid (u = ovrN zs x (rws.take (kk + 1))) := by show _ = _; rw [HSU.out]; simp
                    clear HSY HSO HSU
                    simp only [putL, Act.put, List.setIfInBounds_toArray, List.set_cons_zero, List.set_cons_succ, hv10, hv12]
                    clear hv10 hv12
                    go_wp2
                    go_roundg (rws.length - (kk + 1))
                    case measure => omega
                    case rel => exact ⟨kk + 1, y + 1, o, u, by omega, by omega, by omega, by omega, by omega, by go_num, by go_num, rfl, rfl, BJ2, h1, h2, h3⟩
                  · have hkb : (k == 1) = false := by simpa using hk
                    have h1 : Hid (y = yesN zs x (rws.take (kk + 1))) := by show _ = _; rw [HSY.out]; simp [hkb]
                    have h2 : Hid (o + 1 = othN zs x (rws.take (kk + 1))) := by show _ = _; rw [HSO.out]; simp [hkb]
                    have h3 : Hid (u = ovrN zs x (rws.take (kk + 1))) := by show _ = _; rw [HSU.out]; simp
                    clear HSY HSO HSU
                    simp only [putL, Act.put, List.setIfInBounds_toArray, List.set_cons_zero, List.set_cons_succ, hv10, hv12]
                    clear hv10 hv12
                    go_wp2
                    go_roundg (rws.length - (kk + 1))
                    case measure => omega
                    case rel => exact ⟨kk + 1, y, o + 1, u, by omega, by omega, by omega, by omega, by omega, by go_num, rfl, by go_num, rfl, BJ2, h1, h2, h3⟩
                · rw [errV, if_neg he] at hv12
                  have hkb : True := trivial
                  have heb : decide (e = 0) = false := by simpa using he
                  have h1 : Hid (y = yesN zs x (rws.take (kk + 1))) := by show _ = _; rw [HSY.out]; simp [heb, he]
                  have h2 : Hid (o = othN zs x (rws.take (kk + 1))) := by show _ = _; rw [HSO.out]; simp [heb, he]
                  have h3 : Hid (u + 1 = ovrN zs x (rws.take (kk + 1))) := by show _ = _; rw [HSU.out]; simp [heb, he]
                  clear HSY HSO HSU
                  simp only [putL, Act.put, List.setIfInBounds_toArray, List.set_cons_zero, List.set_cons_succ, hv10, hv12]
                  clear hv10 hv12
                  go_wp2
                  go_roundg (rws.length - (kk + 1))
                  case measure => omega
                  case rel => exact ⟨kk + 1, y, o, u + 1, by omega, by omega, by omega, by omega, by omega, by go_num, rfl, rfl, by go_num, BJ2, h1, h2, h3⟩
              · have hltz : ¬ (kk : Int) < (rws.length : Int) := by omega
                obtain rfl : kk = rws.length := by omega
                have hLA : LA = y + u := by rw [HL1.out, HY.out, HU.out, List.take_length]
                have hLB : LB = o + u := by rw [HL2.out, HO.out, HU.out, List.take_length]
                subst hLA
                subst hLB
                clear HL1 HL2 HY HO HU BJ HB14
                go_wp2
                go_ret
                refine ⟨?_, Bw⟩
                simp
          · obtain rfl : RV = .iface 42 (.int .i64 RE) := by rw [← HRV2.out, errV, if_neg hE0]
            clear HRV2
            obtain ⟨qa, ca, rfl, -⟩ := HOA.out
            obtain ⟨qb, cb, rfl, -⟩ := HOB.out
            go_wp2
            go_ret
            exact ⟨rfl, HB14.out⟩
        · have h4z : (40 : Int) < (rws.length : Int) := by omega
          go_wp2
          go_ret
          exact ⟨rfl, HB6.out⟩
      · rw [errV, if_neg h3] at cCk
        go_wp2_with (refine hld _ k1 rfl _ rfl rfl ?_)
        refine cCk.mono ?_
        rintro e W6 ⟨rfl, b6⟩
        have B6 := HB7.out.trans (b6.mono HB7.out.size)
        clear cCk b6 HX7 HNN HN7 HB7 k1 hbx5
        go_wp2
        go_ret
        exact ⟨rfl, B6⟩
    · have h2b : (T != 2) = true := by simpa using h2
      clear cCk HX7 HNN HN7
      go_wp2_with (refine hld _ k1 rfl _ rfl rfl ?_)
      go_ret
      exact ⟨rfl, HB7.out⟩
  · have h1b : (H != 0) = true := by simpa using h1
    clear cCk HX7 HNN HN7
    go_wp2_with (refine hld _ k1 rfl _ rfl rfl ?_)
    go_ret
    exact ⟨rfl, HB7.out⟩
end Go.Proofs.YticdcnbeemkapaaGreatDoor
