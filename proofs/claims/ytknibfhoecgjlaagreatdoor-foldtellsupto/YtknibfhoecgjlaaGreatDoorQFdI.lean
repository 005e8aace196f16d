/-
  Package fold's instead: what takes the place of a node whose parts are short. (Written by wip/gen_fdi.py.)
-/
import Derived.Test.YtknibfhoecgjlaaGreatDoorGrAn
import Derived.Deep.RegionHeld3
import Derived.Deep.RegionWith
namespace Go.Proofs.YtknibfhoecgjlaaGreatDoor
open Go.RowKit
set_option linter.unusedVariables false

theorem exsIn_on {w w' : World} {lo : Nat → Prop} {b off : Nat} {l : List Ex} (h : ExsIn w lo b off l) (hb : Below w.heap.size w w') (hbl : b < w.heap.size) : ExsIn w' lo b off l := by
  refine exsIn_mk _ _ _ _ _ fun j hj => ?_
  obtain ⟨v0, v1, v2, v3, v4, v5, v6, e0, e1, e2, e3, e4, e5, e6, hy⟩ := exsIn_at w lo b l off h j hj
  have kA : ∀ o, w'.cell? ⟨b, o, none⟩ = w.cell? ⟨b, o, none⟩ := fun o => hb.cell (p := ⟨b, o, none⟩) hbl
  exact ⟨v0, v1, v2, v3, v4, v5, v6, by rw [kA]; exact e0, by rw [kA]; exact e1, by rw [kA]; exact e2, by rw [kA]; exact e3, by rw [kA]; exact e4, by rw [kA]; exact e5, by rw [kA]; exact e6, hy.on hb⟩
theorem below_set7F {n b : Nat} {w W : World} (h : Below n w W) (hb : n ≤ b) (v0 v1 v2 v3 v4 v5 v6 : Value) : Below n w (((((((W.setCell ⟨b, 0, none⟩ v0).setCell ⟨b, 1, none⟩ v1).setCell ⟨b, 2, none⟩ v2).setCell ⟨b, 3, none⟩ v3).setCell ⟨b, 4, none⟩ v4).setCell ⟨b, 5, none⟩ v5).setCell ⟨b, 6, none⟩ v6) :=
  ((((((h.setCell (p := ⟨b, 0, none⟩) hb v0).setCell (p := ⟨b, 1, none⟩) hb v1).setCell (p := ⟨b, 2, none⟩) hb v2).setCell (p := ⟨b, 3, none⟩) hb v3).setCell (p := ⟨b, 4, none⟩) hb v4).setCell (p := ⟨b, 5, none⟩) hb v5).setCell (p := ⟨b, 6, none⟩) hb v6
theorem eq_list (o : ByteArray) (L : List UInt8) : (o.toList == L) = decide (o.data.toList = L) := by rw [Lib.toList_data]; exact Bool.eq_iff_iff.2 (by simp)
theorem parts_on {w w' : World} {lo : Nat → Prop} {p : Option Addr} {l : List Ex} (h : l.length = 0 ∨ ∃ b off, p = some ⟨b, off, none⟩ ∧ b < w.heap.size ∧ lo b ∧ ExsIn w lo b off l) (hb : Below w.heap.size w w') : l.length = 0 ∨ ∃ b off, p = some ⟨b, off, none⟩ ∧ b < w'.heap.size ∧ lo b ∧ ExsIn w' lo b off l := by
  rcases h with h | ⟨b, off, e, h1, h2, h3⟩
  · exact .inl h
  · exact .inr ⟨b, off, e, by have := hb.size; omega, h2, exsIn_on h3 hb h1⟩
set_option maxHeartbeats 4000000 in
set_option maxRecDepth 20000 in
theorem instead_val (op nm : ByteArray) (vt vn : Int) (vs : ByteArray) (pos : Int) (l : List Ex) (lo : Nat → Prop) (p : Option Addr) (N ca : Nat) (w : World) (hp : l.length = 0 ∨ ∃ b off, p = some ⟨b, off, none⟩ ∧ b < w.heap.size ∧ lo b ∧ ExsIn w lo b off l) (hN : l.length = N) (hN2 : N ≤ 1048576) (henv : REnv w) (hv : ∀ y ∈ l, y.vs.size ≤ 400 ∧ inB y.vn) (R : V3) (hR : rekP op.data.toList l = some R) :
    Calls Tryz.prog 50 #[.agg #[.string op, .string nm, .int .i64 vt, .int .i64 vn, .string vs, .slice p N ca, .int .i64 pos]] w fun e w' => e = .returned (.agg #[.string ⟨#[118, 97, 108]⟩, .string ⟨#[]⟩, .int .i64 R.1, .int .i64 R.2.1, .string R.2.2, .slice none 0 0, .int .i64 pos]) ∧ Below w.heap.size w w' := by
  have bW : Below w.heap.size w ((w.alloc (.cells #[.string op, .string nm, .int .i64 vt, .int .i64 vn, .string vs, .slice p N ca, .int .i64 pos] 26)).alloc (.cells #[.string ⟨#[]⟩, .string ⟨#[]⟩, .int .i64 0, .int .i64 0, .string ⟨#[]⟩, .slice none 0 0, .int .i64 0] 26)) := ((Below.refl _ w).alloc (Nat.le_refl _) _).alloc (by simp) _
  have X0 := box7_at (w.alloc (.cells #[.string op, .string nm, .int .i64 vt, .int .i64 vn, .string vs, .slice p N ca, .int .i64 pos] 26)) (w.heap.size + 1) (by simp) (.string ⟨#[]⟩) (.string ⟨#[]⟩) (.int .i64 0) (.int .i64 0) (.string ⟨#[]⟩) (.slice none 0 0) (.int .i64 0) 26
  have XE := (box7_at w w.heap.size rfl (.string op) (.string nm) (.int .i64 vt) (.int .i64 vn) (.string vs) (.slice p N ca) (.int .i64 pos) 26).on ((Below.refl _ (w.alloc (.cells #[.string op, .string nm, .int .i64 vt, .int .i64 vn, .string vs, .slice p N ca, .int .i64 pos] 26))).alloc (Nat.le_refl _) (.cells #[.string ⟨#[]⟩, .string ⟨#[]⟩, .int .i64 0, .int .i64 0, .string ⟨#[]⟩, .slice none 0 0, .int .i64 0] 26))
  have KB : Hid (∀ W, Below (w.heap.size + 2) ((w.alloc (.cells #[.string op, .string nm, .int .i64 vt, .int .i64 vn, .string vs, .slice p N ca, .int .i64 pos] 26)).alloc (.cells #[.string ⟨#[]⟩, .string ⟨#[]⟩, .int .i64 0, .int .i64 0, .string ⟨#[]⟩, .slice none 0 0, .int .i64 0] 26)) W → Box7 W w.heap.size (.string op) (.string nm) (.int .i64 vt) (.int .i64 vn) (.string vs) (.slice p N ca) (.int .i64 pos) ∧ Box7 W (w.heap.size + 1) (.string ⟨#[]⟩) (.string ⟨#[]⟩) (.int .i64 0) (.int .i64 0) (.string ⟨#[]⟩) (.slice none 0 0) (.int .i64 0) ∧ w.heap.size + 2 ≤ W.heap.size ∧ Below w.heap.size w W) := fun W hb => by
    have hz := hb.size
    simp at hz
    exact ⟨XE.on (hb.mono (by simp)), X0.on (hb.mono (by simp)), by omega, bW.trans (hb.mono (by omega))⟩
  have hpW := parts_on hp bW
  have cR := reckoned_any op nm vt vn vs p N ca pos lo l ((w.alloc (.cells #[.string op, .string nm, .int .i64 vt, .int .i64 vn, .string vs, .slice p N ca, .int .i64 pos] 26)).alloc (.cells #[.string ⟨#[]⟩, .string ⟨#[]⟩, .int .i64 0, .int .i64 0, .string ⟨#[]⟩, .slice none 0 0, .int .i64 0] 26)) (henv.on bW) hN hN2 hpW hv R true (by rw [hR]; rfl) (fun h => by cases h)
  clear hp hpW henv hv hR hN X0 XE
  go_enter Tryz.func50, Tryz.ntmps50
  go_wp2_with fail
  refine cR.mono ?_
  rintro e w1 ⟨rfl, b1⟩
  obtain ⟨E1, Z1, hs1, B1⟩ := KB.out w1 (b1.mono (by simp))
  have RZ := (Z1.set (.string ⟨#[118, 97, 108]⟩) (.string ⟨#[]⟩) (.int .i64 R.1) (.int .i64 R.2.1) (.string R.2.2) (.slice none 0 0) (.int .i64 pos)).on ((Below.refl _ _).alloc (Nat.le_refl _) (.cells #[.int .i64 R.1, .int .i64 R.2.1, .string R.2.2] 23))
  have BZ := (below_set7F B1 (Nat.le_succ _) (.string ⟨#[118, 97, 108]⟩) (.string ⟨#[]⟩) (.int .i64 R.1) (.int .i64 R.2.1) (.string R.2.2) (.slice none 0 0) (.int .i64 pos)).alloc (by simp; omega) (.cells #[.int .i64 R.1, .int .i64 R.2.1, .string R.2.2] 23)
  obtain ⟨z0, z1, z2, z3, z4, z5, z6, zf, zl⟩ := Z1
  obtain ⟨e0, e1, e2, e3, e4, e5, e6, -, el⟩ := E1
  have HRZ : Aside (Box7 _ _ _ _ _ _ _ _ _) := RZ
  have HBZ : Aside (Below _ _ _) := BZ
  clear cR b1 KB bW RZ BZ
  go_wp2
  exact bodyPost_ret (v := .agg #[.string ⟨#[118, 97, 108]⟩, .string ⟨#[]⟩, .int .i64 R.1, .int .i64 R.2.1, .string R.2.2, .slice none 0 0, .int .i64 pos]) (by simp [results, Tryz.results50, go_sem, HRZ.out.c0, HRZ.out.c1, HRZ.out.c2, HRZ.out.c3, HRZ.out.c4, HRZ.out.c5, HRZ.out.c6]) rfl ⟨rfl, HBZ.out⟩
set_option maxHeartbeats 4000000 in
set_option maxRecDepth 20000 in
theorem instead_ch (op nm : ByteArray) (vt vn : Int) (vs : ByteArray) (pos : Int) (l : List Ex) (lo : Nat → Prop) (p : Option Addr) (N ca : Nat) (w : World) (hp : l.length = 0 ∨ ∃ b off, p = some ⟨b, off, none⟩ ∧ b < w.heap.size ∧ lo b ∧ ExsIn w lo b off l) (hN : l.length = N) (hN2 : N ≤ 1048576) (henv : REnv w) (hv : ∀ y ∈ l, y.vs.size ≤ 400 ∧ inB y.vn) (hnone : rekP op.data.toList l = none) (hc : isCh op.data.toList = true) (f : Ex) (h0 : 0 < l.length) (hf0 : l[0] = f) (hf : isV f = true) (m : Nat) (hm : chN op.data.toList (f.vn == 1) = m) (hmN : m < l.length) (y : Ex) (hy0 : l[m] = y) :
    Calls Tryz.prog 50 #[.agg #[.string op, .string nm, .int .i64 vt, .int .i64 vn, .string vs, .slice p N ca, .int .i64 pos]] w fun e w' => (∃ yp yc, e = .returned (.agg #[.string y.op, .string y.nm, .int .i64 y.vt, .int .i64 y.vn, .string y.vs, .slice yp y.args.length yc, .int .i64 y.pos]) ∧ ExIn w' lo (.agg #[.string y.op, .string y.nm, .int .i64 y.vt, .int .i64 y.vn, .string y.vs, .slice yp y.args.length yc, .int .i64 y.pos]) y) ∧ Below w.heap.size w w' := by
  obtain ⟨ba, oa, fp, fc, rfl, hbl, -, fw0, fw1, fw2, fw3, fw4, fw5, fw6, -⟩ := partF_at hp h0
  obtain ⟨ba', oa', yp, yc, hpe, -, -, yw0, yw1, yw2, yw3, yw4, yw5, yw6, hyx⟩ := partF_at hp hmN
  injection hpe with hpe
  injection hpe with e1 e2
  subst e1 e2
  simp only [hf0, Nat.zero_mul, Nat.add_zero] at fw0 fw1 fw2 fw3 fw4 fw5 fw6
  simp only [hy0] at yw0 yw1 yw2 yw3 yw4 yw5 yw6 hyx
  have hsf : f.vs.size ≤ 400 := (hv f (by rw [← hf0]; exact List.getElem_mem _)).1
  have bW : Below w.heap.size w ((w.alloc (.cells #[.string op, .string nm, .int .i64 vt, .int .i64 vn, .string vs, .slice (some ⟨ba, oa, none⟩) N ca, .int .i64 pos] 26)).alloc (.cells #[.string ⟨#[]⟩, .string ⟨#[]⟩, .int .i64 0, .int .i64 0, .string ⟨#[]⟩, .slice none 0 0, .int .i64 0] 26)) := ((Below.refl _ w).alloc (Nat.le_refl _) _).alloc (by simp) _
  have X0 := box7_at (w.alloc (.cells #[.string op, .string nm, .int .i64 vt, .int .i64 vn, .string vs, .slice (some ⟨ba, oa, none⟩) N ca, .int .i64 pos] 26)) (w.heap.size + 1) (by simp) (.string ⟨#[]⟩) (.string ⟨#[]⟩) (.int .i64 0) (.int .i64 0) (.string ⟨#[]⟩) (.slice none 0 0) (.int .i64 0) 26
  have XE := (box7_at w w.heap.size rfl (.string op) (.string nm) (.int .i64 vt) (.int .i64 vn) (.string vs) (.slice (some ⟨ba, oa, none⟩) N ca) (.int .i64 pos) 26).on ((Below.refl _ (w.alloc (.cells #[.string op, .string nm, .int .i64 vt, .int .i64 vn, .string vs, .slice (some ⟨ba, oa, none⟩) N ca, .int .i64 pos] 26))).alloc (Nat.le_refl _) (.cells #[.string ⟨#[]⟩, .string ⟨#[]⟩, .int .i64 0, .int .i64 0, .string ⟨#[]⟩, .slice none 0 0, .int .i64 0] 26))
  have KB : Hid (∀ W, Below (w.heap.size + 2) ((w.alloc (.cells #[.string op, .string nm, .int .i64 vt, .int .i64 vn, .string vs, .slice (some ⟨ba, oa, none⟩) N ca, .int .i64 pos] 26)).alloc (.cells #[.string ⟨#[]⟩, .string ⟨#[]⟩, .int .i64 0, .int .i64 0, .string ⟨#[]⟩, .slice none 0 0, .int .i64 0] 26)) W → Box7 W w.heap.size (.string op) (.string nm) (.int .i64 vt) (.int .i64 vn) (.string vs) (.slice (some ⟨ba, oa, none⟩) N ca) (.int .i64 pos) ∧ Box7 W (w.heap.size + 1) (.string ⟨#[]⟩) (.string ⟨#[]⟩) (.int .i64 0) (.int .i64 0) (.string ⟨#[]⟩) (.slice none 0 0) (.int .i64 0) ∧ w.heap.size + 2 ≤ W.heap.size ∧ Below w.heap.size w W) := fun W hb => by
    have hz := hb.size
    simp at hz
    exact ⟨XE.on (hb.mono (by simp)), X0.on (hb.mono (by simp)), by omega, bW.trans (hb.mono (by omega))⟩
  have cR := reckoned_any op nm vt vn vs _ N ca pos lo l ((w.alloc (.cells #[.string op, .string nm, .int .i64 vt, .int .i64 vn, .string vs, .slice (some ⟨ba, oa, none⟩) N ca, .int .i64 pos] 26)).alloc (.cells #[.string ⟨#[]⟩, .string ⟨#[]⟩, .int .i64 0, .int .i64 0, .string ⟨#[]⟩, .slice none 0 0, .int .i64 0] 26)) (henv.on bW) hN hN2 (parts_on hp bW) hv noV false (by rw [hnone]; rfl) (fun _ => rfl)
  simp only [noV] at cR
  have cC := fun W => const_yes f.op f.nm f.vt f.vn f.vs fp f.args.length fc f.pos W (of_decide_eq_true hf) (by omega)
  have cH := fun W => chosenF_any op (f.vn == 1) W
  rw [hm] at cH
  have hmz : (m : Int) < (N : Int) := by omega
  have hN0 : (0 : Int) < (N : Int) := by omega
  have HY : Aside (ExIn w lo (.agg #[.string y.op, .string y.nm, .int .i64 y.vt, .int .i64 y.vn, .string y.vs, .slice yp y.args.length yc, .int .i64 y.pos]) y) := hyx
  have hq := ch_ops hc
  have q1 : (op.toList == [111, 114]) = decide (op.data.toList = [111, 114]) := eq_list _ _
  have q2 : (op.toList == [97, 110, 100]) = decide (op.data.toList = [97, 110, 100]) := eq_list _ _
  have q3 : (op.toList == [105, 102]) = decide (op.data.toList = [105, 102]) := eq_list _ _
  clear hp henv hv hnone hc hf hm hyx X0 XE hf0 hy0
  rcases hq with hq | hq | hq
  all_goals
    simp only [hq] at q1 q2 q3
    simp at q1 q2 q3
    clear hq
    go_enter Tryz.func50, Tryz.ntmps50
    go_wp2_with fail
    refine cR.mono ?_
    rintro e w1 ⟨rfl, b1⟩
    have b1' : Below (w.heap.size + 2) ((w.alloc (.cells #[.string op, .string nm, .int .i64 vt, .int .i64 vn, .string vs, .slice (some ⟨ba, oa, none⟩) N ca, .int .i64 pos] 26)).alloc (.cells #[.string ⟨#[]⟩, .string ⟨#[]⟩, .int .i64 0, .int .i64 0, .string ⟨#[]⟩, .slice none 0 0, .int .i64 0] 26)) w1 := b1.mono (by simp)
    obtain ⟨E1, -, hs1, B1⟩ := KB.out w1 b1'
    obtain ⟨e0, e1, e2, e3, e4, e5, e6, -, el⟩ := E1
    have hbl1 : ba < w1.heap.size := by omega
    have f0 : w1.cell? ⟨ba, oa, none⟩ = some (.string f.op) := by rw [B1.cell (p := ⟨ba, oa, none⟩) hbl]; exact fw0
    have f1 : w1.cell? ⟨ba, oa + 1, none⟩ = some (.string f.nm) := by rw [B1.cell (p := ⟨ba, oa + 1, none⟩) hbl]; exact fw1
    have f2 : w1.cell? ⟨ba, oa + 2, none⟩ = some (.int .i64 f.vt) := by rw [B1.cell (p := ⟨ba, oa + 2, none⟩) hbl]; exact fw2
    have f3 : w1.cell? ⟨ba, oa + 3, none⟩ = some (.int .i64 f.vn) := by rw [B1.cell (p := ⟨ba, oa + 3, none⟩) hbl]; exact fw3
    have f4 : w1.cell? ⟨ba, oa + 4, none⟩ = some (.string f.vs) := by rw [B1.cell (p := ⟨ba, oa + 4, none⟩) hbl]; exact fw4
    have f5 : w1.cell? ⟨ba, oa + 5, none⟩ = some (.slice fp f.args.length fc) := by rw [B1.cell (p := ⟨ba, oa + 5, none⟩) hbl]; exact fw5
    have f6 : w1.cell? ⟨ba, oa + 6, none⟩ = some (.int .i64 f.pos) := by rw [B1.cell (p := ⟨ba, oa + 6, none⟩) hbl]; exact fw6
    clear cR
    go_wp2_with fail
    refine (cC _).mono ?_
    rintro e w2 ⟨rfl, b2⟩
    have hs2 : w1.heap.size + 1 ≤ w2.heap.size := by have := b2.size; simpa using this
    have b2' : Below (w.heap.size + 2) ((w.alloc (.cells #[.string op, .string nm, .int .i64 vt, .int .i64 vn, .string vs, .slice (some ⟨ba, oa, none⟩) N ca, .int .i64 pos] 26)).alloc (.cells #[.string ⟨#[]⟩, .string ⟨#[]⟩, .int .i64 0, .int .i64 0, .string ⟨#[]⟩, .slice none 0 0, .int .i64 0] 26)) w2 := (b1'.alloc hs1 (.cells #[.int .i64 0, .int .i64 0, .string ⟨#[]⟩] 23)).trans (b2.mono (by simp; omega))
    obtain ⟨E2, Z2, hs2', B2⟩ := KB.out w2 b2'
    clear e0 e1 e2 e3 e4 e5 e6 el
    obtain ⟨W3, hW3⟩ : ∃ W3, w2.alloc (.cells #[.int .i64 f.vt, .int .i64 f.vn, .string f.vs] 23) = W3 := ⟨_, rfl⟩
    have b3 : Below (w.heap.size + 2) ((w.alloc (.cells #[.string op, .string nm, .int .i64 vt, .int .i64 vn, .string vs, .slice (some ⟨ba, oa, none⟩) N ca, .int .i64 pos] 26)).alloc (.cells #[.string ⟨#[]⟩, .string ⟨#[]⟩, .int .i64 0, .int .i64 0, .string ⟨#[]⟩, .slice none 0 0, .int .i64 0] 26)) W3 := by rw [← hW3]; exact b2'.alloc hs2' _
    obtain ⟨E3, Z3, hs3, B3⟩ := KB.out W3 b3
    obtain ⟨e0, e1, e2, e3, e4, e5, e6, -, el⟩ := E3
    have c1 : W3.cell? ⟨w2.heap.size, 1, none⟩ = some (.int .i64 f.vn) := by rw [← hW3, World.cell?_alloc_at _ _ _ _ rfl]; rfl
    have hl3 : w2.heap.size < W3.heap.size := by rw [← hW3]; simp
    have hbl3 : ba < W3.heap.size := by omega
    have y0 : W3.cell? ⟨ba, oa + m * 7, none⟩ = some (.string y.op) := by rw [B3.cell (p := ⟨ba, oa + m * 7, none⟩) hbl]; exact yw0
    have y1 : W3.cell? ⟨ba, oa + m * 7 + 1, none⟩ = some (.string y.nm) := by rw [B3.cell (p := ⟨ba, oa + m * 7 + 1, none⟩) hbl]; exact yw1
    have y2 : W3.cell? ⟨ba, oa + m * 7 + 2, none⟩ = some (.int .i64 y.vt) := by rw [B3.cell (p := ⟨ba, oa + m * 7 + 2, none⟩) hbl]; exact yw2
    have y3 : W3.cell? ⟨ba, oa + m * 7 + 3, none⟩ = some (.int .i64 y.vn) := by rw [B3.cell (p := ⟨ba, oa + m * 7 + 3, none⟩) hbl]; exact yw3
    have y4 : W3.cell? ⟨ba, oa + m * 7 + 4, none⟩ = some (.string y.vs) := by rw [B3.cell (p := ⟨ba, oa + m * 7 + 4, none⟩) hbl]; exact yw4
    have y5 : W3.cell? ⟨ba, oa + m * 7 + 5, none⟩ = some (.slice yp y.args.length yc) := by rw [B3.cell (p := ⟨ba, oa + m * 7 + 5, none⟩) hbl]; exact yw5
    have y6 : W3.cell? ⟨ba, oa + m * 7 + 6, none⟩ = some (.int .i64 y.pos) := by rw [B3.cell (p := ⟨ba, oa + m * 7 + 6, none⟩) hbl]; exact yw6
    have RZ := Z3.set (.string y.op) (.string y.nm) (.int .i64 y.vt) (.int .i64 y.vn) (.string y.vs) (.slice yp y.args.length yc) (.int .i64 y.pos)
    have BZ := below_set7F B3 (Nat.le_succ _) (.string y.op) (.string y.nm) (.int .i64 y.vt) (.int .i64 y.vn) (.string y.vs) (.slice yp y.args.length yc) (.int .i64 y.pos)
    obtain ⟨z0, z1, z2, z3, z4, z5, z6, zf, zl⟩ := Z3
    have HRZ : Aside (Box7 _ _ _ _ _ _ _ _ _) := RZ
    have HBZ : Aside (Below _ _ _) := BZ
    have hb0 : ba ≠ w.heap.size + 1 := by omega
    have hb1 : w2.heap.size ≠ w.heap.size + 1 := by omega
    have hb2 : ¬ w.heap.size + 1 = ba := by omega
    have hb3 : ¬ w.heap.size + 1 = w2.heap.size := by omega
    clear cC b1 b2 b1' b2' B1 B2 b3 KB bW E2 Z2 fw0 fw1 fw2 fw3 fw4 fw5 fw6 yw0 yw1 yw2 yw3 yw4 yw5 yw6 f0 f1 f2 f3 f4 f5 f6 RZ BZ
    go_wp2
    clear hW3
    go_region_held3 (fun w' => w'.cell? ⟨w.heap.size, 5, none⟩ = some (.slice (some ⟨ba, oa, none⟩) N ca) ∧ w'.cell? ⟨w.heap.size, 0, none⟩ = some (.string op) ∧ w'.cell? ⟨w2.heap.size, 1, none⟩ = some (.int .i64 f.vn) ∧ w'.cell? ⟨ba, oa + m * 7, none⟩ = some (.string y.op) ∧ w'.cell? ⟨ba, oa + m * 7 + 1, none⟩ = some (.string y.nm) ∧ w'.cell? ⟨ba, oa + m * 7 + 2, none⟩ = some (.int .i64 y.vt) ∧ w'.cell? ⟨ba, oa + m * 7 + 3, none⟩ = some (.int .i64 y.vn) ∧ w'.cell? ⟨ba, oa + m * 7 + 4, none⟩ = some (.string y.vs) ∧ w'.cell? ⟨ba, oa + m * 7 + 5, none⟩ = some (.slice yp y.args.length yc) ∧ w'.cell? ⟨ba, oa + m * 7 + 6, none⟩ = some (.int .i64 y.pos)) (go_keep) (first | (go_at_call 76; refine (cH _).mono ?_; rintro e w' ⟨rfl, rfl⟩))
    all_goals
      go_wp2
      refine bodyPost_ret (v := .agg #[.string y.op, .string y.nm, .int .i64 y.vt, .int .i64 y.vn, .string y.vs, .slice yp y.args.length yc, .int .i64 y.pos]) (by simp [results, Tryz.results50, go_sem, HRZ.out.c0, HRZ.out.c1, HRZ.out.c2, HRZ.out.c3, HRZ.out.c4, HRZ.out.c5, HRZ.out.c6]) rfl ⟨⟨yp, yc, rfl, HY.out.on HBZ.out.drew⟩, HBZ.out.drew⟩
set_option maxHeartbeats 4000000 in
set_option maxRecDepth 20000 in
theorem instead_oth (op nm : ByteArray) (vt vn : Int) (vs : ByteArray) (pos : Int) (l : List Ex) (lo : Nat → Prop) (p : Option Addr) (N ca : Nat) (w : World) (hp : l.length = 0 ∨ ∃ b off, p = some ⟨b, off, none⟩ ∧ b < w.heap.size ∧ lo b ∧ ExsIn w lo b off l) (hN : l.length = N) (hN2 : N ≤ 1048576) (henv : REnv w) (hv : ∀ y ∈ l, y.vs.size ≤ 400 ∧ inB y.vn) (hnone : rekP op.data.toList l = none) (h1 : op.data.toList ≠ [111, 114]) (h2 : op.data.toList ≠ [97, 110, 100]) (h3 : op.data.toList ≠ [105, 102]) (h4 : op.data.toList ≠ [110, 111, 116]) :
    Calls Tryz.prog 50 #[.agg #[.string op, .string nm, .int .i64 vt, .int .i64 vn, .string vs, .slice p N ca, .int .i64 pos]] w fun e w' => e = .returned (.agg #[.string op, .string nm, .int .i64 vt, .int .i64 vn, .string vs, .slice p N ca, .int .i64 pos]) ∧ Below w.heap.size w w' := by
  have bW : Below w.heap.size w ((w.alloc (.cells #[.string op, .string nm, .int .i64 vt, .int .i64 vn, .string vs, .slice p N ca, .int .i64 pos] 26)).alloc (.cells #[.string ⟨#[]⟩, .string ⟨#[]⟩, .int .i64 0, .int .i64 0, .string ⟨#[]⟩, .slice none 0 0, .int .i64 0] 26)) := ((Below.refl _ w).alloc (Nat.le_refl _) _).alloc (by simp) _
  have X0 := box7_at (w.alloc (.cells #[.string op, .string nm, .int .i64 vt, .int .i64 vn, .string vs, .slice p N ca, .int .i64 pos] 26)) (w.heap.size + 1) (by simp) (.string ⟨#[]⟩) (.string ⟨#[]⟩) (.int .i64 0) (.int .i64 0) (.string ⟨#[]⟩) (.slice none 0 0) (.int .i64 0) 26
  have XE := (box7_at w w.heap.size rfl (.string op) (.string nm) (.int .i64 vt) (.int .i64 vn) (.string vs) (.slice p N ca) (.int .i64 pos) 26).on ((Below.refl _ (w.alloc (.cells #[.string op, .string nm, .int .i64 vt, .int .i64 vn, .string vs, .slice p N ca, .int .i64 pos] 26))).alloc (Nat.le_refl _) (.cells #[.string ⟨#[]⟩, .string ⟨#[]⟩, .int .i64 0, .int .i64 0, .string ⟨#[]⟩, .slice none 0 0, .int .i64 0] 26))
  have KB : Hid (∀ W, Below (w.heap.size + 2) ((w.alloc (.cells #[.string op, .string nm, .int .i64 vt, .int .i64 vn, .string vs, .slice p N ca, .int .i64 pos] 26)).alloc (.cells #[.string ⟨#[]⟩, .string ⟨#[]⟩, .int .i64 0, .int .i64 0, .string ⟨#[]⟩, .slice none 0 0, .int .i64 0] 26)) W → Box7 W w.heap.size (.string op) (.string nm) (.int .i64 vt) (.int .i64 vn) (.string vs) (.slice p N ca) (.int .i64 pos) ∧ Box7 W (w.heap.size + 1) (.string ⟨#[]⟩) (.string ⟨#[]⟩) (.int .i64 0) (.int .i64 0) (.string ⟨#[]⟩) (.slice none 0 0) (.int .i64 0) ∧ w.heap.size + 2 ≤ W.heap.size ∧ Below w.heap.size w W) := fun W hb => by
    have hz := hb.size
    simp at hz
    exact ⟨XE.on (hb.mono (by simp)), X0.on (hb.mono (by simp)), by omega, bW.trans (hb.mono (by omega))⟩
  have cR := reckoned_any op nm vt vn vs p N ca pos lo l ((w.alloc (.cells #[.string op, .string nm, .int .i64 vt, .int .i64 vn, .string vs, .slice p N ca, .int .i64 pos] 26)).alloc (.cells #[.string ⟨#[]⟩, .string ⟨#[]⟩, .int .i64 0, .int .i64 0, .string ⟨#[]⟩, .slice none 0 0, .int .i64 0] 26)) (henv.on bW) hN hN2 (parts_on hp bW) hv noV false (by rw [hnone]; rfl) (fun _ => rfl)
  simp only [noV] at cR
  have q1 : (op.toList == [111, 114]) = false := by rw [eq_list]; simpa using h1
  have q2 : (op.toList == [97, 110, 100]) = false := by rw [eq_list]; simpa using h2
  have q3 : (op.toList == [105, 102]) = false := by rw [eq_list]; simpa using h3
  have q4 : (op.toList == [110, 111, 116]) = false := by rw [eq_list]; simpa using h4
  clear hp henv hv hnone h1 h2 h3 h4 X0 XE hN
  go_enter Tryz.func50, Tryz.ntmps50
  go_wp2_with fail
  refine cR.mono ?_
  rintro e w1 ⟨rfl, b1⟩
  have b1' : Below (w.heap.size + 2) ((w.alloc (.cells #[.string op, .string nm, .int .i64 vt, .int .i64 vn, .string vs, .slice p N ca, .int .i64 pos] 26)).alloc (.cells #[.string ⟨#[]⟩, .string ⟨#[]⟩, .int .i64 0, .int .i64 0, .string ⟨#[]⟩, .slice none 0 0, .int .i64 0] 26)) w1 := b1.mono (by simp)
  obtain ⟨E1, Z1, hs1, B1⟩ := KB.out w1 b1'
  have RZ := (Z1.set (.string op) (.string nm) (.int .i64 vt) (.int .i64 vn) (.string vs) (.slice p N ca) (.int .i64 pos)).on ((Below.refl _ _).alloc (Nat.le_refl _) (.cells #[.int .i64 0, .int .i64 0, .string ⟨#[]⟩] 23))
  have BZ := (below_set7F B1 (Nat.le_succ _) (.string op) (.string nm) (.int .i64 vt) (.int .i64 vn) (.string vs) (.slice p N ca) (.int .i64 pos)).alloc (by simp; omega) (.cells #[.int .i64 0, .int .i64 0, .string ⟨#[]⟩] 23)
  obtain ⟨z0, z1, z2, z3, z4, z5, z6, zf, zl⟩ := Z1
  obtain ⟨e0, e1, e2, e3, e4, e5, e6, -, el⟩ := E1
  have HRZ : Aside (Box7 _ _ _ _ _ _ _ _ _) := RZ
  have HBZ : Aside (Below _ _ _) := BZ
  clear cR b1 b1' KB bW RZ BZ B1
  go_wp2
  exact bodyPost_ret (v := .agg #[.string op, .string nm, .int .i64 vt, .int .i64 vn, .string vs, .slice p N ca, .int .i64 pos]) (by simp [results, Tryz.results50, go_sem, HRZ.out.c0, HRZ.out.c1, HRZ.out.c2, HRZ.out.c3, HRZ.out.c4, HRZ.out.c5, HRZ.out.c6]) rfl ⟨rfl, HBZ.out⟩
set_option maxHeartbeats 4000000 in
set_option maxRecDepth 20000 in
theorem instead_nov (op nm : ByteArray) (vt vn : Int) (vs : ByteArray) (pos : Int) (l : List Ex) (lo : Nat → Prop) (p : Option Addr) (N ca : Nat) (w : World) (hp : l.length = 0 ∨ ∃ b off, p = some ⟨b, off, none⟩ ∧ b < w.heap.size ∧ lo b ∧ ExsIn w lo b off l) (hN : l.length = N) (hN2 : N ≤ 1048576) (henv : REnv w) (hv : ∀ y ∈ l, y.vs.size ≤ 400 ∧ inB y.vn) (hnone : rekP op.data.toList l = none) (hc : isCh op.data.toList = true) (f : Ex) (h0 : 0 < l.length) (hf0 : l[0] = f) (hf : isV f = false) :
    Calls Tryz.prog 50 #[.agg #[.string op, .string nm, .int .i64 vt, .int .i64 vn, .string vs, .slice p N ca, .int .i64 pos]] w fun e w' => e = .returned (.agg #[.string op, .string nm, .int .i64 vt, .int .i64 vn, .string vs, .slice p N ca, .int .i64 pos]) ∧ Below w.heap.size w w' := by
  obtain ⟨ba, oa, fp, fc, rfl, hbl, -, fw0, fw1, fw2, fw3, fw4, fw5, fw6, -⟩ := partF_at hp h0
  simp only [hf0, Nat.zero_mul, Nat.add_zero] at fw0 fw1 fw2 fw3 fw4 fw5 fw6
  have bW : Below w.heap.size w ((w.alloc (.cells #[.string op, .string nm, .int .i64 vt, .int .i64 vn, .string vs, .slice (some ⟨ba, oa, none⟩) N ca, .int .i64 pos] 26)).alloc (.cells #[.string ⟨#[]⟩, .string ⟨#[]⟩, .int .i64 0, .int .i64 0, .string ⟨#[]⟩, .slice none 0 0, .int .i64 0] 26)) := ((Below.refl _ w).alloc (Nat.le_refl _) _).alloc (by simp) _
  have X0 := box7_at (w.alloc (.cells #[.string op, .string nm, .int .i64 vt, .int .i64 vn, .string vs, .slice (some ⟨ba, oa, none⟩) N ca, .int .i64 pos] 26)) (w.heap.size + 1) (by simp) (.string ⟨#[]⟩) (.string ⟨#[]⟩) (.int .i64 0) (.int .i64 0) (.string ⟨#[]⟩) (.slice none 0 0) (.int .i64 0) 26
  have XE := (box7_at w w.heap.size rfl (.string op) (.string nm) (.int .i64 vt) (.int .i64 vn) (.string vs) (.slice (some ⟨ba, oa, none⟩) N ca) (.int .i64 pos) 26).on ((Below.refl _ (w.alloc (.cells #[.string op, .string nm, .int .i64 vt, .int .i64 vn, .string vs, .slice (some ⟨ba, oa, none⟩) N ca, .int .i64 pos] 26))).alloc (Nat.le_refl _) (.cells #[.string ⟨#[]⟩, .string ⟨#[]⟩, .int .i64 0, .int .i64 0, .string ⟨#[]⟩, .slice none 0 0, .int .i64 0] 26))
  have KB : Hid (∀ W, Below (w.heap.size + 2) ((w.alloc (.cells #[.string op, .string nm, .int .i64 vt, .int .i64 vn, .string vs, .slice (some ⟨ba, oa, none⟩) N ca, .int .i64 pos] 26)).alloc (.cells #[.string ⟨#[]⟩, .string ⟨#[]⟩, .int .i64 0, .int .i64 0, .string ⟨#[]⟩, .slice none 0 0, .int .i64 0] 26)) W → Box7 W w.heap.size (.string op) (.string nm) (.int .i64 vt) (.int .i64 vn) (.string vs) (.slice (some ⟨ba, oa, none⟩) N ca) (.int .i64 pos) ∧ Box7 W (w.heap.size + 1) (.string ⟨#[]⟩) (.string ⟨#[]⟩) (.int .i64 0) (.int .i64 0) (.string ⟨#[]⟩) (.slice none 0 0) (.int .i64 0) ∧ w.heap.size + 2 ≤ W.heap.size ∧ Below w.heap.size w W) := fun W hb => by
    have hz := hb.size
    simp at hz
    exact ⟨XE.on (hb.mono (by simp)), X0.on (hb.mono (by simp)), by omega, bW.trans (hb.mono (by omega))⟩
  have cR := reckoned_any op nm vt vn vs _ N ca pos lo l ((w.alloc (.cells #[.string op, .string nm, .int .i64 vt, .int .i64 vn, .string vs, .slice (some ⟨ba, oa, none⟩) N ca, .int .i64 pos] 26)).alloc (.cells #[.string ⟨#[]⟩, .string ⟨#[]⟩, .int .i64 0, .int .i64 0, .string ⟨#[]⟩, .slice none 0 0, .int .i64 0] 26)) (henv.on bW) hN hN2 (parts_on hp bW) hv noV false (by rw [hnone]; rfl) (fun _ => rfl)
  simp only [noV] at cR
  have cC := fun W => const_no f.op f.nm f.vt f.vn f.vs fp f.args.length fc f.pos W (of_decide_eq_false hf)
  have hN0 : (0 : Int) < (N : Int) := by omega
  have hq := ch_ops hc
  have q1 : (op.toList == [111, 114]) = decide (op.data.toList = [111, 114]) := eq_list _ _
  have q2 : (op.toList == [97, 110, 100]) = decide (op.data.toList = [97, 110, 100]) := eq_list _ _
  have q3 : (op.toList == [105, 102]) = decide (op.data.toList = [105, 102]) := eq_list _ _
  clear hp henv hv hnone hc hf X0 XE hf0
  rcases hq with hq | hq | hq
  all_goals
    simp only [hq] at q1 q2 q3
    simp at q1 q2 q3
    clear hq
    go_enter Tryz.func50, Tryz.ntmps50
    go_wp2_with fail
    refine cR.mono ?_
    rintro e w1 ⟨rfl, b1⟩
    have b1' : Below (w.heap.size + 2) ((w.alloc (.cells #[.string op, .string nm, .int .i64 vt, .int .i64 vn, .string vs, .slice (some ⟨ba, oa, none⟩) N ca, .int .i64 pos] 26)).alloc (.cells #[.string ⟨#[]⟩, .string ⟨#[]⟩, .int .i64 0, .int .i64 0, .string ⟨#[]⟩, .slice none 0 0, .int .i64 0] 26)) w1 := b1.mono (by simp)
    obtain ⟨E1, Z1, hs1, B1⟩ := KB.out w1 b1'
    obtain ⟨e0, e1, e2, e3, e4, e5, e6, -, el⟩ := E1
    have hbl1 : ba < w1.heap.size := by omega
    have f0 : w1.cell? ⟨ba, oa, none⟩ = some (.string f.op) := by rw [B1.cell (p := ⟨ba, oa, none⟩) hbl]; exact fw0
    have f1 : w1.cell? ⟨ba, oa + 1, none⟩ = some (.string f.nm) := by rw [B1.cell (p := ⟨ba, oa + 1, none⟩) hbl]; exact fw1
    have f2 : w1.cell? ⟨ba, oa + 2, none⟩ = some (.int .i64 f.vt) := by rw [B1.cell (p := ⟨ba, oa + 2, none⟩) hbl]; exact fw2
    have f3 : w1.cell? ⟨ba, oa + 3, none⟩ = some (.int .i64 f.vn) := by rw [B1.cell (p := ⟨ba, oa + 3, none⟩) hbl]; exact fw3
    have f4 : w1.cell? ⟨ba, oa + 4, none⟩ = some (.string f.vs) := by rw [B1.cell (p := ⟨ba, oa + 4, none⟩) hbl]; exact fw4
    have f5 : w1.cell? ⟨ba, oa + 5, none⟩ = some (.slice fp f.args.length fc) := by rw [B1.cell (p := ⟨ba, oa + 5, none⟩) hbl]; exact fw5
    have f6 : w1.cell? ⟨ba, oa + 6, none⟩ = some (.int .i64 f.pos) := by rw [B1.cell (p := ⟨ba, oa + 6, none⟩) hbl]; exact fw6
    clear cR
    go_wp2_with fail
    refine (cC _).mono ?_
    rintro e w2 ⟨rfl, b2⟩
    have hs2 : w1.heap.size + 1 ≤ w2.heap.size := by have := b2.size; simpa using this
    have b2' : Below (w.heap.size + 2) ((w.alloc (.cells #[.string op, .string nm, .int .i64 vt, .int .i64 vn, .string vs, .slice (some ⟨ba, oa, none⟩) N ca, .int .i64 pos] 26)).alloc (.cells #[.string ⟨#[]⟩, .string ⟨#[]⟩, .int .i64 0, .int .i64 0, .string ⟨#[]⟩, .slice none 0 0, .int .i64 0] 26)) w2 := (b1'.alloc hs1 (.cells #[.int .i64 0, .int .i64 0, .string ⟨#[]⟩] 23)).trans (b2.mono (by simp; omega))
    obtain ⟨E2, Z2, hs2', B2⟩ := KB.out w2 b2'
    clear e0 e1 e2 e3 e4 e5 e6 el
    obtain ⟨e0, e1, e2, e3, e4, e5, e6, -, el⟩ := E2
    have RZ := (Z2.set (.string op) (.string nm) (.int .i64 vt) (.int .i64 vn) (.string vs) (.slice (some ⟨ba, oa, none⟩) N ca) (.int .i64 pos)).on ((Below.refl _ _).alloc (Nat.le_refl _) (.cells #[.int .i64 0, .int .i64 0, .string ⟨#[]⟩] 23))
    have BZ := (below_set7F B2 (Nat.le_succ _) (.string op) (.string nm) (.int .i64 vt) (.int .i64 vn) (.string vs) (.slice (some ⟨ba, oa, none⟩) N ca) (.int .i64 pos)).alloc (by simp; omega) (.cells #[.int .i64 0, .int .i64 0, .string ⟨#[]⟩] 23)
    obtain ⟨z0, z1, z2, z3, z4, z5, z6, zf, zl⟩ := Z2
    have HRZ : Aside (Box7 _ _ _ _ _ _ _ _ _) := RZ
    have HBZ : Aside (Below _ _ _) := BZ
    clear cC b1 b2 b1' b2' B1 B2 KB bW fw0 fw1 fw2 fw3 fw4 fw5 fw6 f0 f1 f2 f3 f4 f5 f6 RZ BZ
    go_wp2
    exact bodyPost_ret (v := .agg #[.string op, .string nm, .int .i64 vt, .int .i64 vn, .string vs, .slice (some ⟨ba, oa, none⟩) N ca, .int .i64 pos]) (by simp [results, Tryz.results50, go_sem, HRZ.out.c0, HRZ.out.c1, HRZ.out.c2, HRZ.out.c3, HRZ.out.c4, HRZ.out.c5, HRZ.out.c6]) rfl ⟨rfl, HBZ.out⟩
set_option maxHeartbeats 4000000 in
set_option maxRecDepth 20000 in
theorem instead_not (op nm : ByteArray) (vt vn : Int) (vs : ByteArray) (pos : Int) (l : List Ex) (lo : Nat → Prop) (p : Option Addr) (N ca : Nat) (w : World) (hp : l.length = 0 ∨ ∃ b off, p = some ⟨b, off, none⟩ ∧ b < w.heap.size ∧ lo b ∧ ExsIn w lo b off l) (hN : l.length = N) (hN2 : N ≤ 1048576) (henv : REnv w) (hv : ∀ y ∈ l, y.vs.size ≤ 400 ∧ inB y.vn) (hnone : rekP op.data.toList l = none) (hc : op.data.toList = [110, 111, 116]) (f : Ex) (h0 : 0 < l.length) (hf0 : l[0] = f) (hf : f.op.data.toList ≠ [110, 111, 116]) :
    Calls Tryz.prog 50 #[.agg #[.string op, .string nm, .int .i64 vt, .int .i64 vn, .string vs, .slice p N ca, .int .i64 pos]] w fun e w' => e = .returned (.agg #[.string op, .string nm, .int .i64 vt, .int .i64 vn, .string vs, .slice p N ca, .int .i64 pos]) ∧ Below w.heap.size w w' := by
  obtain ⟨ba, oa, fp, fc, rfl, hbl, -, fw0, fw1, fw2, fw3, fw4, fw5, fw6, -⟩ := partF_at hp h0
  simp only [hf0, Nat.zero_mul, Nat.add_zero] at fw0 fw1 fw2 fw3 fw4 fw5 fw6
  have bW : Below w.heap.size w ((w.alloc (.cells #[.string op, .string nm, .int .i64 vt, .int .i64 vn, .string vs, .slice (some ⟨ba, oa, none⟩) N ca, .int .i64 pos] 26)).alloc (.cells #[.string ⟨#[]⟩, .string ⟨#[]⟩, .int .i64 0, .int .i64 0, .string ⟨#[]⟩, .slice none 0 0, .int .i64 0] 26)) := ((Below.refl _ w).alloc (Nat.le_refl _) _).alloc (by simp) _
  have X0 := box7_at (w.alloc (.cells #[.string op, .string nm, .int .i64 vt, .int .i64 vn, .string vs, .slice (some ⟨ba, oa, none⟩) N ca, .int .i64 pos] 26)) (w.heap.size + 1) (by simp) (.string ⟨#[]⟩) (.string ⟨#[]⟩) (.int .i64 0) (.int .i64 0) (.string ⟨#[]⟩) (.slice none 0 0) (.int .i64 0) 26
  have XE := (box7_at w w.heap.size rfl (.string op) (.string nm) (.int .i64 vt) (.int .i64 vn) (.string vs) (.slice (some ⟨ba, oa, none⟩) N ca) (.int .i64 pos) 26).on ((Below.refl _ (w.alloc (.cells #[.string op, .string nm, .int .i64 vt, .int .i64 vn, .string vs, .slice (some ⟨ba, oa, none⟩) N ca, .int .i64 pos] 26))).alloc (Nat.le_refl _) (.cells #[.string ⟨#[]⟩, .string ⟨#[]⟩, .int .i64 0, .int .i64 0, .string ⟨#[]⟩, .slice none 0 0, .int .i64 0] 26))
  have KB : Hid (∀ W, Below (w.heap.size + 2) ((w.alloc (.cells #[.string op, .string nm, .int .i64 vt, .int .i64 vn, .string vs, .slice (some ⟨ba, oa, none⟩) N ca, .int .i64 pos] 26)).alloc (.cells #[.string ⟨#[]⟩, .string ⟨#[]⟩, .int .i64 0, .int .i64 0, .string ⟨#[]⟩, .slice none 0 0, .int .i64 0] 26)) W → Box7 W w.heap.size (.string op) (.string nm) (.int .i64 vt) (.int .i64 vn) (.string vs) (.slice (some ⟨ba, oa, none⟩) N ca) (.int .i64 pos) ∧ Box7 W (w.heap.size + 1) (.string ⟨#[]⟩) (.string ⟨#[]⟩) (.int .i64 0) (.int .i64 0) (.string ⟨#[]⟩) (.slice none 0 0) (.int .i64 0) ∧ w.heap.size + 2 ≤ W.heap.size ∧ Below w.heap.size w W) := fun W hb => by
    have hz := hb.size
    simp at hz
    exact ⟨XE.on (hb.mono (by simp)), X0.on (hb.mono (by simp)), by omega, bW.trans (hb.mono (by omega))⟩
  have cR := reckoned_any op nm vt vn vs _ N ca pos lo l ((w.alloc (.cells #[.string op, .string nm, .int .i64 vt, .int .i64 vn, .string vs, .slice (some ⟨ba, oa, none⟩) N ca, .int .i64 pos] 26)).alloc (.cells #[.string ⟨#[]⟩, .string ⟨#[]⟩, .int .i64 0, .int .i64 0, .string ⟨#[]⟩, .slice none 0 0, .int .i64 0] 26)) (henv.on bW) hN hN2 (parts_on hp bW) hv noV false (by rw [hnone]; rfl) (fun _ => rfl)
  simp only [noV] at cR
  have hN0 : (0 : Int) < (N : Int) := by omega
  have q1 : (op.toList == [111, 114]) = false := by rw [eq_list, hc]; rfl
  have q2 : (op.toList == [97, 110, 100]) = false := by rw [eq_list, hc]; rfl
  have q3 : (op.toList == [105, 102]) = false := by rw [eq_list, hc]; rfl
  have q4 : (op.toList == [110, 111, 116]) = true := by rw [eq_list, hc]; rfl
  have q5 : (f.op.toList == [110, 111, 116]) = false := by rw [eq_list]; simpa using hf
  clear hp henv hv hnone hc hf X0 XE hf0
  go_enter Tryz.func50, Tryz.ntmps50
  go_wp2_with fail
  refine cR.mono ?_
  rintro e w1 ⟨rfl, b1⟩
  have b1' : Below (w.heap.size + 2) ((w.alloc (.cells #[.string op, .string nm, .int .i64 vt, .int .i64 vn, .string vs, .slice (some ⟨ba, oa, none⟩) N ca, .int .i64 pos] 26)).alloc (.cells #[.string ⟨#[]⟩, .string ⟨#[]⟩, .int .i64 0, .int .i64 0, .string ⟨#[]⟩, .slice none 0 0, .int .i64 0] 26)) w1 := b1.mono (by simp)
  obtain ⟨E1, Z1, hs1, B1⟩ := KB.out w1 b1'
  obtain ⟨e0, e1, e2, e3, e4, e5, e6, -, el⟩ := E1
  have hbl1 : ba < w1.heap.size := by omega
  have f0 : w1.cell? ⟨ba, oa, none⟩ = some (.string f.op) := by rw [B1.cell (p := ⟨ba, oa, none⟩) hbl]; exact fw0
  have f1 : w1.cell? ⟨ba, oa + 1, none⟩ = some (.string f.nm) := by rw [B1.cell (p := ⟨ba, oa + 1, none⟩) hbl]; exact fw1
  have f2 : w1.cell? ⟨ba, oa + 2, none⟩ = some (.int .i64 f.vt) := by rw [B1.cell (p := ⟨ba, oa + 2, none⟩) hbl]; exact fw2
  have f3 : w1.cell? ⟨ba, oa + 3, none⟩ = some (.int .i64 f.vn) := by rw [B1.cell (p := ⟨ba, oa + 3, none⟩) hbl]; exact fw3
  have f4 : w1.cell? ⟨ba, oa + 4, none⟩ = some (.string f.vs) := by rw [B1.cell (p := ⟨ba, oa + 4, none⟩) hbl]; exact fw4
  have f5 : w1.cell? ⟨ba, oa + 5, none⟩ = some (.slice fp f.args.length fc) := by rw [B1.cell (p := ⟨ba, oa + 5, none⟩) hbl]; exact fw5
  have f6 : w1.cell? ⟨ba, oa + 6, none⟩ = some (.int .i64 f.pos) := by rw [B1.cell (p := ⟨ba, oa + 6, none⟩) hbl]; exact fw6
  have RZ := (Z1.set (.string op) (.string nm) (.int .i64 vt) (.int .i64 vn) (.string vs) (.slice (some ⟨ba, oa, none⟩) N ca) (.int .i64 pos)).on ((Below.refl _ _).alloc (Nat.le_refl _) (.cells #[.int .i64 0, .int .i64 0, .string ⟨#[]⟩] 23))
  have BZ := (below_set7F B1 (Nat.le_succ _) (.string op) (.string nm) (.int .i64 vt) (.int .i64 vn) (.string vs) (.slice (some ⟨ba, oa, none⟩) N ca) (.int .i64 pos)).alloc (by simp; omega) (.cells #[.int .i64 0, .int .i64 0, .string ⟨#[]⟩] 23)
  obtain ⟨z0, z1, z2, z3, z4, z5, z6, zf, zl⟩ := Z1
  have HRZ : Aside (Box7 _ _ _ _ _ _ _ _ _) := RZ
  have HBZ : Aside (Below _ _ _) := BZ
  clear cR b1 b1' KB bW RZ BZ B1 fw0 fw1 fw2 fw3 fw4 fw5 fw6
  go_wp2
  exact bodyPost_ret (v := .agg #[.string op, .string nm, .int .i64 vt, .int .i64 vn, .string vs, .slice (some ⟨ba, oa, none⟩) N ca, .int .i64 pos]) (by simp [results, Tryz.results50, go_sem, HRZ.out.c0, HRZ.out.c1, HRZ.out.c2, HRZ.out.c3, HRZ.out.c4, HRZ.out.c5, HRZ.out.c6]) rfl ⟨rfl, HBZ.out⟩
set_option maxHeartbeats 4000000 in
set_option maxRecDepth 20000 in
theorem instead_nn (op nm : ByteArray) (vt vn : Int) (vs : ByteArray) (pos : Int) (l : List Ex) (lo : Nat → Prop) (p : Option Addr) (N ca : Nat) (w : World) (hp : l.length = 0 ∨ ∃ b off, p = some ⟨b, off, none⟩ ∧ b < w.heap.size ∧ lo b ∧ ExsIn w lo b off l) (hN : l.length = N) (hN2 : N ≤ 1048576) (henv : REnv w) (hv : ∀ y ∈ l, y.vs.size ≤ 400 ∧ inB y.vn) (hnone : rekP op.data.toList l = none) (hc : op.data.toList = [110, 111, 116]) (f : Ex) (h0 : 0 < l.length) (hf0 : l[0] = f) (hf : f.op.data.toList = [110, 111, 116]) (hg : 0 < f.args.length) (y : Ex) (hy0 : f.args[0] = y) :
    Calls Tryz.prog 50 #[.agg #[.string op, .string nm, .int .i64 vt, .int .i64 vn, .string vs, .slice p N ca, .int .i64 pos]] w fun e w' => (∃ yp yc, e = .returned (.agg #[.string y.op, .string y.nm, .int .i64 y.vt, .int .i64 y.vn, .string y.vs, .slice yp y.args.length yc, .int .i64 y.pos]) ∧ ExIn w' lo (.agg #[.string y.op, .string y.nm, .int .i64 y.vt, .int .i64 y.vn, .string y.vs, .slice yp y.args.length yc, .int .i64 y.pos]) y) ∧ Below w.heap.size w w' := by
  obtain ⟨ba, oa, fp, fc, rfl, hbl, -, fw0, fw1, fw2, fw3, fw4, fw5, fw6, hfx⟩ := partF_at hp h0
  simp only [hf0, Nat.zero_mul, Nat.add_zero] at fw0 fw1 fw2 fw3 fw4 fw5 fw6 hfx
  have hpf : f.args.length = 0 ∨ ∃ b off, fp = some ⟨b, off, none⟩ ∧ b < w.heap.size ∧ lo b ∧ ExsIn w lo b off f.args := by
    obtain ⟨p', c', e, -, h⟩ := hfx.args
    injection e with e1 e2 e3
    subst e1
    exact h
  obtain ⟨bg, og, yp, yc, rfl, hbg, -, yw0, yw1, yw2, yw3, yw4, yw5, yw6, hyx⟩ := partF_at hpf hg
  simp only [hy0, Nat.zero_mul, Nat.add_zero] at yw0 yw1 yw2 yw3 yw4 yw5 yw6 hyx
  have bW : Below w.heap.size w ((w.alloc (.cells #[.string op, .string nm, .int .i64 vt, .int .i64 vn, .string vs, .slice (some ⟨ba, oa, none⟩) N ca, .int .i64 pos] 26)).alloc (.cells #[.string ⟨#[]⟩, .string ⟨#[]⟩, .int .i64 0, .int .i64 0, .string ⟨#[]⟩, .slice none 0 0, .int .i64 0] 26)) := ((Below.refl _ w).alloc (Nat.le_refl _) _).alloc (by simp) _
  have X0 := box7_at (w.alloc (.cells #[.string op, .string nm, .int .i64 vt, .int .i64 vn, .string vs, .slice (some ⟨ba, oa, none⟩) N ca, .int .i64 pos] 26)) (w.heap.size + 1) (by simp) (.string ⟨#[]⟩) (.string ⟨#[]⟩) (.int .i64 0) (.int .i64 0) (.string ⟨#[]⟩) (.slice none 0 0) (.int .i64 0) 26
  have XE := (box7_at w w.heap.size rfl (.string op) (.string nm) (.int .i64 vt) (.int .i64 vn) (.string vs) (.slice (some ⟨ba, oa, none⟩) N ca) (.int .i64 pos) 26).on ((Below.refl _ (w.alloc (.cells #[.string op, .string nm, .int .i64 vt, .int .i64 vn, .string vs, .slice (some ⟨ba, oa, none⟩) N ca, .int .i64 pos] 26))).alloc (Nat.le_refl _) (.cells #[.string ⟨#[]⟩, .string ⟨#[]⟩, .int .i64 0, .int .i64 0, .string ⟨#[]⟩, .slice none 0 0, .int .i64 0] 26))
  have KB : Hid (∀ W, Below (w.heap.size + 2) ((w.alloc (.cells #[.string op, .string nm, .int .i64 vt, .int .i64 vn, .string vs, .slice (some ⟨ba, oa, none⟩) N ca, .int .i64 pos] 26)).alloc (.cells #[.string ⟨#[]⟩, .string ⟨#[]⟩, .int .i64 0, .int .i64 0, .string ⟨#[]⟩, .slice none 0 0, .int .i64 0] 26)) W → Box7 W w.heap.size (.string op) (.string nm) (.int .i64 vt) (.int .i64 vn) (.string vs) (.slice (some ⟨ba, oa, none⟩) N ca) (.int .i64 pos) ∧ Box7 W (w.heap.size + 1) (.string ⟨#[]⟩) (.string ⟨#[]⟩) (.int .i64 0) (.int .i64 0) (.string ⟨#[]⟩) (.slice none 0 0) (.int .i64 0) ∧ w.heap.size + 2 ≤ W.heap.size ∧ Below w.heap.size w W) := fun W hb => by
    have hz := hb.size
    simp at hz
    exact ⟨XE.on (hb.mono (by simp)), X0.on (hb.mono (by simp)), by omega, bW.trans (hb.mono (by omega))⟩
  have cR := reckoned_any op nm vt vn vs _ N ca pos lo l ((w.alloc (.cells #[.string op, .string nm, .int .i64 vt, .int .i64 vn, .string vs, .slice (some ⟨ba, oa, none⟩) N ca, .int .i64 pos] 26)).alloc (.cells #[.string ⟨#[]⟩, .string ⟨#[]⟩, .int .i64 0, .int .i64 0, .string ⟨#[]⟩, .slice none 0 0, .int .i64 0] 26)) (henv.on bW) hN hN2 (parts_on hp bW) hv noV false (by rw [hnone]; rfl) (fun _ => rfl)
  simp only [noV] at cR
  have hN0 : (0 : Int) < (N : Int) := by omega
  have hg0 : (0 : Int) < (f.args.length : Int) := by omega
  have q1 : (op.toList == [111, 114]) = false := by rw [eq_list, hc]; rfl
  have q2 : (op.toList == [97, 110, 100]) = false := by rw [eq_list, hc]; rfl
  have q3 : (op.toList == [105, 102]) = false := by rw [eq_list, hc]; rfl
  have q4 : (op.toList == [110, 111, 116]) = true := by rw [eq_list, hc]; rfl
  have q5 : (f.op.toList == [110, 111, 116]) = true := by rw [eq_list, hf]; rfl
  have HY : Aside (ExIn w lo (.agg #[.string y.op, .string y.nm, .int .i64 y.vt, .int .i64 y.vn, .string y.vs, .slice yp y.args.length yc, .int .i64 y.pos]) y) := hyx
  clear hp henv hv hnone hc hf X0 XE hf0 hpf hfx hyx hy0
  go_enter Tryz.func50, Tryz.ntmps50
  go_wp2_with fail
  refine cR.mono ?_
  rintro e w1 ⟨rfl, b1⟩
  have b1' : Below (w.heap.size + 2) ((w.alloc (.cells #[.string op, .string nm, .int .i64 vt, .int .i64 vn, .string vs, .slice (some ⟨ba, oa, none⟩) N ca, .int .i64 pos] 26)).alloc (.cells #[.string ⟨#[]⟩, .string ⟨#[]⟩, .int .i64 0, .int .i64 0, .string ⟨#[]⟩, .slice none 0 0, .int .i64 0] 26)) w1 := b1.mono (by simp)
  obtain ⟨E1, Z1, hs1, B1⟩ := KB.out w1 b1'
  obtain ⟨e0, e1, e2, e3, e4, e5, e6, -, el⟩ := E1
  have hbl1 : ba < w1.heap.size := by omega
  have hbg1 : bg < w1.heap.size := by omega
  have f0 : w1.cell? ⟨ba, oa, none⟩ = some (.string f.op) := by rw [B1.cell (p := ⟨ba, oa, none⟩) hbl]; exact fw0
  have f1 : w1.cell? ⟨ba, oa + 1, none⟩ = some (.string f.nm) := by rw [B1.cell (p := ⟨ba, oa + 1, none⟩) hbl]; exact fw1
  have f2 : w1.cell? ⟨ba, oa + 2, none⟩ = some (.int .i64 f.vt) := by rw [B1.cell (p := ⟨ba, oa + 2, none⟩) hbl]; exact fw2
  have f3 : w1.cell? ⟨ba, oa + 3, none⟩ = some (.int .i64 f.vn) := by rw [B1.cell (p := ⟨ba, oa + 3, none⟩) hbl]; exact fw3
  have f4 : w1.cell? ⟨ba, oa + 4, none⟩ = some (.string f.vs) := by rw [B1.cell (p := ⟨ba, oa + 4, none⟩) hbl]; exact fw4
  have f5 : w1.cell? ⟨ba, oa + 5, none⟩ = some (.slice (some ⟨bg, og, none⟩) f.args.length fc) := by rw [B1.cell (p := ⟨ba, oa + 5, none⟩) hbl]; exact fw5
  have f6 : w1.cell? ⟨ba, oa + 6, none⟩ = some (.int .i64 f.pos) := by rw [B1.cell (p := ⟨ba, oa + 6, none⟩) hbl]; exact fw6
  have y0 : w1.cell? ⟨bg, og, none⟩ = some (.string y.op) := by rw [B1.cell (p := ⟨bg, og, none⟩) hbg]; exact yw0
  have y1 : w1.cell? ⟨bg, og + 1, none⟩ = some (.string y.nm) := by rw [B1.cell (p := ⟨bg, og + 1, none⟩) hbg]; exact yw1
  have y2 : w1.cell? ⟨bg, og + 2, none⟩ = some (.int .i64 y.vt) := by rw [B1.cell (p := ⟨bg, og + 2, none⟩) hbg]; exact yw2
  have y3 : w1.cell? ⟨bg, og + 3, none⟩ = some (.int .i64 y.vn) := by rw [B1.cell (p := ⟨bg, og + 3, none⟩) hbg]; exact yw3
  have y4 : w1.cell? ⟨bg, og + 4, none⟩ = some (.string y.vs) := by rw [B1.cell (p := ⟨bg, og + 4, none⟩) hbg]; exact yw4
  have y5 : w1.cell? ⟨bg, og + 5, none⟩ = some (.slice yp y.args.length yc) := by rw [B1.cell (p := ⟨bg, og + 5, none⟩) hbg]; exact yw5
  have y6 : w1.cell? ⟨bg, og + 6, none⟩ = some (.int .i64 y.pos) := by rw [B1.cell (p := ⟨bg, og + 6, none⟩) hbg]; exact yw6
  have RZ := (Z1.set (.string y.op) (.string y.nm) (.int .i64 y.vt) (.int .i64 y.vn) (.string y.vs) (.slice yp y.args.length yc) (.int .i64 y.pos)).on ((Below.refl _ _).alloc (Nat.le_refl _) (.cells #[.int .i64 0, .int .i64 0, .string ⟨#[]⟩] 23))
  have BZ := (below_set7F B1 (Nat.le_succ _) (.string y.op) (.string y.nm) (.int .i64 y.vt) (.int .i64 y.vn) (.string y.vs) (.slice yp y.args.length yc) (.int .i64 y.pos)).alloc (by simp; omega) (.cells #[.int .i64 0, .int .i64 0, .string ⟨#[]⟩] 23)
  obtain ⟨z0, z1, z2, z3, z4, z5, z6, zf, zl⟩ := Z1
  have HRZ : Aside (Box7 _ _ _ _ _ _ _ _ _) := RZ
  have HBZ : Aside (Below _ _ _) := BZ
  clear cR b1 b1' KB bW RZ BZ B1 fw0 fw1 fw2 fw3 fw4 fw5 fw6 yw0 yw1 yw2 yw3 yw4 yw5 yw6
  go_wp2
  exact bodyPost_ret (v := .agg #[.string y.op, .string y.nm, .int .i64 y.vt, .int .i64 y.vn, .string y.vs, .slice yp y.args.length yc, .int .i64 y.pos]) (by simp [results, Tryz.results50, go_sem, HRZ.out.c0, HRZ.out.c1, HRZ.out.c2, HRZ.out.c3, HRZ.out.c4, HRZ.out.c5, HRZ.out.c6]) rfl ⟨⟨yp, yc, rfl, HY.out.on HBZ.out⟩, HBZ.out⟩
end Go.Proofs.YtknibfhoecgjlaaGreatDoor
