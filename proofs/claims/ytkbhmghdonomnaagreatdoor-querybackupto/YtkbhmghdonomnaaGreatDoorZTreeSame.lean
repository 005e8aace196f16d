/-
  Same of package tree, at any two expressions: whether they are the same, but for At.
-/
import Derived.Test.YtkbhmghdonomnaaGreatDoorZTreeSa
namespace Go.Proofs.YtkbhmghdonomnaaGreatDoor
open Go.RowKit Go.BigFrame
set_option linter.unusedVariables false
theorem two_boxes (W : World) (ca cb : Array Value) (t : TypeId) : (∀ i, ((W.alloc (.cells ca t)).alloc (.cells cb t)).drew.cell? ⟨W.heap.size, i, none⟩ = ca[i]?) ∧ (∀ i, ((W.alloc (.cells ca t)).alloc (.cells cb t)).drew.cell? ⟨W.heap.size + 1, i, none⟩ = cb[i]?) ∧ ((W.alloc (.cells ca t)).alloc (.cells cb t)).drew.heap.size = W.heap.size + 2 ∧ Below W.heap.size W ((W.alloc (.cells ca t)).alloc (.cells cb t)).drew := by
 refine ⟨fun i => ?_, fun i => ?_, by simp, Below.drew (((Below.refl _ W).alloc (Nat.le_refl _) _).alloc (by simp) _)⟩
 ·show ((W.alloc (.cells ca t)).alloc (.cells cb t)).cell? ⟨W.heap.size, i, none⟩ = _
  rw [World.cell?_alloc_lt _ _ _ (by simp), World.cell?_alloc_at _ _ _ _ rfl]
 ·show ((W.alloc (.cells ca t)).alloc (.cells cb t)).cell? ⟨W.heap.size + 1, i, none⟩ = _
  rw [World.cell?_alloc_at _ _ _ _ (by simp)]
theorem start_boxes (w : World) (ca cb cp : Array Value) (t tp : TypeId) : (∀ i, (((((w.alloc (.cells ca t)).alloc (.cells cb t)).alloc (.cells ca t)).alloc (.cells cb t)).alloc (.cells cp tp)).cell? ⟨w.heap.size + 2, i, none⟩ = ca[i]?) ∧ (∀ i, (((((w.alloc (.cells ca t)).alloc (.cells cb t)).alloc (.cells ca t)).alloc (.cells cb t)).alloc (.cells cp tp)).cell? ⟨w.heap.size + 3, i, none⟩ = cb[i]?) ∧ (((((w.alloc (.cells ca t)).alloc (.cells cb t)).alloc (.cells ca t)).alloc (.cells cb t)).alloc (.cells cp tp)).heap[w.heap.size + 4]? = some (.cells cp tp) ∧ (((((w.alloc (.cells ca t)).alloc (.cells cb t)).alloc (.cells ca t)).alloc (.cells cb t)).alloc (.cells cp tp)).heap.size = w.heap.size + 5 ∧ Below w.heap.size w (((((w.alloc (.cells ca t)).alloc (.cells cb t)).alloc (.cells ca t)).alloc (.cells cb t)).alloc (.cells cp tp)) := by
 refine ⟨fun i => ?_, fun i => ?_, ?_, by simp, (((((Below.refl _ w).alloc (Nat.le_refl _) _).alloc (by simp) _).alloc (by simp <;> omega) _).alloc (by simp <;> omega) _).alloc (by simp <;> omega) _⟩
 ·rw [World.cell?_alloc_lt _ _ _ (by simp <;> omega), World.cell?_alloc_lt _ _ _ (by simp), World.cell?_alloc_at _ _ _ _ (by simp)]
 ·rw [World.cell?_alloc_lt _ _ _ (by simp), World.cell?_alloc_at _ _ _ _ (by simp)]
 ·rw [show w.heap.size + 4 = ((((w.alloc (.cells ca t)).alloc (.cells cb t)).alloc (.cells ca t)).alloc (.cells cb t)).heap.size by simp]
  exact heap_alloc_new _ _
theorem argsIs_one {W : World} {lo : Nat → Prop} {b : Nat} {v0 v1 v2 v3 v4 v5 v6 : Value} {x : Ex} (hb : b < W.heap.size) (hlo : lo b) (hc : ∀ i, W.cell? ⟨b, i, none⟩ = (#[v0, v1, v2, v3, v4, v5, v6] : Array Value)[i]?) (hx : ExIn W lo (.agg #[v0, v1, v2, v3, v4, v5, v6]) x) : ArgsIs W lo (.slice (some ⟨b, 0, none⟩) 1 1) [x] := by
 refine ⟨some ⟨b, 0, none⟩, 1, rfl, ⟨by simp [maxLen], by simp⟩, .inr ⟨b, 0, rfl, hb, hlo, ?_⟩⟩
 rw [ExsIn, ExsIn]
 refine ⟨⟨_, _, _, _, _, _, _, ?_, ?_, ?_, ?_, ?_, ?_, ?_, hx⟩, trivial⟩
 all_goals (rw [hc]; rfl)
set_option maxHeartbeats 4000000 in
set_option maxRecDepth 20000 in
theorem treeSame_any (x y : Ex) (lo : Nat → Prop) (va vb : Value) (w : World) (hx : ExIn w lo va x) (hy : ExIn w lo vb y) (hsz : x.size ≤ 1048576) :
  Calls Tryz.prog 50 #[va, vb] w fun e w' => e = .returned (.bool (sameE false x y)) ∧ Below w.heap.size w w' := by
 obtain ⟨o1, n1, t1, k1, s1, p1, m1, c1, a1, rfl⟩ := hx.agg
 obtain ⟨o2, n2, t2, k2, s2, p2, m2, c2, a2, rfl⟩ := hy.agg
 obtain ⟨i0, hi, hz0, hz1, hzz⟩ := info_parts info_pr
 obtain ⟨T, hT⟩ : ∃ T, sameE false x y = T := ⟨_, rfl⟩
 have HT : Hid (sameE false x y = T) := hT
 have HX : Aside (ExIn w (· < w.heap.size + 4) (.agg #[.string o1, .string n1, .int .i64 t1, .int .i64 k1, .string s1, .slice p1 m1 c1, .int .i64 a1]) x) := ExIn.low (fun b h1 _ => (show b < w.heap.size + 4 by omega)) _ _ hx
 have HY : Aside (ExIn w (· < w.heap.size + 4) (.agg #[.string o2, .string n2, .int .i64 t2, .int .i64 k2, .string s2, .slice p2 m2 c2, .int .i64 a2]) y) := ExIn.low (fun b h1 _ => (show b < w.heap.size + 4 by omega)) _ _ hy
 have HZ : Hid (x.size ≤ 1048576) := hsz
 rw [hT]
 clear hx hy hT hsz
 go_enter Tryz.func50, Tryz.ntmps50
 go_wp2
 go_loopg [5, 6, 7, 8, 9] (2 * x.size + 2) (fun gg s5 _ _ _ _ wr => ∃ (st : List (List Ex × List Ex)) (vs : List (Value × Value)) (q : Option Addr) (c : Nat), s5 = .slice q vs.length c ∧ Hid (pairN st < gg ∧ pairN st ≤ 2097153) ∧ Aside (wr.ownsRow (w.heap.size + 4) 153 2 (.slice q vs.length c) vs.length (pairC vs)) ∧ Aside (StkP wr (· < w.heap.size + 4) vs st) ∧ Aside (Below w.heap.size w wr) ∧ Hid (allSame st = T))
 case atStart =>
  obtain ⟨h1, h2, h3, h4, h5⟩ := start_boxes w #[.string o1, .string n1, .int .i64 t1, .int .i64 k1, .string s1, .slice p1 m1 c1, .int .i64 a1] #[.string o2, .string n2, .int .i64 t2, .int .i64 k2, .string s2, .slice p2 m2 c2, .int .i64 a2] #[.slice (some ⟨w.heap.size + 2, 0, none⟩) 1 1, .slice (some ⟨w.heap.size + 3, 0, none⟩) 1 1] 26 153
  refine ⟨[([x], [y])], [(.slice (some ⟨w.heap.size + 2, 0, none⟩) 1 1, .slice (some ⟨w.heap.size + 3, 0, none⟩) 1 1)], some ⟨w.heap.size + 4, 0, none⟩, 1, rfl, ?_, ?_, ?_, ?_, ?_⟩
  ·show _ ∧ _
   have h := HZ.out
   simp [pairN, Ex.sizes]
   omega
  ·exact ⟨rfl, .inr ⟨w.heap.size + 4, 1, #[.slice (some ⟨w.heap.size + 2, 0, none⟩) 1 1, .slice (some ⟨w.heap.size + 3, 0, none⟩) 1 1], rfl, Nat.le_refl _, h3, Nat.le_refl _, by decide, rfl, rfl⟩⟩
  ·exact ⟨⟨argsIs_one (by rw [h4]; omega) (by show _ < _; omega) h1 (HX.out.on h5), argsIs_one (by rw [h4]; omega) (by show _ < _; omega) h2 (HY.out.on h5), rfl⟩, trivial⟩
  ·exact h5
  ·show _ = _
   rw [← HT.out]
   simp [allSame, sameL]
 case round =>
  obtain ⟨st, vs, q, c, rfl, HB, OW, SK, BW, HF⟩ := hrel
  clear HX HY HT
  have hz := BW.out.size
  have hlen := SK.out.len
  rcases List.eq_nil_or_concat st with rfl | ⟨st', l, rfl⟩
  ·obtain rfl : vs = [] := List.eq_nil_of_length_eq_zero hlen
   have HT2 : Hid (true = T) := HF.out
   go_wp2
   go_ret
   have hT := HT2.out
   subst hT
   exact ⟨rfl, BW.out⟩
  ·obtain ⟨vs', v, rfl⟩ : ∃ vs' v, vs = vs' ++ [v] := by
    rcases List.eq_nil_or_concat vs with rfl | ⟨vs', v, rfl⟩
    ·simp at hlen
    ·exact ⟨vs', v, by simp⟩
   simp only [List.concat_eq_append] at *
   obtain ⟨SK1, AI, AJ, hll⟩ := SK.out.front
   have OW2 := OW.out
   simp only [List.length_append, List.length_singleton] at OW2 hlen
   obtain ⟨g, rfl⟩ : ∃ g, q = some ⟨g, 0, none⟩ := by
    rcases OW2.2 with ⟨e1, _⟩ | ⟨g, _, _, e1, _⟩
    ·injection e1 with e1 e2; simp at e2
    ·injection e1 with e1; exact ⟨g, e1⟩
   obtain ⟨ct, ct2, cf, cf2, gl, gB, gc⟩ := own2_top OW2
   obtain ⟨l, m⟩ := l
   obtain ⟨va, vb⟩ := v
   simp only at AI AJ hll ct ct2
   have hN : vs'.length ≤ 2097153 := by
    have h1 := HB.out.2
    rw [pairN, List.length_append, List.length_singleton] at h1
    omega
   have hNz : (vs'.length : Int) ≤ 2097153 := by omega
   have hN0 : (0 : Int) ≤ (vs'.length : Int) := by omega
   have hlenz : (((vs' ++ [(va, vb)]).length : Nat) : Int) = (vs'.length : Int) + 1 := by simp
   clear hlen OW SK
   obtain ⟨pa, ca, rfl, ⟨hm1, hm2⟩, hA⟩ := id AI
   obtain ⟨pb, cb, rfl, ⟨hk1, hk2⟩, hB⟩ := id AJ
   cases l with
   | nil =>
    obtain rfl : m = [] := List.eq_nil_of_length_eq_zero hll.symm
    have ow := own2_pop OW2
    have HB2 : Hid (pairN st' < gk - 1 ∧ pairN st' ≤ 2097153 ∧ 0 < gk) := by
     show _ ∧ _
     have h1 := HB.out
     rw [pairN_nil] at h1
     omega
    have HF3 : Hid (allSame st' = T) := by show _ = _; rw [← HF.out, allSame_nil]
    have BP := BW.out.alloc (by omega) (.cells #[.slice pa 0 ca, .slice pb 0 cb] 153)
    clear OW2 AI AJ HB HF hA hB
    simp only [List.length_nil] at ct ct2
    go_wp2
    go_roundg (gk - 1)
    case measure => have := HB2.out; omega
    case rel => exact ⟨st', vs', _, c, rfl, (show Hid _ from ⟨HB2.out.1, HB2.out.2.1⟩), (show Aside _ from ow.alloc _), (show Aside _ from SK1.keep (by simp) (fun b o _ h2 => World.cell?_alloc_past _ _ _ h2)), (show Aside _ from BP), HF3⟩
   | cons a l =>
    obtain ⟨b, m, rfl⟩ : ∃ b m', m = b :: m' := by
     cases m with
     | nil => simp at hll
     | cons b m => exact ⟨b, m, rfl⟩
    simp only [List.length_cons] at AI AJ ct ct2 hll
    obtain ⟨pa', ca', hsa, AI2⟩ := tail_run AI
    obtain ⟨pb', cb', hsb, AJ2⟩ := tail_run AJ
    have HLL : Hid (l.length = m.length) := by show _ = _; omega
    have hlz : ((l.length : Int) + 1 == 0) = false := by simp; omega
    have hmz : ((m.length : Int) + 1 == 0) = false := by simp; omega
    clear hll
    have OP := own2_put (u := (Value.slice pa' l.length ca', Value.slice pb' m.length cb')) OW2
    have OP2 := OP.alloc (.cells #[.slice pa (l.length + 1) ca, .slice pb (m.length + 1) cb] 153)
    have bw1 : Below (w.heap.size + 4) wr ((((wr.setCell ⟨g, vs'.length * 2, none⟩ (.slice pa' l.length ca')).setCell ⟨g, vs'.length * 2 + 1, none⟩ (.slice pb' m.length cb')).alloc (.cells #[.slice pa (l.length + 1) ca, .slice pb (m.length + 1) cb] 153)).drew) := Below.drew ((((Below.refl _ wr).setCell (p := ⟨g, vs'.length * 2, none⟩) gB _).setCell (p := ⟨g, vs'.length * 2 + 1, none⟩) gB _).alloc (by simp [World.setCell]; omega) _)
    rcases hA with hA | ⟨ba, oa, rfl, hbla, hloa, hA⟩
    ·simp at hA
    rcases hB with hB | ⟨bb, ob, rfl, hblb, hlob, hB⟩
    ·simp at hB
    rw [ExsIn] at hA hB
    obtain ⟨⟨v0, v1, v2, v3, v4, v5, v6, e0, e1, e2, e3, e4, e5, e6, hxa⟩, _⟩ := hA
    obtain ⟨⟨z0, z1, z2, z3, z4, z5, z6, f0, f1, f2, f3, f4, f5, f6, hxb⟩, _⟩ := hB
    obtain ⟨u0, u1, u2, u3, u4, u5, u6, u7, u8, huu⟩ := hxa.agg
    injection huu with huu
    simp only [Array.mk.injEq, List.cons.injEq, and_true] at huu
    obtain ⟨rfl, rfl, rfl, rfl, rfl, rfl, rfl⟩ := huu
    obtain ⟨q0, q1, q2, q3, q4, q5, q6, q7, q8, hqq⟩ := hxb.agg
    injection hqq with hqq
    simp only [Array.mk.injEq, List.cons.injEq, and_true] at hqq
    obtain ⟨rfl, rfl, rfl, rfl, rfl, rfl, rfl⟩ := hqq
    have hloa : ba < w.heap.size + 4 := hloa
    have hlob : bb < w.heap.size + 4 := hlob
    have kA : ∀ o, _ = wr.cell? ⟨ba, o, none⟩ := fun o => bw1.cell (p := ⟨ba, o, none⟩) hloa
    have kB : ∀ o, _ = wr.cell? ⟨bb, o, none⟩ := fun o => bw1.cell (p := ⟨bb, o, none⟩) hlob
    rw [← kA] at e0 e1 e2 e3 e4 e5 e6
    rw [← kB] at f0 f1 f2 f3 f4 f5 f6
    have hP : ∀ i, ((((wr.setCell ⟨g, vs'.length * 2, none⟩ (.slice pa' l.length ca')).setCell ⟨g, vs'.length * 2 + 1, none⟩ (.slice pb' m.length cb')).alloc (.cells #[.slice (some ⟨ba, oa, none⟩) (l.length + 1) ca, .slice (some ⟨bb, ob, none⟩) (m.length + 1) cb] 153)).drew).cell? ⟨wr.heap.size, i, none⟩ = (#[.slice (some ⟨ba, oa, none⟩) (l.length + 1) ca, .slice (some ⟨bb, ob, none⟩) (m.length + 1) cb] : Array Value)[i]? := fun i => World.cell?_alloc_at _ _ _ _ (by simp [World.setCell])
    have P0 : _ = some (Value.slice (some ⟨ba, oa, none⟩) (l.length + 1) ca) := hP 0
    have P1 : _ = some (Value.slice (some ⟨bb, ob, none⟩) (m.length + 1) cb) := hP 1
    have hWz : wr.heap.size < ((((wr.setCell ⟨g, vs'.length * 2, none⟩ (.slice pa' l.length ca')).setCell ⟨g, vs'.length * 2 + 1, none⟩ (.slice pb' m.length cb')).alloc (.cells #[.slice (some ⟨ba, oa, none⟩) (l.length + 1) ca, .slice (some ⟨bb, ob, none⟩) (m.length + 1) cb] 153)).drew).heap.size := by simp [World.setCell]
    have OP3 : ((((wr.setCell ⟨g, vs'.length * 2, none⟩ (.slice pa' l.length ca')).setCell ⟨g, vs'.length * 2 + 1, none⟩ (.slice pb' m.length cb')).alloc (.cells #[.slice (some ⟨ba, oa, none⟩) (l.length + 1) ca, .slice (some ⟨bb, ob, none⟩) (m.length + 1) cb] 153)).drew).ownsRow (w.heap.size + 4) 153 2 (.slice (some ⟨g, 0, none⟩) (vs'.length + 1) c) (vs'.length + 1) (pairC (vs' ++ [(Value.slice pa' l.length ca', Value.slice pb' m.length cb')])) := OP2
    clear OP OP2 OW2 kA kB hP
    go_wp2
    go_region
    generalize ((((wr.setCell ⟨g, vs'.length * 2, none⟩ (.slice pa' l.length ca')).setCell ⟨g, vs'.length * 2 + 1, none⟩ (.slice pb' m.length cb')).alloc (.cells #[.slice (some ⟨ba, oa, none⟩) (l.length + 1) ca, .slice (some ⟨bb, ob, none⟩) (m.length + 1) cb] 153)).drew) = W at *
    have hblaW : ba < W.heap.size := by omega
    have hblbW : bb < W.heap.size := by omega
    have hva := val_neq u2 u3 q2 q3 u4 q4
    have HSM : Hid ((allSame st' && (sameE false a b && sameL false l m)) = T) := by
     show _ = _
     rw [← HF.out, allSame_snoc]
     simp only
     rw [sameL]
    obtain ⟨hpa, hla⟩ := hxa.parts
    obtain ⟨hpb, hlb⟩ := hxb.parts
    have HSE : Hid (sameE false a b = ((u0.toList == q0.toList) && ((u1.toList == q1.toList) && (((u2 == q2) && ((u3 == q3) && (u4.toList == q4.toList))) && sameL false a.args b.args)))) := by
     show _ = _
     rw [hpa, hpb, sameE_parts]
     rfl
    have HLA : Hid (u6 = a.args.length ∧ q6 = b.args.length) := ⟨hla, hlb⟩
    have aa := hxa.args
    have ab := hxb.args
    clear HF hpa hpb hla hlb hxa hxb
    generalize hc1 : (u0.toList == q0.toList) = C1 at HSE
    generalize hc2 : (u1.toList == q1.toList) = C2 at HSE
    generalize hc3 : ((u2 == q2) && ((u3 == q3) && (u4.toList == q4.toList))) = C3 at hva HSE
    have BWW : Below w.heap.size w W := BW.out.trans (bw1.mono (by omega))
    have hWs : w.heap.size + 4 ≤ W.heap.size := by omega
    have e0 := e0
    go_upto_region 8 with fail
    go_cut [8, 9] (fun s8 s9 wc => ∃ bx by' : Nat, s8 = .pointer (some ⟨bx, 0, none⟩) ∧ s9 = .pointer (some ⟨by', 0, none⟩) ∧ (wc.cell? ⟨bx, 0, none⟩ = some (.string u0) ∧ wc.cell? ⟨bx, 1, none⟩ = some (.string u1) ∧ wc.cell? ⟨bx, 2, none⟩ = some (.int .i64 u2) ∧ wc.cell? ⟨bx, 3, none⟩ = some (.int .i64 u3) ∧ wc.cell? ⟨bx, 4, none⟩ = some (.string u4) ∧ wc.cell? ⟨bx, 5, none⟩ = some (.slice u5 u6 u7)) ∧ (wc.cell? ⟨by', 0, none⟩ = some (.string q0) ∧ wc.cell? ⟨by', 1, none⟩ = some (.string q1) ∧ wc.cell? ⟨by', 2, none⟩ = some (.int .i64 q2) ∧ wc.cell? ⟨by', 3, none⟩ = some (.int .i64 q3) ∧ wc.cell? ⟨by', 4, none⟩ = some (.string q4) ∧ wc.cell? ⟨by', 5, none⟩ = some (.slice q5 q6 q7)) ∧ bx < wc.heap.size ∧ by' < wc.heap.size ∧ Below W.heap.size W wc ∧ W.heap.size + 2 ≤ wc.heap.size)
    case first => as_aux_lemma =>
     go_region
     all_goals
      go_wp2_with fail
      go_meet
      case rel =>
       first
        | (obtain ⟨h1, h2, h3, h4⟩ := two_boxes W #[.string u0, .string u1, .int .i64 u2, .int .i64 u3, .string u4, .slice u5 u6 u7, .int .i64 u8] #[.string q0, .string q1, .int .i64 q2, .int .i64 q3, .string q4, .slice q5 q6 q7, .int .i64 q8] 26
           exact ⟨W.heap.size, W.heap.size + 1, rfl, rfl, ⟨h1 0, h1 1, h1 2, h1 3, h1 4, h1 5⟩, ⟨h2 0, h2 1, h2 2, h2 3, h2 4, h2 5⟩, by rw [h3]; omega, by rw [h3]; omega, h4, by rw [h3]; omega⟩)
        | (obtain ⟨h2, h1, h3, h4⟩ := two_boxes W #[.string q0, .string q1, .int .i64 q2, .int .i64 q3, .string q4, .slice q5 q6 q7, .int .i64 q8] #[.string u0, .string u1, .int .i64 u2, .int .i64 u3, .string u4, .slice u5 u6 u7, .int .i64 u8] 26
           exact ⟨W.heap.size + 1, W.heap.size, rfl, rfl, ⟨h1 0, h1 1, h1 2, h1 3, h1 4, h1 5⟩, ⟨h2 0, h2 1, h2 2, h2 3, h2 4, h2 5⟩, by rw [h3]; omega, by rw [h3]; omega, h4, by rw [h3]; omega⟩)
    case rest =>
     obtain ⟨bx, by', rfl, rfl, ⟨x0, x1, x2, x3, x4, x5⟩, ⟨y0, y1, y2, y3, y4, y5⟩, hbx, hby, BC, hWc⟩ := hcut
     have BWc : Below w.heap.size w wc := BWW.trans (BC.mono (by omega))
     have OWc := own_but OP3 (But.of_below' (r := 0) BC (Nat.zero_le _)) (by omega)
     have BWA : Aside (Below w.heap.size w wc) := BWc
     have BRC : Aside (Below (w.heap.size + 4) wr wc) := bw1.trans (BC.mono (by omega))
     have OWA : Aside (wc.ownsRow (w.heap.size + 4) 153 2 (.slice (some ⟨g, 0, none⟩) (vs'.length + 1) c) (vs'.length + 1) (pairC (vs' ++ [(Value.slice pa' l.length ca', Value.slice pb' m.length cb')]))) := OWc
     have hrc : wr.heap.size ≤ wc.heap.size := by omega
     clear BW BWW BWc OWc BC bw1 OP3 e0 e1 e2 e3 e4 e5 e6 f0 f1 f2 f3 f4 f5 f6 P0 P1 ct ct2 cf cf2 hWz hblaW hblbW hloa hlob hsa hsb AI AJ
     cases C1
     ·as_aux_lemma =>
      have HT2 : Hid (false = T) := by show _ = _; rw [← HSM.out, HSE.out]; simp
      go_wp2
      go_ret
      have hT := HT2.out
      subst hT
      exact ⟨rfl, BWA.out⟩
     ·cases C2
      ·as_aux_lemma =>
       have HT2 : Hid (false = T) := by show _ = _; rw [← HSM.out, HSE.out]; simp
       go_wp2
       go_ret
       have hT := HT2.out
       subst hT
       exact ⟨rfl, BWA.out⟩
      ·cases C3
       ·as_aux_lemma =>
        have HT2 : Hid (false = T) := by show _ = _; rw [← HSM.out, HSE.out]; simp
        go_wp2
        go_ret
        have hT := HT2.out
        subst hT
        exact ⟨rfl, BWA.out⟩
       ·by_cases h6 : u6 = q6
        ·subst h6
         have h6z : ((u6 : Int) != (u6 : Int)) = false := by simp
         have HB2 : Hid (pairN (st' ++ [(l, m)] ++ [(a.args, b.args)]) < gk - 1 ∧ pairN (st' ++ [(l, m)] ++ [(a.args, b.args)]) ≤ 2097153 ∧ 0 < gk) := by
          show _ ∧ _
          have h1 := HB.out
          rw [pairN_cons] at h1
          omega
         have HF4 : Hid (allSame (st' ++ [(l, m)] ++ [(a.args, b.args)]) = T) := by
          show _ = _
          rw [← HSM.out, HSE.out, allSame_snoc, allSame_snoc]
          simp only [Bool.true_and]
          rw [Bool.and_assoc, Bool.and_comm (sameL false l m)]
         have SKA : Aside (StkP wr (· < w.heap.size + 4) (vs' ++ [(Value.slice pa' l.length ca', Value.slice pb' m.length cb')] ++ [(Value.slice u5 u6 u7, Value.slice q5 u6 q7)]) (st' ++ [(l, m)] ++ [(a.args, b.args)])) := StkP.snoc ⟨aa, ab, HLA.out.1.symm.trans HLA.out.2⟩ (StkP.snoc ⟨AI2, AJ2, HLL.out⟩ SK1)
         have OWB : wc.ownsRow (w.heap.size + 4) 153 2 (.slice (some ⟨g, 0, none⟩) (vs' ++ [(Value.slice (some ⟨ba, oa, none⟩) (a :: l).length ca, Value.slice (some ⟨bb, ob, none⟩) (b :: m).length cb)]).length c) (vs'.length + 1) (pairC (vs' ++ [(Value.slice pa' l.length ca', Value.slice pb' m.length cb')])) := by
          have h1 : (vs' ++ [(Value.slice (some ⟨ba, oa, none⟩) (a :: l).length ca, Value.slice (some ⟨bb, ob, none⟩) (b :: m).length cb)]).length = vs'.length + 1 := by simp
          rw [h1]; exact OWA.out
         clear HB HSM HSE HLA HLL aa ab AI2 AJ2 SK1 OWA
         go_wp2_with (at_builtin; refine wpList_append_own _ rfl _ _ 154 rfl (w.heap.size + 4) 153 i0 (.agg #[.slice none 0 0, .slice none 0 0]) 2 48 Tryz.underlying154 hi hz0 hz1 hzz rfl (by decide) _ _ _ rfl (OWB.alloc _) ⟨wc.heap.size, 0, none⟩ 1 1 [.slice u5 u6 u7, .slice q5 u6 q7] rfl rfl ?c1 ?c2 ?c3 ?c4 ?c5 ?_)
         case c1 =>
          intro i u hu
          rw [Go.WideShapes.add_plain, World.cell?_alloc_at _ _ _ _ (by simp)]
          simpa using hu
         case c2 =>
          intro u hu
          simp at hu
          rcases hu with rfl | rfl <;> rfl
         case c3 => simp [maxLen]; omega
         case c4 => omega
         case c5 => simp; omega
         ·intro v' w3 hown' hgrow _
          have hlo3 : ∀ j, (Value.slice (some ⟨g, 0, none⟩) (vs' ++ [(Value.slice (some ⟨ba, oa, none⟩) (a :: l).length ca, Value.slice (some ⟨bb, ob, none⟩) (b :: m).length cb)]).length c).ownBlock = some j → w.heap.size + 4 ≤ j := fun j hj => (OWB.lt j hj).1
          have bg : Below (w.heap.size + 4) wc w3 := ((Below.refl _ wc).alloc (by omega) _).grown hgrow (by simp; omega) hlo3
          have zg : wc.heap.size ≤ w3.heap.size := by have := hgrow.size; simp at this; omega
          have BR3 : Below (w.heap.size + 4) wr w3 := BRC.out.trans bg
          have SK4 := SKA.out.keep (by omega) (fun bb' oo hb _ => BR3.cell (p := ⟨bb', oo, none⟩) hb)
          have BB3 : Below w.heap.size w w3 := BWA.out.trans (bg.mono (by omega))
          obtain ⟨q5', c5', rfl⟩ := lown_slice hown'
          have ow5 : w3.ownsRow (w.heap.size + 4) 153 2 (.slice q5' (vs' ++ [(Value.slice pa' l.length ca', Value.slice pb' m.length cb')] ++ [(Value.slice u5 u6 u7, Value.slice q5 u6 q7)]).length c5') (vs' ++ [(Value.slice pa' l.length ca', Value.slice pb' m.length cb')] ++ [(Value.slice u5 u6 u7, Value.slice q5 u6 q7)]).length (pairC (vs' ++ [(Value.slice pa' l.length ca', Value.slice pb' m.length cb')] ++ [(Value.slice u5 u6 u7, Value.slice q5 u6 q7)])) := by
           have h1 : (vs' ++ [(Value.slice pa' l.length ca', Value.slice pb' m.length cb')] ++ [(Value.slice u5 u6 u7, Value.slice q5 u6 q7)]).length = vs'.length + 1 + 1 := by simp
           rw [h1, pairC_snoc]; exact hown'
          clear hown' hgrow SKA BWA OWB bg BRC
          go_wp2
          go_roundg (gk - 1)
          case measure => have := HB2.out; omega
          case rel => exact ⟨st' ++ [(l, m)] ++ [(a.args, b.args)], _, q5', c5', by simp, (show Hid _ from ⟨HB2.out.1, HB2.out.2.1⟩), (show Aside _ from ow5), (show Aside _ from SK4), (show Aside _ from BB3), HF4⟩
        ·as_aux_lemma =>
         have h6z : ((u6 : Int) == (q6 : Int)) = false := by simp; omega
         have h6n : ((u6 : Int) != (q6 : Int)) = true := by simp; omega
         have HT2 : Hid (false = T) := by
          show _ = _
          rw [← HSM.out, HSE.out, sameL_len (by have := HLA.out; omega)]; simp
         clear h6
         go_wp2
         go_ret
         have hT := HT2.out
         subst hT
         exact ⟨rfl, BWA.out⟩
end Go.Proofs.YtkbhmghdonomnaaGreatDoor
