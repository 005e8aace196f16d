/-
  The type of an expression whose nodes have at most three parts each, over columns (package kind's typeOf).
-/
import Derived.Test.YticdcnbeemkapaaGreatDoorGrAj
namespace Go.Proofs.YticdcnbeemkapaaGreatDoor
open Go.RowKit Go.BigFrame
set_option linter.unusedVariables false

theorem info_int : (Tryz.prog.info? 3).map (fun i => (i.zero, i.size, i.bytes)) = some (some (.int .i64 0), 1, 8) := by kernel_rfl
theorem tysP_step {zs : List (ByteArray × Int)} {l : List Ex} {k : Nat} (h : k < l.length) : tysP zs (l.drop k) = if (tyP zs l[k]).2.1 ≠ 0 then ([], (tyP zs l[k]).2) else if (tysP zs (l.drop (k + 1))).2.1 ≠ 0 then ([], (tysP zs (l.drop (k + 1))).2) else ((tyP zs l[k]).1 :: (tysP zs (l.drop (k + 1))).1, 0, 0) := by
  rw [List.drop_eq_getElem_cons h, tysP]
/-- What comes of types that are there, and of the parts that are left. -/
def tyGo (zs : List (ByteArray × Int)) (acc : List Int) (l : List Ex) : List Int × Int × Int := if (tysP zs l).2.1 ≠ 0 then ([], (tysP zs l).2) else (acc ++ (tysP zs l).1, 0, 0)
theorem tysP_zero (zs : List (ByteArray × Int)) : ∀ l : List Ex, (tysP zs l).2.1 = 0 → (tysP zs l).2 = (0, 0)
  | [], _ => by rw [tysP]
  | x :: xs, h => by
    rw [tysP] at h ⊢
    split
    · rename_i h1; rw [if_pos h1] at h; exact absurd h h1
    · rename_i h1
      rw [if_neg h1] at h
      split
      · rename_i h2; rw [if_pos h2] at h; exact absurd h h2
      · rfl
theorem tyGo_start (zs : List (ByteArray × Int)) (l : List Ex) : tyGo zs [] (l.drop 0) = tysP zs l := by
  rw [List.drop_zero, tyGo]
  split
  · rename_i h
    cases l with
    | nil => rw [tysP] at h; exact absurd rfl h
    | cons x xs =>
      rw [tysP] at h ⊢
      split at h
      · rename_i h1; rw [if_pos h1]
      · rename_i h1
        rw [if_neg h1]
        split at h
        · rename_i h2; rw [if_pos h2]
        · exact absurd rfl h
  · rename_i h
    have h0 : (tysP zs l).2.1 = 0 := by simpa using h
    rw [List.nil_append, ← tysP_zero zs l h0]
theorem tyGo_bad {zs : List (ByteArray × Int)} {acc : List Int} {l : List Ex} {k : Nat} (h : k < l.length) (hb : (tyP zs l[k]).2.1 ≠ 0) : tyGo zs acc (l.drop k) = ([], (tyP zs l[k]).2) := by
  rw [tyGo, tysP_step h, if_pos hb, if_pos hb]
theorem tyGo_ok {zs : List (ByteArray × Int)} {acc : List Int} {l : List Ex} {k : Nat} (h : k < l.length) (hb : (tyP zs l[k]).2.1 = 0) : tyGo zs acc (l.drop k) = tyGo zs (acc ++ [(tyP zs l[k]).1]) (l.drop (k + 1)) := by
  have hs := tysP_step (zs := zs) h
  rw [if_neg (fun hh => hh hb)] at hs
  rw [tyGo, hs, tyGo]
  by_cases h2 : (tysP zs (l.drop (k + 1))).2.1 = 0
  · simp [h2]
  · simp [h2]
theorem tyGo_end {zs : List (ByteArray × Int)} {acc : List Int} {l : List Ex} {k : Nat} (h : l.length ≤ k) : tyGo zs acc (l.drop k) = (acc, 0, 0) := by
  rw [List.drop_eq_nil_of_le h, tyGo, tysP]; simp
theorem tyP_op {zs : List (ByteArray × Int)} {op nm vs : ByteArray} {vt vn pos : Int} {l : List Ex} (h1 : op.data.toList ≠ [118, 97, 108]) (h2 : op.data.toList ≠ [99, 111, 108]) : tyP zs (.node op nm vt vn vs pos l) = if (tysP zs l).2.1 ≠ 0 then (0, (tysP zs l).2) else if (ruleP op.data.toList (tysP zs l).1).2 ≠ 0 then (0, (ruleP op.data.toList (tysP zs l).1).2, pos) else ((ruleP op.data.toList (tysP zs l).1).1, 0, 0) := by
  rw [tyP, if_neg h1, if_neg h2]
theorem pres_mem {d : Nat} {y : Ex} : ∀ {l : List Ex}, y ∈ l → ∀ q ∈ y.pre d, q ∈ Ex.pres d l
  | [], h, _, _ => absurd h (by simp)
  | x :: xs, h, q, hq => by
    rw [Ex.pres]
    rcases List.mem_cons.1 h with rfl | h
    · exact List.mem_append.2 (.inl hq)
    · exact List.mem_append.2 (.inr (pres_mem h q hq))
theorem ownInts {W : World} {B : Nat} {q : Option Addr} {c n : Nat} {ts : List Int} (hn : ts.length = n) (h : W.ownsRow B 3 1 (.slice q n c) n (ts.map fun t => .int .i64 t)) : IntsAt W q ts := by
  by_cases h0 : ts.length = 0
  · exact .inl h0
  · refine .inr ?_
    rcases h.2 with ⟨e1, _⟩ | ⟨g, cap, cur, e1, hb, hg, hm, hx, hs, ht⟩
    · injection e1 with e1 e2; omega
    · injection e1 with e1 e2 e3
      subst e1
      refine ⟨g, 0, rfl, (Array.getElem?_eq_some_iff.1 hg).1, fun j hj => ?_⟩
      have h1 := h.cells (g := g) rfl j (.int .i64 ts[j]) (by rw [List.getElem?_map, List.getElem?_eq_getElem hj]; rfl)
      rw [Go.WideShapes.add_plain] at h1
      simpa using h1
theorem res2 {W : World} {b : Nat} {x0 x1 : Value} (c0 : W.cell? ⟨b, 0, none⟩ = some x0) (c1 : W.cell? ⟨b, 1, none⟩ = some x1) (hl : b < W.heap.size) (v0 v1 : Value) (o : Obj) : (((W.setCell ⟨b, 0, none⟩ v0).setCell ⟨b, 1, none⟩ v1).alloc o).cell? ⟨b, 0, none⟩ = some v0 ∧ (((W.setCell ⟨b, 0, none⟩ v0).setCell ⟨b, 1, none⟩ v1).alloc o).cell? ⟨b, 1, none⟩ = some v1 := by
  rw [World.cell?_alloc_lt _ _ ⟨b, 0, none⟩ (by simpa [World.setCell] using hl), World.cell?_alloc_lt _ _ ⟨b, 1, none⟩ (by simpa [World.setCell] using hl)]
  constructor <;> simp [World.cell?_setCell_other, World.cell?_setCell_same, c0, c1]
set_option maxHeartbeats 8000000 in
set_option maxRecDepth 20000 in
theorem typeOf_any (zs : List (ByteArray × Int)) (b off c : Nat) (hn : zs.length ≤ 6) : ∀ (x : Ex) (d : Nat) (lo : Nat → Prop) (v : Value) (w : World) (T H P : Int), (∀ q ∈ x.pre d, q.1.args.length ≤ 3) → KEnv w → ExIn w lo v x → ColsIn w b off zs → tyP zs x = (T, H, P) →
    Calls Tryz.prog 13 #[v, .slice (some ⟨b, off, none⟩) zs.length c] w fun e w' => e = .returned (.tuple #[.int .i64 T, .agg #[.int .i64 H, .int .i64 P]]) ∧ Below w.heap.size w w' := by
  refine Ex.ind fun op nm vt vn vs pos l ih d lo v w T H P hpre henv hx hc hR => ?_
  obtain ⟨i0, hi, hz0, hz1, hzz⟩ := info_parts info_int
  have hxx := hx
  rw [ExIn] at hx
  obtain ⟨p, ca, rfl, ⟨hm, hmc⟩, ho, hnm, hvs, hparts⟩ := hx
  have hl3 : l.length ≤ 3 := by
    have h := hpre (.node op nm vt vn vs pos l, d) (by rw [Ex.pre]; exact List.mem_cons_self ..)
    exact h
  have hpre2 : Hid (∀ y ∈ l, ∀ q ∈ y.pre (d + 1), q.1.args.length ≤ 3) := fun y hy q hq => hpre q (by rw [Ex.pre]; exact List.mem_cons_of_mem _ (pres_mem hy q hq))
  have b1 : Below w.heap.size w ((w.alloc (.cells #[.string op, .string nm, .int .i64 vt, .int .i64 vn, .string vs, .slice p l.length ca, .int .i64 pos] 26)).alloc (.cells #[.int .i64 0, .int .i64 0] 46)) := ((Below.refl _ w).alloc (Nat.le_refl _) _).alloc (by simp) _
  have HEN : Aside (KEnv w) := henv
  have HCO : Aside (ColsIn w b off zs) := hc
  by_cases h1 : op.data.toList = [118, 97, 108]
  · rw [tyP, if_pos h1] at hR
    simp only [Prod.mk.injEq] at hR
    obtain ⟨rfl, rfl, rfl⟩ := hR
    have q1 : (op.toList == [118, 97, 108]) = true := by rw [Lib.toList_data]; simpa using h1
    clear h1 hpre hpre2 ih henv hc hxx hparts HEN HCO
    go_enter Tryz.func13, Tryz.ntmps13
    go_wp2
    refine bodyPost_ret (v := .tuple #[.int .i64 vt, .agg #[.int .i64 0, .int .i64 0]]) (by simp [results, Tryz.results13, go_sem]) rfl ⟨rfl, b1⟩
  · have q1 : (op.toList == [118, 97, 108]) = false := by rw [Lib.toList_data]; simpa using h1
    by_cases h2 : op.data.toList = [99, 111, 108]
    · rw [tyP, if_neg h1, if_pos h2] at hR
      have q2 : (op.toList == [99, 111, 108]) = true := by rw [Lib.toList_data]; simpa using h2
      have cT := typeOfColumn_any _ lo _ b off c zs _ (henv.on b1) (hxx.on b1) hn (hc.on b1) T H P hR
      clear h1 h2 hpre hpre2 ih henv hc hxx hparts HEN HCO hR
      go_enter Tryz.func13, Tryz.ntmps13
      go_wp2_with fail
      refine cT.mono ?_
      rintro e w1 ⟨rfl, b2⟩
      have hz := b2.size
      simp at hz
      have f0 : w1.cell? ⟨w.heap.size + 1, 0, none⟩ = some (.int .i64 0) := by rw [b2.cell (p := ⟨w.heap.size + 1, 0, none⟩) (by simp), World.cell?_alloc_at _ _ _ _ (by simp)]; rfl
      have f1 : w1.cell? ⟨w.heap.size + 1, 1, none⟩ = some (.int .i64 0) := by rw [b2.cell (p := ⟨w.heap.size + 1, 1, none⟩) (by simp), World.cell?_alloc_at _ _ _ _ (by simp)]; rfl
      have ff : ∀ o, w1.frozen? ⟨w.heap.size + 1, o, none⟩ = false := fun o => by rw [b2.frozen (p := ⟨w.heap.size + 1, o, none⟩) (by simp), World.frozen?_alloc_at _ _ _ _ (by simp)]
      have hl1 : w.heap.size + 1 < w1.heap.size := by omega
      have b3 : Below w.heap.size w w1 := b1.trans (b2.mono b1.size)
      clear cT b1 b2 hz
      go_wp2
      refine bodyPost_ret (v := .tuple #[.int .i64 T, .agg #[.int .i64 H, .int .i64 P]]) (by simp [results, Tryz.results13, go_sem, World.cell?_setCell_other, World.cell?_setCell_same, f0, f1]) rfl ⟨rfl, ?_⟩
      exact (b3.setCell (p := ⟨w.heap.size + 1, 0, none⟩) (Nat.le_succ _) _).setCell (p := ⟨w.heap.size + 1, 1, none⟩) (Nat.le_succ _) _
    · have q2 : (op.toList == [99, 111, 108]) = false := by rw [Lib.toList_data]; simpa using h2
      rw [tyP_op h1 h2] at hR
      have HR : Hid ((if (tysP zs l).2.1 ≠ 0 then (0, (tysP zs l).2) else if (ruleP op.data.toList (tysP zs l).1).2 ≠ 0 then (0, (ruleP op.data.toList (tysP zs l).1).2, pos) else ((ruleP op.data.toList (tysP zs l).1).1, 0, 0)) = (T, H, P)) := hR
      have HI : Aside (∀ y ∈ l, ∀ (d : Nat) (lo : Nat → Prop) (v : Value) (w : World) (T H P : Int), (∀ q ∈ y.pre d, q.1.args.length ≤ 3) → KEnv w → ExIn w lo v y → ColsIn w b off zs → tyP zs y = (T, H, P) → Calls Tryz.prog 13 #[v, .slice (some ⟨b, off, none⟩) zs.length c] w fun e w' => e = .returned (.tuple #[.int .i64 T, .agg #[.int .i64 H, .int .i64 P]]) ∧ Below w.heap.size w w') := ih
      have HPA : Aside (l.length = 0 ∨ ∃ b off, p = some ⟨b, off, none⟩ ∧ b < w.heap.size ∧ lo b ∧ ExsIn w lo b off l) := hparts
      have box : Hid (∀ wr, Below (w.heap.size + 2) ((w.alloc (.cells #[.string op, .string nm, .int .i64 vt, .int .i64 vn, .string vs, .slice p l.length ca, .int .i64 pos] 26)).alloc (.cells #[.int .i64 0, .int .i64 0] 46)) wr → (wr.cell? ⟨w.heap.size, 0, none⟩ = some (.string op) ∧ wr.cell? ⟨w.heap.size, 6, none⟩ = some (.int .i64 pos)) ∧ (wr.cell? ⟨w.heap.size + 1, 0, none⟩ = some (.int .i64 0) ∧ wr.cell? ⟨w.heap.size + 1, 1, none⟩ = some (.int .i64 0) ∧ ∀ o, wr.frozen? ⟨w.heap.size + 1, o, none⟩ = false) ∧ w.heap.size + 2 ≤ wr.heap.size ∧ Below w.heap.size w wr) := fun wr hb => by
        have hz := hb.size
        simp at hz
        refine ⟨⟨?_, ?_⟩, ⟨?_, ?_, fun o => ?_⟩, by omega, b1.trans (hb.mono (by omega))⟩
        · rw [hb.cell (p := ⟨w.heap.size, 0, none⟩) (by simp), World.cell?_alloc_lt _ _ _ (by simp), World.cell?_alloc_at _ _ _ _ rfl]; rfl
        · rw [hb.cell (p := ⟨w.heap.size, 6, none⟩) (by simp), World.cell?_alloc_lt _ _ _ (by simp), World.cell?_alloc_at _ _ _ _ rfl]; rfl
        · rw [hb.cell (p := ⟨w.heap.size + 1, 0, none⟩) (by simp), World.cell?_alloc_at _ _ _ _ (by simp)]; rfl
        · rw [hb.cell (p := ⟨w.heap.size + 1, 1, none⟩) (by simp), World.cell?_alloc_at _ _ _ _ (by simp)]; rfl
        · rw [hb.frozen (p := ⟨w.heap.size + 1, o, none⟩) (by simp), World.frozen?_alloc_at _ _ _ _ (by simp)]
      have hlz : (l.length : Int) ≤ 3 := by omega
      clear h1 h2 hpre ih henv hc hxx hparts hR
      go_enter Tryz.func13, Tryz.ntmps13
      go_wp2
      go_loopg [6, 8, 9, 10, 31] l.length (fun gg s6 _ _ _ s31 wr => ∃ (kk : Nat) (acc : List Int) (q : Option Addr) (cp : Nat), kk ≤ l.length ∧ l.length - kk ≤ gg ∧ s31 = .int .i64 kk ∧ s6 = .slice q kk cp ∧ Aside (wr.ownsRow (w.heap.size + 2) 3 1 (.slice q kk cp) kk (acc.map fun t => .int .i64 t)) ∧ Aside (Below (w.heap.size + 2) ((w.alloc (.cells #[.string op, .string nm, .int .i64 vt, .int .i64 vn, .string vs, .slice p l.length ca, .int .i64 pos] 26)).alloc (.cells #[.int .i64 0, .int .i64 0] 46)) wr) ∧ Hid (tyGo zs acc (l.drop kk) = tysP zs l ∧ acc.length = kk))
      case atStart => exact ⟨0, [], none, 0, Nat.zero_le _, by omega, rfl, rfl, (show Aside _ from ⟨rfl, .inl ⟨rfl, rfl⟩⟩), (show Aside _ from Below.refl _ _), (show Hid _ from ⟨tyGo_start zs l, rfl⟩)⟩
      case round =>
        obtain ⟨kk, acc, q, cp, hkk, hg, rfl, rfl, OW, BW, HG⟩ := hrel
        obtain ⟨⟨k0, k6⟩, ⟨f0, f1, ff⟩, hsz, bwr⟩ := box.out wr BW.out
        have hl0 : w.heap.size < wr.heap.size := by omega
        have hl1 : w.heap.size + 1 < wr.heap.size := by omega
        by_cases hlt : kk < l.length
        · have hltz : (kk : Int) < (l.length : Int) := by omega
          have h0z : (0 : Int) ≤ (kk : Int) := by omega
          rcases HPA.out with h | ⟨ba, oa, rfl, hbl, hlo, hE⟩
          · exact absurd h (by omega)
          obtain ⟨v0, v1, v2, v3, v4, v5, v6, e0, e1, e2, e3, e4, e5, e6, hy⟩ := exsIn_at w lo ba l oa hE kk hlt
          obtain ⟨u0, u1, u2, u3, u4, u5, u6, u7, u8, huu⟩ := hy.agg
          injection huu with huu
          simp only [Array.mk.injEq, List.cons.injEq, and_true] at huu
          obtain ⟨rfl, rfl, rfl, rfl, rfl, rfl, rfl⟩ := huu
          have kA : ∀ o, wr.cell? ⟨ba, o, none⟩ = w.cell? ⟨ba, o, none⟩ := fun o => bwr.cell (p := ⟨ba, o, none⟩) hbl
          rw [← kA] at e0 e1 e2 e3 e4 e5 e6
          have hblr : ba < wr.heap.size := by have := bwr.size; omega
          have b3 : Below w.heap.size w (wr.alloc (.cells #[.string u0, .string u1, .int .i64 u2, .int .i64 u3, .string u4, .slice u5 u6 u7, .int .i64 u8] 26)) := bwr.alloc bwr.size _
          obtain ⟨t, h, pp, hty⟩ : ∃ t h pp, tyP zs l[kk] = (t, h, pp) := ⟨_, _, _, rfl⟩
          have cY := HI.out _ (List.getElem_mem hlt) (d + 1) lo _ (wr.alloc (.cells #[.string u0, .string u1, .int .i64 u2, .int .i64 u3, .string u4, .slice u5 u6 u7, .int .i64 u8] 26)) t h pp (hpre2.out _ (List.getElem_mem hlt)) (HEN.out.on b3) (hy.on b3) (HCO.out.on b3) hty
          have HTY : Hid (tyP zs l[kk] = (t, h, pp)) := hty
          have HKL : Hid (kk < l.length) := hlt
          clear hE kA hy hty
          by_cases hh : h = 0
          · subst hh
            have hhb : ((0 : Int) != 0) = false := rfl
            have HG2 : Hid (tyGo zs (acc ++ [t]) (l.drop (kk + 1)) = tysP zs l ∧ (acc ++ [t]).length = kk + 1) := by
              refine ⟨?_, by simp [HG.out.2]⟩
              have h := tyGo_ok (zs := zs) (acc := acc) HKL.out (by rw [HTY.out])
              rw [HTY.out] at h
              rw [← h]; exact HG.out.1
            clear HG HTY
            go_wp2_with fail
            refine cY.mono ?_
            rintro e w4 ⟨rfl, b4⟩
            have hz4 : wr.heap.size + 1 ≤ w4.heap.size := by have := b4.size; simpa using this
            have b5 : Below (w.heap.size + 2) wr w4 := ((Below.refl _ wr).alloc (by omega) _).trans (b4.mono (by simp; omega))
            have OW4 := own_but (OW.out.alloc (.cells #[.string u0, .string u1, .int .i64 u2, .int .i64 u3, .string u4, .slice u5 u6 u7, .int .i64 u8] 26)) (But.of_below' (r := 0) b4 (Nat.zero_le _)) (by omega)
            have OW5 := OW4.alloc (.cells #[.int .i64 0, .int .i64 pp] 46)
            have BW5 : Aside (Below (w.heap.size + 2) ((w.alloc (.cells #[.string op, .string nm, .int .i64 vt, .int .i64 vn, .string vs, .slice (some ⟨ba, oa, none⟩) l.length ca, .int .i64 pos] 26)).alloc (.cells #[.int .i64 0, .int .i64 0] 46)) (w4.alloc (.cells #[.int .i64 0, .int .i64 pp] 46))) := (BW.out.trans b5).alloc (by omega) _
            clear cY b4 b3 e0 e1 e2 e3 e4 e5 e6 OW OW4 b5
            go_wp2_with (at_builtin; refine wpList_append_own _ rfl _ _ 77 rfl (w.heap.size + 2) 3 i0 (.int .i64 0) 1 8 Tryz.underlying77 hi hz0 hz1 hzz rfl (by decide) _ _ _ rfl (OW5.alloc _) ⟨w4.heap.size + 1, 0, none⟩ 1 1 [.int .i64 t] rfl rfl ?c1 ?c2 ?c3 ?c4 ?c5 ?_)
            case c1 =>
              intro i u hu
              rw [Go.WideShapes.add_plain, World.cell?_alloc_at _ _ _ _ (by simp)]
              simpa using hu
            case c2 =>
              intro u hu
              simp at hu
              subst hu; rfl
            case c3 => simp [maxLen]; omega
            case c4 => omega
            case c5 => simp; omega
            · intro v' w5 hown' hgrow _
              have hlo3 : ∀ j, (Value.slice q kk cp).ownBlock = some j → w.heap.size + 2 ≤ j := fun j hj => (OW5.lt j hj).1
              have bg : Below (w.heap.size + 2) (w4.alloc (.cells #[.int .i64 0, .int .i64 pp] 46)) w5 := ((Below.refl _ _).alloc (by simp; omega) _).grown hgrow (by simp; omega) hlo3
              have BW6 : Aside (Below (w.heap.size + 2) ((w.alloc (.cells #[.string op, .string nm, .int .i64 vt, .int .i64 vn, .string vs, .slice (some ⟨ba, oa, none⟩) l.length ca, .int .i64 pos] 26)).alloc (.cells #[.int .i64 0, .int .i64 0] 46)) w5) := BW5.out.trans bg
              obtain ⟨q5, c5, rfl⟩ := lown_slice hown'
              have ow6 : w5.ownsRow (w.heap.size + 2) 3 1 (.slice q5 (kk + 1) c5) (kk + 1) ((acc ++ [t]).map fun t => .int .i64 t) := by rw [List.map_append]; exact hown'
              clear hown' hgrow OW5 bg BW5 HI
              go_wp2
              go_roundg (l.length - (kk + 1))
              case measure => have := HKL.out; omega
              case rel => exact ⟨kk + 1, acc ++ [t], q5, c5, by have := HKL.out; omega, by omega, by go_num, rfl, (show Aside _ from ow6), BW6, HG2⟩
          · have hhb : (h != 0) = true := by simpa using hh
            have hfin : (0, h, pp) = (T, H, P) := by
              rw [← HR.out, ← HG.out.1, tyGo_bad HKL.out (by rw [HTY.out]; exact hh), HTY.out, if_pos hh]
            simp only [Prod.mk.injEq] at hfin
            obtain ⟨rfl, rfl, rfl⟩ := hfin
            clear HR HG HI hh
            go_wp2_with fail
            refine cY.mono ?_
            rintro e w4 ⟨rfl, b4⟩
            have g0 : w4.cell? ⟨w.heap.size + 1, 0, none⟩ = some (.int .i64 0) := by rw [b4.cell (p := ⟨w.heap.size + 1, 0, none⟩) (by simp; omega), World.cell?_alloc_lt _ _ _ hl1]; exact f0
            have g1 : w4.cell? ⟨w.heap.size + 1, 1, none⟩ = some (.int .i64 0) := by rw [b4.cell (p := ⟨w.heap.size + 1, 1, none⟩) (by simp; omega), World.cell?_alloc_lt _ _ _ hl1]; exact f1
            have gf : ∀ o, w4.frozen? ⟨w.heap.size + 1, o, none⟩ = false := fun o => by rw [b4.frozen (p := ⟨w.heap.size + 1, o, none⟩) (by simp; omega), World.frozen?_alloc_past _ _ _ hl1]; exact ff o
            have hl4 : w.heap.size + 1 < w4.heap.size := by have := b4.size; simp at this; omega
            have b5 : Below w.heap.size w w4 := b3.trans (b4.mono b3.size)
            clear cY b4 b3 e0 e1 e2 e3 e4 e5 e6
            go_wp2
            go_region
            all_goals
              go_wp2
              refine bodyPost_ret (v := .tuple #[.int .i64 0, .agg #[.int .i64 h, .int .i64 pp]]) (by simp [results, Tryz.results13, go_sem, (res2 g0 g1 hl4 (.int .i64 h) (.int .i64 pp) (.cells #[.int .i64 h, .int .i64 pp] 46)).1, (res2 g0 g1 hl4 (.int .i64 h) (.int .i64 pp) (.cells #[.int .i64 h, .int .i64 pp] 46)).2]) rfl ⟨rfl, ?_⟩
              exact Below.drew (((b5.setCell (p := ⟨w.heap.size + 1, 0, none⟩) (Nat.le_succ _) _).setCell (p := ⟨w.heap.size + 1, 1, none⟩) (Nat.le_succ _) _).alloc (by simp [World.setCell]; have := b5.size; omega) _)
        · have hltz : ¬ (kk : Int) < (l.length : Int) := by omega
          have hts : tysP zs l = (acc, 0, 0) := by rw [← HG.out.1, tyGo_end (by omega)]
          obtain ⟨RT, RE, hrr⟩ : ∃ RT RE, ruleP op.data.toList acc = (RT, RE) := ⟨_, _, rfl⟩
          have hfin := HR.out
          rw [hts] at hfin
          simp only at hfin
          rw [if_neg (by simp), hrr] at hfin
          simp only at hfin
          have cR := rule_any op q cp kk acc wr (HEN.out.on bwr).rules HG.out.2 (by omega) (ownInts HG.out.2 OW.out) RT RE hrr
          by_cases hE : RE = 0
          · subst hE
            rw [if_neg (by simp)] at hfin
            simp only [Prod.mk.injEq] at hfin
            obtain ⟨rfl, rfl, rfl⟩ := hfin
            rw [show errV 0 = .nilIface from rfl] at cR
            clear hts hrr HR HG HI OW BW box HPA hpre2 HEN HCO
            go_wp2_with fail
            refine cR.mono ?_
            rintro e w4 ⟨rfl, b4⟩
            have g0 : w4.cell? ⟨w.heap.size + 1, 0, none⟩ = some (.int .i64 0) := by rw [b4.cell (p := ⟨w.heap.size + 1, 0, none⟩) hl1]; exact f0
            have g1 : w4.cell? ⟨w.heap.size + 1, 1, none⟩ = some (.int .i64 0) := by rw [b4.cell (p := ⟨w.heap.size + 1, 1, none⟩) hl1]; exact f1
            have gf : ∀ o, w4.frozen? ⟨w.heap.size + 1, o, none⟩ = false := fun o => by rw [b4.frozen (p := ⟨w.heap.size + 1, o, none⟩) hl1]; exact ff o
            have hl4 : w.heap.size + 1 < w4.heap.size := by have := b4.size; omega
            have b5 : Below w.heap.size w w4 := bwr.trans (b4.mono bwr.size)
            clear cR b4
            go_wp2
            refine bodyPost_ret (v := .tuple #[.int .i64 RT, .agg #[.int .i64 0, .int .i64 0]]) (by simp [results, Tryz.results13, go_sem, World.cell?_setCell_other, World.cell?_setCell_same, g0, g1]) rfl ⟨rfl, ?_⟩
            exact (b5.setCell (p := ⟨w.heap.size + 1, 0, none⟩) (Nat.le_succ _) _).setCell (p := ⟨w.heap.size + 1, 1, none⟩) (Nat.le_succ _) _
          · rw [if_pos hE] at hfin
            simp only [Prod.mk.injEq] at hfin
            obtain ⟨rfl, rfl, rfl⟩ := hfin
            have hU : errV RE = .iface 42 (.int .i64 RE) := if_neg hE
            rw [hU] at cR
            have cP := fun W (hb : Below w.heap.size w W) => faultOf_any RE pos W (HEN.out.on hb)
            clear hts hrr HR HG HI OW BW box HPA hpre2 HEN HCO hU hE
            go_wp2_with fail
            refine cR.mono ?_
            rintro e w4 ⟨rfl, b4⟩
            have b5 : Below w.heap.size w w4 := bwr.trans (b4.mono bwr.size)
            have j6 : w4.cell? ⟨w.heap.size, 6, none⟩ = some (.int .i64 pos) := by rw [b4.cell (p := ⟨w.heap.size, 6, none⟩) hl0]; exact k6
            have hl40 : w.heap.size < w4.heap.size := by have := b4.size; omega
            go_wp2_with fail
            refine (cP _ b5).mono ?_
            rintro e w5 ⟨rfl, b6⟩
            have hl4 : w.heap.size + 1 < w4.heap.size := by have := b4.size; omega
            have g0 : w5.cell? ⟨w.heap.size + 1, 0, none⟩ = some (.int .i64 0) := by rw [b6.cell (p := ⟨w.heap.size + 1, 0, none⟩) hl4, b4.cell (p := ⟨w.heap.size + 1, 0, none⟩) hl1]; exact f0
            have g1 : w5.cell? ⟨w.heap.size + 1, 1, none⟩ = some (.int .i64 0) := by rw [b6.cell (p := ⟨w.heap.size + 1, 1, none⟩) hl4, b4.cell (p := ⟨w.heap.size + 1, 1, none⟩) hl1]; exact f1
            have gf : ∀ o, w5.frozen? ⟨w.heap.size + 1, o, none⟩ = false := fun o => by rw [b6.frozen (p := ⟨w.heap.size + 1, o, none⟩) hl4, b4.frozen (p := ⟨w.heap.size + 1, o, none⟩) hl1]; exact ff o
            have hl5 : w.heap.size + 1 < w5.heap.size := by have := b6.size; omega
            have b7 : Below w.heap.size w w5 := b5.trans (b6.mono b5.size)
            clear cR cP b4 b6
            go_wp2
            refine bodyPost_ret (v := .tuple #[.int .i64 0, .agg #[.int .i64 RE, .int .i64 pos]]) (by simp [results, Tryz.results13, go_sem, World.cell?_setCell_other, World.cell?_setCell_same, g0, g1]) rfl ⟨rfl, ?_⟩
            exact (b7.setCell (p := ⟨w.heap.size + 1, 0, none⟩) (Nat.le_succ _) _).setCell (p := ⟨w.heap.size + 1, 1, none⟩) (Nat.le_succ _) _
end Go.Proofs.YticdcnbeemkapaaGreatDoor
