/-
  KdCol, KdTy, KdOf, KdOfB, KdPf, in one text.
-/
import Derived.Test.YtpgadbpkednjkaaGreatDoorLo4
import Derived.Test.YtpgadbpkednjkaaGreatDoorLo6
namespace Go.Proofs.YtpgadbpkednjkaaGreatDoor
open Go.RowKit Go.BigFrame
set_option linter.unusedVariables false

set_option maxHeartbeats 4000000 in
set_option maxRecDepth 20000 in
theorem typeOfColumn_any (x : Ex) (lo : Nat → Prop) (v : Value) (b off c : Nat) (zs : List (ByteArray × Int)) (w : World) (henv : KEnv w) (hx : ExIn w lo v x) (hn : zs.length ≤ 6) (hc : ColsIn w b off zs) (T H P : Int) (hR : (if findN x.nm.data.toList zs = -1 then (0, 5, x.pos) else ((zs[(findN x.nm.data.toList zs).toNat]?.getD default).2, 0, 0)) = (T, H, P)) :
    Calls Tryz.prog 137 #[v, .slice (some ⟨b, off, none⟩) zs.length c] w fun e w' => e = .returned (.tuple #[.int .i64 T, .agg #[.int .i64 H, .int .i64 P]]) ∧ Below w.heap.size w w' := by
  obtain ⟨p, c1, rfl, _, _, _, _⟩ := hx.whole
  have b1 : Below w.heap.size w ((w.alloc (.cells #[.string x.op, .string x.nm, .int .i64 x.vt, .int .i64 x.vn, .string x.vs, .slice p x.args.length c1, .int .i64 x.pos] 26)).alloc (.cells #[.int .i64 0, .int .i64 0] 31)) := ((Below.refl _ w).alloc (Nat.le_refl _) _).alloc (by simp) _
  have key : ∀ w1, Below ((w.alloc (.cells #[.string x.op, .string x.nm, .int .i64 x.vt, .int .i64 x.vn, .string x.vs, .slice p x.args.length c1, .int .i64 x.pos] 26)).alloc (.cells #[.int .i64 0, .int .i64 0] 31)).heap.size ((w.alloc (.cells #[.string x.op, .string x.nm, .int .i64 x.vt, .int .i64 x.vn, .string x.vs, .slice p x.args.length c1, .int .i64 x.pos] 26)).alloc (.cells #[.int .i64 0, .int .i64 0] 31)) w1 → w1.cell? ⟨w.heap.size, 6, none⟩ = some (.int .i64 x.pos) ∧ w1.cell? ⟨w.heap.size + 1, 0, none⟩ = some (.int .i64 0) ∧ w1.cell? ⟨w.heap.size + 1, 1, none⟩ = some (.int .i64 0) ∧ (∀ o, w1.frozen? ⟨w.heap.size + 1, o, none⟩ = false) ∧ w.heap.size + 1 < w1.heap.size := fun w1 b2 => by
    have hz := b2.size
    simp at hz
    refine ⟨?_, ?_, ?_, fun o => ?_, by omega⟩
    · rw [b2.cell (p := ⟨w.heap.size, 6, none⟩) (by simp; omega), World.cell?_alloc_lt _ _ _ (by simp), World.cell?_alloc_at _ _ _ _ rfl]; rfl
    · rw [b2.cell (p := ⟨w.heap.size + 1, 0, none⟩) (by simp), World.cell?_alloc_at _ _ _ _ (by simp)]; rfl
    · rw [b2.cell (p := ⟨w.heap.size + 1, 1, none⟩) (by simp), World.cell?_alloc_at _ _ _ _ (by simp)]; rfl
    · rw [b2.frozen (p := ⟨w.heap.size + 1, o, none⟩) (by simp), World.frozen?_alloc_at _ _ _ _ (by simp)]
  have HE : Aside (KEnv w) := henv
  have HCc : Aside (ColsIn w b off zs) := hc
  by_cases h1 : findN x.nm.data.toList zs = -1
  · rw [if_pos h1] at hR
    simp only [Prod.mk.injEq] at hR
    obtain ⟨rfl, rfl, rfl⟩ := hR
    have cF := find_none x.nm b off c zs _ (by omega) (hc.on b1) h1
    clear h1 hx henv hc
    generalize x.op = OP at *
    generalize x.nm = NM at *
    generalize x.vs = VS at *
    generalize x.vt = VT at *
    generalize x.vn = VN at *
    generalize x.pos = PS at *
    generalize x.args.length = M at *
    go_enter Tryz.func137, Tryz.ntmps137
    go_wp2_with fail
    refine cF.mono ?_
    rintro e w1 ⟨rfl, b2⟩
    obtain ⟨k6, f0, f1, ff, hl⟩ := key w1 b2
    have b3 : Below w.heap.size w w1 := b1.trans (b2.mono b1.size)
    have cP := faultOf_any 5 PS w1 (HE.out.on b3)
    have hl0 : w.heap.size < w1.heap.size := by omega
    clear key cF b1 HE HCc
    go_wp2_with fail
    refine cP.mono ?_
    rintro e w2 ⟨rfl, b4⟩
    have g0 : w2.cell? ⟨w.heap.size + 1, 0, none⟩ = some (.int .i64 0) := by rw [b4.cell (p := ⟨w.heap.size + 1, 0, none⟩) hl]; exact f0
    have g1 : w2.cell? ⟨w.heap.size + 1, 1, none⟩ = some (.int .i64 0) := by rw [b4.cell (p := ⟨w.heap.size + 1, 1, none⟩) hl]; exact f1
    have gf : ∀ o, w2.frozen? ⟨w.heap.size + 1, o, none⟩ = false := fun o => by rw [b4.frozen (p := ⟨w.heap.size + 1, o, none⟩) hl]; exact ff o
    have hl2 : w.heap.size + 1 < w2.heap.size := by have := b4.size; omega
    have b5 : Below w.heap.size w w2 := b3.trans (b4.mono b3.size)
    clear cP b2 b3 b4
    go_wp2
    refine bodyPost_ret (v := .tuple #[.int .i64 0, .agg #[.int .i64 5, .int .i64 PS]]) (by simp [results, Tryz.results137, go_sem, World.cell?_setCell_other, World.cell?_setCell_same, g0, g1]) rfl ⟨rfl, ?_⟩
    exact (b5.setCell (p := ⟨w.heap.size + 1, 0, none⟩) (Nat.le_succ _) _).setCell (p := ⟨w.heap.size + 1, 1, none⟩) (Nat.le_succ _) _
  · rw [if_neg h1] at hR
    simp only [Prod.mk.injEq] at hR
    obtain ⟨hT, rfl, rfl⟩ := hR
    rcases findN_cases x.nm.data.toList zs with ⟨h, _⟩ | ⟨k, hk, hkl, _⟩
    · exact absurd h h1
    have HTk : Hid (zs[k].2 = T) := by
      show _ = _
      rw [← hT, hk]
      simp [hkl]
    have cF := find_any x.nm b off c zs _ (by omega) (hc.on b1) k hk
    clear h1 hx henv hT hk
    generalize x.op = OP at *
    generalize x.nm = NM at *
    generalize x.vs = VS at *
    generalize x.vt = VT at *
    generalize x.vn = VN at *
    generalize x.pos = PS at *
    generalize x.args.length = M at *
    have hk0 : (0 : Int) ≤ (k : Int) := by omega
    have hkz : (k : Int) < (zs.length : Int) := by omega
    go_enter Tryz.func137, Tryz.ntmps137
    go_wp2_with fail
    refine cF.mono ?_
    rintro e w1 ⟨rfl, b2⟩
    obtain ⟨k6, f0, f1, ff, hl⟩ := key w1 b2
    have b3 : Below w.heap.size w w1 := b1.trans (b2.mono b1.size)
    obtain ⟨hbl, hcc⟩ := HCc.out.on b3
    have ct := (hcc k hkl).2
    rw [HTk.out] at ct
    clear key cF b1 HE HCc hcc HTk hc
    go_wp2
    refine bodyPost_ret (v := .tuple #[.int .i64 T, .agg #[.int .i64 0, .int .i64 0]]) (by simp [results, Tryz.results137, go_sem, World.cell?_setCell_other, World.cell?_setCell_same, f0, f1]) rfl ⟨rfl, ?_⟩
    exact (b3.setCell (p := ⟨w.heap.size + 1, 0, none⟩) (Nat.le_succ _) _).setCell (p := ⟨w.heap.size + 1, 1, none⟩) (Nat.le_succ _) _
end Go.Proofs.YtpgadbpkednjkaaGreatDoor
namespace Go.Proofs.YtpgadbpkednjkaaGreatDoor
open Go.RowKit Go.BigFrame
set_option linter.unusedVariables false

theorem info_int : (Tryz.prog.info? 3).map (fun i => (i.zero, i.size, i.bytes)) = some (some (.int .i64 0), 1, 8) := by kernel_rfl
theorem tysP_step {zs : List (ByteArray × Int)} {l : List Ex} {k : Nat} (h : k < l.length) : tysP zs (l.drop k) = if (tyP zs l[k]).2.1 ≠ 0 then ([], (tyP zs l[k]).2) else if (tysP zs (l.drop (k + 1))).2.1 ≠ 0 then ([], (tysP zs (l.drop (k + 1))).2) else ((tyP zs l[k]).1 :: (tysP zs (l.drop (k + 1))).1, 0, 0) := by
  rw [List.drop_eq_getElem_cons h, tysP]
/-- What comes of types that are there, and of the parts that are left. -/
def tyGo (zs : List (ByteArray × Int)) (acc : List Int) (l : List Ex) : List Int × Int × Int := if (tysP zs l).2.1 ≠ 0 then ([], (tysP zs l).2) else (acc ++ (tysP zs l).1, 0, 0)
theorem tysP_zero (zs : List (ByteArray × Int)) : ∀ l : List Ex, (tysP zs l).2.1 = 0 → (tysP zs l).2 = (0, 0)
  | [], _ => by rw [tysP]
  | x :: xs, h => by
    rw [tysP] at h ⊢
    split
    · rename_i h1; rw [if_pos h1] at h; exact absurd h h1
    · rename_i h1
      rw [if_neg h1] at h
      split
      · rename_i h2; rw [if_pos h2] at h; exact absurd h h2
      · rfl
theorem tyGo_start (zs : List (ByteArray × Int)) (l : List Ex) : tyGo zs [] (l.drop 0) = tysP zs l := by
  rw [List.drop_zero, tyGo]
  split
  · rename_i h
    cases l with
    | nil => rw [tysP] at h; exact absurd rfl h
    | cons x xs =>
      rw [tysP] at h ⊢
      split at h
      · rename_i h1; rw [if_pos h1]
      · rename_i h1
        rw [if_neg h1]
        split at h
        · rename_i h2; rw [if_pos h2]
        · exact absurd rfl h
  · rename_i h
    have h0 : (tysP zs l).2.1 = 0 := by simpa using h
    rw [List.nil_append, ← tysP_zero zs l h0]
theorem tyGo_bad {zs : List (ByteArray × Int)} {acc : List Int} {l : List Ex} {k : Nat} (h : k < l.length) (hb : (tyP zs l[k]).2.1 ≠ 0) : tyGo zs acc (l.drop k) = ([], (tyP zs l[k]).2) := by
  rw [tyGo, tysP_step h, if_pos hb, if_pos hb]
theorem tyGo_ok {zs : List (ByteArray × Int)} {acc : List Int} {l : List Ex} {k : Nat} (h : k < l.length) (hb : (tyP zs l[k]).2.1 = 0) : tyGo zs acc (l.drop k) = tyGo zs (acc ++ [(tyP zs l[k]).1]) (l.drop (k + 1)) := by
  have hs := tysP_step (zs := zs) h
  rw [if_neg (fun hh => hh hb)] at hs
  rw [tyGo, hs, tyGo]
  by_cases h2 : (tysP zs (l.drop (k + 1))).2.1 = 0
  · simp [h2]
  · simp [h2]
theorem tyGo_end {zs : List (ByteArray × Int)} {acc : List Int} {l : List Ex} {k : Nat} (h : l.length ≤ k) : tyGo zs acc (l.drop k) = (acc, 0, 0) := by
  rw [List.drop_eq_nil_of_le h, tyGo, tysP]; simp
theorem tyP_op {zs : List (ByteArray × Int)} {op nm vs : ByteArray} {vt vn pos : Int} {l : List Ex} (h1 : op.data.toList ≠ [118, 97, 108]) (h2 : op.data.toList ≠ [99, 111, 108]) : tyP zs (.node op nm vt vn vs pos l) = if (tysP zs l).2.1 ≠ 0 then (0, (tysP zs l).2) else if (ruleP op.data.toList (tysP zs l).1).2 ≠ 0 then (0, (ruleP op.data.toList (tysP zs l).1).2, pos) else ((ruleP op.data.toList (tysP zs l).1).1, 0, 0) := by
  rw [tyP, if_neg h1, if_neg h2]
theorem pres_mem {d : Nat} {y : Ex} : ∀ {l : List Ex}, y ∈ l → ∀ q ∈ y.pre d, q ∈ Ex.pres d l
  | [], h, _, _ => absurd h (by simp)
  | x :: xs, h, q, hq => by
    rw [Ex.pres]
    rcases List.mem_cons.1 h with rfl | h
    · exact List.mem_append.2 (.inl hq)
    · exact List.mem_append.2 (.inr (pres_mem h q hq))
theorem ownInts {W : World} {B : Nat} {q : Option Addr} {c n : Nat} {ts : List Int} (hn : ts.length = n) (h : W.ownsRow B 3 1 (.slice q n c) n (ts.map fun t => .int .i64 t)) : IntsAt W q ts := by
  by_cases h0 : ts.length = 0
  · exact .inl h0
  · refine .inr ?_
    rcases h.2 with ⟨e1, _⟩ | ⟨g, cap, cur, e1, hb, hg, hm, hx, hs, ht⟩
    · injection e1 with e1 e2; omega
    · injection e1 with e1 e2 e3
      subst e1
      refine ⟨g, 0, rfl, (Array.getElem?_eq_some_iff.1 hg).1, fun j hj => ?_⟩
      have h1 := h.cells (g := g) rfl j (.int .i64 ts[j]) (by rw [List.getElem?_map, List.getElem?_eq_getElem hj]; rfl)
      rw [Go.WideShapes.add_plain] at h1
      simpa using h1
theorem res2 {W : World} {b : Nat} {x0 x1 : Value} (c0 : W.cell? ⟨b, 0, none⟩ = some x0) (c1 : W.cell? ⟨b, 1, none⟩ = some x1) (hl : b < W.heap.size) (v0 v1 : Value) (o : Obj) : (((W.setCell ⟨b, 0, none⟩ v0).setCell ⟨b, 1, none⟩ v1).alloc o).cell? ⟨b, 0, none⟩ = some v0 ∧ (((W.setCell ⟨b, 0, none⟩ v0).setCell ⟨b, 1, none⟩ v1).alloc o).cell? ⟨b, 1, none⟩ = some v1 := by
  rw [World.cell?_alloc_lt _ _ ⟨b, 0, none⟩ (by simpa [World.setCell] using hl), World.cell?_alloc_lt _ _ ⟨b, 1, none⟩ (by simpa [World.setCell] using hl)]
  constructor <;> simp [World.cell?_setCell_other, World.cell?_setCell_same, c0, c1]
set_option maxHeartbeats 8000000 in
set_option maxRecDepth 20000 in
theorem typeOf_any (zs : List (ByteArray × Int)) (b off c : Nat) (hn : zs.length ≤ 6) : ∀ (x : Ex) (d : Nat) (lo : Nat → Prop) (v : Value) (w : World) (T H P : Int), (∀ q ∈ x.pre d, q.1.args.length ≤ 3) → KEnv w → ExIn w lo v x → ColsIn w b off zs → tyP zs x = (T, H, P) →
    Calls Tryz.prog 101 #[v, .slice (some ⟨b, off, none⟩) zs.length c] w fun e w' => e = .returned (.tuple #[.int .i64 T, .agg #[.int .i64 H, .int .i64 P]]) ∧ Below w.heap.size w w' := by
  refine Ex.ind fun op nm vt vn vs pos l ih d lo v w T H P hpre henv hx hc hR => ?_
  obtain ⟨i0, hi, hz0, hz1, hzz⟩ := info_parts info_int
  have hxx := hx
  rw [ExIn] at hx
  obtain ⟨p, ca, rfl, ⟨hm, hmc⟩, ho, hnm, hvs, hparts⟩ := hx
  have hl3 : l.length ≤ 3 := by
    have h := hpre (.node op nm vt vn vs pos l, d) (by rw [Ex.pre]; exact List.mem_cons_self ..)
    exact h
  have hpre2 : Hid (∀ y ∈ l, ∀ q ∈ y.pre (d + 1), q.1.args.length ≤ 3) := fun y hy q hq => hpre q (by rw [Ex.pre]; exact List.mem_cons_of_mem _ (pres_mem hy q hq))
  have b1 : Below w.heap.size w ((w.alloc (.cells #[.string op, .string nm, .int .i64 vt, .int .i64 vn, .string vs, .slice p l.length ca, .int .i64 pos] 26)).alloc (.cells #[.int .i64 0, .int .i64 0] 31)) := ((Below.refl _ w).alloc (Nat.le_refl _) _).alloc (by simp) _
  have HEN : Aside (KEnv w) := henv
  have HCO : Aside (ColsIn w b off zs) := hc
  by_cases h1 : op.data.toList = [118, 97, 108]
  · rw [tyP, if_pos h1] at hR
    simp only [Prod.mk.injEq] at hR
    obtain ⟨rfl, rfl, rfl⟩ := hR
    have q1 : (op.toList == [118, 97, 108]) = true := by rw [Lib.toList_data]; simpa using h1
    clear h1 hpre hpre2 ih henv hc hxx hparts HEN HCO
    go_enter Tryz.func101, Tryz.ntmps101
    go_wp2
    refine bodyPost_ret (v := .tuple #[.int .i64 vt, .agg #[.int .i64 0, .int .i64 0]]) (by simp [results, Tryz.results101, go_sem]) rfl ⟨rfl, b1⟩
  · have q1 : (op.toList == [118, 97, 108]) = false := by rw [Lib.toList_data]; simpa using h1
    by_cases h2 : op.data.toList = [99, 111, 108]
    · rw [tyP, if_neg h1, if_pos h2] at hR
      have q2 : (op.toList == [99, 111, 108]) = true := by rw [Lib.toList_data]; simpa using h2
      have cT := typeOfColumn_any _ lo _ b off c zs _ (henv.on b1) (hxx.on b1) hn (hc.on b1) T H P hR
      clear h1 h2 hpre hpre2 ih henv hc hxx hparts HEN HCO hR
      go_enter Tryz.func101, Tryz.ntmps101
      go_wp2_with fail
      refine cT.mono ?_
      rintro e w1 ⟨rfl, b2⟩
      have hz := b2.size
      simp at hz
      have f0 : w1.cell? ⟨w.heap.size + 1, 0, none⟩ = some (.int .i64 0) := by rw [b2.cell (p := ⟨w.heap.size + 1, 0, none⟩) (by simp), World.cell?_alloc_at _ _ _ _ (by simp)]; rfl
      have f1 : w1.cell? ⟨w.heap.size + 1, 1, none⟩ = some (.int .i64 0) := by rw [b2.cell (p := ⟨w.heap.size + 1, 1, none⟩) (by simp), World.cell?_alloc_at _ _ _ _ (by simp)]; rfl
      have ff : ∀ o, w1.frozen? ⟨w.heap.size + 1, o, none⟩ = false := fun o => by rw [b2.frozen (p := ⟨w.heap.size + 1, o, none⟩) (by simp), World.frozen?_alloc_at _ _ _ _ (by simp)]
      have hl1 : w.heap.size + 1 < w1.heap.size := by omega
      have b3 : Below w.heap.size w w1 := b1.trans (b2.mono b1.size)
      clear cT b1 b2 hz
      go_wp2
      refine bodyPost_ret (v := .tuple #[.int .i64 T, .agg #[.int .i64 H, .int .i64 P]]) (by simp [results, Tryz.results101, go_sem, World.cell?_setCell_other, World.cell?_setCell_same, f0, f1]) rfl ⟨rfl, ?_⟩
      exact (b3.setCell (p := ⟨w.heap.size + 1, 0, none⟩) (Nat.le_succ _) _).setCell (p := ⟨w.heap.size + 1, 1, none⟩) (Nat.le_succ _) _
    · have q2 : (op.toList == [99, 111, 108]) = false := by rw [Lib.toList_data]; simpa using h2
      rw [tyP_op h1 h2] at hR
      have HR : Hid ((if (tysP zs l).2.1 ≠ 0 then (0, (tysP zs l).2) else if (ruleP op.data.toList (tysP zs l).1).2 ≠ 0 then (0, (ruleP op.data.toList (tysP zs l).1).2, pos) else ((ruleP op.data.toList (tysP zs l).1).1, 0, 0)) = (T, H, P)) := hR
      have HI : Aside (∀ y ∈ l, ∀ (d : Nat) (lo : Nat → Prop) (v : Value) (w : World) (T H P : Int), (∀ q ∈ y.pre d, q.1.args.length ≤ 3) → KEnv w → ExIn w lo v y → ColsIn w b off zs → tyP zs y = (T, H, P) → Calls Tryz.prog 101 #[v, .slice (some ⟨b, off, none⟩) zs.length c] w fun e w' => e = .returned (.tuple #[.int .i64 T, .agg #[.int .i64 H, .int .i64 P]]) ∧ Below w.heap.size w w') := ih
      have HPA : Aside (l.length = 0 ∨ ∃ b off, p = some ⟨b, off, none⟩ ∧ b < w.heap.size ∧ lo b ∧ ExsIn w lo b off l) := hparts
      have box : Hid (∀ wr, Below (w.heap.size + 2) ((w.alloc (.cells #[.string op, .string nm, .int .i64 vt, .int .i64 vn, .string vs, .slice p l.length ca, .int .i64 pos] 26)).alloc (.cells #[.int .i64 0, .int .i64 0] 31)) wr → (wr.cell? ⟨w.heap.size, 0, none⟩ = some (.string op) ∧ wr.cell? ⟨w.heap.size, 6, none⟩ = some (.int .i64 pos)) ∧ (wr.cell? ⟨w.heap.size + 1, 0, none⟩ = some (.int .i64 0) ∧ wr.cell? ⟨w.heap.size + 1, 1, none⟩ = some (.int .i64 0) ∧ ∀ o, wr.frozen? ⟨w.heap.size + 1, o, none⟩ = false) ∧ w.heap.size + 2 ≤ wr.heap.size ∧ Below w.heap.size w wr) := fun wr hb => by
        have hz := hb.size
        simp at hz
        refine ⟨⟨?_, ?_⟩, ⟨?_, ?_, fun o => ?_⟩, by omega, b1.trans (hb.mono (by omega))⟩
        · rw [hb.cell (p := ⟨w.heap.size, 0, none⟩) (by simp), World.cell?_alloc_lt _ _ _ (by simp), World.cell?_alloc_at _ _ _ _ rfl]; rfl
        · rw [hb.cell (p := ⟨w.heap.size, 6, none⟩) (by simp), World.cell?_alloc_lt _ _ _ (by simp), World.cell?_alloc_at _ _ _ _ rfl]; rfl
        · rw [hb.cell (p := ⟨w.heap.size + 1, 0, none⟩) (by simp), World.cell?_alloc_at _ _ _ _ (by simp)]; rfl
        · rw [hb.cell (p := ⟨w.heap.size + 1, 1, none⟩) (by simp), World.cell?_alloc_at _ _ _ _ (by simp)]; rfl
        · rw [hb.frozen (p := ⟨w.heap.size + 1, o, none⟩) (by simp), World.frozen?_alloc_at _ _ _ _ (by simp)]
      have hlz : (l.length : Int) ≤ 3 := by omega
      clear h1 h2 hpre ih henv hc hxx hparts hR
      go_enter Tryz.func101, Tryz.ntmps101
      go_wp2
      go_loopg [6, 8, 9, 10, 31] l.length (fun gg s6 _ _ _ s31 wr => ∃ (kk : Nat) (acc : List Int) (q : Option Addr) (cp : Nat), kk ≤ l.length ∧ l.length - kk ≤ gg ∧ s31 = .int .i64 kk ∧ s6 = .slice q kk cp ∧ Aside (wr.ownsRow (w.heap.size + 2) 3 1 (.slice q kk cp) kk (acc.map fun t => .int .i64 t)) ∧ Aside (Below (w.heap.size + 2) ((w.alloc (.cells #[.string op, .string nm, .int .i64 vt, .int .i64 vn, .string vs, .slice p l.length ca, .int .i64 pos] 26)).alloc (.cells #[.int .i64 0, .int .i64 0] 31)) wr) ∧ Hid (tyGo zs acc (l.drop kk) = tysP zs l ∧ acc.length = kk))
      case atStart => exact ⟨0, [], none, 0, Nat.zero_le _, by omega, rfl, rfl, (show Aside _ from ⟨rfl, .inl ⟨rfl, rfl⟩⟩), (show Aside _ from Below.refl _ _), (show Hid _ from ⟨tyGo_start zs l, rfl⟩)⟩
      case round =>
        obtain ⟨kk, acc, q, cp, hkk, hg, rfl, rfl, OW, BW, HG⟩ := hrel
        obtain ⟨⟨k0, k6⟩, ⟨f0, f1, ff⟩, hsz, bwr⟩ := box.out wr BW.out
        have hl0 : w.heap.size < wr.heap.size := by omega
        have hl1 : w.heap.size + 1 < wr.heap.size := by omega
        by_cases hlt : kk < l.length
        · have hltz : (kk : Int) < (l.length : Int) := by omega
          have h0z : (0 : Int) ≤ (kk : Int) := by omega
          rcases HPA.out with h | ⟨ba, oa, rfl, hbl, hlo, hE⟩
          · exact absurd h (by omega)
          obtain ⟨v0, v1, v2, v3, v4, v5, v6, e0, e1, e2, e3, e4, e5, e6, hy⟩ := exsIn_at w lo ba l oa hE kk hlt
          obtain ⟨u0, u1, u2, u3, u4, u5, u6, u7, u8, huu⟩ := hy.agg
          injection huu with huu
          simp only [Array.mk.injEq, List.cons.injEq, and_true] at huu
          obtain ⟨rfl, rfl, rfl, rfl, rfl, rfl, rfl⟩ := huu
          have kA : ∀ o, wr.cell? ⟨ba, o, none⟩ = w.cell? ⟨ba, o, none⟩ := fun o => bwr.cell (p := ⟨ba, o, none⟩) hbl
          rw [← kA] at e0 e1 e2 e3 e4 e5 e6
          have hblr : ba < wr.heap.size := by have := bwr.size; omega
          have b3 : Below w.heap.size w (wr.alloc (.cells #[.string u0, .string u1, .int .i64 u2, .int .i64 u3, .string u4, .slice u5 u6 u7, .int .i64 u8] 26)) := bwr.alloc bwr.size _
          obtain ⟨t, h, pp, hty⟩ : ∃ t h pp, tyP zs l[kk] = (t, h, pp) := ⟨_, _, _, rfl⟩
          have cY := HI.out _ (List.getElem_mem hlt) (d + 1) lo _ (wr.alloc (.cells #[.string u0, .string u1, .int .i64 u2, .int .i64 u3, .string u4, .slice u5 u6 u7, .int .i64 u8] 26)) t h pp (hpre2.out _ (List.getElem_mem hlt)) (HEN.out.on b3) (hy.on b3) (HCO.out.on b3) hty
          have HTY : Hid (tyP zs l[kk] = (t, h, pp)) := hty
          have HKL : Hid (kk < l.length) := hlt
          clear hE kA hy hty
          by_cases hh : h = 0
          · subst hh
            have hhb : ((0 : Int) != 0) = false := rfl
            have HG2 : Hid (tyGo zs (acc ++ [t]) (l.drop (kk + 1)) = tysP zs l ∧ (acc ++ [t]).length = kk + 1) := by
              refine ⟨?_, by simp [HG.out.2]⟩
              have h := tyGo_ok (zs := zs) (acc := acc) HKL.out (by rw [HTY.out])
              rw [HTY.out] at h
              rw [← h]; exact HG.out.1
            clear HG HTY
            go_wp2_with fail
            refine cY.mono ?_
            rintro e w4 ⟨rfl, b4⟩
            have hz4 : wr.heap.size + 1 ≤ w4.heap.size := by have := b4.size; simpa using this
            have b5 : Below (w.heap.size + 2) wr w4 := ((Below.refl _ wr).alloc (by omega) _).trans (b4.mono (by simp; omega))
            have OW4 := own_but (OW.out.alloc (.cells #[.string u0, .string u1, .int .i64 u2, .int .i64 u3, .string u4, .slice u5 u6 u7, .int .i64 u8] 26)) (But.of_below' (r := 0) b4 (Nat.zero_le _)) (by omega)
            have OW5 := OW4.alloc (.cells #[.int .i64 0, .int .i64 pp] 31)
            have BW5 : Aside (Below (w.heap.size + 2) ((w.alloc (.cells #[.string op, .string nm, .int .i64 vt, .int .i64 vn, .string vs, .slice (some ⟨ba, oa, none⟩) l.length ca, .int .i64 pos] 26)).alloc (.cells #[.int .i64 0, .int .i64 0] 31)) (w4.alloc (.cells #[.int .i64 0, .int .i64 pp] 31))) := (BW.out.trans b5).alloc (by omega) _
            clear cY b4 b3 e0 e1 e2 e3 e4 e5 e6 OW OW4 b5
            go_wp2_with (at_builtin; refine wpList_append_own _ rfl _ _ 48 rfl (w.heap.size + 2) 3 i0 (.int .i64 0) 1 8 Tryz.underlying48 hi hz0 hz1 hzz rfl (by decide) _ _ _ rfl (OW5.alloc _) ⟨w4.heap.size + 1, 0, none⟩ 1 1 [.int .i64 t] rfl rfl ?c1 ?c2 ?c3 ?c4 ?c5 ?_)
            case c1 =>
              intro i u hu
              rw [Go.WideShapes.add_plain, World.cell?_alloc_at _ _ _ _ (by simp)]
              simpa using hu
            case c2 =>
              intro u hu
              simp at hu
              subst hu; rfl
            case c3 => simp [maxLen]; omega
            case c4 => omega
            case c5 => simp; omega
            · intro v' w5 hown' hgrow _
              have hlo3 : ∀ j, (Value.slice q kk cp).ownBlock = some j → w.heap.size + 2 ≤ j := fun j hj => (OW5.lt j hj).1
              have bg : Below (w.heap.size + 2) (w4.alloc (.cells #[.int .i64 0, .int .i64 pp] 31)) w5 := ((Below.refl _ _).alloc (by simp; omega) _).grown hgrow (by simp; omega) hlo3
              have BW6 : Aside (Below (w.heap.size + 2) ((w.alloc (.cells #[.string op, .string nm, .int .i64 vt, .int .i64 vn, .string vs, .slice (some ⟨ba, oa, none⟩) l.length ca, .int .i64 pos] 26)).alloc (.cells #[.int .i64 0, .int .i64 0] 31)) w5) := BW5.out.trans bg
              obtain ⟨q5, c5, rfl⟩ := lown_slice hown'
              have ow6 : w5.ownsRow (w.heap.size + 2) 3 1 (.slice q5 (kk + 1) c5) (kk + 1) ((acc ++ [t]).map fun t => .int .i64 t) := by rw [List.map_append]; exact hown'
              clear hown' hgrow OW5 bg BW5 HI
              go_wp2
              go_roundg (l.length - (kk + 1))
              case measure => have := HKL.out; omega
              case rel => exact ⟨kk + 1, acc ++ [t], q5, c5, by have := HKL.out; omega, by omega, by go_num, rfl, (show Aside _ from ow6), BW6, HG2⟩
          · have hhb : (h != 0) = true := by simpa using hh
            have hfin : (0, h, pp) = (T, H, P) := by
              rw [← HR.out, ← HG.out.1, tyGo_bad HKL.out (by rw [HTY.out]; exact hh), HTY.out, if_pos hh]
            simp only [Prod.mk.injEq] at hfin
            obtain ⟨rfl, rfl, rfl⟩ := hfin
            clear HR HG HI hh
            go_wp2_with fail
            refine cY.mono ?_
            rintro e w4 ⟨rfl, b4⟩
            have g0 : w4.cell? ⟨w.heap.size + 1, 0, none⟩ = some (.int .i64 0) := by rw [b4.cell (p := ⟨w.heap.size + 1, 0, none⟩) (by simp; omega), World.cell?_alloc_lt _ _ _ hl1]; exact f0
            have g1 : w4.cell? ⟨w.heap.size + 1, 1, none⟩ = some (.int .i64 0) := by rw [b4.cell (p := ⟨w.heap.size + 1, 1, none⟩) (by simp; omega), World.cell?_alloc_lt _ _ _ hl1]; exact f1
            have gf : ∀ o, w4.frozen? ⟨w.heap.size + 1, o, none⟩ = false := fun o => by rw [b4.frozen (p := ⟨w.heap.size + 1, o, none⟩) (by simp; omega), World.frozen?_alloc_past _ _ _ hl1]; exact ff o
            have hl4 : w.heap.size + 1 < w4.heap.size := by have := b4.size; simp at this; omega
            have b5 : Below w.heap.size w w4 := b3.trans (b4.mono b3.size)
            clear cY b4 b3 e0 e1 e2 e3 e4 e5 e6
            go_wp2
            go_region
            all_goals
              go_wp2
              refine bodyPost_ret (v := .tuple #[.int .i64 0, .agg #[.int .i64 h, .int .i64 pp]]) (by simp [results, Tryz.results101, go_sem, (res2 g0 g1 hl4 (.int .i64 h) (.int .i64 pp) (.cells #[.int .i64 h, .int .i64 pp] 31)).1, (res2 g0 g1 hl4 (.int .i64 h) (.int .i64 pp) (.cells #[.int .i64 h, .int .i64 pp] 31)).2]) rfl ⟨rfl, ?_⟩
              exact Below.drew (((b5.setCell (p := ⟨w.heap.size + 1, 0, none⟩) (Nat.le_succ _) _).setCell (p := ⟨w.heap.size + 1, 1, none⟩) (Nat.le_succ _) _).alloc (by simp [World.setCell]; have := b5.size; omega) _)
        · have hltz : ¬ (kk : Int) < (l.length : Int) := by omega
          have hts : tysP zs l = (acc, 0, 0) := by rw [← HG.out.1, tyGo_end (by omega)]
          obtain ⟨RT, RE, hrr⟩ : ∃ RT RE, ruleP op.data.toList acc = (RT, RE) := ⟨_, _, rfl⟩
          have hfin := HR.out
          rw [hts] at hfin
          simp only at hfin
          rw [if_neg (by simp), hrr] at hfin
          simp only at hfin
          have cR := rule_any op q cp kk acc wr (HEN.out.on bwr).rules HG.out.2 (by omega) (ownInts HG.out.2 OW.out) RT RE hrr
          by_cases hE : RE = 0
          · subst hE
            rw [if_neg (by simp)] at hfin
            simp only [Prod.mk.injEq] at hfin
            obtain ⟨rfl, rfl, rfl⟩ := hfin
            rw [show errV 0 = .nilIface from rfl] at cR
            clear hts hrr HR HG HI OW BW box HPA hpre2 HEN HCO
            go_wp2_with fail
            refine cR.mono ?_
            rintro e w4 ⟨rfl, b4⟩
            have g0 : w4.cell? ⟨w.heap.size + 1, 0, none⟩ = some (.int .i64 0) := by rw [b4.cell (p := ⟨w.heap.size + 1, 0, none⟩) hl1]; exact f0
            have g1 : w4.cell? ⟨w.heap.size + 1, 1, none⟩ = some (.int .i64 0) := by rw [b4.cell (p := ⟨w.heap.size + 1, 1, none⟩) hl1]; exact f1
            have gf : ∀ o, w4.frozen? ⟨w.heap.size + 1, o, none⟩ = false := fun o => by rw [b4.frozen (p := ⟨w.heap.size + 1, o, none⟩) hl1]; exact ff o
            have hl4 : w.heap.size + 1 < w4.heap.size := by have := b4.size; omega
            have b5 : Below w.heap.size w w4 := bwr.trans (b4.mono bwr.size)
            clear cR b4
            go_wp2
            refine bodyPost_ret (v := .tuple #[.int .i64 RT, .agg #[.int .i64 0, .int .i64 0]]) (by simp [results, Tryz.results101, go_sem, World.cell?_setCell_other, World.cell?_setCell_same, g0, g1]) rfl ⟨rfl, ?_⟩
            exact (b5.setCell (p := ⟨w.heap.size + 1, 0, none⟩) (Nat.le_succ _) _).setCell (p := ⟨w.heap.size + 1, 1, none⟩) (Nat.le_succ _) _
          · rw [if_pos hE] at hfin
            simp only [Prod.mk.injEq] at hfin
            obtain ⟨rfl, rfl, rfl⟩ := hfin
            have hU : errV RE = .iface 29 (.int .i64 RE) := if_neg hE
            rw [hU] at cR
            have cP := fun W (hb : Below w.heap.size w W) => faultOf_any RE pos W (HEN.out.on hb)
            clear hts hrr HR HG HI OW BW box HPA hpre2 HEN HCO hU hE
            go_wp2_with fail
            refine cR.mono ?_
            rintro e w4 ⟨rfl, b4⟩
            have b5 : Below w.heap.size w w4 := bwr.trans (b4.mono bwr.size)
            have j6 : w4.cell? ⟨w.heap.size, 6, none⟩ = some (.int .i64 pos) := by rw [b4.cell (p := ⟨w.heap.size, 6, none⟩) hl0]; exact k6
            have hl40 : w.heap.size < w4.heap.size := by have := b4.size; omega
            go_wp2_with fail
            refine (cP _ b5).mono ?_
            rintro e w5 ⟨rfl, b6⟩
            have hl4 : w.heap.size + 1 < w4.heap.size := by have := b4.size; omega
            have g0 : w5.cell? ⟨w.heap.size + 1, 0, none⟩ = some (.int .i64 0) := by rw [b6.cell (p := ⟨w.heap.size + 1, 0, none⟩) hl4, b4.cell (p := ⟨w.heap.size + 1, 0, none⟩) hl1]; exact f0
            have g1 : w5.cell? ⟨w.heap.size + 1, 1, none⟩ = some (.int .i64 0) := by rw [b6.cell (p := ⟨w.heap.size + 1, 1, none⟩) hl4, b4.cell (p := ⟨w.heap.size + 1, 1, none⟩) hl1]; exact f1
            have gf : ∀ o, w5.frozen? ⟨w.heap.size + 1, o, none⟩ = false := fun o => by rw [b6.frozen (p := ⟨w.heap.size + 1, o, none⟩) hl4, b4.frozen (p := ⟨w.heap.size + 1, o, none⟩) hl1]; exact ff o
            have hl5 : w.heap.size + 1 < w5.heap.size := by have := b6.size; omega
            have b7 : Below w.heap.size w w5 := b5.trans (b6.mono b5.size)
            clear cR cP b4 b6
            go_wp2
            refine bodyPost_ret (v := .tuple #[.int .i64 0, .agg #[.int .i64 RE, .int .i64 pos]]) (by simp [results, Tryz.results101, go_sem, World.cell?_setCell_other, World.cell?_setCell_same, g0, g1]) rfl ⟨rfl, ?_⟩
            exact (b7.setCell (p := ⟨w.heap.size + 1, 0, none⟩) (Nat.le_succ _) _).setCell (p := ⟨w.heap.size + 1, 1, none⟩) (Nat.le_succ _) _
end Go.Proofs.YtpgadbpkednjkaaGreatDoor
namespace Go.Proofs.YtpgadbpkednjkaaGreatDoor
open Go.RowKit Go.BigFrame
set_option linter.unusedVariables false

theorem fold_ck : ∀ (l : List (Ex × Nat)) (s : Int), s = 0 → (foldP fck s l).1 = 0 → ∀ q ∈ l, nodeE q.1 = 0
  | [], _, _, _, q, hq => absurd hq (by simp)
  | p :: r, s, hs, h, q, hq => by
    rw [foldP] at h
    by_cases h0 : nodeE p.1 = 0
    · have h1 : (fck s p.1 p.2).2 = true := by rw [fck]; simpa using h0
      rw [if_pos h1] at h
      rcases List.mem_cons.1 hq with rfl | hq
      · exact h0
      · exact fold_ck r _ (by rw [fck]; exact h0) h q hq
    · have h1 : ¬ (fck s p.1 p.2).2 = true := by rw [fck]; simpa using h0
      rw [if_neg h1] at h
      exact absurd h h0
theorem fold_ck' : ∀ (l : List (Ex × Nat)) (s : Int), s = 0 → (∀ q ∈ l, nodeE q.1 = 0) → (foldP fck s l).1 = 0
  | [], s, hs, _ => hs
  | p :: r, s, hs, h => by
    have h0 := h p (List.mem_cons_self ..)
    have h1 : (fck s p.1 p.2).2 = true := by rw [fck]; simpa using h0
    rw [foldP, if_pos h1]
    exact fold_ck' r _ (by rw [fck]; exact h0) fun q hq => h q (List.mem_cons_of_mem _ hq)
theorem fold_tg : ∀ (l : List (Ex × Nat)) (s : Nat), (foldP ftg s l).2 = true ↔ (l = [] ∨ s + l.length ≤ 200) ∧ ∀ q ∈ l, q.2 ≤ 30
  | [], s => by simp [foldP]
  | p :: r, s => by
    rw [foldP]
    by_cases h : (ftg s p.1 p.2).2 = true
    · rw [if_pos h, fold_tg r]
      rw [ftg] at h ⊢
      simp at h ⊢
      constructor
      · rintro ⟨h1, h2⟩
        refine ⟨?_, h.2, h2⟩
        rcases h1 with rfl | h1
        · simp; omega
        · omega
      · rintro ⟨h1, h2, h3⟩
        exact ⟨.inr (by omega), h3⟩
    · rw [if_neg h]
      rw [ftg] at h
      simp at h ⊢
      intro h1 h2
      have := h (by omega)
      omega
theorem pre_shift : ∀ (x : Ex) (d : Nat), x.pre (d + 1) = (x.pre d).map fun q => (q.1, q.2 + 1) := by
  refine Ex.ind fun op nm vt vn vs pos l ih d => ?_
  rw [Ex.pre, Ex.pre, List.map_cons]
  congr 1
  induction l with
  | nil => rfl
  | cons y ys ihl =>
    rw [Ex.pres, Ex.pres, List.map_append, ih y (List.mem_cons_self ..) (d + 1), ihl fun z hz => ih z (List.mem_cons_of_mem _ hz)]
theorem pres_len {d : Nat} {y : Ex} : ∀ {l : List Ex}, y ∈ l → (y.pre d).length ≤ (Ex.pres d l).length
  | [], h => absurd h (by simp)
  | x :: xs, h => by
    rw [Ex.pres, List.length_append]
    rcases List.mem_cons.1 h with rfl | h
    · omega
    · have := pres_len (d := d) h; omega
theorem ckP_zero {x : Ex} (h : ckP x = 0) : tgB x = false ∧ ∀ q ∈ x.pre 1, nodeE q.1 = 0 := by
  rw [ckP] at h
  cases ht : tgB x
  · rw [ht, if_neg (by simp)] at h
    exact ⟨rfl, fold_ck _ 0 rfl h⟩
  · rw [ht, if_pos rfl] at h
    exact absurd h (by decide)
/-- A part of what is right is right. -/
theorem ckP_part {x y : Ex} (h : ckP x = 0) (hy : y ∈ x.args) : ckP y = 0 := by
  obtain ⟨h1, h2⟩ := ckP_zero h
  have hsub : ∀ q ∈ y.pre 2, q ∈ x.pre 1 := fun q hq => by rw [pre_eq]; exact List.mem_cons_of_mem _ (pres_mem hy q hq)
  have hlen : (y.pre 2).length ≤ (x.pre 1).length := by rw [pre_eq 1 x, List.length_cons]; have h := pres_len (d := 1 + 1) hy; exact Nat.le_succ_of_le h
  have hs := pre_shift y 1
  have hin : ∀ q ∈ y.pre 1, ((q.1, q.2 + 1) : Ex × Nat) ∈ x.pre 1 := fun q hq => hsub _ (by rw [hs]; exact List.mem_map.2 ⟨q, hq, rfl⟩)
  have ht : (foldP ftg 0 (x.pre 1)).2 = true := by rw [tgB] at h1; simpa using h1
  obtain ⟨g1, g2⟩ := (fold_tg _ 0).1 ht
  have hty : tgB y = false := by
    rw [tgB, (fold_tg (y.pre 1) 0).2 ⟨?_, fun q hq => by have := g2 _ (hin q hq); simp at this; omega⟩]
    · rfl
    · right
      have e1 : (y.pre 1).length = (y.pre 2).length := by rw [hs]; simp
      rcases g1 with g1 | g1
      · rw [pre_eq] at g1; simp at g1
      · omega
  rw [ckP, hty, if_neg (by simp)]
  exact fold_ck' (y.pre 1) 0 rfl (fun q hq => h2 (q.1, q.2 + 1) (hin q hq))
theorem apL_le (x : List UInt8) : (apL x opsL).2 = true → (apL x opsL).1 ≤ 3 ∧ 0 ≤ (apL x opsL).1 := by
  have h : ∀ l : List (List UInt8 × Int), (∀ o ∈ l, o.2 ≤ 3 ∧ 0 ≤ o.2) → (apL x l).2 = true → (apL x l).1 ≤ 3 ∧ 0 ≤ (apL x l).1 := fun l => by
    induction l with
    | nil => intro _ h; simp [apL] at h
    | cons o os ih =>
      intro ho
      rw [apL]
      split
      · exact fun _ => ho o (List.mem_cons_self ..)
      · exact ih fun q hq => ho q (List.mem_cons_of_mem _ hq)
  exact h opsL (by decide)
theorem node_ok {x : Ex} (h : nodeE x = 0) : (apL x.op.data.toList opsL).2 = true ∧ (x.args.length : Int) = (apL x.op.data.toList opsL).1 ∧ ((x.op.toList == [118, 97, 108]) = true → ckV x.vt x.vn x.vs.data.toList = 0) := by
  rw [nodeE, nodeB] at h
  split at h
  · exact absurd h (by decide)
  · rename_i h1
    split at h
    · exact absurd h (by decide)
    · rename_i h2
      simp at h1 h2
      refine ⟨h1.1, ?_, fun hv => ?_⟩
      · have := h2.1
        simpa using this
      · rwa [if_pos hv] at h
theorem ck_small {x : Ex} (h : ckP x = 0) : ∀ q ∈ x.pre 1, q.1.args.length ≤ 3 := fun q hq => by
  obtain ⟨h1, h2, _⟩ := node_ok ((ckP_zero h).2 q hq)
  have := apL_le _ h1
  omega
end Go.Proofs.YtpgadbpkednjkaaGreatDoor
namespace Go.Proofs.YtpgadbpkednjkaaGreatDoor
open Go.RowKit Go.BigFrame
set_option linter.unusedVariables false

/-- A slice of columns. -/
def ColsV (w : World) (v : Value) (zs : List (ByteArray × Int)) : Prop := ∃ q c, v = .slice q zs.length c ∧ (zs.length = 0 ∨ ∃ b off, q = some ⟨b, off, none⟩ ∧ zs.length ≤ c ∧ (∀ z ∈ zs, z.1.size ≤ maxLen) ∧ ColsIn w b off zs)
theorem ColsV.on {w w' : World} {v : Value} {zs : List (ByteArray × Int)} (h : ColsV w v zs) (hb : Below w.heap.size w w') : ColsV w' v zs := by
  obtain ⟨q, c, e, h⟩ := h
  refine ⟨q, c, e, ?_⟩
  rcases h with h | ⟨b, off, e2, h1, h2, h3⟩
  · exact .inl h
  · exact .inr ⟨b, off, e2, h1, h2, h3.on hb⟩
theorem schemaV (v : Value) (zs : List (ByteArray × Int)) (w : World) (hw : TW w) (h : ColsV w v zs) : Calls Tryz.prog 100 #[v] w fun e w' => e = .returned (errV (schE zs)) ∧ Below w.heap.size w w' := by
  obtain ⟨q, c, rfl, h⟩ := h
  rcases h with h | ⟨b, off, rfl, h1, h2, h3⟩
  · rw [h, schE, if_pos h]
    exact (schema_none q c w).mono fun e w' hh => ⟨hh.1, by rw [hh.2]; exact Below.refl _ _⟩
  · exact schema_any b off c zs w hw h1 h2 h3
/-- What Of says. -/
def ofP (zs : List (ByteArray × Int)) (x : Ex) : Int × Int × Int := if ckP x ≠ 0 then (0, ckP x, 0) else if schE zs ≠ 0 then (0, schE zs, 0) else tyP zs x
set_option maxHeartbeats 4000000 in
set_option maxRecDepth 20000 in
theorem of_any (x : Ex) (lo : Nat → Prop) (v vl : Value) (zs : List (ByteArray × Int)) (w : World) (henv : KEnv w) (hx : ExIn w lo v x) (hsz : (x.pre 1).length ≤ 1048576) (hcv : ColsV w vl zs) (T H P : Int) (hR : ofP zs x = (T, H, P)) :
    Calls Tryz.prog 54 #[v, vl] w fun e w' => e = .returned (.tuple #[.int .i64 T, .agg #[.int .i64 H, .int .i64 P]]) ∧ Below w.heap.size w w' := by
  obtain ⟨o1, n1, t1, k1, s1, p1, m1, c1, a1, rfl⟩ := hx.agg
  obtain ⟨q, c, hvl, hcols⟩ := id hcv
  have b1 : Below w.heap.size w ((w.alloc (.cells #[.string o1, .string n1, .int .i64 t1, .int .i64 k1, .string s1, .slice p1 m1 c1, .int .i64 a1] 26)).alloc (.cells #[.int .i64 0, .int .i64 0] 31)) := ((Below.refl _ w).alloc (Nat.le_refl _) _).alloc (by simp) _
  have key : ∀ w1, Below ((w.alloc (.cells #[.string o1, .string n1, .int .i64 t1, .int .i64 k1, .string s1, .slice p1 m1 c1, .int .i64 a1] 26)).alloc (.cells #[.int .i64 0, .int .i64 0] 31)).heap.size ((w.alloc (.cells #[.string o1, .string n1, .int .i64 t1, .int .i64 k1, .string s1, .slice p1 m1 c1, .int .i64 a1] 26)).alloc (.cells #[.int .i64 0, .int .i64 0] 31)) w1 → (∀ i, w1.cell? ⟨w.heap.size, i, none⟩ = (#[.string o1, .string n1, .int .i64 t1, .int .i64 k1, .string s1, .slice p1 m1 c1, .int .i64 a1] : Array Value)[i]?) ∧ w1.cell? ⟨w.heap.size + 1, 0, none⟩ = some (.int .i64 0) ∧ w1.cell? ⟨w.heap.size + 1, 1, none⟩ = some (.int .i64 0) ∧ (∀ o, w1.frozen? ⟨w.heap.size + 1, o, none⟩ = false) ∧ w.heap.size + 1 < w1.heap.size := fun w1 b2 => by
    have hz := b2.size
    simp at hz
    refine ⟨fun i => ?_, ?_, ?_, fun o => ?_, by omega⟩
    · rw [b2.cell (p := ⟨w.heap.size, i, none⟩) (by simp; omega), World.cell?_alloc_lt _ _ _ (by simp), World.cell?_alloc_at _ _ _ _ rfl]
    · rw [b2.cell (p := ⟨w.heap.size + 1, 0, none⟩) (by simp), World.cell?_alloc_at _ _ _ _ (by simp)]; rfl
    · rw [b2.cell (p := ⟨w.heap.size + 1, 1, none⟩) (by simp), World.cell?_alloc_at _ _ _ _ (by simp)]; rfl
    · rw [b2.frozen (p := ⟨w.heap.size + 1, o, none⟩) (by simp), World.frozen?_alloc_at _ _ _ _ (by simp)]
  have cC := check_tree x lo _ _ (henv.on b1).tenv (hx.on b1) hsz
  have HEN : Aside (KEnv w) := henv
  rw [ofP] at hR
  by_cases hck : ckP x = 0
  · rw [if_neg (fun h => h hck)] at hR
    rw [hck, show errV 0 = .nilIface from rfl] at cC
    have cS := fun W (hb : Below w.heap.size w W) => schemaV vl zs W (henv.on hb).tw (hcv.on hb)
    by_cases hsc : schE zs = 0
    · rw [if_neg (fun h => h hsc)] at hR
      rw [hsc, show errV 0 = .nilIface from rfl] at cS
      obtain ⟨hz1, hz2, _⟩ := schE_zero hsc
      rcases hcols with h | ⟨b, off, rfl, _, _, hco⟩
      · exact absurd h hz1
      subst hvl
      have cT := fun W (hb : Below w.heap.size w W) => typeOf_any zs b off c hz2 x 1 lo _ W T H P (ck_small hck) (henv.on hb) (hx.on hb) (hco.on hb) hR
      clear hck hR hsc hz1 henv hx hcv hco hsz HEN
      go_enter Tryz.func54, Tryz.ntmps54
      go_wp2_with fail
      refine cC.mono ?_
      rintro e w1 ⟨rfl, b2⟩
      have b3 : Below w.heap.size w w1 := b1.trans (b2.mono b1.size)
      go_wp2_with fail
      refine (cS _ b3).mono ?_
      rintro e w2 ⟨rfl, b4⟩
      have b5 : Below w.heap.size w w2 := b3.trans (b4.mono b3.size)
      obtain ⟨gB, _, _, _, hlX⟩ := key w2 (b2.trans (b4.mono b2.size))
      have g0 : w2.cell? ⟨w.heap.size, 0, none⟩ = some (.string o1) := gB 0
      have g1 : w2.cell? ⟨w.heap.size, 1, none⟩ = some (.string n1) := gB 1
      have g2 : w2.cell? ⟨w.heap.size, 2, none⟩ = some (.int .i64 t1) := gB 2
      have g3 : w2.cell? ⟨w.heap.size, 3, none⟩ = some (.int .i64 k1) := gB 3
      have g4 : w2.cell? ⟨w.heap.size, 4, none⟩ = some (.string s1) := gB 4
      have g5 : w2.cell? ⟨w.heap.size, 5, none⟩ = some (.slice p1 m1 c1) := gB 5
      have g6 : w2.cell? ⟨w.heap.size, 6, none⟩ = some (.int .i64 a1) := gB 6
      have hl0 : w.heap.size < w2.heap.size := by omega
      clear gB
      go_wp2_with fail
      refine (cT _ b5).mono ?_
      rintro e w3 ⟨rfl, b6⟩
      obtain ⟨_, f0, f1, ff, hl⟩ := key w3 ((b2.trans (b4.mono b2.size)).trans (b6.mono (Nat.le_trans b2.size b4.size)))
      have b7 : Below w.heap.size w w3 := b5.trans (b6.mono b5.size)
      clear key cC cS cT b1 b2 b3 b4 b5 b6
      go_wp2
      refine bodyPost_ret (v := .tuple #[.int .i64 T, .agg #[.int .i64 H, .int .i64 P]]) (by simp [results, Tryz.results54, go_sem, World.cell?_setCell_other, World.cell?_setCell_same, f0, f1]) rfl ⟨rfl, ?_⟩
      exact (b7.setCell (p := ⟨w.heap.size + 1, 0, none⟩) (Nat.le_succ _) _).setCell (p := ⟨w.heap.size + 1, 1, none⟩) (Nat.le_succ _) _
    · rw [if_pos hsc] at hR
      simp only [Prod.mk.injEq] at hR
      obtain ⟨rfl, rfl, rfl⟩ := hR
      have hU : errV (schE zs) = .iface 29 (.int .i64 (schE zs)) := if_neg hsc
      rw [hU] at cS
      subst hvl
      clear hck hsc henv hx hcv hcols hsz hU
      generalize schE zs = SC at *
      go_enter Tryz.func54, Tryz.ntmps54
      go_wp2_with fail
      refine cC.mono ?_
      rintro e w1 ⟨rfl, b2⟩
      have b3 : Below w.heap.size w w1 := b1.trans (b2.mono b1.size)
      go_wp2_with fail
      refine (cS _ b3).mono ?_
      rintro e w2 ⟨rfl, b4⟩
      have b5 : Below w.heap.size w w2 := b3.trans (b4.mono b3.size)
      have cP := faultOf_any SC 0 w2 (HEN.out.on b5)
      go_wp2_with fail
      refine cP.mono ?_
      rintro e w3 ⟨rfl, b6⟩
      obtain ⟨_, f0, f1, ff, hl⟩ := key w3 ((b2.trans (b4.mono b2.size)).trans (b6.mono (Nat.le_trans b2.size b4.size)))
      have b7 : Below w.heap.size w w3 := b5.trans (b6.mono b5.size)
      clear key cC cS cP b1 b2 b3 b4 b5 b6
      go_wp2
      refine bodyPost_ret (v := .tuple #[.int .i64 0, .agg #[.int .i64 SC, .int .i64 0]]) (by simp [results, Tryz.results54, go_sem, World.cell?_setCell_other, World.cell?_setCell_same, f0, f1]) rfl ⟨rfl, ?_⟩
      exact (b7.setCell (p := ⟨w.heap.size + 1, 0, none⟩) (Nat.le_succ _) _).setCell (p := ⟨w.heap.size + 1, 1, none⟩) (Nat.le_succ _) _
  · rw [if_pos hck] at hR
    simp only [Prod.mk.injEq] at hR
    obtain ⟨rfl, rfl, rfl⟩ := hR
    have hU : errV (ckP x) = .iface 29 (.int .i64 (ckP x)) := if_neg hck
    rw [hU] at cC
    subst hvl
    clear hck henv hx hcv hcols hsz hU
    generalize ckP x = SC at *
    go_enter Tryz.func54, Tryz.ntmps54
    go_wp2_with fail
    refine cC.mono ?_
    rintro e w1 ⟨rfl, b2⟩
    have b3 : Below w.heap.size w w1 := b1.trans (b2.mono b1.size)
    have cP := faultOf_any SC 0 w1 (HEN.out.on b3)
    go_wp2_with fail
    refine cP.mono ?_
    rintro e w3 ⟨rfl, b6⟩
    obtain ⟨_, f0, f1, ff, hl⟩ := key w3 (b2.trans (b6.mono b2.size))
    have b7 : Below w.heap.size w w3 := b3.trans (b6.mono b3.size)
    clear key cC cP b1 b2 b3 b6
    go_wp2
    refine bodyPost_ret (v := .tuple #[.int .i64 0, .agg #[.int .i64 SC, .int .i64 0]]) (by simp [results, Tryz.results54, go_sem, World.cell?_setCell_other, World.cell?_setCell_same, f0, f1]) rfl ⟨rfl, ?_⟩
    exact (b7.setCell (p := ⟨w.heap.size + 1, 0, none⟩) (Nat.le_succ _) _).setCell (p := ⟨w.heap.size + 1, 1, none⟩) (Nat.le_succ _) _
end Go.Proofs.YtpgadbpkednjkaaGreatDoor
namespace Go.Proofs.YtpgadbpkednjkaaGreatDoor
open Go.RowKit Go.BigFrame
set_option linter.unusedVariables false

theorem apL_mem {x : List UInt8} : ∀ {l : List (List UInt8 × Int)}, (apL x l).2 = true → (x, (apL x l).1) ∈ l
  | [], h => by simp [apL] at h
  | o :: os, h => by
    rw [apL] at h ⊢
    split
    · rename_i he; subst he; exact List.mem_cons_self ..
    · rename_i he; rw [if_neg he] at h; exact List.mem_cons_of_mem _ (apL_mem h)
def ruleFits (o : List UInt8 × Int) : Bool := decide (o.2 < 1) || (match kdFind o.1 kdRules with | some r => decide ((kdCnt r : Int) = o.2) | none => false)
theorem rules_fit : ∀ o ∈ opsL, ruleFits o = true := by decide
theorem rule_of_op {x : List UInt8} (h : (apL x opsL).2 = true) (h1 : 1 ≤ (apL x opsL).1) : ∃ r, kdFind x kdRules = some r ∧ (kdCnt r : Int) = (apL x opsL).1 := by
  have hf := rules_fit _ (apL_mem h)
  rw [ruleFits] at hf
  simp only at hf
  have h2 : decide ((apL x opsL).1 < 1) = false := by simp; omega
  rw [h2, Bool.false_or] at hf
  split at hf
  · rename_i r hr
    exact ⟨r, hr, of_decide_eq_true hf⟩
  · exact absurd hf (by simp)
theorem rule_types : ∀ r ∈ kdRules, r.2.2.2.2 = -1 ∨ isTy r.2.2.2.2 = true := by decide
theorem ruleP_ty {x : List UInt8} {ts : List Int} (h : (ruleP x ts).2 = 0) : isTy (ruleP x ts).1 = true := by
  cases hf : kdFind x kdRules with
  | none => rw [ruleP_none hf] at h; exact absurd h (by decide)
  | some r =>
    cases ha : ts.all isTy with
    | false => rw [ruleP_bad hf ha] at h; exact absurd h (by decide)
    | true =>
      by_cases hl : ts.length = kdCnt r
      · rw [ruleP_rest hf ha hl] at h ⊢
        split at h
        · rename_i hk
          rw [if_pos hk]
          have hm := (kdFind_mem hf).1
          rw [kdMeant]
          rcases rule_types r hm with h1 | h1
          · rw [if_pos h1]
            obtain ⟨n, hn⟩ : ∃ n, ts.length = n + 1 := ⟨ts.length - 1, by have := (kdCnt_ok r hm).1; omega⟩
            rw [last_at hn]
            exact List.all_eq_true.1 ha _ (List.getElem_mem _)
          · split
            · rename_i h2; rw [h2] at h1; exact absurd h1 (by decide)
            · exact h1
        · exact absurd h (by decide)
      · rw [ruleP_len hf ha hl] at h; exact absurd h (by decide)
theorem ruleP_err {x : List UInt8} {ts : List Int} {r : KRule} (hf : kdFind x kdRules = some r) (ha : ts.all isTy = true) (hl : ts.length = kdCnt r) : (ruleP x ts).2 = 0 ∨ ruleP x ts = (0, 8) := by
  rw [ruleP_rest hf ha hl]
  split
  · exact .inl rfl
  · exact .inr rfl
theorem tyP_ty {zs : List (ByteArray × Int)} {y : Ex} (hn : nodeE y = 0) (hs : schE zs = 0) (h : (tyP zs y).2.1 = 0) : isTy (tyP zs y).1 = true := by
  cases y with
  | node op nm vt vn vs pos l =>
    by_cases h1 : op.data.toList = [118, 97, 108]
    · have hv : ckV vt vn vs.data.toList = 0 := (node_ok hn).2.2 (by show (op.toList == [118, 97, 108]) = true; rw [Lib.toList_data]; simpa using h1)
      rw [tyP, if_pos h1]
      rw [ckV] at hv
      split at hv
      · rename_i h2; exact absurd hv h2
      · rename_i h2
        have h3 : chk vt vn vs.data.toList = 0 := by simpa using h2
        rw [chk] at h3
        split at h3
        · exact absurd h3 (by decide)
        · rename_i h4
          rw [isTy]
          simp at h4 ⊢
          omega
    · by_cases h2 : op.data.toList = [99, 111, 108]
      · rw [tyP, if_neg h1, if_pos h2] at h ⊢
        split at h
        · exact absurd (show (5 : Int) = 0 from h) (by decide)
        · rename_i h3
          rw [if_neg h3]
          rcases findN_cases nm.data.toList zs with ⟨hh, _⟩ | ⟨k, hk, hkl, _⟩
          · exact absurd hh h3
          · have := (schE_zero hs).2.2 k hkl
            rw [hk]
            simp [hkl, isTy]
            omega
      · rw [tyP_op h1 h2] at h ⊢
        split at h
        · rename_i h3; exact absurd h h3
        · rename_i h3
          rw [if_neg h3]
          split at h
          · rename_i h4; exact absurd h h4
          · rename_i h4
            rw [if_neg h4]
            exact ruleP_ty (by simpa using h4)
/-- An operation with parts is no value and no column. -/
theorem op_parts {x : Ex} (h : ckP x = 0) (hl : x.args.length ≠ 0) : x.op.data.toList ≠ [118, 97, 108] ∧ x.op.data.toList ≠ [99, 111, 108] ∧ ∃ r, kdFind x.op.data.toList kdRules = some r ∧ kdCnt r = x.args.length := by
  have hn := (ckP_zero h).2 (x, 1) (by rw [pre_eq]; exact List.mem_cons_self ..)
  obtain ⟨h1, h2, _⟩ := node_ok hn
  simp only at h1 h2
  refine ⟨fun e => ?_, fun e => ?_, ?_⟩
  · rw [e] at h2; have : (apL [118, 97, 108] opsL).1 = 0 := by decide
    omega
  · rw [e] at h2; have : (apL [99, 111, 108] opsL).1 = 0 := by decide
    omega
  · obtain ⟨r, hr, hc⟩ := rule_of_op h1 (by omega)
    exact ⟨r, hr, by omega⟩
end Go.Proofs.YtpgadbpkednjkaaGreatDoor
