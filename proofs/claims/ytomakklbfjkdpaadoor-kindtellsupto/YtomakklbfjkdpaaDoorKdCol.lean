/-
  The type of a column that an expression asks (package kind).
-/
import Derived.Test.YtomakklbfjkdpaaDoorLo4
import Derived.Test.YtomakklbfjkdpaaDoorTreeCh
namespace Go.Proofs.YtomakklbfjkdpaaDoor
open Go.RowKit Go.BigFrame
set_option linter.unusedVariables false

set_option maxHeartbeats 4000000 in
set_option maxRecDepth 20000 in
theorem typeOfColumn_any (x : Ex) (lo : Nat → Prop) (v : Value) (b off c : Nat) (zs : List (ByteArray × Int)) (w : World) (henv : KEnv w) (hx : ExIn w lo v x) (hn : zs.length ≤ 6) (hc : ColsIn w b off zs) (T H P : Int) (hR : (if findN x.nm.data.toList zs = -1 then (0, 5, x.pos) else ((zs[(findN x.nm.data.toList zs).toNat]?.getD default).2, 0, 0)) = (T, H, P)) :
    Calls Tryd.prog 47 #[v, .slice (some ⟨b, off, none⟩) zs.length c] w fun e w' => e = .returned (.tuple #[.int .i64 T, .agg #[.int .i64 H, .int .i64 P]]) ∧ Below w.heap.size w w' := by
  obtain ⟨p, c1, rfl, _, _, _, _⟩ := hx.whole
  have b1 : Below w.heap.size w ((w.alloc (.cells #[.string x.op, .string x.nm, .int .i64 x.vt, .int .i64 x.vn, .string x.vs, .slice p x.args.length c1, .int .i64 x.pos] 27)).alloc (.cells #[.int .i64 0, .int .i64 0] 43)) := ((Below.refl _ w).alloc (Nat.le_refl _) _).alloc (by simp) _
  have key : ∀ w1, Below ((w.alloc (.cells #[.string x.op, .string x.nm, .int .i64 x.vt, .int .i64 x.vn, .string x.vs, .slice p x.args.length c1, .int .i64 x.pos] 27)).alloc (.cells #[.int .i64 0, .int .i64 0] 43)).heap.size ((w.alloc (.cells #[.string x.op, .string x.nm, .int .i64 x.vt, .int .i64 x.vn, .string x.vs, .slice p x.args.length c1, .int .i64 x.pos] 27)).alloc (.cells #[.int .i64 0, .int .i64 0] 43)) w1 → w1.cell? ⟨w.heap.size, 6, none⟩ = some (.int .i64 x.pos) ∧ w1.cell? ⟨w.heap.size + 1, 0, none⟩ = some (.int .i64 0) ∧ w1.cell? ⟨w.heap.size + 1, 1, none⟩ = some (.int .i64 0) ∧ (∀ o, w1.frozen? ⟨w.heap.size + 1, o, none⟩ = false) ∧ w.heap.size + 1 < w1.heap.size := fun w1 b2 => by
    have hz := b2.size
    simp at hz
    refine ⟨?_, ?_, ?_, fun o => ?_, by omega⟩
    · rw [b2.cell (p := ⟨w.heap.size, 6, none⟩) (by simp; omega), World.cell?_alloc_lt _ _ _ (by simp), World.cell?_alloc_at _ _ _ _ rfl]; rfl
    · rw [b2.cell (p := ⟨w.heap.size + 1, 0, none⟩) (by simp), World.cell?_alloc_at _ _ _ _ (by simp)]; rfl
    · rw [b2.cell (p := ⟨w.heap.size + 1, 1, none⟩) (by simp), World.cell?_alloc_at _ _ _ _ (by simp)]; rfl
    · rw [b2.frozen (p := ⟨w.heap.size + 1, o, none⟩) (by simp), World.frozen?_alloc_at _ _ _ _ (by simp)]
  have HE : Aside (KEnv w) := henv
  have HCc : Aside (ColsIn w b off zs) := hc
  by_cases h1 : findN x.nm.data.toList zs = -1
  · rw [if_pos h1] at hR
    simp only [Prod.mk.injEq] at hR
    obtain ⟨rfl, rfl, rfl⟩ := hR
    have cF := find_none x.nm b off c zs _ (by omega) (hc.on b1) h1
    clear h1 hx henv hc
    generalize x.op = OP at *
    generalize x.nm = NM at *
    generalize x.vs = VS at *
    generalize x.vt = VT at *
    generalize x.vn = VN at *
    generalize x.pos = PS at *
    generalize x.args.length = M at *
    go_enter Tryd.func47, Tryd.ntmps47
    go_wp2_with fail
    refine cF.mono ?_
    rintro e w1 ⟨rfl, b2⟩
    obtain ⟨k6, f0, f1, ff, hl⟩ := key w1 b2
    have b3 : Below w.heap.size w w1 := b1.trans (b2.mono b1.size)
    have cP := faultOf_any 5 PS w1 (HE.out.on b3)
    have hl0 : w.heap.size < w1.heap.size := by omega
    clear key cF b1 HE HCc
    go_wp2_with fail
    refine cP.mono ?_
    rintro e w2 ⟨rfl, b4⟩
    have g0 : w2.cell? ⟨w.heap.size + 1, 0, none⟩ = some (.int .i64 0) := by rw [b4.cell (p := ⟨w.heap.size + 1, 0, none⟩) hl]; exact f0
    have g1 : w2.cell? ⟨w.heap.size + 1, 1, none⟩ = some (.int .i64 0) := by rw [b4.cell (p := ⟨w.heap.size + 1, 1, none⟩) hl]; exact f1
    have gf : ∀ o, w2.frozen? ⟨w.heap.size + 1, o, none⟩ = false := fun o => by rw [b4.frozen (p := ⟨w.heap.size + 1, o, none⟩) hl]; exact ff o
    have hl2 : w.heap.size + 1 < w2.heap.size := by have := b4.size; omega
    have b5 : Below w.heap.size w w2 := b3.trans (b4.mono b3.size)
    clear cP b2 b3 b4
    go_wp2
    refine bodyPost_ret (v := .tuple #[.int .i64 0, .agg #[.int .i64 5, .int .i64 PS]]) (by simp [results, Tryd.results47, go_sem, World.cell?_setCell_other, World.cell?_setCell_same, g0, g1]) rfl ⟨rfl, ?_⟩
    exact (b5.setCell (p := ⟨w.heap.size + 1, 0, none⟩) (Nat.le_succ _) _).setCell (p := ⟨w.heap.size + 1, 1, none⟩) (Nat.le_succ _) _
  · rw [if_neg h1] at hR
    simp only [Prod.mk.injEq] at hR
    obtain ⟨hT, rfl, rfl⟩ := hR
    rcases findN_cases x.nm.data.toList zs with ⟨h, _⟩ | ⟨k, hk, hkl, _⟩
    · exact absurd h h1
    have HTk : Hid (zs[k].2 = T) := by
      show _ = _
      rw [← hT, hk]
      simp [hkl]
    have cF := find_any x.nm b off c zs _ (by omega) (hc.on b1) k hk
    clear h1 hx henv hT hk
    generalize x.op = OP at *
    generalize x.nm = NM at *
    generalize x.vs = VS at *
    generalize x.vt = VT at *
    generalize x.vn = VN at *
    generalize x.pos = PS at *
    generalize x.args.length = M at *
    have hk0 : (0 : Int) ≤ (k : Int) := by omega
    have hkz : (k : Int) < (zs.length : Int) := by omega
    go_enter Tryd.func47, Tryd.ntmps47
    go_wp2_with fail
    refine cF.mono ?_
    rintro e w1 ⟨rfl, b2⟩
    obtain ⟨k6, f0, f1, ff, hl⟩ := key w1 b2
    have b3 : Below w.heap.size w w1 := b1.trans (b2.mono b1.size)
    obtain ⟨hbl, hcc⟩ := HCc.out.on b3
    have ct := (hcc k hkl).2
    rw [HTk.out] at ct
    clear key cF b1 HE HCc hcc HTk hc
    go_wp2
    refine bodyPost_ret (v := .tuple #[.int .i64 T, .agg #[.int .i64 0, .int .i64 0]]) (by simp [results, Tryd.results47, go_sem, World.cell?_setCell_other, World.cell?_setCell_same, f0, f1]) rfl ⟨rfl, ?_⟩
    exact (b3.setCell (p := ⟨w.heap.size + 1, 0, none⟩) (Nat.le_succ _) _).setCell (p := ⟨w.heap.size + 1, 1, none⟩) (Nat.le_succ _) _
end Go.Proofs.YtomakklbfjkdpaaDoor
