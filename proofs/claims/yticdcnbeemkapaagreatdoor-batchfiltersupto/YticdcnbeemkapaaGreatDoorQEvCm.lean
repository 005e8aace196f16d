/-
  What an expression that is right comes to, of a row that is right: package eval's come.
-/
import Derived.Test.YticdcnbeemkapaaGreatDoorGrAk
import Derived.Test.YticdcnbeemkapaaGreatDoorGrAn
namespace Go.Proofs.YticdcnbeemkapaaGreatDoor
open Go.RowKit Go.BigFrame
set_option linter.unusedVariables false

set_option maxHeartbeats 1000000 in
theorem columnOf_any (nm : ByteArray) (b off c : Nat) (zs : List (ByteArray × Int)) (rb ro rc : Nat) (rs : List V3) (w : World) (hn : zs.length ≤ 6) (hc : ColsIn w b off zs) (hrl : rb < w.heap.size) (hrc : ∀ j (h : j < rs.length), w.cell? ⟨rb, ro + j * 3, none⟩ = some (.int .i64 rs[j].1) ∧ w.cell? ⟨rb, ro + j * 3 + 1, none⟩ = some (.int .i64 rs[j].2.1) ∧ w.cell? ⟨rb, ro + j * 3 + 2, none⟩ = some (.string rs[j].2.2)) (k : Nat) (hk : findN nm.data.toList zs = k) (hkl : k < rs.length) (t n : Int) (s : ByteArray) (hv : rs[k] = (t, n, s)) :
    Calls Tryz.prog 36 #[.string nm, .slice (some ⟨b, off, none⟩) zs.length c, .slice (some ⟨rb, ro, none⟩) rs.length rc] w fun e w' => e = .returned (.tuple #[.agg #[.int .i64 t, .int .i64 n, .string s], .nilIface]) ∧ Below w.heap.size w w' := by
  obtain ⟨b1, box⟩ := box_res w
  have cF := find_any nm b off c zs (w.alloc (.cells #[.int .i64 0, .int .i64 0, .string ⟨#[]⟩] 23)) (by omega) (hc.on b1) k hk
  obtain ⟨e0, e1, e2⟩ := hrc k hkl
  rw [hv] at e0 e1 e2
  simp only at e0 e1 e2
  have hk0 : (0 : Int) ≤ (k : Int) := by omega
  have hk1 : (k : Int) < (rs.length : Int) := by omega
  clear hrc hc hk hv
  go_enter Tryz.func36, Tryz.ntmps36
  go_wp2_with fail
  refine cF.mono ?_
  rintro e w1 ⟨rfl, b2⟩
  obtain ⟨⟨f0, f1, f2, ff, hl⟩, b5⟩ := box w1 (b2.mono (by simp))
  have kR : ∀ o, w1.cell? ⟨rb, o, none⟩ = w.cell? ⟨rb, o, none⟩ := fun o => b5.cell (p := ⟨rb, o, none⟩) hrl
  rw [← kR] at e0 e1 e2
  have hrl1 : rb < w1.heap.size := by have := b5.size; omega
  clear cF box b1 b2 kR
  go_wp2
  refine bodyPost_ret (v := .tuple #[.agg #[.int .i64 t, .int .i64 n, .string s], .nilIface]) (by simp [results, Tryz.results36, go_sem, World.cell?_setCell_other, World.cell?_setCell_same, f0, f1, f2]) rfl ⟨rfl, ?_⟩
  exact below3 b5 (Nat.le_refl _) _ _ _
/-- The blocks that come makes at its beginning, wherever they are looked at later. -/
theorem come_box (w : World) (E : Array Value) : Below w.heap.size w ((w.alloc (.cells E 26)).alloc (.cells #[.int .i64 0, .int .i64 0, .string ⟨#[]⟩] 23)) ∧ ∀ wr, Below (w.heap.size + 2) ((w.alloc (.cells E 26)).alloc (.cells #[.int .i64 0, .int .i64 0, .string ⟨#[]⟩] 23)) wr → (∀ i, wr.cell? ⟨w.heap.size, i, none⟩ = E[i]?) ∧ (wr.cell? ⟨w.heap.size + 1, 0, none⟩ = some (.int .i64 0) ∧ wr.cell? ⟨w.heap.size + 1, 1, none⟩ = some (.int .i64 0) ∧ wr.cell? ⟨w.heap.size + 1, 2, none⟩ = some (.string ⟨#[]⟩) ∧ (∀ o, wr.frozen? ⟨w.heap.size + 1, o, none⟩ = false)) ∧ w.heap.size + 2 ≤ wr.heap.size ∧ Below w.heap.size w wr := by
  have b1 : Below w.heap.size w ((w.alloc (.cells E 26)).alloc (.cells #[.int .i64 0, .int .i64 0, .string ⟨#[]⟩] 23)) := ((Below.refl _ w).alloc (Nat.le_refl _) _).alloc (by simp) _
  refine ⟨b1, fun wr hb => ?_⟩
  have hz := hb.size
  simp at hz
  refine ⟨fun i => ?_, ⟨?_, ?_, ?_, fun o => ?_⟩, by omega, b1.trans (hb.mono (by omega))⟩
  · rw [hb.cell (p := ⟨w.heap.size, i, none⟩) (by simp), World.cell?_alloc_lt _ _ _ (by simp), World.cell?_alloc_at _ _ _ _ rfl]
  · rw [hb.cell (p := ⟨w.heap.size + 1, 0, none⟩) (by simp), World.cell?_alloc_at _ _ _ _ (by simp)]; rfl
  · rw [hb.cell (p := ⟨w.heap.size + 1, 1, none⟩) (by simp), World.cell?_alloc_at _ _ _ _ (by simp)]; rfl
  · rw [hb.cell (p := ⟨w.heap.size + 1, 2, none⟩) (by simp), World.cell?_alloc_at _ _ _ _ (by simp)]; rfl
  · rw [hb.frozen (p := ⟨w.heap.size + 1, o, none⟩) (by simp), World.frozen?_alloc_at _ _ _ _ (by simp)]
/-- The values of a row. -/
def RowAt (w : World) (rb ro : Nat) (rs : List V3) : Prop := rb < w.heap.size ∧ ∀ j (h : j < rs.length), w.cell? ⟨rb, ro + j * 3, none⟩ = some (.int .i64 rs[j].1) ∧ w.cell? ⟨rb, ro + j * 3 + 1, none⟩ = some (.int .i64 rs[j].2.1) ∧ w.cell? ⟨rb, ro + j * 3 + 2, none⟩ = some (.string rs[j].2.2)
theorem RowAt.on {w w' : World} {rb ro : Nat} {rs : List V3} (h : RowAt w rb ro rs) (hb : Below w.heap.size w w') : RowAt w' rb ro rs := by
  refine ⟨by have := hb.size; have := h.1; omega, fun j hj => ?_⟩
  obtain ⟨h1, h2, h3⟩ := h.2 j hj
  exact ⟨by rw [hb.cell (p := ⟨rb, _, none⟩) h.1]; exact h1, by rw [hb.cell (p := ⟨rb, _, none⟩) h.1]; exact h2, by rw [hb.cell (p := ⟨rb, _, none⟩) h.1]; exact h3⟩
/-- What come says of an expression. -/
def ComeAt (zs : List (ByteArray × Int)) (b off c rb ro rc : Nat) (rs : List V3) (x : Ex) : Prop := ∀ (lo : Nat → Prop) (v : Value) (w : World) (t k : Int) (s : ByteArray) (e : Int), REnv w → ExIn w lo v x → ColsIn w b off zs → RowAt w rb ro rs → cmP zs rs x = ((t, k, s), e) →
    Calls Tryz.prog 19 #[v, .slice (some ⟨b, off, none⟩) zs.length c, .slice (some ⟨rb, ro, none⟩) rs.length rc] w fun e' w' => e' = .returned (.tuple #[.agg #[.int .i64 t, .int .i64 k, .string s], errV e]) ∧ Below w.heap.size w w'
set_option maxHeartbeats 4000000 in
set_option maxRecDepth 20000 in
theorem come_leaf (zs : List (ByteArray × Int)) (b off c rb ro rc : Nat) (rs : List V3) (hn : zs.length ≤ 6) (hrow : RowR zs rs) (op nm vs : ByteArray) (vt vn pos : Int) (l : List Ex) (ht : (tyP zs (.node op nm vt vn vs pos l)).2.1 = 0) (hleaf : op.data.toList = [118, 97, 108] ∨ op.data.toList = [99, 111, 108]) : ComeAt zs b off c rb ro rc rs (.node op nm vt vn vs pos l) := by
  intro lo v w t k s e henv hx hc hr hR
  rw [ExIn] at hx
  obtain ⟨p, ca, rfl, ⟨hm, hmc⟩, ho, hnm, hvs, hparts⟩ := hx
  obtain ⟨b1, box⟩ := come_box w #[.string op, .string nm, .int .i64 vt, .int .i64 vn, .string vs, .slice p l.length ca, .int .i64 pos]
  by_cases h1 : op.data.toList = [118, 97, 108]
  · rw [cmP, if_pos h1] at hR
    simp only [Prod.mk.injEq] at hR
    obtain ⟨⟨rfl, rfl, rfl⟩, rfl⟩ := hR
    have q1 : (op.toList == [118, 97, 108]) = true := by rw [Lib.toList_data]; simpa using h1
    clear h1 ht hleaf henv hc hr hparts box
    go_enter Tryz.func19, Tryz.ntmps19
    go_wp2
    exact bodyPost_ret (v := .tuple #[.agg #[.int .i64 vt, .int .i64 vn, .string vs], .nilIface]) (by simp [results, Tryz.results19, go_sem]) rfl ⟨rfl, ((Below.refl _ w).alloc (Nat.le_refl _) _).alloc (by simp) _⟩
  · have h2 := hleaf.resolve_left h1
    rw [cmP, if_neg h1, if_pos h2] at hR
    rw [tyP, if_neg h1, if_pos h2] at ht
    have q1 : (op.toList == [118, 97, 108]) = false := by rw [Lib.toList_data]; simpa using h1
    have q2 : (op.toList == [99, 111, 108]) = true := by rw [Lib.toList_data]; simpa using h2
    rcases findN_cases nm.data.toList zs with ⟨h, _⟩ | ⟨j, hj, hlt, _⟩
    · rw [if_pos h] at ht
      exact absurd ht (by simp)
    have hjr : j < rs.length := by rw [hrow.1]; exact hlt
    rw [hj, Int.toNat_natCast, List.getElem?_eq_getElem hjr] at hR
    simp only [Option.getD_some, Prod.mk.injEq] at hR
    obtain ⟨hv, rfl⟩ := hR
    have cC := columnOf_any nm b off c zs rb ro rc rs ((w.alloc (.cells #[.string op, .string nm, .int .i64 vt, .int .i64 vn, .string vs, .slice p l.length ca, .int .i64 pos] 26)).alloc (.cells #[.int .i64 0, .int .i64 0, .string ⟨#[]⟩] 23)) hn (hc.on b1) (hr.on b1).1 (hr.on b1).2 j hj hjr t k s hv
    clear h1 h2 ht hleaf henv hc hr hparts hj hv
    go_enter Tryz.func19, Tryz.ntmps19
    go_wp2_with fail
    refine cC.mono ?_
    rintro e w1 ⟨rfl, b2⟩
    obtain ⟨_, ⟨f0, f1, f2, ff⟩, hl, b9⟩ := box w1 (b2.mono (by simp))
    have hl1 : w.heap.size + 1 < w1.heap.size := by omega
    clear cC box b1 b2
    go_wp2
    refine bodyPost_ret (v := .tuple #[.agg #[.int .i64 t, .int .i64 k, .string s], .nilIface]) (by simp [results, Tryz.results19, go_sem, World.cell?_setCell_other, World.cell?_setCell_same, f0, f1, f2]) rfl ⟨rfl, ?_⟩
    exact below3 b9 (by omega) _ _ _
theorem res3 {W : World} {b : Nat} {x0 x1 x2 : Value} (c0 : W.cell? ⟨b, 0, none⟩ = some x0) (c1 : W.cell? ⟨b, 1, none⟩ = some x1) (c2 : W.cell? ⟨b, 2, none⟩ = some x2) (hl : b < W.heap.size) (v0 v1 v2 : Value) (o : Obj) : ((((W.setCell ⟨b, 0, none⟩ v0).setCell ⟨b, 1, none⟩ v1).setCell ⟨b, 2, none⟩ v2).alloc o).cell? ⟨b, 0, none⟩ = some v0 ∧ ((((W.setCell ⟨b, 0, none⟩ v0).setCell ⟨b, 1, none⟩ v1).setCell ⟨b, 2, none⟩ v2).alloc o).cell? ⟨b, 1, none⟩ = some v1 ∧ ((((W.setCell ⟨b, 0, none⟩ v0).setCell ⟨b, 1, none⟩ v1).setCell ⟨b, 2, none⟩ v2).alloc o).cell? ⟨b, 2, none⟩ = some v2 := by
  rw [World.cell?_alloc_lt _ _ ⟨b, 0, none⟩ (by simpa [World.setCell] using hl), World.cell?_alloc_lt _ _ ⟨b, 1, none⟩ (by simpa [World.setCell] using hl), World.cell?_alloc_lt _ _ ⟨b, 2, none⟩ (by simpa [World.setCell] using hl)]
  refine ⟨?_, ?_, ?_⟩ <;> simp [World.cell?_setCell_other, World.cell?_setCell_same, c0, c1, c2]
/-- The cells of one of the parts, in a later world. -/
theorem part_at {w wr : World} {lo : Nat → Prop} {ba oa : Nat} {l : List Ex} (h : ∀ j (h : j < l.length), ∃ v0 v1 v2 v3 v4 v5 v6, w.cell? ⟨ba, oa + j * 7, none⟩ = some v0 ∧ w.cell? ⟨ba, oa + j * 7 + 1, none⟩ = some v1 ∧ w.cell? ⟨ba, oa + j * 7 + 2, none⟩ = some v2 ∧ w.cell? ⟨ba, oa + j * 7 + 3, none⟩ = some v3 ∧ w.cell? ⟨ba, oa + j * 7 + 4, none⟩ = some v4 ∧ w.cell? ⟨ba, oa + j * 7 + 5, none⟩ = some v5 ∧ w.cell? ⟨ba, oa + j * 7 + 6, none⟩ = some v6 ∧ ExIn w lo (.agg #[v0, v1, v2, v3, v4, v5, v6]) l[j]) (hb : Below w.heap.size w wr) (hbl : ba < w.heap.size) (j : Nat) (hj : j < l.length) :
    ∃ u0 u1 u2 u3 u4 u5 u6 u7 u8, wr.cell? ⟨ba, oa + j * 7, none⟩ = some (.string u0) ∧ wr.cell? ⟨ba, oa + j * 7 + 1, none⟩ = some (.string u1) ∧ wr.cell? ⟨ba, oa + j * 7 + 2, none⟩ = some (.int .i64 u2) ∧ wr.cell? ⟨ba, oa + j * 7 + 3, none⟩ = some (.int .i64 u3) ∧ wr.cell? ⟨ba, oa + j * 7 + 4, none⟩ = some (.string u4) ∧ wr.cell? ⟨ba, oa + j * 7 + 5, none⟩ = some (.slice u5 u6 u7) ∧ wr.cell? ⟨ba, oa + j * 7 + 6, none⟩ = some (.int .i64 u8) ∧ ExIn w lo (.agg #[.string u0, .string u1, .int .i64 u2, .int .i64 u3, .string u4, .slice u5 u6 u7, .int .i64 u8]) l[j] := by
  obtain ⟨v0, v1, v2, v3, v4, v5, v6, e0, e1, e2, e3, e4, e5, e6, hy⟩ := h j hj
  obtain ⟨u0, u1, u2, u3, u4, u5, u6, u7, u8, huu⟩ := hy.agg
  injection huu with huu
  simp only [Array.mk.injEq, List.cons.injEq, and_true] at huu
  obtain ⟨rfl, rfl, rfl, rfl, rfl, rfl, rfl⟩ := huu
  have kA : ∀ o, wr.cell? ⟨ba, o, none⟩ = w.cell? ⟨ba, o, none⟩ := fun o => hb.cell (p := ⟨ba, o, none⟩) hbl
  rw [← kA] at e0 e1 e2 e3 e4 e5 e6
  exact ⟨_, _, _, _, _, _, _, _, _, e0, e1, e2, e3, e4, e5, e6, hy⟩
end Go.Proofs.YticdcnbeemkapaaGreatDoor
