/-
  EvCm, FdR, FdT, RfA, in one text.
-/
import Derived.Test.YtknibfhoecgjlaaGreatDoorGrAm
import Derived.Test.YtknibfhoecgjlaaGreatDoorGrAl
import Derived.Test.YtknibfhoecgjlaaGreatDoorGrAf
import Derived.Deep.RegionHeld3
namespace Go.Proofs.YtknibfhoecgjlaaGreatDoor
open Go.RowKit Go.BigFrame
set_option linter.unusedVariables false

def vcells : List V3 → List Value
  | [] => []
  | v :: vs => .int .i64 v.1 :: .int .i64 v.2.1 :: .string v.2.2 :: vcells vs
theorem vcells_at : ∀ {vs : List V3} {j : Nat} (h : j < vs.length), (vcells vs)[j * 3]? = some (.int .i64 vs[j].1) ∧ (vcells vs)[j * 3 + 1]? = some (.int .i64 vs[j].2.1) ∧ (vcells vs)[j * 3 + 2]? = some (.string vs[j].2.2)
  | v :: vs, 0, _ => ⟨rfl, rfl, rfl⟩
  | v :: vs, j + 1, h => by
    have := vcells_at (vs := vs) (j := j) (by simpa using h)
    rw [vcells, show (j + 1) * 3 = j * 3 + 3 by omega]
    simpa using this
  | [], _, h => absurd h (by simp)
theorem vcells_len : ∀ vs : List V3, (vcells vs).length = vs.length * 3
  | [] => rfl
  | v :: vs => by rw [vcells]; simp [vcells_len vs]; omega
theorem vcells_append : ∀ (a b : List V3), vcells (a ++ b) = vcells a ++ vcells b
  | [], b => rfl
  | v :: vs, b => by rw [List.cons_append, vcells, vcells, vcells_append vs b]; rfl
theorem ownVals {W : World} {B : Nat} {q : Option Addr} {c n : Nat} {vs : List V3} (hn : vs.length = n) (h : W.ownsRow B 23 3 (.slice q n c) n (vcells vs)) : ValsAt W q vs := by
  by_cases h0 : vs.length = 0
  · exact .inl h0
  · refine .inr ?_
    rcases h.2 with ⟨e1, _⟩ | ⟨g, cap, cur, e1, hb, hg, hm, hx, hs, ht⟩
    · injection e1 with e1 e2; omega
    · injection e1 with e1 e2 e3
      subst e1
      refine ⟨g, 0, rfl, (Array.getElem?_eq_some_iff.1 hg).1, fun j hj => ?_⟩
      obtain ⟨a0, a1, a2⟩ := vcells_at hj
      have h1 := h.cells (g := g) rfl _ _ a0
      have h2 := h.cells (g := g) rfl _ _ a1
      have h3 := h.cells (g := g) rfl _ _ a2
      rw [Go.WideShapes.add_plain] at h1 h2 h3
      exact ⟨by simpa using h1, by simpa [Nat.add_assoc] using h2, by simpa [Nat.add_assoc] using h3⟩
theorem info_val : (Tryz.prog.info? 23).map (fun i => (i.zero, i.size, i.bytes)) = some (some (.agg #[.int .i64 0, .int .i64 0, .string ⟨#[]⟩]), 3, 32) := by kernel_rfl
set_option maxHeartbeats 1000000 in
theorem columnOf_any (nm : ByteArray) (b off c : Nat) (zs : List (ByteArray × Int)) (rb ro rc : Nat) (rs : List V3) (w : World) (hn : zs.length ≤ 6) (hc : ColsIn w b off zs) (hrl : rb < w.heap.size) (hrc : ∀ j (h : j < rs.length), w.cell? ⟨rb, ro + j * 3, none⟩ = some (.int .i64 rs[j].1) ∧ w.cell? ⟨rb, ro + j * 3 + 1, none⟩ = some (.int .i64 rs[j].2.1) ∧ w.cell? ⟨rb, ro + j * 3 + 2, none⟩ = some (.string rs[j].2.2)) (k : Nat) (hk : findN nm.data.toList zs = k) (hkl : k < rs.length) (t n : Int) (s : ByteArray) (hv : rs[k] = (t, n, s)) :
    Calls Tryz.prog 66 #[.string nm, .slice (some ⟨b, off, none⟩) zs.length c, .slice (some ⟨rb, ro, none⟩) rs.length rc] w fun e w' => e = .returned (.tuple #[.agg #[.int .i64 t, .int .i64 n, .string s], .nilIface]) ∧ Below w.heap.size w w' := by
  obtain ⟨b1, box⟩ := box_res w
  have cF := find_any nm b off c zs (w.alloc (.cells #[.int .i64 0, .int .i64 0, .string ⟨#[]⟩] 23)) (by omega) (hc.on b1) k hk
  obtain ⟨e0, e1, e2⟩ := hrc k hkl
  rw [hv] at e0 e1 e2
  simp only at e0 e1 e2
  have hk0 : (0 : Int) ≤ (k : Int) := by omega
  have hk1 : (k : Int) < (rs.length : Int) := by omega
  clear hrc hc hk hv
  go_enter Tryz.func66, Tryz.ntmps66
  go_wp2_with fail
  refine cF.mono ?_
  rintro e w1 ⟨rfl, b2⟩
  obtain ⟨⟨f0, f1, f2, ff, hl⟩, b5⟩ := box w1 (b2.mono (by simp))
  have kR : ∀ o, w1.cell? ⟨rb, o, none⟩ = w.cell? ⟨rb, o, none⟩ := fun o => b5.cell (p := ⟨rb, o, none⟩) hrl
  rw [← kR] at e0 e1 e2
  have hrl1 : rb < w1.heap.size := by have := b5.size; omega
  clear cF box b1 b2 kR
  go_wp2
  refine bodyPost_ret (v := .tuple #[.agg #[.int .i64 t, .int .i64 n, .string s], .nilIface]) (by simp [results, Tryz.results66, go_sem, World.cell?_setCell_other, World.cell?_setCell_same, f0, f1, f2]) rfl ⟨rfl, ?_⟩
  exact below3 b5 (Nat.le_refl _) _ _ _
/-- The blocks that come makes at its beginning, wherever they are looked at later. -/
theorem come_box (w : World) (E : Array Value) : Below w.heap.size w ((w.alloc (.cells E 26)).alloc (.cells #[.int .i64 0, .int .i64 0, .string ⟨#[]⟩] 23)) ∧ ∀ wr, Below (w.heap.size + 2) ((w.alloc (.cells E 26)).alloc (.cells #[.int .i64 0, .int .i64 0, .string ⟨#[]⟩] 23)) wr → (∀ i, wr.cell? ⟨w.heap.size, i, none⟩ = E[i]?) ∧ (wr.cell? ⟨w.heap.size + 1, 0, none⟩ = some (.int .i64 0) ∧ wr.cell? ⟨w.heap.size + 1, 1, none⟩ = some (.int .i64 0) ∧ wr.cell? ⟨w.heap.size + 1, 2, none⟩ = some (.string ⟨#[]⟩) ∧ (∀ o, wr.frozen? ⟨w.heap.size + 1, o, none⟩ = false)) ∧ w.heap.size + 2 ≤ wr.heap.size ∧ Below w.heap.size w wr := by
  have b1 : Below w.heap.size w ((w.alloc (.cells E 26)).alloc (.cells #[.int .i64 0, .int .i64 0, .string ⟨#[]⟩] 23)) := ((Below.refl _ w).alloc (Nat.le_refl _) _).alloc (by simp) _
  refine ⟨b1, fun wr hb => ?_⟩
  have hz := hb.size
  simp at hz
  refine ⟨fun i => ?_, ⟨?_, ?_, ?_, fun o => ?_⟩, by omega, b1.trans (hb.mono (by omega))⟩
  · rw [hb.cell (p := ⟨w.heap.size, i, none⟩) (by simp), World.cell?_alloc_lt _ _ _ (by simp), World.cell?_alloc_at _ _ _ _ rfl]
  · rw [hb.cell (p := ⟨w.heap.size + 1, 0, none⟩) (by simp), World.cell?_alloc_at _ _ _ _ (by simp)]; rfl
  · rw [hb.cell (p := ⟨w.heap.size + 1, 1, none⟩) (by simp), World.cell?_alloc_at _ _ _ _ (by simp)]; rfl
  · rw [hb.cell (p := ⟨w.heap.size + 1, 2, none⟩) (by simp), World.cell?_alloc_at _ _ _ _ (by simp)]; rfl
  · rw [hb.frozen (p := ⟨w.heap.size + 1, o, none⟩) (by simp), World.frozen?_alloc_at _ _ _ _ (by simp)]
/-- The values of a row. -/
def RowAt (w : World) (rb ro : Nat) (rs : List V3) : Prop := rb < w.heap.size ∧ ∀ j (h : j < rs.length), w.cell? ⟨rb, ro + j * 3, none⟩ = some (.int .i64 rs[j].1) ∧ w.cell? ⟨rb, ro + j * 3 + 1, none⟩ = some (.int .i64 rs[j].2.1) ∧ w.cell? ⟨rb, ro + j * 3 + 2, none⟩ = some (.string rs[j].2.2)
theorem RowAt.on {w w' : World} {rb ro : Nat} {rs : List V3} (h : RowAt w rb ro rs) (hb : Below w.heap.size w w') : RowAt w' rb ro rs := by
  refine ⟨by have := hb.size; have := h.1; omega, fun j hj => ?_⟩
  obtain ⟨h1, h2, h3⟩ := h.2 j hj
  exact ⟨by rw [hb.cell (p := ⟨rb, _, none⟩) h.1]; exact h1, by rw [hb.cell (p := ⟨rb, _, none⟩) h.1]; exact h2, by rw [hb.cell (p := ⟨rb, _, none⟩) h.1]; exact h3⟩
/-- What come says of an expression. -/
def ComeAt (zs : List (ByteArray × Int)) (b off c rb ro rc : Nat) (rs : List V3) (x : Ex) : Prop := ∀ (lo : Nat → Prop) (v : Value) (w : World) (t k : Int) (s : ByteArray) (e : Int), REnv w → ExIn w lo v x → ColsIn w b off zs → RowAt w rb ro rs → cmP zs rs x = ((t, k, s), e) →
    Calls Tryz.prog 38 #[v, .slice (some ⟨b, off, none⟩) zs.length c, .slice (some ⟨rb, ro, none⟩) rs.length rc] w fun e' w' => e' = .returned (.tuple #[.agg #[.int .i64 t, .int .i64 k, .string s], errV e]) ∧ Below w.heap.size w w'
set_option maxHeartbeats 4000000 in
set_option maxRecDepth 20000 in
theorem come_leaf (zs : List (ByteArray × Int)) (b off c rb ro rc : Nat) (rs : List V3) (hn : zs.length ≤ 6) (hrow : RowR zs rs) (op nm vs : ByteArray) (vt vn pos : Int) (l : List Ex) (ht : (tyP zs (.node op nm vt vn vs pos l)).2.1 = 0) (hleaf : op.data.toList = [118, 97, 108] ∨ op.data.toList = [99, 111, 108]) : ComeAt zs b off c rb ro rc rs (.node op nm vt vn vs pos l) := by
  intro lo v w t k s e henv hx hc hr hR
  rw [ExIn] at hx
  obtain ⟨p, ca, rfl, ⟨hm, hmc⟩, ho, hnm, hvs, hparts⟩ := hx
  obtain ⟨b1, box⟩ := come_box w #[.string op, .string nm, .int .i64 vt, .int .i64 vn, .string vs, .slice p l.length ca, .int .i64 pos]
  by_cases h1 : op.data.toList = [118, 97, 108]
  · rw [cmP, if_pos h1] at hR
    simp only [Prod.mk.injEq] at hR
    obtain ⟨⟨rfl, rfl, rfl⟩, rfl⟩ := hR
    have q1 : (op.toList == [118, 97, 108]) = true := by rw [Lib.toList_data]; simpa using h1
    clear h1 ht hleaf henv hc hr hparts box
    go_enter Tryz.func38, Tryz.ntmps38
    go_wp2
    exact bodyPost_ret (v := .tuple #[.agg #[.int .i64 vt, .int .i64 vn, .string vs], .nilIface]) (by simp [results, Tryz.results38, go_sem]) rfl ⟨rfl, ((Below.refl _ w).alloc (Nat.le_refl _) _).alloc (by simp) _⟩
  · have h2 := hleaf.resolve_left h1
    rw [cmP, if_neg h1, if_pos h2] at hR
    rw [tyP, if_neg h1, if_pos h2] at ht
    have q1 : (op.toList == [118, 97, 108]) = false := by rw [Lib.toList_data]; simpa using h1
    have q2 : (op.toList == [99, 111, 108]) = true := by rw [Lib.toList_data]; simpa using h2
    rcases findN_cases nm.data.toList zs with ⟨h, _⟩ | ⟨j, hj, hlt, _⟩
    · rw [if_pos h] at ht
      exact absurd ht (by simp)
    have hjr : j < rs.length := by rw [hrow.1]; exact hlt
    rw [hj, Int.toNat_natCast, List.getElem?_eq_getElem hjr] at hR
    simp only [Option.getD_some, Prod.mk.injEq] at hR
    obtain ⟨hv, rfl⟩ := hR
    have cC := columnOf_any nm b off c zs rb ro rc rs ((w.alloc (.cells #[.string op, .string nm, .int .i64 vt, .int .i64 vn, .string vs, .slice p l.length ca, .int .i64 pos] 26)).alloc (.cells #[.int .i64 0, .int .i64 0, .string ⟨#[]⟩] 23)) hn (hc.on b1) (hr.on b1).1 (hr.on b1).2 j hj hjr t k s hv
    clear h1 h2 ht hleaf henv hc hr hparts hj hv
    go_enter Tryz.func38, Tryz.ntmps38
    go_wp2_with fail
    refine cC.mono ?_
    rintro e w1 ⟨rfl, b2⟩
    obtain ⟨_, ⟨f0, f1, f2, ff⟩, hl, b9⟩ := box w1 (b2.mono (by simp))
    have hl1 : w.heap.size + 1 < w1.heap.size := by omega
    clear cC box b1 b2
    go_wp2
    refine bodyPost_ret (v := .tuple #[.agg #[.int .i64 t, .int .i64 k, .string s], .nilIface]) (by simp [results, Tryz.results38, go_sem, World.cell?_setCell_other, World.cell?_setCell_same, f0, f1, f2]) rfl ⟨rfl, ?_⟩
    exact below3 b9 (by omega) _ _ _
theorem res3 {W : World} {b : Nat} {x0 x1 x2 : Value} (c0 : W.cell? ⟨b, 0, none⟩ = some x0) (c1 : W.cell? ⟨b, 1, none⟩ = some x1) (c2 : W.cell? ⟨b, 2, none⟩ = some x2) (hl : b < W.heap.size) (v0 v1 v2 : Value) (o : Obj) : ((((W.setCell ⟨b, 0, none⟩ v0).setCell ⟨b, 1, none⟩ v1).setCell ⟨b, 2, none⟩ v2).alloc o).cell? ⟨b, 0, none⟩ = some v0 ∧ ((((W.setCell ⟨b, 0, none⟩ v0).setCell ⟨b, 1, none⟩ v1).setCell ⟨b, 2, none⟩ v2).alloc o).cell? ⟨b, 1, none⟩ = some v1 ∧ ((((W.setCell ⟨b, 0, none⟩ v0).setCell ⟨b, 1, none⟩ v1).setCell ⟨b, 2, none⟩ v2).alloc o).cell? ⟨b, 2, none⟩ = some v2 := by
  rw [World.cell?_alloc_lt _ _ ⟨b, 0, none⟩ (by simpa [World.setCell] using hl), World.cell?_alloc_lt _ _ ⟨b, 1, none⟩ (by simpa [World.setCell] using hl), World.cell?_alloc_lt _ _ ⟨b, 2, none⟩ (by simpa [World.setCell] using hl)]
  refine ⟨?_, ?_, ?_⟩ <;> simp [World.cell?_setCell_other, World.cell?_setCell_same, c0, c1, c2]
/-- The cells of one of the parts, in a later world. -/
theorem part_at {w wr : World} {lo : Nat → Prop} {ba oa : Nat} {l : List Ex} (h : ∀ j (h : j < l.length), ∃ v0 v1 v2 v3 v4 v5 v6, w.cell? ⟨ba, oa + j * 7, none⟩ = some v0 ∧ w.cell? ⟨ba, oa + j * 7 + 1, none⟩ = some v1 ∧ w.cell? ⟨ba, oa + j * 7 + 2, none⟩ = some v2 ∧ w.cell? ⟨ba, oa + j * 7 + 3, none⟩ = some v3 ∧ w.cell? ⟨ba, oa + j * 7 + 4, none⟩ = some v4 ∧ w.cell? ⟨ba, oa + j * 7 + 5, none⟩ = some v5 ∧ w.cell? ⟨ba, oa + j * 7 + 6, none⟩ = some v6 ∧ ExIn w lo (.agg #[v0, v1, v2, v3, v4, v5, v6]) l[j]) (hb : Below w.heap.size w wr) (hbl : ba < w.heap.size) (j : Nat) (hj : j < l.length) :
    ∃ u0 u1 u2 u3 u4 u5 u6 u7 u8, wr.cell? ⟨ba, oa + j * 7, none⟩ = some (.string u0) ∧ wr.cell? ⟨ba, oa + j * 7 + 1, none⟩ = some (.string u1) ∧ wr.cell? ⟨ba, oa + j * 7 + 2, none⟩ = some (.int .i64 u2) ∧ wr.cell? ⟨ba, oa + j * 7 + 3, none⟩ = some (.int .i64 u3) ∧ wr.cell? ⟨ba, oa + j * 7 + 4, none⟩ = some (.string u4) ∧ wr.cell? ⟨ba, oa + j * 7 + 5, none⟩ = some (.slice u5 u6 u7) ∧ wr.cell? ⟨ba, oa + j * 7 + 6, none⟩ = some (.int .i64 u8) ∧ ExIn w lo (.agg #[.string u0, .string u1, .int .i64 u2, .int .i64 u3, .string u4, .slice u5 u6 u7, .int .i64 u8]) l[j] := by
  obtain ⟨v0, v1, v2, v3, v4, v5, v6, e0, e1, e2, e3, e4, e5, e6, hy⟩ := h j hj
  obtain ⟨u0, u1, u2, u3, u4, u5, u6, u7, u8, huu⟩ := hy.agg
  injection huu with huu
  simp only [Array.mk.injEq, List.cons.injEq, and_true] at huu
  obtain ⟨rfl, rfl, rfl, rfl, rfl, rfl, rfl⟩ := huu
  have kA : ∀ o, wr.cell? ⟨ba, o, none⟩ = w.cell? ⟨ba, o, none⟩ := fun o => hb.cell (p := ⟨ba, o, none⟩) hbl
  rw [← kA] at e0 e1 e2 e3 e4 e5 e6
  exact ⟨_, _, _, _, _, _, _, _, _, e0, e1, e2, e3, e4, e5, e6, hy⟩
end Go.Proofs.YtknibfhoecgjlaaGreatDoor
namespace Go.Proofs.YtknibfhoecgjlaaGreatDoor
open Go.RowKit
set_option linter.unusedVariables false

set_option maxHeartbeats 4000000 in
set_option maxRecDepth 20000 in
theorem alone_any (o n : ByteArray) (t k : Int) (s : ByteArray) (p : Option Addr) (N c : Nat) (a : Int) (w : World) (ho : o.size ≤ 281474976710656) (hn : n.size ≤ 281474976710656) (hs : s.size ≤ 281474976710656) :
    Calls Tryz.prog 49 #[.agg #[.string o, .string n, .int .i64 t, .int .i64 k, .string s, .slice p N c, .int .i64 a]] w fun e w' => e = .returned (.agg #[.string o, .string n, .int .i64 t, .int .i64 k, .string s, .slice none 0 0, .int .i64 a]) ∧ Below w.heap.size w w' := by
  obtain ⟨W0, hW0⟩ : ∃ W0, ((w.alloc (.cells #[.string o, .string n, .int .i64 t, .int .i64 k, .string s, .slice p N c, .int .i64 a] 26)).alloc (.cells #[.string ⟨#[]⟩, .string ⟨#[]⟩, .int .i64 0, .int .i64 0, .string ⟨#[]⟩, .slice none 0 0, .int .i64 0] 26)) = W0 := ⟨_, rfl⟩
  have B0 : Below w.heap.size w W0 := by rw [← hW0]; exact ((Below.refl _ w).alloc (Nat.le_refl _) _).alloc (by simp) _
  have hs0 : W0.heap.size = w.heap.size + 2 := by rw [← hW0]; simp
  have KB : Hid (∀ W, Below (w.heap.size + 2) W0 W → (W.cell? ⟨w.heap.size, 0, none⟩ = some (.string o) ∧ W.cell? ⟨w.heap.size, 1, none⟩ = some (.string n) ∧ W.cell? ⟨w.heap.size, 2, none⟩ = some (.int .i64 t) ∧ W.cell? ⟨w.heap.size, 3, none⟩ = some (.int .i64 k) ∧ W.cell? ⟨w.heap.size, 4, none⟩ = some (.string s) ∧ W.cell? ⟨w.heap.size, 5, none⟩ = some (.slice p N c) ∧ W.cell? ⟨w.heap.size, 6, none⟩ = some (.int .i64 a)) ∧ (W.cell? ⟨w.heap.size + 1, 0, none⟩ = some (.string ⟨#[]⟩) ∧ W.cell? ⟨w.heap.size + 1, 1, none⟩ = some (.string ⟨#[]⟩) ∧ W.cell? ⟨w.heap.size + 1, 2, none⟩ = some (.int .i64 0) ∧ W.cell? ⟨w.heap.size + 1, 3, none⟩ = some (.int .i64 0) ∧ W.cell? ⟨w.heap.size + 1, 4, none⟩ = some (.string ⟨#[]⟩) ∧ W.cell? ⟨w.heap.size + 1, 5, none⟩ = some (.slice none 0 0) ∧ W.cell? ⟨w.heap.size + 1, 6, none⟩ = some (.int .i64 0)) ∧ (∀ o, W.frozen? ⟨w.heap.size + 1, o, none⟩ = false) ∧ w.heap.size + 1 < W.heap.size ∧ Below w.heap.size w W) := fun W hb => by
    have hz := hb.size
    refine ⟨⟨?_, ?_, ?_, ?_, ?_, ?_, ?_⟩, ⟨?_, ?_, ?_, ?_, ?_, ?_, ?_⟩, fun o => ?_, by omega, B0.trans (hb.mono (by omega))⟩
    · rw [hb.cell (p := ⟨w.heap.size, 0, none⟩) (by simp), ← hW0, World.cell?_alloc_lt _ _ _ (by simp), World.cell?_alloc_at _ _ _ _ rfl]; rfl
    · rw [hb.cell (p := ⟨w.heap.size, 1, none⟩) (by simp), ← hW0, World.cell?_alloc_lt _ _ _ (by simp), World.cell?_alloc_at _ _ _ _ rfl]; rfl
    · rw [hb.cell (p := ⟨w.heap.size, 2, none⟩) (by simp), ← hW0, World.cell?_alloc_lt _ _ _ (by simp), World.cell?_alloc_at _ _ _ _ rfl]; rfl
    · rw [hb.cell (p := ⟨w.heap.size, 3, none⟩) (by simp), ← hW0, World.cell?_alloc_lt _ _ _ (by simp), World.cell?_alloc_at _ _ _ _ rfl]; rfl
    · rw [hb.cell (p := ⟨w.heap.size, 4, none⟩) (by simp), ← hW0, World.cell?_alloc_lt _ _ _ (by simp), World.cell?_alloc_at _ _ _ _ rfl]; rfl
    · rw [hb.cell (p := ⟨w.heap.size, 5, none⟩) (by simp), ← hW0, World.cell?_alloc_lt _ _ _ (by simp), World.cell?_alloc_at _ _ _ _ rfl]; rfl
    · rw [hb.cell (p := ⟨w.heap.size, 6, none⟩) (by simp), ← hW0, World.cell?_alloc_lt _ _ _ (by simp), World.cell?_alloc_at _ _ _ _ rfl]; rfl
    · rw [hb.cell (p := ⟨w.heap.size + 1, 0, none⟩) (by simp), ← hW0, World.cell?_alloc_at _ _ _ _ (by simp)]; rfl
    · rw [hb.cell (p := ⟨w.heap.size + 1, 1, none⟩) (by simp), ← hW0, World.cell?_alloc_at _ _ _ _ (by simp)]; rfl
    · rw [hb.cell (p := ⟨w.heap.size + 1, 2, none⟩) (by simp), ← hW0, World.cell?_alloc_at _ _ _ _ (by simp)]; rfl
    · rw [hb.cell (p := ⟨w.heap.size + 1, 3, none⟩) (by simp), ← hW0, World.cell?_alloc_at _ _ _ _ (by simp)]; rfl
    · rw [hb.cell (p := ⟨w.heap.size + 1, 4, none⟩) (by simp), ← hW0, World.cell?_alloc_at _ _ _ _ (by simp)]; rfl
    · rw [hb.cell (p := ⟨w.heap.size + 1, 5, none⟩) (by simp), ← hW0, World.cell?_alloc_at _ _ _ _ (by simp)]; rfl
    · rw [hb.cell (p := ⟨w.heap.size + 1, 6, none⟩) (by simp), ← hW0, World.cell?_alloc_at _ _ _ _ (by simp)]; rfl
    · rw [hb.frozen (p := ⟨w.heap.size + 1, o, none⟩) (by simp), ← hW0, World.frozen?_alloc_at _ _ _ _ (by simp)]
  have BR : Aside (Below (w.heap.size + 2) W0 W0) := Below.refl _ _
  obtain ⟨⟨e0, e1, e2, e3, e4, e5, e6⟩, -, -, hl0, -⟩ := KB.out W0 BR.out
  have k1 : ∀ W, Below (w.heap.size + 2) W0 W → Calls Tryz.prog 57 #[.string o] W fun e w' => e = .returned (.string o) ∧ Aside (Below (w.heap.size + 2) W0 w') ∧ (w'.cell? ⟨w.heap.size, 0, none⟩ = some (.string o) ∧ w'.cell? ⟨w.heap.size, 1, none⟩ = some (.string n) ∧ w'.cell? ⟨w.heap.size, 2, none⟩ = some (.int .i64 t) ∧ w'.cell? ⟨w.heap.size, 3, none⟩ = some (.int .i64 k) ∧ w'.cell? ⟨w.heap.size, 4, none⟩ = some (.string s) ∧ w'.cell? ⟨w.heap.size, 5, none⟩ = some (.slice p N c) ∧ w'.cell? ⟨w.heap.size, 6, none⟩ = some (.int .i64 a)) := fun W b => by
    refine (clone_any o W ho).mono ?_
    rintro e w' ⟨he, hb⟩
    have b' := b.trans (hb.mono (by have := b.size; omega))
    exact ⟨he, b', (KB.out w' b').1⟩
  have k2 : ∀ W, Below (w.heap.size + 2) W0 W → Calls Tryz.prog 57 #[.string n] W fun e w' => e = .returned (.string n) ∧ Aside (Below (w.heap.size + 2) W0 w') ∧ (w'.cell? ⟨w.heap.size, 0, none⟩ = some (.string o) ∧ w'.cell? ⟨w.heap.size, 1, none⟩ = some (.string n) ∧ w'.cell? ⟨w.heap.size, 2, none⟩ = some (.int .i64 t) ∧ w'.cell? ⟨w.heap.size, 3, none⟩ = some (.int .i64 k) ∧ w'.cell? ⟨w.heap.size, 4, none⟩ = some (.string s) ∧ w'.cell? ⟨w.heap.size, 5, none⟩ = some (.slice p N c) ∧ w'.cell? ⟨w.heap.size, 6, none⟩ = some (.int .i64 a)) := fun W b => by
    refine (clone_any n W hn).mono ?_
    rintro e w' ⟨he, hb⟩
    have b' := b.trans (hb.mono (by have := b.size; omega))
    exact ⟨he, b', (KB.out w' b').1⟩
  have k3 : ∀ W, Below (w.heap.size + 2) W0 W → Calls Tryz.prog 31 #[.agg #[.int .i64 t, .int .i64 k, .string s]] W fun e w' => e = .returned (.agg #[.int .i64 t, .int .i64 k, .string s]) ∧ Aside (Below (w.heap.size + 2) W0 w') ∧ (w'.cell? ⟨w.heap.size, 0, none⟩ = some (.string o) ∧ w'.cell? ⟨w.heap.size, 1, none⟩ = some (.string n) ∧ w'.cell? ⟨w.heap.size, 2, none⟩ = some (.int .i64 t) ∧ w'.cell? ⟨w.heap.size, 3, none⟩ = some (.int .i64 k) ∧ w'.cell? ⟨w.heap.size, 4, none⟩ = some (.string s) ∧ w'.cell? ⟨w.heap.size, 5, none⟩ = some (.slice p N c) ∧ w'.cell? ⟨w.heap.size, 6, none⟩ = some (.int .i64 a)) := fun W b => by
    refine (freshF_any t k s W hs).mono ?_
    rintro e w' ⟨he, hb⟩
    have b' := b.trans (hb.mono (by have := b.size; omega))
    exact ⟨he, b', (KB.out w' b').1⟩
  clear ho hn hs
  go_enter Tryz.func49, Tryz.ntmps49
  go_wp2
  clear hW0
  go_region_held3 (fun w' => w'.cell? ⟨w.heap.size, 0, none⟩ = some (.string o) ∧ w'.cell? ⟨w.heap.size, 1, none⟩ = some (.string n) ∧ w'.cell? ⟨w.heap.size, 2, none⟩ = some (.int .i64 t) ∧ w'.cell? ⟨w.heap.size, 3, none⟩ = some (.int .i64 k) ∧ w'.cell? ⟨w.heap.size, 4, none⟩ = some (.string s) ∧ w'.cell? ⟨w.heap.size, 5, none⟩ = some (.slice p N c) ∧ w'.cell? ⟨w.heap.size, 6, none⟩ = some (.int .i64 a)) (go_keep) (first | (go_at_call 57; refine (k1 _ (by repeat (first | exact BR.out | exact Ba.out | exact Bb.out | apply below_drewN | refine Below.drew ?_))).mono ?_; rintro e wa ⟨rfl, Ba, s0, s1, s2, s3, s4, s5, s6⟩) | (go_at_call 57; refine (k2 _ (by repeat (first | exact BR.out | exact Ba.out | exact Bb.out | apply below_drewN | refine Below.drew ?_))).mono ?_; rintro e wb ⟨rfl, Bb, r0, r1, r2, r3, r4, r5, r6⟩) | (go_at_call 31; refine (k3 _ (by repeat (first | exact BR.out | exact Ba.out | exact Bb.out | apply below_drewN | refine Below.drew ?_))).mono ?_; rintro e wc ⟨rfl, Bc, q0, q1, q2, q3, q4, q5, q6⟩; obtain ⟨-, ⟨z0, z1, z2, z3, z4, z5, z6⟩, zf, zl, zb⟩ := KB.out _ Bc.out))
  all_goals
    go_wp2
    refine bodyPost_ret (v := .agg #[.string o, .string n, .int .i64 t, .int .i64 k, .string s, .slice none 0 0, .int .i64 a]) (by simp [results, Tryz.results49, go_sem, World.cell?_setCell_other, World.cell?_setCell_same, z0, z1, z2, z3, z4, z5, z6]) rfl ⟨rfl, ?_⟩
    repeat (first | exact (((((((zb.setCell (p := ⟨w.heap.size + 1, 0, none⟩) (by simp) _).setCell (p := ⟨w.heap.size + 1, 1, none⟩) (by simp) _).setCell (p := ⟨w.heap.size + 1, 2, none⟩) (by simp) _).setCell (p := ⟨w.heap.size + 1, 3, none⟩) (by simp) _).setCell (p := ⟨w.heap.size + 1, 4, none⟩) (by simp) _).setCell (p := ⟨w.heap.size + 1, 5, none⟩) (by simp) _).setCell (p := ⟨w.heap.size + 1, 6, none⟩) (by simp) _) | apply below_drewN | refine Below.drew ?_)
theorem res3F {W : World} {b : Nat} {a0 a1 a2 : Value} (c0 : W.cell? ⟨b, 0, none⟩ = some a0) (c1 : W.cell? ⟨b, 1, none⟩ = some a1) (c2 : W.cell? ⟨b, 2, none⟩ = some a2) (hl : b < W.heap.size) (v0 v1 v2 : Value) (ob : Obj) : ((((W.setCell ⟨b, 0, none⟩ v0).setCell ⟨b, 1, none⟩ v1).setCell ⟨b, 2, none⟩ v2).alloc ob).cell? ⟨b, 0, none⟩ = some v0 ∧ ((((W.setCell ⟨b, 0, none⟩ v0).setCell ⟨b, 1, none⟩ v1).setCell ⟨b, 2, none⟩ v2).alloc ob).cell? ⟨b, 1, none⟩ = some v1 ∧ ((((W.setCell ⟨b, 0, none⟩ v0).setCell ⟨b, 1, none⟩ v1).setCell ⟨b, 2, none⟩ v2).alloc ob).cell? ⟨b, 2, none⟩ = some v2 := by
  refine ⟨?_, ?_, ?_⟩
  · rw [World.cell?_alloc_lt _ _ _ (by simpa [World.setCell] using hl)]; simp [World.cell?_setCell_other, World.cell?_setCell_same, c0]
  · rw [World.cell?_alloc_lt _ _ _ (by simpa [World.setCell] using hl)]; simp [World.cell?_setCell_other, World.cell?_setCell_same, c1]
  · rw [World.cell?_alloc_lt _ _ _ (by simpa [World.setCell] using hl)]; simp [World.cell?_setCell_other, World.cell?_setCell_same, c2]
theorem news_val {w : World} {T : TypeId} {g : Nat} (hg : w.heap.size = g) (cs : List Value) : ∀ j u, cs[j]? = some u → (w.alloc (.cells cs.toArray T)).cell? ((⟨g, 0, none⟩ : Addr).add j) = some u := by
  intro j u hu
  rw [Go.WideShapes.add_plain, World.cell?_alloc_at _ _ _ _ (by simp [hg])]
  simpa using hu
theorem one3F (t n : Int) (s : ByteArray) : ∀ u ∈ ([.int .i64 t, .int .i64 n, .string s] : List Value), u.oneCell' = true := by
  intro u hu
  simp at hu
  rcases hu with rfl | rfl | rfl <;> rfl
theorem info_valF : (Tryz.prog.info? 23).map (fun i => (i.zero, i.size, i.bytes)) = some (some (.agg #[.int .i64 0, .int .i64 0, .string ⟨#[]⟩]), 3, 32) := by kernel_rfl
/-- The parts of an expression, one by one. -/
theorem partF_at {w : World} {lo : Nat → Prop} {p : Option Addr} {l : List Ex} (h : l.length = 0 ∨ ∃ b off, p = some ⟨b, off, none⟩ ∧ b < w.heap.size ∧ lo b ∧ ExsIn w lo b off l) {j : Nat} (hj : j < l.length) : ∃ ba oa yp yc, p = some ⟨ba, oa, none⟩ ∧ ba < w.heap.size ∧ lo ba ∧ w.cell? ⟨ba, oa + j * 7, none⟩ = some (.string l[j].op) ∧ w.cell? ⟨ba, oa + j * 7 + 1, none⟩ = some (.string l[j].nm) ∧ w.cell? ⟨ba, oa + j * 7 + 2, none⟩ = some (.int .i64 l[j].vt) ∧ w.cell? ⟨ba, oa + j * 7 + 3, none⟩ = some (.int .i64 l[j].vn) ∧ w.cell? ⟨ba, oa + j * 7 + 4, none⟩ = some (.string l[j].vs) ∧ w.cell? ⟨ba, oa + j * 7 + 5, none⟩ = some (.slice yp l[j].args.length yc) ∧ w.cell? ⟨ba, oa + j * 7 + 6, none⟩ = some (.int .i64 l[j].pos) ∧ ExIn w lo (.agg #[.string l[j].op, .string l[j].nm, .int .i64 l[j].vt, .int .i64 l[j].vn, .string l[j].vs, .slice yp l[j].args.length yc, .int .i64 l[j].pos]) l[j] := by
  rcases h with h0 | ⟨ba, oa, e, hbl, hlo, hE⟩
  · exact absurd h0 (by omega)
  · obtain ⟨v0, v1, v2, v3, v4, v5, v6, e0, e1, e2, e3, e4, e5, e6, hy⟩ := exsIn_at w lo ba l oa hE j hj
    obtain ⟨yp, yc, hw, -⟩ := hy.whole
    injection hw with hw
    simp only [Array.mk.injEq, List.cons.injEq, and_true] at hw
    obtain ⟨rfl, rfl, rfl, rfl, rfl, rfl, rfl⟩ := hw
    exact ⟨ba, oa, yp, yc, e, hbl, hlo, e0, e1, e2, e3, e4, e5, e6, hy⟩
theorem allV_take {l : List Ex} {k : Nat} (h : k < l.length) (ha : (l.take k).all isV = true) (hy : isV l[k] = true) : (l.take (k + 1)).all isV = true := by
  rw [List.take_succ_eq_append_getElem h, List.all_append, ha]
  simp [hy]
theorem vals_take {l : List Ex} {k : Nat} (h : k < l.length) : vcells ((l.take (k + 1)).map val3) = vcells ((l.take k).map val3) ++ [.int .i64 l[k].vt, .int .i64 l[k].vn, .string l[k].vs] := by
  rw [List.take_succ_eq_append_getElem h, List.map_append, vcells_append]
  rfl
set_option maxHeartbeats 4000000 in
set_option maxRecDepth 20000 in
theorem reckoned_any (o n : ByteArray) (t k : Int) (s : ByteArray) (p : Option Addr) (N c : Nat) (a : Int) (lo : Nat → Prop) (l : List Ex) (w : World) (henv : REnv w) (hN : l.length = N) (hN2 : N ≤ 1048576) (hp : l.length = 0 ∨ ∃ b off, p = some ⟨b, off, none⟩ ∧ b < w.heap.size ∧ lo b ∧ ExsIn w lo b off l) (hv : ∀ y ∈ l, y.vs.size ≤ 400 ∧ inB y.vn) (R : V3) (B : Bool) (hR : rekP o.data.toList l = if B = true then some R else none) (hR0 : B = false → R = noV) :
    Calls Tryz.prog 75 #[.agg #[.string o, .string n, .int .i64 t, .int .i64 k, .string s, .slice p N c, .int .i64 a]] w fun e w' => e = .returned (.tuple #[.agg #[.int .i64 R.1, .int .i64 R.2.1, .string R.2.2], .bool B]) ∧ Below w.heap.size w w' := by
  obtain ⟨i0, hi, hz0, hz1, hzz⟩ := info_parts info_valF
  have bW : Below w.heap.size w ((w.alloc (.cells #[.string o, .string n, .int .i64 t, .int .i64 k, .string s, .slice p N c, .int .i64 a] 26)).alloc (.cells #[.int .i64 0, .int .i64 0, .string ⟨#[]⟩] 23)) := ((Below.refl _ w).alloc (Nat.le_refl _) _).alloc (by simp) _
  have BOX : Hid (∀ W, Below (w.heap.size + 2) ((w.alloc (.cells #[.string o, .string n, .int .i64 t, .int .i64 k, .string s, .slice p N c, .int .i64 a] 26)).alloc (.cells #[.int .i64 0, .int .i64 0, .string ⟨#[]⟩] 23)) W → (W.cell? ⟨w.heap.size + 1, 0, none⟩ = some (.int .i64 0) ∧ W.cell? ⟨w.heap.size + 1, 1, none⟩ = some (.int .i64 0) ∧ W.cell? ⟨w.heap.size + 1, 2, none⟩ = some (.string ⟨#[]⟩)) ∧ (∀ o, W.frozen? ⟨w.heap.size + 1, o, none⟩ = false) ∧ w.heap.size + 2 ≤ W.heap.size ∧ Below w.heap.size w W ∧ W.cell? ⟨w.heap.size, 0, none⟩ = some (.string o)) := fun W hb => by
    have hz := hb.size
    simp at hz
    refine ⟨⟨?_, ?_, ?_⟩, fun o => ?_, by omega, bW.trans (hb.mono (by omega)), ?_⟩
    · rw [hb.cell (p := ⟨w.heap.size + 1, 0, none⟩) (by simp), World.cell?_alloc_at _ _ _ _ (by simp)]; rfl
    · rw [hb.cell (p := ⟨w.heap.size + 1, 1, none⟩) (by simp), World.cell?_alloc_at _ _ _ _ (by simp)]; rfl
    · rw [hb.cell (p := ⟨w.heap.size + 1, 2, none⟩) (by simp), World.cell?_alloc_at _ _ _ _ (by simp)]; rfl
    · rw [hb.frozen (p := ⟨w.heap.size + 1, o, none⟩) (by simp), World.frozen?_alloc_at _ _ _ _ (by simp)]
    · rw [hb.cell (p := ⟨w.heap.size, 0, none⟩) (by simp), World.cell?_alloc_lt _ _ _ (by simp), World.cell?_alloc_at _ _ _ _ rfl]; rfl
  have HEN : Aside (REnv w) := henv
  have HPA : Aside (l.length = 0 ∨ ∃ b off, p = some ⟨b, off, none⟩ ∧ b < w.heap.size ∧ lo b ∧ ExsIn w lo b off l) := hp
  have HV : Aside (∀ y ∈ l, y.vs.size ≤ 400 ∧ inB y.vn) := hv
  have HNL : Hid (l.length = N) := hN
  have HR : Hid (rekP o.data.toList l = if B = true then some R else none) := hR
  have HR0 : Hid (B = false → R = noV) := hR0
  have hNz : (N : Int) ≤ 1048576 := by omega
  clear henv hp hv hN hR hR0 bW
  go_enter Tryz.func75, Tryz.ntmps75
  go_wp2
  go_loopg [4, 6, 7, 8, 14] N (fun gg s4 _ _ _ s14 wr => ∃ (kk : Nat) (q : Option Addr) (cp : Nat), s14 = .int .i64 kk ∧ s4 = .slice q kk cp ∧ kk ≤ N ∧ N - kk ≤ gg ∧ Aside (wr.ownsRow (w.heap.size + 2) 23 3 (.slice q kk cp) kk (vcells ((l.take kk).map val3))) ∧ Aside (Below (w.heap.size + 2) ((w.alloc (.cells #[.string o, .string n, .int .i64 t, .int .i64 k, .string s, .slice p N c, .int .i64 a] 26)).alloc (.cells #[.int .i64 0, .int .i64 0, .string ⟨#[]⟩] 23)) wr) ∧ Hid ((l.take kk).all isV = true))
  case atStart => exact ⟨0, none, 0, rfl, rfl, Nat.zero_le _, by omega, (show Aside _ from World.ownsRow_nil _ _ _ _), (show Aside _ from Below.refl _ _), (show Hid _ from rfl)⟩
  case round =>
    obtain ⟨kk, q, cp, rfl, rfl, hkk, hg, OW, BW, HA⟩ := hrel
    obtain ⟨⟨z0, z1, z2⟩, zf, hsz, bwr, zo⟩ := BOX.out wr BW.out
    have hl1 : w.heap.size + 1 < wr.heap.size := by omega
    by_cases hlt : kk < N
    · have hltz : (kk : Int) < (N : Int) := by omega
      have h0z : (0 : Int) ≤ (kk : Int) := by omega
      have hk2 : kk < l.length := by rw [HNL.out]; exact hlt
      obtain ⟨ba, oa, yp, yc, rfl, hbl, -, e0, e1, e2, e3, e4, e5, e6, -⟩ := partF_at HPA.out hk2
      have kA : ∀ o, wr.cell? ⟨ba, o, none⟩ = w.cell? ⟨ba, o, none⟩ := fun o => bwr.cell (p := ⟨ba, o, none⟩) hbl
      rw [← kA] at e0 e1 e2 e3 e4 e5 e6
      have hblr : ba < wr.heap.size := by have := bwr.size; omega
      have hyv := (HV.out _ (List.getElem_mem hk2)).1
      have HVT : Hid (vcells ((l.take (kk + 1)).map val3) = vcells ((l.take kk).map val3) ++ [.int .i64 l[kk].vt, .int .i64 l[kk].vn, .string l[kk].vs]) := vals_take hk2
      have HAT : Hid (isV l[kk] = true → (l.take (kk + 1)).all isV = true) := fun h => allV_take hk2 HA.out h
      have HNA : Hid (isV l[kk] = false → l.all isV = false) := fun h => by
        show _ = _
        rw [List.all_eq_false]
        exact ⟨_, List.getElem_mem hk2, by simp [h]⟩
      have HKL : Hid (kk < N) := hlt
      clear kA
      generalize l[kk] = y at e0 e1 e2 e3 e4 e5 e6 hyv HVT HAT HNA
      cases hyV : isV y
      · have cC := const_no y.op y.nm y.vt y.vn y.vs yp y.args.length yc y.pos (wr.alloc (.cells #[.string y.op, .string y.nm, .int .i64 y.vt, .int .i64 y.vn, .string y.vs, .slice yp y.args.length yc, .int .i64 y.pos] 26)) (of_decide_eq_false hyV)
        have hB : B = false ∧ R = noV := by
          have h := HR.out
          rw [rekP, if_neg (by rw [HNA.out hyV]; simp)] at h
          have hb : B = false := by
            cases hB : B
            · rfl
            · rw [hB] at h; simp at h
          exact ⟨hb, HR0.out hb⟩
        obtain ⟨rfl, rfl⟩ := hB
        clear HVT HAT HNA hyV HA hyv
        go_wp2_with fail
        refine cC.mono ?_
        rintro e w4 ⟨rfl, b4⟩
        have B5 : Below (w.heap.size + 2) ((w.alloc (.cells #[.string o, .string n, .int .i64 t, .int .i64 k, .string s, .slice (some ⟨ba, oa, none⟩) N c, .int .i64 a] 26)).alloc (.cells #[.int .i64 0, .int .i64 0, .string ⟨#[]⟩] 23)) w4 := BW.out.trans (((Below.refl _ wr).alloc (by omega) _).trans (b4.mono (by simp; omega)))
        obtain ⟨⟨y0, y1, y2⟩, yf, ysz, ybr, -⟩ := BOX.out _ B5
        have hl4 : w.heap.size + 1 < w4.heap.size := by omega
        obtain ⟨r0, r1, r2⟩ := res3F y0 y1 y2 hl4 (.int .i64 0) (.int .i64 0) (.string ⟨#[]⟩) (.cells #[.int .i64 0, .int .i64 0, .string ⟨#[]⟩] 23)
        clear cC e0 e1 e2 e3 e4 e5 e6 OW b4 B5 BW
        go_wp2
        refine bodyPost_ret (v := .tuple #[.agg #[.int .i64 0, .int .i64 0, .string ⟨#[]⟩], .bool false]) (by simp [results, Tryz.results75, go_sem, r0, r1, r2]) rfl ⟨rfl, ?_⟩
        exact (((ybr.setCell (p := ⟨w.heap.size + 1, 0, none⟩) (by simp) _).setCell (p := ⟨w.heap.size + 1, 1, none⟩) (by simp) _).setCell (p := ⟨w.heap.size + 1, 2, none⟩) (by simp) _).alloc (by simp; omega) _
      · have cC := const_yes y.op y.nm y.vt y.vn y.vs yp y.args.length yc y.pos (wr.alloc (.cells #[.string y.op, .string y.nm, .int .i64 y.vt, .int .i64 y.vn, .string y.vs, .slice yp y.args.length yc, .int .i64 y.pos] 26)) (of_decide_eq_true hyV) (by omega)
        have HA2 : Hid ((l.take (kk + 1)).all isV = true) := HAT.out hyV
        clear HAT HNA hyV HA
        go_wp2_with fail
        refine cC.mono ?_
        rintro e w4 ⟨rfl, b4⟩
        have hz4 : wr.heap.size + 1 ≤ w4.heap.size := by have := b4.size; simpa using this
        have b5 : Below (w.heap.size + 2) wr (w4.alloc (.cells #[.int .i64 y.vt, .int .i64 y.vn, .string y.vs] 23)) := (((Below.refl _ wr).alloc (by omega) _).trans (b4.mono (by simp; omega))).alloc (by omega) _
        have OW4 := lown_below (OW.out.alloc (.cells #[.string y.op, .string y.nm, .int .i64 y.vt, .int .i64 y.vn, .string y.vs, .slice yp y.args.length yc, .int .i64 y.pos] 26)) b4
        have OW5 := OW4.alloc (.cells #[.int .i64 y.vt, .int .i64 y.vn, .string y.vs] 23)
        have BW5 : Aside (Below (w.heap.size + 2) ((w.alloc (.cells #[.string o, .string n, .int .i64 t, .int .i64 k, .string s, .slice (some ⟨ba, oa, none⟩) N c, .int .i64 a] 26)).alloc (.cells #[.int .i64 0, .int .i64 0, .string ⟨#[]⟩] 23)) (w4.alloc (.cells #[.int .i64 y.vt, .int .i64 y.vn, .string y.vs] 23))) := BW.out.trans b5
        clear cC b4 e0 e1 e2 e3 e4 e5 e6 OW OW4 b5 BW
        go_wp2_with (at_builtin; refine wpList_append_own _ rfl _ _ 46 rfl (w.heap.size + 2) 23 i0 _ 3 32 Tryz.underlying46 hi hz0 hz1 hzz rfl (by decide) _ _ _ rfl (OW5.alloc _) ⟨w4.heap.size + 1, 0, none⟩ 1 1 [.int .i64 y.vt, .int .i64 y.vn, .string y.vs] rfl rfl (news_val (by simp) _) (one3F _ _ _) (by simp [maxLen]; omega) (by omega) (by simp; omega) ?_)
        intro v' w5 hown' hgrow _
        obtain ⟨q5, c5, rfl⟩ := lown_slice hown'
        have hlo3 : ∀ j, (Value.slice q kk cp).ownBlock = some j → w.heap.size + 2 ≤ j := fun j hj => (OW5.lt j hj).1
        have bg : Below (w.heap.size + 2) (w4.alloc (.cells #[.int .i64 y.vt, .int .i64 y.vn, .string y.vs] 23)) w5 := ((Below.refl _ _).alloc (by simp; omega) _).grown hgrow (by simp; omega) hlo3
        have BW6 : Aside (Below (w.heap.size + 2) ((w.alloc (.cells #[.string o, .string n, .int .i64 t, .int .i64 k, .string s, .slice (some ⟨ba, oa, none⟩) N c, .int .i64 a] 26)).alloc (.cells #[.int .i64 0, .int .i64 0, .string ⟨#[]⟩] 23)) w5) := BW5.out.trans bg
        have OW6 : Aside (w5.ownsRow (w.heap.size + 2) 23 3 (.slice q5 (kk + 1) c5) (kk + 1) (vcells ((l.take (kk + 1)).map val3))) := by rw [HVT.out, List.map_take]; exact hown'
        clear hown' hgrow OW5 bg BW5 HVT
        go_wp2
        go_roundg (N - (kk + 1))
        case measure => have := HKL.out; omega
        case rel => exact ⟨kk + 1, q5, c5, by go_num, rfl, by have := HKL.out; omega, by omega, OW6, BW6, HA2⟩
    · have hkz : ¬ (kk : Int) < (N : Int) := by omega
      obtain rfl : kk = N := by omega
      have hat : l.take kk = l := by rw [← HNL.out]; exact List.take_length
      have OW1 := OW.out
      have HA1 : Hid (l.all isV = true) := by have h := HA.out; rw [hat] at h; exact h
      rw [hat] at OW1
      obtain ⟨⟨⟨T, K, S⟩, E⟩, hD⟩ : ∃ r, doP o.data.toList (l.map val3) = r := ⟨_, rfl⟩
      have cD := do_any o q cp kk (l.map val3) wr (HEN.out.on bwr) (by rw [List.length_map, HNL.out]) hN2 (ownVals (by rw [List.length_map, HNL.out]) OW1) (fun v hv => by
        obtain ⟨y, hy, rfl⟩ := List.mem_map.1 hv
        have := HV.out y hy
        exact ⟨by show y.vs.size ≤ maxLen; unfold maxLen; omega, this.2⟩) T K S E hD
      have HD : Hid (doP o.data.toList (l.map val3) = ((T, K, S), E)) := hD
      clear hat OW HA hD OW1
      by_cases hE : E = 0
      · subst hE
        rw [show errV 0 = .nilIface from rfl] at cD
        by_cases hK : 0 ≤ K
        · have hKz : ¬ K < 0 := by omega
          have hB : B = true ∧ R = (T, K, S) := by
            have h := HR.out
            rw [rekP, if_pos ⟨HA1.out, by rw [HD.out], by rw [HD.out]; exact hK⟩, HD.out] at h
            cases hB : B
            · rw [hB] at h; simp at h
            · rw [hB] at h; simp at h; exact ⟨rfl, h.symm⟩
          obtain ⟨rfl, rfl⟩ := hB
          clear hK HR HR0 HD
          go_wp2_with fail
          refine cD.mono ?_
          rintro e w4 ⟨rfl, b4⟩
          have B5 : Below (w.heap.size + 2) ((w.alloc (.cells #[.string o, .string n, .int .i64 t, .int .i64 k, .string s, .slice p kk c, .int .i64 a] 26)).alloc (.cells #[.int .i64 0, .int .i64 0, .string ⟨#[]⟩] 23)) w4 := BW.out.trans (b4.mono (by omega))
          obtain ⟨⟨y0, y1, y2⟩, yf, ysz, ybr, -⟩ := BOX.out _ B5
          have hl4 : w.heap.size + 1 < w4.heap.size := by omega
          obtain ⟨r0, r1, r2⟩ := res3F y0 y1 y2 hl4 (.int .i64 T) (.int .i64 K) (.string S) (.cells #[.int .i64 T, .int .i64 K, .string S] 23)
          clear cD b4 B5 BW
          go_wp2
          refine bodyPost_ret (v := .tuple #[.agg #[.int .i64 T, .int .i64 K, .string S], .bool true]) (by simp [results, Tryz.results75, go_sem, r0, r1, r2]) rfl ⟨rfl, ?_⟩
          exact (((ybr.setCell (p := ⟨w.heap.size + 1, 0, none⟩) (by simp) _).setCell (p := ⟨w.heap.size + 1, 1, none⟩) (by simp) _).setCell (p := ⟨w.heap.size + 1, 2, none⟩) (by simp) _).alloc (by simp; omega) _
        · have hKz : K < 0 := by omega
          have hB : B = false ∧ R = noV := by
            have h := HR.out
            rw [rekP, if_neg (by rw [HD.out]; intro hh; exact hK hh.2.2)] at h
            have hb : B = false := by
              cases hB : B
              · rfl
              · rw [hB] at h; simp at h
            exact ⟨hb, HR0.out hb⟩
          obtain ⟨rfl, rfl⟩ := hB
          clear hK HR HR0 HD
          go_wp2_with fail
          refine cD.mono ?_
          rintro e w4 ⟨rfl, b4⟩
          have B5 : Below (w.heap.size + 2) ((w.alloc (.cells #[.string o, .string n, .int .i64 t, .int .i64 k, .string s, .slice p kk c, .int .i64 a] 26)).alloc (.cells #[.int .i64 0, .int .i64 0, .string ⟨#[]⟩] 23)) w4 := BW.out.trans (b4.mono (by omega))
          obtain ⟨⟨y0, y1, y2⟩, yf, ysz, ybr, -⟩ := BOX.out _ B5
          have hl4 : w.heap.size + 1 < w4.heap.size := by omega
          obtain ⟨r0, r1, r2⟩ := res3F y0 y1 y2 hl4 (.int .i64 0) (.int .i64 0) (.string ⟨#[]⟩) (.cells #[.int .i64 T, .int .i64 K, .string S] 23)
          clear cD b4 B5 BW
          go_wp2
          refine bodyPost_ret (v := .tuple #[.agg #[.int .i64 0, .int .i64 0, .string ⟨#[]⟩], .bool false]) (by simp [results, Tryz.results75, go_sem, r0, r1, r2]) rfl ⟨rfl, ?_⟩
          exact (((ybr.setCell (p := ⟨w.heap.size + 1, 0, none⟩) (by simp) _).setCell (p := ⟨w.heap.size + 1, 1, none⟩) (by simp) _).setCell (p := ⟨w.heap.size + 1, 2, none⟩) (by simp) _).alloc (by simp; omega) _
      · have hB : B = false ∧ R = noV := by
          have h := HR.out
          rw [rekP, if_neg (by rw [HD.out]; intro hh; exact hE hh.2.1)] at h
          have hb : B = false := by
            cases hB : B
            · rfl
            · rw [hB] at h; simp at h
          exact ⟨hb, HR0.out hb⟩
        obtain ⟨rfl, rfl⟩ := hB
        rw [show errV E = .iface 57 (.int .i64 E) by rw [errV, if_neg hE]] at cD
        clear HR HR0 HD hE
        go_wp2_with fail
        refine cD.mono ?_
        rintro e w4 ⟨rfl, b4⟩
        have B5 : Below (w.heap.size + 2) ((w.alloc (.cells #[.string o, .string n, .int .i64 t, .int .i64 k, .string s, .slice p kk c, .int .i64 a] 26)).alloc (.cells #[.int .i64 0, .int .i64 0, .string ⟨#[]⟩] 23)) w4 := BW.out.trans (b4.mono (by omega))
        obtain ⟨⟨y0, y1, y2⟩, yf, ysz, ybr, -⟩ := BOX.out _ B5
        have hl4 : w.heap.size + 1 < w4.heap.size := by omega
        obtain ⟨r0, r1, r2⟩ := res3F y0 y1 y2 hl4 (.int .i64 0) (.int .i64 0) (.string ⟨#[]⟩) (.cells #[.int .i64 T, .int .i64 K, .string S] 23)
        clear cD b4 B5 BW
        go_wp2
        refine bodyPost_ret (v := .tuple #[.agg #[.int .i64 0, .int .i64 0, .string ⟨#[]⟩], .bool false]) (by simp [results, Tryz.results75, go_sem, r0, r1, r2]) rfl ⟨rfl, ?_⟩
        exact (((ybr.setCell (p := ⟨w.heap.size + 1, 0, none⟩) (by simp) _).setCell (p := ⟨w.heap.size + 1, 1, none⟩) (by simp) _).setCell (p := ⟨w.heap.size + 1, 2, none⟩) (by simp) _).alloc (by simp; omega) _
end Go.Proofs.YtknibfhoecgjlaaGreatDoor
namespace Go.Proofs.YtknibfhoecgjlaaGreatDoor
open Go.RowKit
set_option linter.unusedVariables false

theorem info_exF : (Tryz.prog.info? 26).map (fun i => (i.zero, i.size, i.bytes)) = some (some (.agg #[.string ⟨#[]⟩, .string ⟨#[]⟩, .int .i64 0, .int .i64 0, .string ⟨#[]⟩, .slice none 0 0, .int .i64 0]), 7, 96) := by kernel_rfl
/-- append to a slice that is one's own, inside a statement that draws its order: the new slice lies where the old one lay, or in a new block. -/
theorem step_append_new {P : Program} {ops : Array Oper} {o : Oper} {a : Act} {w : World} {K : Act → World → Prop} {Q : Exit → Act → World → Prop} {E : Prop}
    (hg : o.guard = none) (s x : Operand) (t : TypeId) (hop : o.op = Op.call { callee := Callee.builtin Builtin.append, args := #[s, x], argTypes := #[t, t] })
    (base : Nat) (e : TypeId) (i : TypeInfo) (z : Value) (size bytes : Nat) (h1 : P.underlying t = some (.slice e)) (h2 : P.info? e = some i) (h3 : i.zero = some z) (h4 : i.size = size) (h5 : i.bytes = bytes) (h6 : z.cells.size = size) (h7 : 0 < size)
    (v : Value) (n : Nat) (xs : List Value) (hs : a.eval s = v) (hown : w.ownsRow base e size v n xs)
    (ad : Addr) (m c : Nat) (news : List Value) (hx : a.eval x = .slice (some ad) m c) (hn : news.length = m * size) (hc : ∀ j u, news[j]? = some u → w.cell? (ad.add j) = some u) (h1c : ∀ u ∈ news, u.oneCell' = true) (hm : 0 < m)
    (b1 : n + m ≤ maxLen) (b2 : (n + m) * bytes ≤ 140737488355328) (hb : base ≤ w.heap.size)
    (hK : ∀ q' c' w', w'.ownsRow base e size (.slice q' (n + m) c') (n + m) (xs ++ news) → w.grownBy w' v.ownBlock → ((Value.slice q' (n + m) c').ownBlock = v.ownBlock ∨ (Value.slice q' (n + m) c').ownBlock = some w.heap.size) → K (a.put o.dst (.slice q' (n + m) c')) w') :
    if Region.wanted o (yielded ops a.tmps) = true then Oper.wp P o a w K Q else E := by
  have hw : Region.wanted o (yielded ops a.tmps) = true := by simp [Region.wanted, hg]
  rw [if_pos hw]
  obtain ⟨v', w', hrun, r1, r2, _⟩ := run_append_own (P := P) w base t o.type e i z size bytes h1 h2 h3 h4 h5 h6 h7 v n xs hown ad m c news hn hc h1c b1 b2 hb
  have h5' : v'.ownBlock = v.ownBlock ∨ v'.ownBlock = some w.heap.size := by
    subst h4
    subst h5
    exact append_block w base t o.type e i z h1 h2 h3 v n xs hown ad m c news hn hc h1c hm b1 b2 hrun
  obtain ⟨q', c', rfl⟩ := lown_slice r1
  unfold Oper.wp
  simp [execOp, hop, resolve, invoke, builtin, hs, hx, hrun, Result.andThen]
  exact hK q' c' w' r1 r2 h5'
theorem one7 (o n : ByteArray) (t k : Int) (s : ByteArray) (p : Option Addr) (m c : Nat) (a : Int) : ∀ u ∈ ([.string o, .string n, .int .i64 t, .int .i64 k, .string s, .slice p m c, .int .i64 a] : List Value), u.oneCell' = true := by
  intro u hu
  simp at hu
  rcases hu with rfl | rfl | rfl | rfl | rfl | rfl | rfl <;> rfl
theorem grown_box {w4 w9 : World} {ob : Obj} {row : Option Nat} {b o : Nat} {v : Value} (hg : (w4.alloc ob).grownBy w9 row) (hb : b < w4.heap.size) (hne : some b ≠ row) (hc : w4.cell? ⟨b, o, none⟩ = some v) (hf : w4.frozen? ⟨b, o, none⟩ = false) : w9.cell? ⟨b, o, none⟩ = some v ∧ w9.frozen? ⟨b, o, none⟩ = false ∧ b < w9.heap.size := by
  have hA : Below w4.heap.size w4 (w4.alloc ob) := (Below.refl _ w4).alloc (Nat.le_refl _) ob
  have hk := hg.block b (by simp; omega) hne
  have hs := hg.size
  simp at hs
  refine ⟨?_, ?_, by omega⟩
  · rw [World.cell?_of_block (w := w4.alloc ob) (a := ⟨b, o, none⟩) hk, hA.cell (p := ⟨b, o, none⟩) hb]; exact hc
  · have e : w9.frozen? ⟨b, o, none⟩ = (w4.alloc ob).frozen? ⟨b, o, none⟩ := by simp only [World.frozen?, hk]
    rw [e, hA.frozen (p := ⟨b, o, none⟩) hb]; exact hf
theorem args_push {wr W w9 : World} {B k cp c9 : Nat} {q q9 : Option Addr} {xs : List Ex} {cs : List Value} {b0 b1 b2 b3 b4 b5 b6 : Value} {x : Ex} (h1 : wr.ownsRow B 26 7 (.slice q k cp) k cs) (hlen : xs.length = k)
    (pR : ∀ j (h : j < xs.length), ∃ a0 a1 a2 a3 a4 a5 a6, cs[j * 7]? = some a0 ∧ cs[j * 7 + 1]? = some a1 ∧ cs[j * 7 + 2]? = some a2 ∧ cs[j * 7 + 3]? = some a3 ∧ cs[j * 7 + 4]? = some a4 ∧ cs[j * 7 + 5]? = some a5 ∧ cs[j * 7 + 6]? = some a6 ∧ ExIn wr (fun b => B ≤ b ∧ some b ≠ (Value.slice q k cp).ownBlock) (.agg #[a0, a1, a2, a3, a4, a5, a6]) xs[j])
    (bW : Below wr.heap.size wr W) (hB : B ≤ wr.heap.size) (hx : ExIn W (fun b => wr.heap.size ≤ b) (.agg #[b0, b1, b2, b3, b4, b5, b6]) x) (hown' : w9.ownsRow B 26 7 (.slice q9 (k + 1) c9) (k + 1) (cs ++ [b0, b1, b2, b3, b4, b5, b6])) (hg : W.grownBy w9 (Value.slice q k cp).ownBlock)
    (hf : (Value.slice q9 (k + 1) c9).ownBlock = (Value.slice q k cp).ownBlock ∨ (Value.slice q9 (k + 1) c9).ownBlock = some W.heap.size) : ArgsOwn w9 B (.slice q9 (k + 1) c9) (xs ++ [x]) := by
  subst hlen
  have hob : ∀ j, (Value.slice q xs.length cp).ownBlock = some j → j < wr.heap.size := fun j hj => (h1.lt j hj).2
  refine ArgsOwn.push (w := W) (lown_below h1 bW) (fun j hj => ?_) (ExIn.low (fun b _ hb => ⟨by omega, fun e => by have := hob b e.symm; omega⟩) _ _ hx) hown' hg hf
  obtain ⟨a0, a1, a2, a3, a4, a5, a6, e0, e1, e2, e3, e4, e5, e6, hy⟩ := pR j hj
  exact ⟨a0, a1, a2, a3, a4, a5, a6, e0, e1, e2, e3, e4, e5, e6, hy.on bW⟩
theorem short_step {w1 wr w4 w9 : World} {ya ob : Obj} {k cp c9 : Nat} {q q9 : Option Addr} {xs : List Ex} {cs : List Value} {a0 a1 a2 a3 a4 a6 b0 b1 b2 b3 b4 b5 b6 : Value} {x : Ex} (BW : Below w1.heap.size w1 wr) (BX : Box7 wr w1.heap.size a0 a1 a2 a3 a4 (.slice q k cp) a6) (h1 : wr.ownsRow (w1.heap.size + 1) 26 7 (.slice q k cp) k cs) (hlen : xs.length = k)
    (pR : ∀ j (h : j < xs.length), ∃ a0 a1 a2 a3 a4 a5 a6, cs[j * 7]? = some a0 ∧ cs[j * 7 + 1]? = some a1 ∧ cs[j * 7 + 2]? = some a2 ∧ cs[j * 7 + 3]? = some a3 ∧ cs[j * 7 + 4]? = some a4 ∧ cs[j * 7 + 5]? = some a5 ∧ cs[j * 7 + 6]? = some a6 ∧ ExIn wr (fun b => w1.heap.size + 1 ≤ b ∧ some b ≠ (Value.slice q k cp).ownBlock) (.agg #[a0, a1, a2, a3, a4, a5, a6]) xs[j])
    (Bz : Below (wr.heap.size + 1) (wr.alloc ya) w4) (hx : ExIn w4 (fun b => wr.heap.size + 1 ≤ b) (.agg #[b0, b1, b2, b3, b4, b5, b6]) x) (hown' : w9.ownsRow (w1.heap.size + 1) 26 7 (.slice q9 (k + 1) c9) (k + 1) (cs ++ [b0, b1, b2, b3, b4, b5, b6])) (hg : (w4.alloc ob).grownBy w9 (Value.slice q k cp).ownBlock)
    (hf : (Value.slice q9 (k + 1) c9).ownBlock = (Value.slice q k cp).ownBlock ∨ (Value.slice q9 (k + 1) c9).ownBlock = some (w4.alloc ob).heap.size) :
    Box7 (w9.setCell ⟨w1.heap.size, 5, none⟩ (.slice q9 (k + 1) c9)) w1.heap.size a0 a1 a2 a3 a4 (.slice q9 (k + 1) c9) a6 ∧ ArgsOwn (w9.setCell ⟨w1.heap.size, 5, none⟩ (.slice q9 (k + 1) c9)) (w1.heap.size + 1) (.slice q9 (k + 1) c9) (xs ++ [x]) ∧ Below w1.heap.size w1 (w9.setCell ⟨w1.heap.size, 5, none⟩ (.slice q9 (k + 1) c9)) := by
  have hl := BX.lt
  have bW : Below wr.heap.size wr (w4.alloc ob) := (((Below.refl _ wr).alloc (Nat.le_refl _) ya).trans (Bz.mono (by omega))).alloc (by have := Bz.size; simp at this; omega) ob
  have hsW := bW.size
  have hob : ∀ j, (Value.slice q k cp).ownBlock = some j → w1.heap.size + 1 ≤ j := fun j hj => (h1.lt j hj).1
  have hA := args_push h1 hlen pR bW (by omega) (ExIn.low (fun b _ hb => by omega) _ _ (hx.on ((Below.refl _ w4).alloc (Nat.le_refl _) ob))) hown' hg hf
  have hne : ∀ o, w9.cell? ⟨w1.heap.size, o, none⟩ = wr.cell? ⟨w1.heap.size, o, none⟩ := fun o => by
    rw [World.cell?_of_block (w := w4.alloc ob) (a := ⟨w1.heap.size, o, none⟩) (hg.block w1.heap.size (by omega) (fun e => by have := hob _ e.symm; omega)), bW.cell (p := ⟨w1.heap.size, o, none⟩) hl]
  have hnf : ∀ o, w9.frozen? ⟨w1.heap.size, o, none⟩ = false := fun o => by
    rw [World.frozen?_of_block (w := w4.alloc ob) (a := ⟨w1.heap.size, o, none⟩) (hg.block w1.heap.size (by omega) (fun e => by have := hob _ e.symm; omega)), bW.frozen (p := ⟨w1.heap.size, o, none⟩) hl]
    exact BX.fz o
  have hs9 := hg.size
  refine ⟨⟨?_, ?_, ?_, ?_, ?_, ?_, ?_, fun o => ?_, by simp [World.setCell]; omega⟩, hA.but ((But.refl w1.heap.size w9).set 5 _) (by omega), ?_⟩
  · have h := BX.c0; rw [← hne] at h; simp [World.cell?_setCell_other, h]
  · have h := BX.c1; rw [← hne] at h; simp [World.cell?_setCell_other, h]
  · have h := BX.c2; rw [← hne] at h; simp [World.cell?_setCell_other, h]
  · have h := BX.c3; rw [← hne] at h; simp [World.cell?_setCell_other, h]
  · have h := BX.c4; rw [← hne] at h; simp [World.cell?_setCell_other, h]
  · have h := BX.c5; rw [← hne] at h; simp [World.cell?_setCell_same, h]
  · have h := BX.c6; rw [← hne] at h; simp [World.cell?_setCell_other, h]
  · simpa using hnf o
  · exact ((BW.trans (bW.mono (by omega))).grown hg (by omega) (fun j hj => by have := hob j hj; omega)).setCell (p := ⟨w1.heap.size, 5, none⟩) (Nat.le_refl _) _
theorem Box7.below {w w' : World} {n b : Nat} {a0 a1 a2 a3 a4 a5 a6 : Value} (h : Box7 w b a0 a1 a2 a3 a4 a5 a6) (hb : Below n w w') (hn : b < n) : Box7 w' b a0 a1 a2 a3 a4 a5 a6 := by
  have hc : ∀ o, w'.cell? ⟨b, o, none⟩ = w.cell? ⟨b, o, none⟩ := fun o => hb.cell (p := ⟨b, o, none⟩) hn
  exact ⟨by rw [hc]; exact h.c0, by rw [hc]; exact h.c1, by rw [hc]; exact h.c2, by rw [hc]; exact h.c3, by rw [hc]; exact h.c4, by rw [hc]; exact h.c5, by rw [hc]; exact h.c6, fun o => by rw [hb.frozen (p := ⟨b, o, none⟩) hn]; exact h.fz o, by have := h.lt; have := hb.size; omega⟩
theorem fd_take {l : List Ex} {k : Nat} (h : k < l.length) : (l.map fdP).take (k + 1) = (l.map fdP).take k ++ [fdP l[k]] := by
  rw [List.take_succ_eq_append_getElem (by rw [List.length_map]; exact h), List.getElem_map]
/-- What is asked of a node's texts. -/
def TxS (x : Ex) : Prop := AllN (fun q => q.op.size ≤ 400 ∧ q.nm.size ≤ 400 ∧ q.vs.size ≤ 400 ∧ q.args.length ≤ 3) x
end Go.Proofs.YtknibfhoecgjlaaGreatDoor
namespace Go.Proofs.YtknibfhoecgjlaaGreatDoor
open Go.RowKit
set_option linter.unusedVariables false

theorem own_grown {w w' : World} {B B' : Nat} {e e' : TypeId} {size size' n m : Nat} {u v : Value} {xs ys : List Value} (h : w.ownsRow B e size u n xs) (h' : w.ownsRow B' e' size' v m ys) (hne : e ≠ e') (hg : w.grownBy w' v.ownBlock) : w'.ownsRow B e size u n xs := by
  refine ⟨h.1, ?_⟩
  rcases h.2 with hn | ⟨g, cap, cur, rfl, h1, hgg, rest⟩
  · exact .inl hn
  · refine .inr ⟨g, cap, cur, rfl, h1, ?_, rest⟩
    rw [hg.block g (Array.getElem?_eq_some_iff.1 hgg).1 (fun hb => ?_)]
    · exact hgg
    · rcases h'.2 with ⟨rfl, _⟩ | ⟨g', cap', cur', rfl, _, hgg', _⟩
      · simp [Value.ownBlock] at hb
      · have : g = g' := by simpa [Value.ownBlock] using hb
        subst this
        rw [hgg] at hgg'
        injection hgg' with hgg'
        injection hgg' with _ h2 _
        exact hne h2
/-- Expressions that are gathered in a slice of one's own, from block B on, beside another list in block u. -/
def ArgsO (w : World) (B : Nat) (v : Value) (u : Option Nat) (xs : List Ex) : Prop := ∃ cs : List Value, w.ownsRow B 26 7 v xs.length cs ∧
  ∀ j (h : j < xs.length), ∃ a0 a1 a2 a3 a4 a5 a6, cs[j * 7]? = some a0 ∧ cs[j * 7 + 1]? = some a1 ∧ cs[j * 7 + 2]? = some a2 ∧ cs[j * 7 + 3]? = some a3 ∧ cs[j * 7 + 4]? = some a4 ∧ cs[j * 7 + 5]? = some a5 ∧ cs[j * 7 + 6]? = some a6 ∧ ExIn w (fun b => B ≤ b ∧ some b ≠ v.ownBlock ∧ some b ≠ u) (.agg #[a0, a1, a2, a3, a4, a5, a6]) xs[j]
theorem argsO_nil (w : World) (B : Nat) (u : Option Nat) : ArgsO w B (.slice none 0 0) u [] := ⟨[], World.ownsRow_nil _ _ _ _, fun j h => absurd h (Nat.not_lt_zero _)⟩
theorem ArgsO.own {w : World} {B : Nat} {v : Value} {u : Option Nat} {xs : List Ex} (h : ArgsO w B v u xs) : ArgsOwn w B v xs := by
  obtain ⟨cs, h1, h2⟩ := h
  refine ⟨cs, h1, fun j hj => ?_⟩
  obtain ⟨a0, a1, a2, a3, a4, a5, a6, e0, e1, e2, e3, e4, e5, e6, hx⟩ := h2 j hj
  exact ⟨a0, a1, a2, a3, a4, a5, a6, e0, e1, e2, e3, e4, e5, e6, ExIn.low (fun b _ hb => ⟨hb.1, hb.2.1⟩) _ _ hx⟩
theorem ArgsO.on {w w' : World} {B : Nat} {v : Value} {u : Option Nat} {xs : List Ex} (h : ArgsO w B v u xs) (hb : Below w.heap.size w w') : ArgsO w' B v u xs := by
  obtain ⟨cs, h1, h2⟩ := h
  refine ⟨cs, lown_below h1 hb, fun j hj => ?_⟩
  obtain ⟨a0, a1, a2, a3, a4, a5, a6, e0, e1, e2, e3, e4, e5, e6, hx⟩ := h2 j hj
  exact ⟨a0, a1, a2, a3, a4, a5, a6, e0, e1, e2, e3, e4, e5, e6, hx.on hb⟩
/-- The other list grows. -/
theorem ArgsO.other {w w' : World} {B B' m size : Nat} {e' : TypeId} {v u u' : Value} {ys : List Value} {xs : List Ex} (h : ArgsO w B v u.ownBlock xs) (hu : w.ownsRow B' e' size u m ys) (hne : 26 ≠ e') (hg : w.grownBy w' u.ownBlock) (hf : u'.ownBlock = u.ownBlock ∨ u'.ownBlock = some w.heap.size) : ArgsO w' B v u'.ownBlock xs := by
  obtain ⟨cs, h1, h2⟩ := h
  refine ⟨cs, own_grown h1 hu hne hg, fun j hj => ?_⟩
  obtain ⟨a0, a1, a2, a3, a4, a5, a6, e0, e1, e2, e3, e4, e5, e6, hx⟩ := h2 j hj
  have h3 := ExIn.low (lo' := fun b => (B ≤ b ∧ some b ≠ v.ownBlock ∧ some b ≠ u.ownBlock) ∧ b < w.heap.size) (fun b hb hb2 => ⟨hb2, hb⟩) _ _ hx
  have h4 := ExIn.keep (w' := w') hg.size (fun b o hb _ => by simp only [World.cell?, hg.block b hb.2 hb.1.2.2]) _ _ h3
  refine ⟨a0, a1, a2, a3, a4, a5, a6, e0, e1, e2, e3, e4, e5, e6, ExIn.low (fun b _ hb => ⟨hb.1.1, hb.1.2.1, ?_⟩) _ _ h4⟩
  rcases hf with hf | hf
  · rw [hf]; exact hb.1.2.2
  · rw [hf]; intro e; injection e with e; have := hb.2; omega
/-- One more. -/
theorem ArgsO.push {wr W w9 : World} {B k cp c9 : Nat} {q q9 : Option Addr} {u : Option Nat} {xs : List Ex} {cs : List Value} {b0 b1 b2 b3 b4 b5 b6 : Value} {x : Ex} (h1 : wr.ownsRow B 26 7 (.slice q k cp) k cs) (hlen : xs.length = k)
    (pR : ∀ j (h : j < xs.length), ∃ a0 a1 a2 a3 a4 a5 a6, cs[j * 7]? = some a0 ∧ cs[j * 7 + 1]? = some a1 ∧ cs[j * 7 + 2]? = some a2 ∧ cs[j * 7 + 3]? = some a3 ∧ cs[j * 7 + 4]? = some a4 ∧ cs[j * 7 + 5]? = some a5 ∧ cs[j * 7 + 6]? = some a6 ∧ ExIn wr (fun b => B ≤ b ∧ some b ≠ (Value.slice q k cp).ownBlock ∧ some b ≠ u) (.agg #[a0, a1, a2, a3, a4, a5, a6]) xs[j])
    (bW : Below wr.heap.size wr W) (hB : B ≤ wr.heap.size) (hx : ExIn W (fun b => wr.heap.size ≤ b) (.agg #[b0, b1, b2, b3, b4, b5, b6]) x) (hu : ∀ j, u = some j → j < wr.heap.size) (hown' : w9.ownsRow B 26 7 (.slice q9 (k + 1) c9) (k + 1) (cs ++ [b0, b1, b2, b3, b4, b5, b6])) (hg : W.grownBy w9 (Value.slice q k cp).ownBlock)
    (hf : (Value.slice q9 (k + 1) c9).ownBlock = (Value.slice q k cp).ownBlock ∨ (Value.slice q9 (k + 1) c9).ownBlock = some W.heap.size) : ArgsO w9 B (.slice q9 (k + 1) c9) u (xs ++ [x]) := by
  subst hlen
  have hsW := bW.size
  have hob : ∀ j, (Value.slice q xs.length cp).ownBlock = some j → j < wr.heap.size := fun j hj => (h1.lt j hj).2
  have key : ∀ (y : Ex) (z : Value), ExIn W (fun b => B ≤ b ∧ some b ≠ (Value.slice q xs.length cp).ownBlock ∧ some b ≠ u) z y → ExIn w9 (fun b => B ≤ b ∧ some b ≠ (Value.slice q9 (xs.length + 1) c9).ownBlock ∧ some b ≠ u) z y := fun y z hy => by
    have h3 := ExIn.low (lo' := fun b => (B ≤ b ∧ some b ≠ (Value.slice q xs.length cp).ownBlock ∧ some b ≠ u) ∧ b < W.heap.size) (fun b hb hb2 => ⟨hb2, hb⟩) _ _ hy
    have h4 := ExIn.keep (w' := w9) hg.size (fun b o hb _ => by simp only [World.cell?, hg.block b hb.2 hb.1.2.1]) _ _ h3
    refine ExIn.low (fun b _ hb => ⟨hb.1.1, ?_, hb.1.2.2⟩) _ _ h4
    rcases hf with hf | hf
    · rw [hf]; exact hb.1.2.1
    · rw [hf]; intro e; injection e with e; have := hb.2; omega
  have hlen := h1.1
  refine ⟨cs ++ [b0, b1, b2, b3, b4, b5, b6], by rw [List.length_append, List.length_singleton]; exact hown', fun j hj => ?_⟩
  rw [List.length_append, List.length_singleton] at hj
  by_cases hj2 : j < xs.length
  · obtain ⟨a0, a1, a2, a3, a4, a5, a6, e0, e1, e2, e3, e4, e5, e6, hy⟩ := pR j hj2
    refine ⟨a0, a1, a2, a3, a4, a5, a6, ?_, ?_, ?_, ?_, ?_, ?_, ?_, ?_⟩
    · rw [List.getElem?_append_left (by omega)]; exact e0
    · rw [List.getElem?_append_left (by omega)]; exact e1
    · rw [List.getElem?_append_left (by omega)]; exact e2
    · rw [List.getElem?_append_left (by omega)]; exact e3
    · rw [List.getElem?_append_left (by omega)]; exact e4
    · rw [List.getElem?_append_left (by omega)]; exact e5
    · rw [List.getElem?_append_left (by omega)]; exact e6
    · rw [List.getElem_append_left hj2]; exact key _ _ (hy.on bW)
  · obtain rfl : j = xs.length := by omega
    refine ⟨b0, b1, b2, b3, b4, b5, b6, ?_, ?_, ?_, ?_, ?_, ?_, ?_, ?_⟩
    · rw [List.getElem?_append_right (by omega), show xs.length * 7 - cs.length = 0 by omega]; rfl
    · rw [List.getElem?_append_right (by omega), show xs.length * 7 + 1 - cs.length = 1 by omega]; rfl
    · rw [List.getElem?_append_right (by omega), show xs.length * 7 + 2 - cs.length = 2 by omega]; rfl
    · rw [List.getElem?_append_right (by omega), show xs.length * 7 + 3 - cs.length = 3 by omega]; rfl
    · rw [List.getElem?_append_right (by omega), show xs.length * 7 + 4 - cs.length = 4 by omega]; rfl
    · rw [List.getElem?_append_right (by omega), show xs.length * 7 + 5 - cs.length = 5 by omega]; rfl
    · rw [List.getElem?_append_right (by omega), show xs.length * 7 + 6 - cs.length = 6 by omega]; rfl
    · rw [List.getElem_append_right (Nat.le_refl _)]
      simp only [Nat.sub_self, List.getElem_cons_zero]
      exact key _ _ (ExIn.low (fun b _ hb => ⟨by omega, fun e => by have := hob b e.symm; omega, fun e => by have := hu b e.symm; omega⟩) _ _ hx)
end Go.Proofs.YtknibfhoecgjlaaGreatDoor
