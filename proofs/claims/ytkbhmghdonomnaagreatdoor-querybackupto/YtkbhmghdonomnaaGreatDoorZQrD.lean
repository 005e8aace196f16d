/-
  Package query's reader: a column of a group.
-/
import Derived.Test.YtkbhmghdonomnaaGreatDoorGzAu
import Derived.Deep.RegionLaw
namespace Go.Proofs.YtkbhmghdonomnaaGreatDoor
open Go.RowKit Go.BigFrame
set_option linter.unusedVariables false
set_option linter.unusedSimpArgs false
variable {en : Nat} {WZ : World}

theorem step_append_q {P : Program} {ops : Array Oper} {o : Oper} {a : Act} {w : World} {K : Act → World → Prop} {Q : Exit → Act → World → Prop} {E : Prop}
    (hg : o.guard = none) (s x : Operand) (t : TypeId) (hop : o.op = Op.call { callee := Callee.builtin Builtin.append, args := #[s, x], argTypes := #[t, t] })
    (base : Nat) (e : TypeId) (i : TypeInfo) (z : Value) (size bytes : Nat) (h1 : P.underlying t = some (.slice e)) (h2 : P.info? e = some i) (h3 : i.zero = some z) (h4 : i.size = size) (h5 : i.bytes = bytes) (h6 : z.cells.size = size) (h7 : 0 < size)
    (v : Value) (n : Nat) (xs : List Value) (hs : a.eval s = v) (hown : w.ownsRow base e size v n xs)
    (ad : Addr) (m c : Nat) (news : List Value) (hx : a.eval x = .slice (some ad) m c) (hn : news.length = m * size) (hc : ∀ j u, news[j]? = some u → w.cell? (ad.add j) = some u) (h1c : ∀ u ∈ news, u.oneCell' = true) (hm : 0 < m)
    (b1 : n + m ≤ maxLen) (b2 : (n + m) * bytes ≤ 140737488355328) (hb : base ≤ w.heap.size)
    (hK : ∀ q' c' w', w'.ownsRow base e size (.slice q' (n + m) c') (n + m) (xs ++ news) → w.grownBy w' v.ownBlock → ((Value.slice q' (n + m) c').ownBlock = v.ownBlock ∨ (Value.slice q' (n + m) c').ownBlock = some w.heap.size) → K (a.put o.dst (.slice q' (n + m) c')) w') :
    if Region.wanted o (yielded ops a.tmps) = true then Oper.wp P o a w K Q else E := by
  have hw : Region.wanted o (yielded ops a.tmps) = true := by simp [Region.wanted, hg]
  rw [if_pos hw]
  obtain ⟨v', w', hrun, r1, r2, _⟩ := run_append_own (P := P) w base t o.type e i z size bytes h1 h2 h3 h4 h5 h6 h7 v n xs hown ad m c news hn hc h1c b1 b2 hb
  have h5' : v'.ownBlock = v.ownBlock ∨ v'.ownBlock = some w.heap.size := by
    subst h4
    subst h5
    exact append_block w base t o.type e i z h1 h2 h3 v n xs hown ad m c news hn hc h1c hm b1 b2 hrun
  obtain ⟨q', c', rfl⟩ := lown_slice r1
  unfold Oper.wp
  simp [execOp, hop, resolve, invoke, builtin, hs, hx, hrun, Result.andThen]
  exact hK q' c' w' r1 r2 h5'
theorem own_ne {w : World} {B rb : Nat} {e : TypeId} {sz n : Nat} {v : Value} {xs : List Value} (h : w.ownsRow B e sz v n xs) (hr : rb < B) : some rb ≠ v.ownBlock := fun e => by have := (h.lt rb e.symm).1; omega
theorem Fr.grown {tr : Nat} {S : Nat → Prop} {w w1 w2 : World} {row : Option Nat} (h : Fr tr S w w1) (hg : w1.grownBy w2 row) (hr : ∀ k, row = some k → tr ≤ k ∧ (k < w.heap.size → S k)) (ht : tr ≤ w1.heap.size) : Fr tr S w w2 :=
  ⟨h.below.grown hg ht (fun j hj => (hr j hj).1), fun k hk hkr hn => by
    rw [hg.block k (by have := h.size; omega) (fun e => hn ((hr k e.symm).2 hk))]
    exact h.kept k hk hkr hn⟩
theorem news_str {V : World} {g : Nat} {x : ByteArray} (h : V.cell? ⟨g, 0, none⟩ = some (.string x)) : ∀ j u, ([.string x] : List Value)[j]? = some u → V.cell? ((⟨g, 0, none⟩ : Addr).add j) = some u := fun j u hu => by
  have hj : j = 0 := by have := (List.getElem?_eq_some_iff.1 hu).1; simp at this; omega
  subst hj
  have e : Value.string x = u := by simpa using hu
  subst e
  rw [Go.WideShapes.add_plain]; exact h
theorem set_set (cs : Array Value) (o : Nat) (u v : Value) : (cs.setIfInBounds o u).setIfInBounds o v = cs.setIfInBounds o v := by
  apply Array.ext_getElem?
  intro i
  simp only [Array.getElem?_setIfInBounds, Array.size_setIfInBounds]
  by_cases h : o = i
  · simp [h]
  · simp [h]
/-- How far a group's columns are read. -/
structure GrS (WZ : World) (en : Nat) (W0 W : World) (tr rb : Nat) (BC : Array Value) (ts : List Tok) (gs : List ByteArray) : Prop where
  qh : QH WZ en W tr rb ts
  box : ∃ gq gc, Blk W rb (BC.setIfInBounds 11 (.slice gq gs.length gc)) 55 ∧ W.ownsRow W0.heap.size 9 1 (.slice gq gs.length gc) gs.length (gs.map .string)
  fr : Fr tr (fun k => k = rb) W0 W
  sz : 11 < BC.size
  lt : rb < W0.heap.size
theorem GrS.go {W0 W w' : World} {tr rb : Nat} {BC : Array Value} {ts ts' : List Tok} {gs : List ByteArray} (h : GrS WZ en W0 W tr rb BC ts gs) (hf : Fr tr (fun _ => False) W w') (hq : QH WZ en w' tr rb ts') : GrS WZ en W0 w' tr rb BC ts' gs := by
  obtain ⟨gq, gc, h1, h2⟩ := h.box
  have hne := h.qh.ne
  have hlt := h.lt
  refine ⟨hq, ⟨gq, gc, h1.fr hf (by omega) (fun h => h), ?_⟩, h.fr.trans hf.weak, h.sz, h.lt⟩
  exact own_keep h2 (B' := rb) ⟨hf.size, fun b h1 h2 => hf.kept b h2 (by omega) (fun h => h)⟩ (by omega)
theorem gr_end {W0 W w1 V w9 : World} {tr rb z : Nat} {BC : Array Value} {ts ts' : List Tok} {gs : List ByteArray} {gq q9 : Option Addr} {gc c9 N : Nat} {x : ByteArray} (hN : gs.length = N) (hfr : Fr tr (fun k => k = rb) W0 W) (hsz : 11 < BC.size) (hlt : rb < W0.heap.size) (hne : tr < rb)
    (hz : W.heap.size ≤ z) (q1 : QH WZ en w1 tr rb ts') (f1 : Fr tr (· = z) W w1) (bx : Blk W rb (BC.setIfInBounds 11 (.slice gq N gc)) 55) (ow : w1.ownsRow W0.heap.size 9 1 (.slice gq N gc) N (gs.map .string))
    (hb : Below w1.heap.size w1 V) (hown' : w9.ownsRow W0.heap.size 9 1 (.slice q9 (N + 1) c9) (N + 1) (gs.map .string ++ [.string x])) (hgrow : V.grownBy w9 (Value.slice gq N gc).ownBlock) :
    (w9.cell? ⟨rb, 11, none⟩ = some (.slice gq N gc) ∧ w9.frozen? ⟨rb, 11, none⟩ = false ∧ rb < w9.heap.size) ∧ Aside (GrS WZ en W0 (w9.setCell ⟨rb, 11, none⟩ (.slice q9 (N + 1) c9)) tr rb BC ts' (gs ++ [x])) := by
  subst hN
  have s0 := hfr.size
  have s1 := f1.size
  have b9 : Blk w9 rb (BC.setIfInBounds 11 (.slice gq gs.length gc)) 55 := ((bx.fr f1 (by omega) (by omega)).on hb).grown hgrow (own_ne ow hlt)
  have F1 : Fr tr (fun k => k = rb) W0 w1 := hfr.trans (f1.mono (fun k hk e => by omega))
  have F9 : Fr tr (fun k => k = rb) W0 w9 := (F1.on hb (by omega)).grown hgrow (fun k hk => by
    have := (ow.lt k hk).1
    exact ⟨by omega, fun h => by omega⟩) (by have := hb.size; omega)
  have B10 := b9.set 11 (.slice q9 (gs.length + 1) c9)
  have F10 := F9.set 11 (.slice q9 (gs.length + 1) c9) (b := rb) (by omega) (fun _ => rfl)
  have hr9 : RdAt en w9 tr ts' := (q1.rd.on hb).onB ((Below.refl (tr + 1) V).grown hgrow (by have := hb.size; have := q1.rd.lt; omega) (fun k hk => by have := (ow.lt k hk).1; omega)) hgrow.size
  have hr10 : RdAt en (w9.setCell ⟨rb, 11, none⟩ (.slice q9 (gs.length + 1) c9)) tr ts' := hr9.onB ((Below.refl (tr + 1) w9).setCell (p := ⟨rb, 11, none⟩) hne _) (by simp [World.setCell])
  have hbc : (BC.setIfInBounds 11 (.slice gq gs.length gc)).setIfInBounds 11 (.slice q9 (gs.length + 1) c9) = BC.setIfInBounds 11 (.slice q9 (gs.length + 1) c9) := set_set _ _ _ _
  refine ⟨⟨by rw [b9.cell, Array.getElem?_setIfInBounds, if_pos rfl, if_pos hsz], b9.frozen 11, b9.lt⟩, ?_⟩
  have Q10 : QH WZ en (w9.setCell ⟨rb, 11, none⟩ (.slice q9 (gs.length + 1) c9)) tr rb ts' := by
    have Fq : Fr tr (fun k => k = rb ∨ W0.heap.size ≤ k) w1 (w9.setCell ⟨rb, 11, none⟩ (.slice q9 (gs.length + 1) c9)) := ((Fr.of_below hb (by omega)).grown hgrow (fun k hk => by
      have := (ow.lt k hk).1
      exact ⟨by omega, fun h => .inr this⟩) (by have := hb.size; omega)).set 11 _ (by omega) (fun _ => .inl rfl)
    refine q1.go Fq hr10 List.suffix_rfl ?_
    rw [World.cell?_setCell_other _ _ _ _ (by simp), b9.cell, Array.getElem?_setIfInBounds, if_neg (by decide)]
    have h0 := (bx.fr f1 (by omega) (by omega)).cell 0
    rw [q1.p0, Array.getElem?_setIfInBounds, if_neg (by decide)] at h0
    exact h0.symm
  refine ⟨Q10, ⟨q9, c9, ?_, ?_⟩, F10, hsz, hlt⟩
  · rw [List.length_append, List.length_singleton, ← hbc]; exact B10
  · rw [List.length_append, List.length_singleton, List.map_append]
    exact own_keep hown' (KeepB.set w9 11 _ (Nat.lt_succ_self rb)) (by omega)
set_option maxHeartbeats 4000000 in
set_option maxRecDepth 20000 in
theorem groupCol_q (W0 W : World) (tr rb : Nat) (BC : Array Value) (ts : List Tok) (gs : List ByteArray) (h : GrS WZ en W0 W tr rb BC ts gs) (hl : gs.length ≤ 1000) :
    Calls Tryz.prog 77 #[.pointer (some ⟨rb, 0, none⟩)] W fun e w' => ∃ (R : Bool) (x : ByteArray), e = .returned (.bool R) ∧ Aside (GrS WZ en W0 w' tr rb BC (nU ts).2 (gs ++ [x])) ∧ Hid ((nU ts).1 = if R = true then some x else none) := by
  obtain ⟨qh, ⟨gq, gc, bx, ow⟩, hfr, hsz, hlt⟩ := h
  have hne := qh.ne
  have htl := qh.rd.lt
  have hW := hfr.size
  have bA := al W (.cells #[.string ⟨#[]⟩] 9)
  have Q0 : QH WZ en (W.alloc (.cells #[.string ⟨#[]⟩] 9)) tr rb ts := qh.fr (S := fun _ => False) (Fr.of_below bA (by omega)) (qh.rd.on bA) List.suffix_rfl (fun h => h)
  have cN := name_q _ tr rb ts Q0 W.heap.size 0 #[.string ⟨#[]⟩] 9 (blk_alloc W _ _) (by omega) (by simp) (fun e => by omega)
  obtain ⟨N, hN⟩ : ∃ N, gs.length = N := ⟨_, rfl⟩
  have HN : Hid (gs.length = N) := hN
  rw [hN] at bx ow hl
  obtain ⟨i0, hi, hz0, hz1, hzz⟩ := info_parts info_strA
  have HBX : Aside (Blk W rb (BC.setIfInBounds 11 (.slice gq N gc)) 55) := bx
  have HOW : Aside (W.ownsRow W0.heap.size 9 1 (.slice gq N gc) N (gs.map .string)) := ow
  have HQH : Aside (QH WZ en W tr rb ts) := qh
  have HFR : Aside (Fr tr (fun k => k = rb) W0 W) := hfr
  clear bx ow qh hfr Q0 hN
  go_enter Tryz.func77, Tryz.ntmps77
  go_wp2_with fail
  refine cN.mono ?_
  rintro e w1 ⟨R, x, rfl, Q1, F1, B1, HR⟩
  have FW : Fr tr (· = W.heap.size) W w1 := (Fr.of_below bA (by omega)).trans F1.out
  have s1 := FW.size
  have OW1 : Aside (w1.ownsRow W0.heap.size 9 1 (.slice gq N gc) N (gs.map .string)) := own_keep HOW.out (B' := rb) ⟨s1, fun b h1 h2 => FW.kept b h2 (by omega) (by omega)⟩ (by omega)
  have hc0 : w1.cell? ⟨W.heap.size, 0, none⟩ = some (.string x) := by rw [B1.out.cell]; rfl
  have hzl : W.heap.size < w1.heap.size := B1.out.lt
  have bxw := HBX.out.fr FW (by omega) (by omega)
  have hc11 : w1.cell? ⟨rb, 11, none⟩ = some (.slice gq N gc) := by rw [bxw.cell, Array.getElem?_setIfInBounds, if_pos rfl, if_pos hsz]
  have hrl : rb < w1.heap.size := bxw.lt
  have Own : ∀ V, Below w1.heap.size w1 V → V.ownsRow W0.heap.size 9 1 (.slice gq N gc) N (gs.map .string) := fun V hb => lown_below OW1.out hb
  have End := fun (V w9 : World) (q9 : Option Addr) (c9 : Nat) => gr_end (en := en) (W0 := W0) (W := W) (w1 := w1) (V := V) (w9 := w9) (tr := tr) (rb := rb) (z := W.heap.size) (BC := BC) (ts := ts) (ts' := (nU ts).2) (gs := gs) (gq := gq) (q9 := q9) (gc := gc) (c9 := c9) (N := N) (x := x) HN.out HFR.out hsz hlt hne (Nat.le_refl _) Q1.out FW HBX.out OW1.out
  have hW0 : W0.heap.size ≤ w1.heap.size := by omega
  clear cN HBX HOW HQH HFR Q1 F1 B1 FW OW1 bxw
  generalize gs.map Value.string = GS at *
  go_wp2
  go_region_law (refine step_append_q rfl (.tmp 12) (.tmp 14) 27 rfl W0.heap.size 9 i0 _ 1 16 Tryz.underlying27 hi hz0 hz1 hzz rfl (by decide) (.slice gq N gc) N GS (by simp [Act.eval]) (Own _ (by repeat (first | exact Below.refl _ _ | refine Below.drew ?_ | refine below_alloc ?_ (Nat.le_refl _) _))) ⟨w1.heap.size, 0, none⟩ 1 1 [.string x] (by simp [Act.eval]) rfl (news_str (by simp)) (by intro u hu; simp at hu; subst hu; rfl) (by decide) (by simp [maxLen]; omega) (by omega) (by simp; omega) ?_; intro q9 c9 w9 hown' hgrow hfr'; obtain ⟨⟨k1, k2, k3⟩, KS⟩ := End _ w9 q9 c9 (by repeat (first | exact Below.refl _ _ | refine Below.drew ?_ | refine below_alloc ?_ (Nat.le_refl _) _)) hown' hgrow)
  all_goals
    go_wp2
    go_ret
    exact ⟨R, x, rfl, KS, HR⟩
end Go.Proofs.YtkbhmghdonomnaaGreatDoor
