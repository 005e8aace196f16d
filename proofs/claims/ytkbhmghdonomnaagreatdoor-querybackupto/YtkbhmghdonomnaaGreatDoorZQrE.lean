/-
  Package query's reader: an aggregate.
-/
import Derived.Test.YtkbhmghdonomnaaGreatDoorGzAr
namespace Go.Proofs.YtkbhmghdonomnaaGreatDoor
open Go.RowKit Go.BigFrame
set_option linter.unusedVariables false
set_option linter.unusedSimpArgs false
variable {en : Nat} {WZ : World}

theorem info_agE : (Tryz.prog.info? 49).map (fun i => (i.zero, i.size, i.bytes)) = some (some (.agg #[.string ⟨#[]⟩, .string ⟨#[]⟩, .string ⟨#[]⟩, .int .i64 0, .int .i64 0, .string ⟨#[]⟩, .slice none 0 0, .int .i64 0, .string ⟨#[]⟩]), 9, 128) := by kernel_rfl
abbrev agL (a : Ag) (ap : Option Addr) (ac : Nat) : List Value := [.string a.what, .string a.arg.op, .string a.arg.nm, .int .i64 a.arg.vt, .int .i64 a.arg.vn, .string a.arg.vs, .slice ap a.arg.args.length ac, .int .i64 a.arg.pos, .string a.name]
theorem ag_one' (a : Ag) (ap : Option Addr) (ac : Nat) : ∀ u ∈ agL a ap ac, u.oneCell' = true := by
 intro u hu
 simp at hu
 rcases hu with rfl | rfl | rfl | rfl | rfl | rfl | rfl | rfl | rfl <;> rfl
theorem news_blk {V : World} {g : Nat} {cs : List Value} {t : TypeId} (h : V.heap[g]? = some (.cells cs.toArray t (0, 0))) : ∀ j u, cs[j]? = some u → V.cell? ((⟨g, 0, none⟩ : Addr).add j) = some u := fun j u hu => by
 rw [Go.WideShapes.add_plain]
 simp [World.cell?, h, hu]
structure AgS (WZ : World) (en : Nat) (W0 W : World) (tr rb : Nat) (BC : Array Value) (ts : List Tok) (ls : List Ag) : Prop where
 qh : QH WZ en W tr rb ts
 box : ∃ aq ac, Blk W rb (BC.setIfInBounds 14 (.slice aq ls.length ac)) 55 ∧ AgsOwn W W0.heap.size (.slice aq ls.length ac) ls
 fr : Fr tr (fun k => k = rb) W0 W
 sz : 14 < BC.size
 lt : rb < W0.heap.size
theorem AgS.go {W0 W w' : World} {tr rb : Nat} {BC : Array Value} {ts ts' : List Tok} {ls : List Ag} (h : AgS WZ en W0 W tr rb BC ts ls) (hf : Fr tr (fun _ => False) W w') (hq : QH WZ en w' tr rb ts') : AgS WZ en W0 w' tr rb BC ts' ls := by
 obtain ⟨gq, gc, h1, h2⟩ := h.box
 have hne := h.qh.ne
 have hlt := h.lt
 refine ⟨hq, ⟨gq, gc, h1.fr hf (by omega) (fun h => h), ?_⟩, h.fr.trans hf.weak, h.sz, h.lt⟩
 exact h2.keepB (B' := rb) ⟨hf.size, fun b h1 h2 => hf.kept b h2 (by omega) (fun h => h)⟩ (by omega)
theorem ag_end {W0 W w1 V w9 : World} {tr rb : Nat} {BC : Array Value} {ts' : List Tok} {ls : List Ag} {aq q9 : Option Addr} {ac0 c9 N : Nat} {a : Ag} {ap : Option Addr} {ac : Nat} {CS : List Value} (hN : ls.length = N) (hfr : Fr tr (fun k => k = rb) W0 W) (hsz : 14 < BC.size) (hlt : rb < W0.heap.size) (hne : tr < rb)
  (q1 : QH WZ en w1 tr rb ts') (f1 : Fr tr (W.heap.size ≤ ·) W w1) (bx : Blk W rb (BC.setIfInBounds 14 (.slice aq N ac0)) 55)
  (ow : W.ownsRow W0.heap.size 49 9 (.slice aq N ac0) ls.length CS)
  (op : ∀ j (h : j < ls.length), ∃ ap ac, CS[j * 9]? = some (.string ls[j].what) ∧ CS[j * 9 + 1]? = some (.string ls[j].arg.op) ∧ CS[j * 9 + 2]? = some (.string ls[j].arg.nm) ∧ CS[j * 9 + 3]? = some (.int .i64 ls[j].arg.vt) ∧ CS[j * 9 + 4]? = some (.int .i64 ls[j].arg.vn) ∧ CS[j * 9 + 5]? = some (.string ls[j].arg.vs) ∧ CS[j * 9 + 6]? = some (.slice ap ls[j].arg.args.length ac) ∧ CS[j * 9 + 7]? = some (.int .i64 ls[j].arg.pos) ∧ CS[j * 9 + 8]? = some (.string ls[j].name) ∧ ExIn W (fun b => W0.heap.size ≤ b ∧ some b ≠ (Value.slice aq N ac0).ownBlock) (exV ls[j].arg ap ac) ls[j].arg)
  (hx : ExIn w1 (W.heap.size ≤ ·) (exV a.arg ap ac) a.arg)
  (hb : Below w1.heap.size w1 V) (hown' : w9.ownsRow W0.heap.size 49 9 (.slice q9 (N + 1) c9) (N + 1) (CS ++ agL a ap ac)) (hgrow : V.grownBy w9 (Value.slice aq N ac0).ownBlock) (hf : (Value.slice q9 (N + 1) c9).ownBlock = (Value.slice aq N ac0).ownBlock ∨ (Value.slice q9 (N + 1) c9).ownBlock = some V.heap.size) :
  (w9.cell? ⟨rb, 14, none⟩ = some (.slice aq N ac0) ∧ w9.frozen? ⟨rb, 14, none⟩ = false ∧ rb < w9.heap.size) ∧ Aside (AgS WZ en W0 (w9.setCell ⟨rb, 14, none⟩ (.slice q9 (N + 1) c9)) tr rb BC ts' (ls ++ [a])) := by
 subst hN
 have s0 := hfr.size
 have s1 := f1.size
 have k1 : KeepB (rb + 1) W w1 := ⟨s1, fun b h1 h2 => f1.kept b h2 (by omega) (by omega)⟩
 have ow1 := own_keep ow k1 (show rb + 1 ≤ W0.heap.size by omega)
 have ownlt : ∀ k, (Value.slice aq ls.length ac0).ownBlock = some k → W0.heap.size ≤ k ∧ k < W.heap.size := fun k hk => ow.lt k hk
 have b9 : Blk w9 rb (BC.setIfInBounds 14 (.slice aq ls.length ac0)) 55 := ((bx.fr f1 (by omega) (by omega)).on hb).grown hgrow (own_ne ow hlt)
 have F1 : Fr tr (fun k => k = rb) W0 w1 := hfr.trans (f1.mono (fun k hk e => by omega))
 have F9 : Fr tr (fun k => k = rb) W0 w9 := (F1.on hb (by omega)).grown hgrow (fun k hk => by
  have := (ownlt k hk).1
  exact ⟨by omega, fun h => by omega⟩) (by have := hb.size; omega)
 have B10 := b9.set 14 (.slice q9 (ls.length + 1) c9)
 have F10 := F9.set 14 (.slice q9 (ls.length + 1) c9) (b := rb) (by omega) (fun _ => rfl)
 have hr9 : RdAt en w9 tr ts' := (q1.rd.on hb).onB ((Below.refl (tr + 1) V).grown hgrow (by have := hb.size; have := q1.rd.lt; omega) (fun k hk => by have := (ownlt k hk).1; omega)) hgrow.size
 have hr10 : RdAt en (w9.setCell ⟨rb, 14, none⟩ (.slice q9 (ls.length + 1) c9)) tr ts' := hr9.onB ((Below.refl (tr + 1) w9).setCell (p := ⟨rb, 14, none⟩) hne _) (by simp [World.setCell])
 refine ⟨⟨by rw [b9.cell, Array.getElem?_setIfInBounds, if_pos rfl, if_pos hsz], b9.frozen 14, b9.lt⟩, ?_⟩
 have Q10 : QH WZ en (w9.setCell ⟨rb, 14, none⟩ (.slice q9 (ls.length + 1) c9)) tr rb ts' := by
  have Fq : Fr tr (fun k => k = rb ∨ W0.heap.size ≤ k) w1 (w9.setCell ⟨rb, 14, none⟩ (.slice q9 (ls.length + 1) c9)) := ((Fr.of_below hb (by omega)).grown hgrow (fun k hk => by
   have := (ownlt k hk).1
   exact ⟨by omega, fun h => .inr this⟩) (by have := hb.size; omega)).set 14 _ (by omega) (fun _ => .inl rfl)
  refine q1.go Fq hr10 List.suffix_rfl ?_
  rw [World.cell?_setCell_other _ _ _ _ (by simp), b9.cell, Array.getElem?_setIfInBounds, if_neg (by decide)]
  have h0 := (bx.fr f1 (by omega) (by omega)).cell 0
  rw [q1.p0, Array.getElem?_setIfInBounds, if_neg (by decide)] at h0
  exact h0.symm
 have P9 : AgsOwn w9 W0.heap.size (.slice q9 (ls.length + 1) c9) (ls ++ [a]) := by
  refine AgsOwn.push (w := V) (lown_below ow1 hb) (fun j hj => ?_) ?_ hown' hgrow hf
  ·obtain ⟨ap', ac', e0, e1, e2, e3, e4, e5, e6, e7, e8, he⟩ := op j hj
   exact ⟨ap', ac', e0, e1, e2, e3, e4, e5, e6, e7, e8, (exin_keep he k1 (fun b hb => by omega)).on hb⟩
  ·exact (ExIn.low (fun b _ (hk : W.heap.size ≤ b) => ⟨by omega, fun e => by have := (ownlt b e.symm).2; omega⟩) _ _ hx).on hb
 refine ⟨Q10, ⟨q9, c9, ?_, ?_⟩, F10, hsz, hlt⟩
 ·rw [List.length_append, List.length_singleton, ← set_set BC 14 (.slice aq ls.length ac0)]; exact B10
 ·rw [List.length_append, List.length_singleton]
  exact P9.keepB (KeepB.set w9 14 _ (Nat.lt_succ_self rb)) (by omega)
set_option maxHeartbeats 8000000 in
set_option maxRecDepth 20000 in
theorem agg_q (W0 W : World) (tr rb : Nat) (BC : Array Value) (ts : List Tok) (ls : List Ag) (h : AgS WZ en W0 W tr rb BC ts ls) (hl : ls.length ≤ 1000) :
  Calls Tryz.prog 72 #[.pointer (some ⟨rb, 0, none⟩)] W fun e w' => ∃ (R : Bool) (ls' : List Ag), e = .returned (.bool R) ∧ Aside (AgS WZ en W0 w' tr rb BC (aggU ts).2 ls') ∧ Hid ((R = true ∧ ∃ a, (aggU ts).1 = some a ∧ ls' = ls ++ [a]) ∨ (R = false ∧ (aggU ts).1 = none)) := by
 have HS : Aside (AgS WZ en W0 W tr rb BC ts ls) := h
 obtain ⟨qh, ⟨aq, ac0, bx, CS, ow, op⟩, hfr, hsz, hlt⟩ := h
 have hne := qh.ne
 have htl := qh.rd.lt
 have hp0 := qh.p0
 have hrl := qh.lt
 have hW := hfr.size
 have cT := take_q agB _ ent_begs W tr ts qh.rd (fun t ht V hb => begins_q t V (qh.aenv.on hb))
 obtain ⟨N, hN⟩ : ∃ N, ls.length = N := ⟨_, rfl⟩
 obtain ⟨i0, hi, hz0, hz1, hzz⟩ := info_parts info_agE
 have End := fun (w1 V w9 : World) (q9 : Option Addr) (c9 : Nat) (a : Ag) (ap : Option Addr) (ac : Nat) (ts' : List Tok) (q1 : QH WZ en w1 tr rb ts') (f1 : Fr tr (W.heap.size ≤ ·) W w1) (hx : ExIn w1 (W.heap.size ≤ ·) (exV a.arg ap ac) a.arg) => ag_end (en := en) (W0 := W0) (W := W) (w1 := w1) (V := V) (w9 := w9) (tr := tr) (rb := rb) (BC := BC) (ts' := ts') (ls := ls) (aq := aq) (q9 := q9) (ac0 := ac0) (c9 := c9) (N := N) (a := a) (ap := ap) (ac := ac) (CS := CS) hN hfr hsz hlt hne q1 f1 (by rw [← hN]; exact bx) (by rw [← hN]; exact ow) (by rw [← hN]; exact op) hx
 have Own : ∀ w1 V, Fr tr (W.heap.size ≤ ·) W w1 → Below w1.heap.size w1 V → V.ownsRow W0.heap.size 49 9 (.slice aq N ac0) N CS := fun w1 V f1 hb => by
  rw [← hN]
  exact lown_below (own_keep ow (B' := rb + 1) ⟨f1.size, fun b h1 h2 => f1.kept b h2 (by omega) (by omega)⟩ (by omega)) hb
 have C14 : ∀ w1, Fr tr (W.heap.size ≤ ·) W w1 → w1.cell? ⟨rb, 14, none⟩ = some (.slice aq N ac0) ∧ rb < w1.heap.size := fun w1 f1 => by
  have b1 := bx.fr f1 (by omega) (by omega)
  exact ⟨by rw [b1.cell, Array.getElem?_setIfInBounds, if_pos rfl, if_pos hsz, hN], b1.lt⟩
 have HQ : Aside (QH WZ en W tr rb ts) := qh
 rw [hN] at hl
 clear bx ow op qh hfr hN
 go_enter Tryz.func72, Tryz.ntmps72
 go_wp2_with fail
 refine cT.mono ?_
 rintro e w1 ⟨R1, k, tx, ta, rs1, rfl, hr1, bt1, HR⟩
 have s1 := bt1.out.size
 have bT := al w1 (.cells #[.int .i64 k, .string tx, .int .i64 ta] 80)
 have F1 : Fr tr (fun _ => False) W (w1.alloc (.cells #[.int .i64 k, .string tx, .int .i64 ta] 80)) := (Fr.of_but bt1.out).on bT (by omega)
 clear cT
 cases R1
 ·rcases HR.out with ⟨-, h1, rfl, rfl⟩ | ⟨h2, -⟩
  ·have HA : Hid (aggU rs1 = (none, rs1)) := by show _ = _; rw [aggU, h1]
   have S1 := HS.out.go F1 (HQ.out.fr F1 (hr1.out.on bT) List.suffix_rfl (fun h => h))
   clear End Own C14 HS HQ hr1 bt1 HR
   go_wp2
   go_ret
   refine ⟨false, ls, rfl, ?_, .inr ⟨rfl, ?_⟩⟩
   ·rw [HA.out]; exact S1
   ·rw [HA.out]
  ·exact absurd h2 (by decide)
 ·obtain ⟨ta', h1⟩ : ∃ ta', nxT agB ts = some ((k, tx, ta'), rs1) := by
   rcases HR.out with ⟨h2, -⟩ | ⟨-, h3⟩
   ·exact absurd h2 (by decide)
   ·exact h3
  have HA0 : Hid (aggU ts = thU (argU tx.data.toList rs1) fun x rs => thU (asU rs) fun n rs => (some ⟨tx, x, n⟩, rs)) := by show _ = _; rw [aggU, h1]
  have Q1 : QH WZ en (w1.alloc (.cells #[.int .i64 k, .string tx, .int .i64 ta] 80)) tr rb rs1 := HQ.out.fr F1 (hr1.out.on bT) (nx_suf h1) (fun h => h)
  clear HS HQ hr1 bt1 HR h1
  have bZ := al (w1.alloc (.cells #[.int .i64 k, .string tx, .int .i64 ta] 80)) (.cells #[.string tx, .string ⟨#[]⟩, .string ⟨#[]⟩, .int .i64 0, .int .i64 0, .string ⟨#[]⟩, .slice none 0 0, .int .i64 0, .string ⟨#[]⟩] 49)
  have Z0 : Blk ((w1.alloc (.cells #[.int .i64 k, .string tx, .int .i64 ta] 80)).alloc (.cells #[.string tx, .string ⟨#[]⟩, .string ⟨#[]⟩, .int .i64 0, .int .i64 0, .string ⟨#[]⟩, .slice none 0 0, .int .i64 0, .string ⟨#[]⟩] 49)) (w1.heap.size + 1) #[.string tx, .string ⟨#[]⟩, .string ⟨#[]⟩, .int .i64 0, .int .i64 0, .string ⟨#[]⟩, .slice none 0 0, .int .i64 0, .string ⟨#[]⟩] 49 := by
   have := blk_alloc (w1.alloc (.cells #[.int .i64 k, .string tx, .int .i64 ta] 80)) #[.string tx, .string ⟨#[]⟩, .string ⟨#[]⟩, .int .i64 0, .int .i64 0, .string ⟨#[]⟩, .slice none 0 0, .int .i64 0, .string ⟨#[]⟩] 49
   simpa using this
  have FZ : Fr tr (fun _ => False) W ((w1.alloc (.cells #[.int .i64 k, .string tx, .int .i64 ta] 80)).alloc (.cells #[.string tx, .string ⟨#[]⟩, .string ⟨#[]⟩, .int .i64 0, .int .i64 0, .string ⟨#[]⟩, .slice none 0 0, .int .i64 0, .string ⟨#[]⟩] 49)) := F1.on bZ (by simp; omega)
  have QZ : QH WZ en ((w1.alloc (.cells #[.int .i64 k, .string tx, .int .i64 ta] 80)).alloc (.cells #[.string tx, .string ⟨#[]⟩, .string ⟨#[]⟩, .int .i64 0, .int .i64 0, .string ⟨#[]⟩, .slice none 0 0, .int .i64 0, .string ⟨#[]⟩] 49)) tr rb rs1 := Q1.fr (S := fun _ => False) (Fr.of_below bZ (by simp; omega)) (Q1.rd.on bZ) List.suffix_rfl (fun h => h)
  have hzr : tr < (w1.heap.size + 1) := by omega
  have hzW : W.heap.size ≤ (w1.heap.size + 1) := by omega
  have cA := as_q ((w1.alloc (.cells #[.int .i64 k, .string tx, .int .i64 ta] 80)).alloc (.cells #[.string tx, .string ⟨#[]⟩, .string ⟨#[]⟩, .int .i64 0, .int .i64 0, .string ⟨#[]⟩, .slice none 0 0, .int .i64 0, .string ⟨#[]⟩] 49)) tr rb rs1 QZ (w1.heap.size + 1) 8 #[.string tx, .string ⟨#[]⟩, .string ⟨#[]⟩, .int .i64 0, .int .i64 0, .string ⟨#[]⟩, .slice none 0 0, .int .i64 0, .string ⟨#[]⟩] 49 Z0 hzr ⟨#[]⟩ rfl (fun e => by omega)
  have cB := bracketed_q ((w1.alloc (.cells #[.int .i64 k, .string tx, .int .i64 ta] 80)).alloc (.cells #[.string tx, .string ⟨#[]⟩, .string ⟨#[]⟩, .int .i64 0, .int .i64 0, .string ⟨#[]⟩, .slice none 0 0, .int .i64 0, .string ⟨#[]⟩] 49)) tr rb rs1 QZ (w1.heap.size + 1) 1 #[.string tx, .string ⟨#[]⟩, .string ⟨#[]⟩, .int .i64 0, .int .i64 0, .string ⟨#[]⟩, .slice none 0 0, .int .i64 0, .string ⟨#[]⟩] 49 Z0 hzr (by simp) rfl (fun e => by omega)
  have cA2 := fun (V : World) (x : Ex) (xp : Option Addr) (xc : Nat) (rs2 : List Tok) (q : QH WZ en V tr rb rs2) (B : Blk V (w1.heap.size + 1) (agL ⟨tx, x, ⟨#[]⟩⟩ xp xc).toArray 49) => as_q V tr rb rs2 q (w1.heap.size + 1) 8 (agL ⟨tx, x, ⟨#[]⟩⟩ xp xc).toArray 49 B hzr ⟨#[]⟩ rfl (fun e => by omega)
  have hFZ := FZ.size
  simp at hFZ
  have FZW : Fr tr (W.heap.size ≤ ·) W ((w1.alloc (.cells #[.int .i64 k, .string tx, .int .i64 ta] 80)).alloc (.cells #[.string tx, .string ⟨#[]⟩, .string ⟨#[]⟩, .int .i64 0, .int .i64 0, .string ⟨#[]⟩, .slice none 0 0, .int .i64 0, .string ⟨#[]⟩] 49)) := FZ.weak
  clear Z0 QZ Q1 F1 bZ bT FZ
  by_cases hC : tx.data.toList = wCount
  ·have hq : (tx.toList == [99, 111, 117, 110, 116]) = true := by rw [Lib.toList_data]; simpa using hC
   have HA1 : Hid (aggU ts = thU (asU rs1) fun n rs => (some ⟨tx, ex0, n⟩, rs)) := by show _ = _; rw [HA0.out, argU, if_pos hC]; rfl
   clear cB cA2 hC HA0
   go_wp2_with fail
   refine cA.mono ?_
   rintro e w3 ⟨R, nm, rfl, Q3, F3, B3, HR3⟩
   have B3' : Blk w3 (w1.heap.size + 1) (agL ⟨tx, ex0, nm⟩ none 0).toArray 49 := B3.out
   have HA : Hid (aggU ts = (if R = true then some ⟨tx, ex0, nm⟩ else none, (asU rs1).2)) := by
    show _ = _
    rw [HA1.out]
    cases R
    ·rw [thU_none (rs := (asU rs1).2) (Prod.ext HR3.out rfl)]; rfl
    ·rw [thU_some (x := nm) (rs := (asU rs1).2) (Prod.ext HR3.out rfl)]; rfl
   have F3W : Fr tr (W.heap.size ≤ ·) W w3 := FZW.trans ⟨F3.out.below, fun k hk hkr hn => F3.out.kept k hk hkr (fun e => hn (by omega))⟩
   have m0 : w3.cell? ⟨(w1.heap.size + 1), 0, none⟩ = some (.string tx) := by rw [B3'.cell]; rfl
   have m1 : w3.cell? ⟨(w1.heap.size + 1), 1, none⟩ = some (.string ex0.op) := by rw [B3'.cell]; rfl
   have m2 : w3.cell? ⟨(w1.heap.size + 1), 2, none⟩ = some (.string ex0.nm) := by rw [B3'.cell]; rfl
   have m3 : w3.cell? ⟨(w1.heap.size + 1), 3, none⟩ = some (.int .i64 ex0.vt) := by rw [B3'.cell]; rfl
   have m4 : w3.cell? ⟨(w1.heap.size + 1), 4, none⟩ = some (.int .i64 ex0.vn) := by rw [B3'.cell]; rfl
   have m5 : w3.cell? ⟨(w1.heap.size + 1), 5, none⟩ = some (.string ex0.vs) := by rw [B3'.cell]; rfl
   have m6 : w3.cell? ⟨(w1.heap.size + 1), 6, none⟩ = some (.slice none ex0.args.length 0) := by rw [B3'.cell]; rfl
   have m7 : w3.cell? ⟨(w1.heap.size + 1), 7, none⟩ = some (.int .i64 ex0.pos) := by rw [B3'.cell]; rfl
   have m8 : w3.cell? ⟨(w1.heap.size + 1), 8, none⟩ = some (.string nm) := by rw [B3'.cell]; rfl
   have mzl : (w1.heap.size + 1) < w3.heap.size := B3'.lt
   have Q3' := Q3.out
   clear cA HA1 HR3 B3 B3' F3 FZW Q3
   obtain ⟨m14, mrl⟩ := C14 w3 F3W
   have OwV := fun V hb => Own w3 V F3W hb
   have EndV := fun V w9 q9 c9 => End w3 V w9 q9 c9 ⟨tx, ex0, nm⟩ none 0 (asU rs1).2 Q3' F3W (ex_zero _ _)
   have hW0 : W0.heap.size ≤ w3.heap.size := by have := F3W.size; omega
   clear End Own C14
   go_wp2
   go_region_law (refine step_append_q rfl (.tmp 37) (.tmp 39) 28 rfl W0.heap.size 49 i0 _ 9 128 Tryz.underlying28 hi hz0 hz1 hzz rfl (by decide) (.slice aq N ac0) N CS (by simp [Act.eval]) (OwV _ (by repeat (first | exact Below.refl _ _ | refine Below.drew ?_ | refine below_alloc ?_ (Nat.le_refl _) _))) ⟨w3.heap.size, 0, none⟩ 1 1 (agL ⟨tx, ex0, nm⟩ none 0) (by simp [Act.eval]) rfl (news_blk (t := 49) (by first | exact box_blk _ _ _ | rfl)) (ag_one' _ _ _) (by decide) (by simp [maxLen]; omega) (by omega) (by simp; omega) ?_; intro q9 c9 w9 hown' hgrow hfr'; obtain ⟨⟨k1, k2, k3⟩, KS⟩ := EndV _ w9 q9 c9 (by repeat (first | exact Below.refl _ _ | refine Below.drew ?_ | refine below_alloc ?_ (Nat.le_refl _) _)) hown' hgrow hfr')
   all_goals
    go_wp2
    go_ret
    refine ⟨R, ls ++ [⟨tx, ex0, nm⟩], rfl, ?_, ?_⟩
    ·rw [HA.out]; exact KS
    ·rw [HA.out]
     cases R
     ·exact .inr ⟨rfl, rfl⟩
     ·exact .inl ⟨rfl, _, rfl, rfl⟩
  ·have hq : (tx.toList == [99, 111, 117, 110, 116]) = false := by rw [Lib.toList_data]; simpa using hC
   have HA1 : Hid (aggU ts = thU (brU rs1) fun x rs => thU (asU rs) fun n rs => (some ⟨tx, x, n⟩, rs)) := by show _ = _; rw [HA0.out, argU, if_neg hC]
   clear cA hC HA0
   go_wp2_with fail
   refine cB.mono ?_
   rintro e w3 ⟨R, x, xp, xc, rfl, Q3, F3, B3, E3, HR3⟩
   have B3' : Blk w3 (w1.heap.size + 1) (agL ⟨tx, x, ⟨#[]⟩⟩ xp xc).toArray 49 := B3.out
   have F3W : Fr tr (W.heap.size ≤ ·) W w3 := FZW.trans ⟨F3.out.below, fun k hk hkr hn => F3.out.kept k hk hkr (fun e => hn (by omega))⟩
   have E3' : ExIn w3 (w1.heap.size + 1 + 1 ≤ ·) (exV x xp xc) x := by
    have := E3.out
    simp only [World.size_alloc] at this
    exact this
   have mzl : (w1.heap.size + 1) < w3.heap.size := B3'.lt
   clear cB B3 F3 FZW E3
   cases R
   ·have HA : Hid (aggU ts = (if false = true then some ⟨tx, x, ⟨#[]⟩⟩ else none, (brU rs1).2)) := by
     show _ = _
     rw [HA1.out, thU_none (rs := (brU rs1).2) (Prod.ext HR3.out rfl)]; rfl
    have m0 : w3.cell? ⟨(w1.heap.size + 1), 0, none⟩ = some (.string tx) := by rw [B3'.cell]; rfl
    have m1 : w3.cell? ⟨(w1.heap.size + 1), 1, none⟩ = some (.string x.op) := by rw [B3'.cell]; rfl
    have m2 : w3.cell? ⟨(w1.heap.size + 1), 2, none⟩ = some (.string x.nm) := by rw [B3'.cell]; rfl
    have m3 : w3.cell? ⟨(w1.heap.size + 1), 3, none⟩ = some (.int .i64 x.vt) := by rw [B3'.cell]; rfl
    have m4 : w3.cell? ⟨(w1.heap.size + 1), 4, none⟩ = some (.int .i64 x.vn) := by rw [B3'.cell]; rfl
    have m5 : w3.cell? ⟨(w1.heap.size + 1), 5, none⟩ = some (.string x.vs) := by rw [B3'.cell]; rfl
    have m6 : w3.cell? ⟨(w1.heap.size + 1), 6, none⟩ = some (.slice xp x.args.length xc) := by rw [B3'.cell]; rfl
    have m7 : w3.cell? ⟨(w1.heap.size + 1), 7, none⟩ = some (.int .i64 x.pos) := by rw [B3'.cell]; rfl
    have m8 : w3.cell? ⟨(w1.heap.size + 1), 8, none⟩ = some (.string ⟨#[]⟩) := by rw [B3'.cell]; rfl
    have Q3' := Q3.out
    clear cA2 HA1 HR3 B3' Q3
    obtain ⟨m14, mrl⟩ := C14 w3 F3W
    have OwV := fun V hb => Own w3 V F3W hb
    have EndV := fun V w9 q9 c9 => End w3 V w9 q9 c9 ⟨tx, x, ⟨#[]⟩⟩ xp xc (brU rs1).2 Q3' F3W (ExIn.low (fun b _ hb => by omega) _ _ E3')
    have hW0 : W0.heap.size ≤ w3.heap.size := by have := F3W.size; omega
    clear End Own C14
    go_wp2
    go_region_law (refine step_append_q rfl (.tmp 37) (.tmp 39) 28 rfl W0.heap.size 49 i0 _ 9 128 Tryz.underlying28 hi hz0 hz1 hzz rfl (by decide) (.slice aq N ac0) N CS (by simp [Act.eval]) (OwV _ (by repeat (first | exact Below.refl _ _ | refine Below.drew ?_ | refine below_alloc ?_ (Nat.le_refl _) _))) ⟨w3.heap.size, 0, none⟩ 1 1 (agL ⟨tx, x, ⟨#[]⟩⟩ xp xc) (by simp [Act.eval]) rfl (news_blk (t := 49) (by first | exact box_blk _ _ _ | rfl)) (ag_one' _ _ _) (by decide) (by simp [maxLen]; omega) (by omega) (by simp; omega) ?_; intro q9 c9 w9 hown' hgrow hfr'; obtain ⟨⟨k1, k2, k3⟩, KS⟩ := EndV _ w9 q9 c9 (by repeat (first | exact Below.refl _ _ | refine Below.drew ?_ | refine below_alloc ?_ (Nat.le_refl _) _)) hown' hgrow hfr')
    all_goals
     go_wp2
     go_ret
     refine ⟨false, ls ++ [⟨tx, x, ⟨#[]⟩⟩], rfl, ?_, ?_⟩
     ·rw [HA.out]; exact KS
     ·rw [HA.out]
      exact .inr ⟨rfl, rfl⟩
   ·have c4 := cA2 w3 x xp xc _ Q3.out B3'
    clear cA2
    go_wp2_with fail
    refine c4.mono ?_
    rintro e w4 ⟨R4, nm, rfl, Q4, F4, B4, HR4⟩
    have B4' : Blk w4 (w1.heap.size + 1) (agL ⟨tx, x, nm⟩ xp xc).toArray 49 := B4.out
    have HA : Hid (aggU ts = (if R4 = true then some ⟨tx, x, nm⟩ else none, (asU (brU rs1).2).2)) := by
     show _ = _
     rw [HA1.out, thU_some (x := x) (rs := (brU rs1).2) (Prod.ext HR3.out rfl)]
     cases R4
     ·rw [thU_none (rs := (asU (brU rs1).2).2) (Prod.ext HR4.out rfl)]; rfl
     ·rw [thU_some (x := nm) (rs := (asU (brU rs1).2).2) (Prod.ext HR4.out rfl)]; rfl
    have F4W : Fr tr (W.heap.size ≤ ·) W w4 := F3W.trans ⟨F4.out.below, fun k hk hkr hn => F4.out.kept k hk hkr (fun e => hn (by omega))⟩
    have E4 : ExIn w4 (w1.heap.size + 1 + 1 ≤ ·) (exV x xp xc) x := exin_fr E3' F4.out (fun b hb _ => ⟨by omega, by omega⟩)
    have m0 : w4.cell? ⟨(w1.heap.size + 1), 0, none⟩ = some (.string tx) := by rw [B4'.cell]; rfl
    have m1 : w4.cell? ⟨(w1.heap.size + 1), 1, none⟩ = some (.string x.op) := by rw [B4'.cell]; rfl
    have m2 : w4.cell? ⟨(w1.heap.size + 1), 2, none⟩ = some (.string x.nm) := by rw [B4'.cell]; rfl
    have m3 : w4.cell? ⟨(w1.heap.size + 1), 3, none⟩ = some (.int .i64 x.vt) := by rw [B4'.cell]; rfl
    have m4 : w4.cell? ⟨(w1.heap.size + 1), 4, none⟩ = some (.int .i64 x.vn) := by rw [B4'.cell]; rfl
    have m5 : w4.cell? ⟨(w1.heap.size + 1), 5, none⟩ = some (.string x.vs) := by rw [B4'.cell]; rfl
    have m6 : w4.cell? ⟨(w1.heap.size + 1), 6, none⟩ = some (.slice xp x.args.length xc) := by rw [B4'.cell]; rfl
    have m7 : w4.cell? ⟨(w1.heap.size + 1), 7, none⟩ = some (.int .i64 x.pos) := by rw [B4'.cell]; rfl
    have m8 : w4.cell? ⟨(w1.heap.size + 1), 8, none⟩ = some (.string nm) := by rw [B4'.cell]; rfl
    have mzl4 : (w1.heap.size + 1) < w4.heap.size := B4'.lt
    have Q4' := Q4.out
    clear c4 HA1 HR3 HR4 B3' B4 B4' Q4 Q3 F4 F3W E3'
    obtain ⟨m14, mrl⟩ := C14 w4 F4W
    have OwV := fun V hb => Own w4 V F4W hb
    have EndV := fun V w9 q9 c9 => End w4 V w9 q9 c9 ⟨tx, x, nm⟩ xp xc (asU (brU rs1).2).2 Q4' F4W (ExIn.low (fun b _ hb => by omega) _ _ E4)
    have hW0 : W0.heap.size ≤ w4.heap.size := by have := F4W.size; omega
    clear End Own C14
    go_wp2
    go_region_law (refine step_append_q rfl (.tmp 37) (.tmp 39) 28 rfl W0.heap.size 49 i0 _ 9 128 Tryz.underlying28 hi hz0 hz1 hzz rfl (by decide) (.slice aq N ac0) N CS (by simp [Act.eval]) (OwV _ (by repeat (first | exact Below.refl _ _ | refine Below.drew ?_ | refine below_alloc ?_ (Nat.le_refl _) _))) ⟨w4.heap.size, 0, none⟩ 1 1 (agL ⟨tx, x, nm⟩ xp xc) (by simp [Act.eval]) rfl (news_blk (t := 49) (by first | exact box_blk _ _ _ | rfl)) (ag_one' _ _ _) (by decide) (by simp [maxLen]; omega) (by omega) (by simp; omega) ?_; intro q9 c9 w9 hown' hgrow hfr'; obtain ⟨⟨k1, k2, k3⟩, KS⟩ := EndV _ w9 q9 c9 (by repeat (first | exact Below.refl _ _ | refine Below.drew ?_ | refine below_alloc ?_ (Nat.le_refl _) _)) hown' hgrow hfr')
    all_goals
     go_wp2
     go_ret
     refine ⟨R4, ls ++ [⟨tx, x, nm⟩], rfl, ?_, ?_⟩
     ·rw [HA.out]; exact KS
     ·rw [HA.out]
      cases R4
      ·exact .inr ⟨rfl, rfl⟩
      ·exact .inl ⟨rfl, _, rfl, rfl⟩
end Go.Proofs.YtkbhmghdonomnaaGreatDoor
