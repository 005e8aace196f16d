/-
  Package query's reader: a column. (Written by a script at first.)
-/
import Derived.Test.YtkbhmghdonomnaaGreatDoorZQrF
namespace Go.Proofs.YtkbhmghdonomnaaGreatDoor
open Go.RowKit Go.BigFrame
set_option linter.unusedVariables false
set_option linter.unusedSimpArgs false
variable {en : Nat} {WZ : World}

section
variable {W0 W : World} {tr rb : Nat} {BC : Array Value} {ts : List Tok} {cs : List Ex} {ns : List ByteArray} {cq : Option Addr} {k cc : Nat} {nq : Option Addr} {n nc : Nat}
theorem CoX.addN {V w9 : World} {q9 : Option Addr} {c9 : Nat} {nm : ByteArray} (h : CoX WZ en W0 W tr rb BC ts cs ns cq k cc nq n nc)
  (hb : Below W.heap.size W V) (hown' : w9.ownsRow W0.heap.size 9 1 (.slice q9 (n + 1) c9) (n + 1) (ns.map .string ++ [.string nm])) (hgrow : V.grownBy w9 (Value.slice nq n nc).ownBlock) (hf : (Value.slice q9 (n + 1) c9).ownBlock = (Value.slice nq n nc).ownBlock ∨ (Value.slice q9 (n + 1) c9).ownBlock = some V.heap.size) :
  (w9.cell? ⟨rb, 10, none⟩ = some (.slice nq n nc) ∧ w9.frozen? ⟨rb, 10, none⟩ = false ∧ rb < w9.heap.size) ∧ Aside (CoX WZ en W0 (w9.setCell ⟨rb, 10, none⟩ (.slice q9 (n + 1) c9)) tr rb BC ts cs (ns ++ [nm]) cq k cc q9 (n + 1) c9) := by
 have hne := h.qh.ne
 have hlt := h.lt
 have s0 := h.fr.size
 have sV := hb.size
 have s9 := hgrow.size
 have o1 := h.names
 have ownlt : ∀ j, (Value.slice nq n nc).ownBlock = some j → W0.heap.size ≤ j ∧ j < W.heap.size := fun j hj => o1.lt j hj
 have b9 : Blk w9 rb (bc2 BC (.slice cq k cc) (.slice nq n nc)) 55 := (h.box.on hb).grown hgrow (own_ne o1 hlt)
 have F9 : Fr tr (fun k => k = rb) W0 w9 := (h.fr.on hb (by omega)).grown hgrow (fun j hj => by
  have := (ownlt j hj).1
  exact ⟨by omega, fun h => by omega⟩) (by omega)
 have B10 := b9.set 10 (.slice q9 (n + 1) c9)
 have F10 := F9.set 10 (.slice q9 (n + 1) c9) (b := rb) (by omega) (fun _ => rfl)
 have hr9 : RdAt en w9 tr ts := (h.qh.rd.on hb).onB ((Below.refl (tr + 1) V).grown hgrow (by have := h.qh.rd.lt; omega) (fun j hj => by have := (ownlt j hj).1; omega)) hgrow.size
 have hr10 : RdAt en (w9.setCell ⟨rb, 10, none⟩ (.slice q9 (n + 1) c9)) tr ts := hr9.onB ((Below.refl (tr + 1) w9).setCell (p := ⟨rb, 10, none⟩) hne _) (by simp [World.setCell])
 have hbc : (bc2 BC (.slice cq k cc) (.slice nq n nc)).setIfInBounds 10 (.slice q9 (n + 1) c9) = bc2 BC (.slice cq k cc) (.slice q9 (n + 1) c9) := set_set _ _ _ _
 rw [hbc] at B10
 have k9 : KeepB (rb + 1) w9 (w9.setCell ⟨rb, 10, none⟩ (.slice q9 (n + 1) c9)) := KeepB.set w9 10 _ (Nat.lt_succ_self rb)
 have A9 := (h.cols.on hb).other (u' := .slice q9 (n + 1) c9) (lown_below o1 hb) (by decide) hgrow hf
 refine ⟨⟨?_, b9.frozen 10, b9.lt⟩, ⟨?_, B10, A9.keepB k9 (by omega), ?_, h.ck, by simp [h.nk], F10, h.sz, hlt⟩⟩
 ·have := h.sz
  rw [b9.cell, Array.getElem?_setIfInBounds, if_pos rfl, if_pos (by simpa using this)]
 ·have Fq : Fr tr (fun k => k = rb ∨ W0.heap.size ≤ k) W (w9.setCell ⟨rb, 10, none⟩ (.slice q9 (n + 1) c9)) := ((Fr.of_below hb (by omega)).grown hgrow (fun j hj => by
   have := (ownlt j hj).1
   exact ⟨by omega, fun h => .inr this⟩) (by omega)).set 10 _ (by omega) (fun _ => .inl rfl)
  refine h.qh.go Fq hr10 List.suffix_rfl ?_
  rw [World.cell?_setCell_other _ _ _ _ (by simp), b9.cell, ← h.box.cell]
  exact h.qh.p0
 ·rw [List.map_append]
  exact own_keep hown' k9 (by omega)
end
theorem own_some {w : World} {B : Nat} {e : TypeId} {size n c : Nat} {q : Option Addr} {xs : List Value} (h : w.ownsRow B e size (.slice q (n + 1) c) (n + 1) xs) : ∃ g, q = some ⟨g, 0, none⟩ := by
 rcases h.2 with ⟨_, h0⟩ | ⟨g, cap, cur, hh, _⟩
 ·exact absurd h0 (by omega)
 ·simp only [Value.slice.injEq] at hh
  exact ⟨g, hh.1⟩
theorem heap_cells_other {g u : Nat} (h : u ≠ g) : ∀ (vs : List Value) (o : Nat) (w : World), (w.setCells g o vs).heap[u]? = w.heap[u]?
 | [], _, _ => rfl
 | v :: r, o, w => by
  show ((w.setCell ⟨g, o, none⟩ v).setCells g (o + 1) r).heap[u]? = _
  rw [heap_cells_other h r (o + 1) _, heap_setCell_other w _ u v h]
theorem own_there {w : World} {B : Nat} {e : TypeId} {size n c g : Nat} {xs : List Value} (h : w.ownsRow B e size (.slice (some ⟨g, 0, none⟩) n c) n xs) (o m : Nat) (hm : o + m ≤ n * size) : w.there g o m := fun j hj => by
 refine ⟨?_, h.frozenAt _⟩
 rw [h.cellAt _ (by omega), List.getElem?_eq_getElem (by have := h.1; omega)]
 rfl
set_option maxHeartbeats 8000000 in
set_option maxRecDepth 20000 in
theorem col_q (W0 W : World) (tr rb : Nat) (BC : Array Value) (ts : List Tok) (cs : List Ex) (ns : List ByteArray) (cq : Option Addr) (k cc : Nat) (nq : Option Addr) (n nc : Nat) (h : CoX WZ en W0 W tr rb BC ts cs ns cq k cc nq n nc) (hl : k ≤ 1000) (hl2 : n ≤ 1000) :
  Calls Tryz.prog 73 #[.pointer (some ⟨rb, 0, none⟩)] W fun e w' => ∃ (R : Bool) (x : Ex) (nm : ByteArray) (cq' : Option Addr) (cc' : Nat) (nq' : Option Addr) (nc' : Nat), e = .returned (.bool R) ∧ Aside (CoX WZ en W0 w' tr rb BC (colU ts).2 (cs ++ [x]) (ns ++ [nm]) cq' (k + 1) cc' nq' (n + 1) nc') ∧ Hid ((colU ts).1 = if R = true then some (x, nm) else none) := by
 have HX : Aside (CoX WZ en W0 W tr rb BC ts cs ns cq k cc nq n nc) := h
 have hne := h.qh.ne
 have htl := h.qh.rd.lt
 have hp0 := h.qh.p0
 have hrl := h.qh.lt
 have hW := h.fr.size
 have hlt := h.lt
 have hsz := h.sz
 have hck := h.ck
 have hnk := h.nk
 obtain ⟨i0, hi, hz0, hz1, hzz⟩ := info_parts info_exE
 obtain ⟨i1, hi1, hy0, hy1, hyz⟩ := info_parts info_strA
 have bA : Below W.heap.size W ((W.alloc (.cells #[.string ⟨#[]⟩, .string ⟨#[]⟩, .int .i64 0, .int .i64 0, .string ⟨#[]⟩, .slice none 0 0, .int .i64 0] 26)).alloc (.cells #[.string ⟨#[]⟩] 9)) := (al W _).alloc (by simp) _
 have F0 : Fr tr (fun _ => False) W ((W.alloc (.cells #[.string ⟨#[]⟩, .string ⟨#[]⟩, .int .i64 0, .int .i64 0, .string ⟨#[]⟩, .slice none 0 0, .int .i64 0] 26)).alloc (.cells #[.string ⟨#[]⟩] 9)) := Fr.of_below bA (by omega)
 have Q0 := h.qh.fr F0 (h.qh.rd.on bA) List.suffix_rfl (fun h => h)
 have Z1 : Blk ((W.alloc (.cells #[.string ⟨#[]⟩, .string ⟨#[]⟩, .int .i64 0, .int .i64 0, .string ⟨#[]⟩, .slice none 0 0, .int .i64 0] 26)).alloc (.cells #[.string ⟨#[]⟩] 9)) W.heap.size #[.string ⟨#[]⟩, .string ⟨#[]⟩, .int .i64 0, .int .i64 0, .string ⟨#[]⟩, .slice none 0 0, .int .i64 0] 26 := (blk_alloc W _ _).on (al _ _)
 have Z2 : Blk ((W.alloc (.cells #[.string ⟨#[]⟩, .string ⟨#[]⟩, .int .i64 0, .int .i64 0, .string ⟨#[]⟩, .slice none 0 0, .int .i64 0] 26)).alloc (.cells #[.string ⟨#[]⟩] 9)) (W.heap.size + 1) #[.string ⟨#[]⟩] 9 := by
  have := blk_alloc (W.alloc (.cells #[.string ⟨#[]⟩, .string ⟨#[]⟩, .int .i64 0, .int .i64 0, .string ⟨#[]⟩, .slice none 0 0, .int .i64 0] 26)) #[.string ⟨#[]⟩] 9
  simpa using this
 have cE := expression_q _ tr rb ts Q0 W.heap.size 0 _ 26 Z1 (by omega) (by simp) (fun e => by omega)
 clear h Q0
 go_enter Tryz.func73, Tryz.ntmps73
 go_wp2_with fail
 refine cE.mono ?_
 rintro e w1 ⟨R1, x, xp, xc, rfl, Q1, F1, B1, E1, HR1⟩
 have B1' : Blk w1 W.heap.size (exL x xp xc).toArray 26 := B1.out
 have FW1 : Fr tr (W.heap.size ≤ ·) W w1 := F0.weak.trans ⟨F1.out.below, fun b hb hr hn => F1.out.kept b hb hr (fun e => hn (by omega))⟩
 have s1 := FW1.size
 have N1 : Blk w1 (W.heap.size + 1) #[.string ⟨#[]⟩] 9 := Z2.fr F1.out (by omega) (by omega)
 have E1' : ExIn w1 (W.heap.size + 1 + 1 ≤ ·) (exV x xp xc) x := by
  have := E1.out
  simp only [World.size_alloc] at this
  exact this
 clear cE Z1 Z2 F0 F1 B1 E1 bA
 cases R1
 ·have HA : Hid (colU ts = (if false = true then some (x, ⟨#[]⟩) else none, (readE ts).2)) := by
   show _ = _
   rw [colU, thU_none (rs := (readE ts).2) (Prod.ext HR1.out rfl)]; rfl
  have HC := HX.out.keep FW1 (fun b h1 h2 => by omega) Q1.out
  have EX := E1'
  have BE := B1'
  have BN := N1
  have FW := FW1
  clear Q1 HR1 E1' B1' N1 FW1
  go_wp2
  go_region
  ·obtain ⟨V4, hV4⟩ : ∃ V4, (w1.alloc (.cells #[.bool false] 4)).drew = V4 := ⟨_, rfl⟩
   have bV : Below w1.heap.size w1 V4 := by rw [← hV4]; exact Below.drew (al _ _)
   rw [hV4]
   clear hV4
   have sV := bV.size
   have HCV := HC.keep (S := fun _ => False) (Fr.of_below bV (by omega)) (fun _ _ h => h) (HC.qh.fr (S := fun _ => False) (Fr.of_below bV (by omega)) (HC.qh.rd.on bV) List.suffix_rfl (fun h => h))
   have EXV := EX.on bV
   have BEV := BE.on bV
   have BNV := BN.on bV
   have FWV : Fr tr (W.heap.size ≤ ·) W V4 := FW.on bV (by omega)
   clear HC EX BE BN FW bV
   obtain ⟨CS, oC, pC⟩ := HCV.cols
   rw [hck] at oC
   have hCl : CS.length = k * 7 := by have := oC.1; omega
   have hCl2 : CS.length = cs.length * 7 := by rw [hck]; exact hCl
   have ownC : ∀ V, Below V4.heap.size V4 V → V.ownsRow W0.heap.size 26 7 (.slice cq k cc) k CS := fun V hb => lown_below oC hb
   have oblt : ∀ j, (Value.slice cq k cc).ownBlock = some j → j < W.heap.size := fun j hj => by
    obtain ⟨cs', hc', -⟩ := HX.out.cols
    exact (hc'.lt j hj).2
   have nblt : ∀ j, (Value.slice nq n nc).ownBlock = some j → j < W.heap.size := fun j hj => (HX.out.names.lt j hj).2
   have hxE : ExIn V4 (fun b => W0.heap.size ≤ b ∧ some b ≠ (Value.slice cq k cc).ownBlock ∧ some b ≠ (Value.slice nq n nc).ownBlock) (exV x xp xc) x := ExIn.low (fun b _ hb => ⟨by omega, fun e => by have := oblt b e.symm; omega, fun e => by have := nblt b e.symm; omega⟩) _ _ EXV
   have hgr := fun (V w9 : World) (q9 : Option Addr) (c9 : Nat) (L : List Value) => HCV.grow (V := V) (w9 := w9) (q9 := q9) (c9 := c9) (L := L) oC
   have hW0 : W0.heap.size ≤ V4.heap.size := by have := FWV.size; omega
   have c9' := HCV.at9
   have hrlw := HCV.qh.lt
   have hzl := BEV.lt
   have hznl := BNV.lt
   have nz1 : some W.heap.size ≠ (Value.slice cq k cc).ownBlock := fun e => by have := oblt _ e.symm; omega
   have nz2 : some (W.heap.size + 1) ≠ (Value.slice cq k cc).ownBlock := fun e => by have := oblt _ e.symm; omega
   have m0 : V4.cell? ⟨W.heap.size, 0, none⟩ = some (.string x.op) := by rw [BEV.cell]; rfl
   have m1 : V4.cell? ⟨W.heap.size, 1, none⟩ = some (.string x.nm) := by rw [BEV.cell]; rfl
   have m2 : V4.cell? ⟨W.heap.size, 2, none⟩ = some (.int .i64 x.vt) := by rw [BEV.cell]; rfl
   have m3 : V4.cell? ⟨W.heap.size, 3, none⟩ = some (.int .i64 x.vn) := by rw [BEV.cell]; rfl
   have m4 : V4.cell? ⟨W.heap.size, 4, none⟩ = some (.string x.vs) := by rw [BEV.cell]; rfl
   have m5 : V4.cell? ⟨W.heap.size, 5, none⟩ = some (.slice xp x.args.length xc) := by rw [BEV.cell]; rfl
   have m6 : V4.cell? ⟨W.heap.size, 6, none⟩ = some (.int .i64 x.pos) := by rw [BEV.cell]; rfl
   clear FWV HX EXV
   go_wp2
   go_region_law (refine step_append_q rfl (.tmp 32) (.tmp 34) 24 rfl W0.heap.size 26 i0 _ 7 96 Tryz.underlying24 hi hz0 hz1 hzz rfl (by decide) (.slice cq k cc) k CS (by simp [Act.eval]) (ownC _ (by repeat (first | exact Below.refl _ _ | refine Below.drew ?_ | refine below_alloc ?_ (Nat.le_refl _) _))) ⟨V4.heap.size, 0, none⟩ 1 1 (exL x xp xc) (by simp [Act.eval]) rfl (news_blk (t := 26) (by first | exact box_blk _ _ _ | rfl)) (ex_one7 _ _ _) (by decide) (by simp [maxLen]; omega) (by omega) (by simp; omega) ?_; intro q9 c9 w9 hown' hgrow hfr'; obtain ⟨⟨k1, k2, k3⟩, KM, KH⟩ := hgr _ w9 q9 c9 _ (by repeat (first | exact Below.refl _ _ | refine Below.drew ?_ | refine below_alloc ?_ (Nat.le_refl _) _)) hown' hgrow hfr')
   all_goals
    have HCM := KM.out.done hck hnk hsz hlt hCl2 pC hxE
    have BNM := BNV.keep (KH.out _ hznl (by omega) nz2)
    clear KM KH hgr ownC HCV BEV BNV hxE pC oC hown' hgrow hfr'
    generalize w9.setCell ⟨rb, 9, none⟩ (.slice q9 (k + 1) c9) = wM at *
    have a10 := HCM.at10
    have hrM := HCM.qh.lt
    have n0 : wM.cell? ⟨W.heap.size + 1, 0, none⟩ = some (.string ⟨#[]⟩) := by rw [BNM.cell]; rfl
    have hnlM := BNM.lt
    have OwnN : ∀ V, Below wM.heap.size wM V → V.ownsRow W0.heap.size 9 1 (.slice nq n nc) n (ns.map .string) := fun V hb => lown_below HCM.names hb
    have hWM : W0.heap.size ≤ wM.heap.size := HCM.fr.size
    have AddN := fun (V w9 : World) (q9 : Option Addr) (c9 : Nat) => HCM.addN (V := V) (w9 := w9) (q9 := q9) (c9 := c9) (nm := ⟨#[]⟩)
    clear HCM BNM
    generalize ns.map Value.string = NS at *
    go_wp2
    go_region_law (refine step_append_q rfl (.tmp 44) (.tmp 46) 27 rfl W0.heap.size 9 i1 _ 1 16 Tryz.underlying27 hi1 hy0 hy1 hyz rfl (by decide) (.slice nq n nc) n NS (by simp [Act.eval]) (OwnN _ (by repeat (first | exact Below.refl _ _ | refine Below.drew ?_ | refine below_alloc ?_ (Nat.le_refl _) _))) ⟨wM.heap.size, 0, none⟩ 1 1 [.string ⟨#[]⟩] (by simp [Act.eval]) rfl (news_str (by simp)) (by intro u hu; simp at hu; subst hu; rfl) (by decide) (by simp [maxLen]; omega) (by omega) (by simp; omega) ?_; intro q8 c8 w8 hown8 hgrow8 hfr8; obtain ⟨⟨e1, e2, e3⟩, KS⟩ := AddN _ w8 q8 c8 (by repeat (first | exact Below.refl _ _ | refine Below.drew ?_ | refine below_alloc ?_ (Nat.le_refl _) _)) hown8 hgrow8 hfr8)
    all_goals
     go_wp2
     go_ret
     refine ⟨false, x, ⟨#[]⟩, q9, c9, q8, c8, rfl, ?_, ?_⟩
     ·rw [HA.out]; exact KS
     ·show _ = _; rw [HA.out]
  ·obtain ⟨V4, hV4⟩ : ∃ V4, (w1.alloc (.cells #[.bool true] 4)).drew = V4 := ⟨_, rfl⟩
   have bV : Below w1.heap.size w1 V4 := by rw [← hV4]; exact Below.drew (al _ _)
   rw [hV4]
   clear hV4
   have sV := bV.size
   have HCV := HC.keep (S := fun _ => False) (Fr.of_below bV (by omega)) (fun _ _ h => h) (HC.qh.fr (S := fun _ => False) (Fr.of_below bV (by omega)) (HC.qh.rd.on bV) List.suffix_rfl (fun h => h))
   have EXV := EX.on bV
   have BEV := BE.on bV
   have BNV := BN.on bV
   have FWV : Fr tr (W.heap.size ≤ ·) W V4 := FW.on bV (by omega)
   clear HC EX BE BN FW bV
   obtain ⟨CS, oC, pC⟩ := HCV.cols
   rw [hck] at oC
   have hCl : CS.length = k * 7 := by have := oC.1; omega
   have hCl2 : CS.length = cs.length * 7 := by rw [hck]; exact hCl
   have ownC : ∀ V, Below V4.heap.size V4 V → V.ownsRow W0.heap.size 26 7 (.slice cq k cc) k CS := fun V hb => lown_below oC hb
   have oblt : ∀ j, (Value.slice cq k cc).ownBlock = some j → j < W.heap.size := fun j hj => by
    obtain ⟨cs', hc', -⟩ := HX.out.cols
    exact (hc'.lt j hj).2
   have nblt : ∀ j, (Value.slice nq n nc).ownBlock = some j → j < W.heap.size := fun j hj => (HX.out.names.lt j hj).2
   have hxE : ExIn V4 (fun b => W0.heap.size ≤ b ∧ some b ≠ (Value.slice cq k cc).ownBlock ∧ some b ≠ (Value.slice nq n nc).ownBlock) (exV x xp xc) x := ExIn.low (fun b _ hb => ⟨by omega, fun e => by have := oblt b e.symm; omega, fun e => by have := nblt b e.symm; omega⟩) _ _ EXV
   have hgr := fun (V w9 : World) (q9 : Option Addr) (c9 : Nat) (L : List Value) => HCV.grow (V := V) (w9 := w9) (q9 := q9) (c9 := c9) (L := L) oC
   have hW0 : W0.heap.size ≤ V4.heap.size := by have := FWV.size; omega
   have c9' := HCV.at9
   have hrlw := HCV.qh.lt
   have hzl := BEV.lt
   have hznl := BNV.lt
   have nz1 : some W.heap.size ≠ (Value.slice cq k cc).ownBlock := fun e => by have := oblt _ e.symm; omega
   have nz2 : some (W.heap.size + 1) ≠ (Value.slice cq k cc).ownBlock := fun e => by have := oblt _ e.symm; omega
   clear FWV EXV HX
   have hkz : (k : Int) < (k : Int) + 1 := by omega
   have hk0 : (0 : Int) ≤ (k : Int) := by omega
   go_wp2_with (at_builtin; refine wpList_append_fresh rfl _ _ 24 rfl W0.heap.size 26 i0 _ 7 96 Tryz.underlying24 hi hz0 hz1 hzz rfl (by decide) (.slice cq k cc) k CS rfl (ownC _ (al _ _)) ⟨V4.heap.size, 0, none⟩ 1 1 (exL ex0 none 0) rfl rfl (news_blk (t := 26) (box_blk _ _ _)) (ex_one7 _ _ _) (by decide) (by simp [maxLen]; omega) (by omega) (by simp; omega) ?_)
   intro v' w9 hown' hgrow hfr'
   obtain ⟨q9, c9, rfl⟩ := lown_slice hown'
   obtain ⟨g, rfl⟩ := own_some hown'
   obtain ⟨⟨k1, k2, k3⟩, KM, KH⟩ := hgr _ w9 _ c9 _ (al _ _) hown' hgrow (by first | exact hfr' | (rw [World.size_alloc]; exact hfr'))
   have hgz : g ≠ W.heap.size + 1 := fun e => by
    rcases hfr' with h | h
    ·exact nz2 (by rw [← h, e]; rfl)
    ·have : g = V4.heap.size + 1 := by simpa [Value.ownBlock] using h
     omega
   have hgz1 : g ≠ W.heap.size := fun e => by
    rcases hfr' with h | h
    ·exact nz1 (by rw [← h, e]; rfl)
    ·have : g = V4.heap.size + 1 := by simpa [Value.ownBlock] using h
     omega
   have BNM0 := BNV.keep (KH.out _ hznl (by omega) nz2)
   have BEM := BEV.keep (KH.out _ hzl (by omega) nz1)
   have hrM0 := KM.out.qh.lt
   clear KH hgr ownC HCV BEV BNV oC hown' hgrow hfr'
   obtain ⟨wM0, hwM⟩ : ∃ wM0, w9.setCell ⟨rb, 9, none⟩ (.slice (some ⟨g, 0, none⟩) (k + 1) c9) = wM0 := ⟨_, rfl⟩
   rw [hwM] at KM BNM0 BEM hrM0
   have hs0 : W0.heap.size ≤ wM0.heap.size := KM.out.fr.size
   have KMA := (show Aside _ from KM.out)
   have BEA := (show Aside _ from BEM)
   have BNA := (show Aside _ from BNM0)
   have HXE := (show Aside _ from hxE)
   have HPC := (show Aside _ from pC)
   have HWM : Hid (w9.setCell ⟨rb, 9, none⟩ (.slice (some ⟨g, 0, none⟩) (k + 1) c9) = wM0) := hwM
   clear KM BEM BNM0 hxE pC hwM
   go_upto_region 6 with fail
   refine wp_region_lit ?_
   refine wpList_load_row rfl 26 (.tmp 3) rfl W.heap.size rfl _ (exL x xp xc).toArray _ _ (by rw [HWM.out]; exact BEA.out) Tryz.underlying26 rfl size_exU ?_
   clear hCl2 nz1 nz2 hgz1
   iterate 3 go_step
   have hs0 : W0.heap.size ≤ wM0.heap.size := KMA.out.fr.size
   have hth := own_there KMA.out.own (k * 7) 7 (by omega)
   refine wpList_store_mid rfl 26 (.tmp 26) (.tmp 25) rfl g (k * 7) (exL x xp xc).toArray rfl rfl (by rw [HWM.out]; exact hth) size_exU (ex_one' x xp xc) ?_
   rw [HWM.out]
   have HCM := (KMA.out.store (x := x) (xp := xp) (xc := xc) hlt rfl hCl hs0).done hck hnk hsz hlt (by rw [hck]; exact hCl) HPC.out HXE.out
   have BNM : Blk (wM0.setCells g (k * 7) (exL x xp xc)) (W.heap.size + 1) #[.string ⟨#[]⟩] 9 := Blk.keep (show Blk wM0 (W.heap.size + 1) #[.string ⟨#[]⟩] 9 from BNA.out) (heap_cells_other (fun e => hgz e.symm) _ _ _)
   clear KMA BEA BNA HXE HPC HWM hth hs0
   show wpList _ _ _ _ _ (wM0.setCells g (k * 7) (exL x xp xc))
   generalize wM0.setCells g (k * 7) (exL x xp xc) = wM at *
   have a10 := HCM.at10
   have hrM := HCM.qh.lt
   have n0 : wM.cell? ⟨W.heap.size + 1, 0, none⟩ = some (.string ⟨#[]⟩) := by rw [BNM.cell]; rfl
   have hnlM := BNM.lt
   have OwnN : ∀ V, Below wM.heap.size wM V → V.ownsRow W0.heap.size 9 1 (.slice nq n nc) n (ns.map .string) := fun V hb => lown_below HCM.names hb
   have hWM : W0.heap.size ≤ wM.heap.size := HCM.fr.size
   have AddN := fun (V w9 : World) (q9 : Option Addr) (c9 : Nat) => HCM.addN (V := V) (w9 := w9) (q9 := q9) (c9 := c9) (nm := ⟨#[]⟩)
   clear HCM BNM
   generalize ns.map Value.string = NS at *
   go_wp2
   go_region_law (refine step_append_q rfl (.tmp 44) (.tmp 46) 27 rfl W0.heap.size 9 i1 _ 1 16 Tryz.underlying27 hi1 hy0 hy1 hyz rfl (by decide) (.slice nq n nc) n NS (by simp [Act.eval]) (OwnN _ (by repeat (first | exact Below.refl _ _ | refine Below.drew ?_ | refine below_alloc ?_ (Nat.le_refl _) _))) ⟨wM.heap.size, 0, none⟩ 1 1 [.string ⟨#[]⟩] (by simp [Act.eval]) rfl (news_str (by simp)) (by intro u hu; simp at hu; subst hu; rfl) (by decide) (by simp [maxLen]; omega) (by omega) (by simp; omega) ?_; intro q8 c8 w8 hown8 hgrow8 hfr8; obtain ⟨⟨e1, e2, e3⟩, KS⟩ := AddN _ w8 q8 c8 (by repeat (first | exact Below.refl _ _ | refine Below.drew ?_ | refine below_alloc ?_ (Nat.le_refl _) _)) hown8 hgrow8 hfr8)
   all_goals
    go_wp2
    go_ret
    refine ⟨false, x, ⟨#[]⟩, (some ⟨g, 0, none⟩), c9, q8, c8, rfl, ?_, ?_⟩
    ·rw [HA.out]; exact KS
    ·show _ = _; rw [HA.out]
 ·have cA := as_q w1 tr rb (readE ts).2 Q1.out (W.heap.size + 1) 0 #[.string ⟨#[]⟩] 9 N1 (by omega) ⟨#[]⟩ rfl (fun e => by omega)
  go_wp2_with fail
  refine cA.mono ?_
  rintro e w2 ⟨R2, nm, rfl, Q2, F2, B2, HR2⟩
  have HA : Hid (colU ts = (if R2 = true then some (x, nm) else none, (asU (readE ts).2).2)) := by
   show _ = _
   rw [colU, thU_some (x := x) (rs := (readE ts).2) (Prod.ext HR1.out rfl)]
   cases R2
   ·rw [thU_none (rs := (asU (readE ts).2).2) (Prod.ext HR2.out rfl)]; rfl
   ·rw [thU_some (x := nm) (rs := (asU (readE ts).2).2) (Prod.ext HR2.out rfl)]; rfl
  have FW : Fr tr (W.heap.size ≤ ·) W w2 := FW1.trans ⟨F2.out.below, fun b hb hr hn => F2.out.kept b hb hr (fun e => hn (by omega))⟩
  have s2 := FW.size
  have HC := HX.out.keep FW (fun b h1 h2 => by omega) Q2.out
  have EX : ExIn w2 (W.heap.size + 1 + 1 ≤ ·) (exV x xp xc) x := exin_fr E1' F2.out (fun b hb _ => ⟨by omega, by omega⟩)
  have BE := B1'.fr F2.out (by omega) (by omega)
  have BN : Blk w2 (W.heap.size + 1) #[.string nm] 9 := B2.out
  clear Q1 HR1 E1' B1' N1 FW1 cA Q2 F2 B2 HR2
  go_wp2
  go_region
  ·obtain ⟨V4, hV4⟩ : ∃ V4, (w2.alloc (.cells #[.bool false] 4)).drew = V4 := ⟨_, rfl⟩
   have bV : Below w2.heap.size w2 V4 := by rw [← hV4]; exact Below.drew (al _ _)
   rw [hV4]
   clear hV4
   have sV := bV.size
   have HCV := HC.keep (S := fun _ => False) (Fr.of_below bV (by omega)) (fun _ _ h => h) (HC.qh.fr (S := fun _ => False) (Fr.of_below bV (by omega)) (HC.qh.rd.on bV) List.suffix_rfl (fun h => h))
   have EXV := EX.on bV
   have BEV := BE.on bV
   have BNV := BN.on bV
   have FWV : Fr tr (W.heap.size ≤ ·) W V4 := FW.on bV (by omega)
   clear HC EX BE BN FW bV
   obtain ⟨CS, oC, pC⟩ := HCV.cols
   rw [hck] at oC
   have hCl : CS.length = k * 7 := by have := oC.1; omega
   have hCl2 : CS.length = cs.length * 7 := by rw [hck]; exact hCl
   have ownC : ∀ V, Below V4.heap.size V4 V → V.ownsRow W0.heap.size 26 7 (.slice cq k cc) k CS := fun V hb => lown_below oC hb
   have oblt : ∀ j, (Value.slice cq k cc).ownBlock = some j → j < W.heap.size := fun j hj => by
    obtain ⟨cs', hc', -⟩ := HX.out.cols
    exact (hc'.lt j hj).2
   have nblt : ∀ j, (Value.slice nq n nc).ownBlock = some j → j < W.heap.size := fun j hj => (HX.out.names.lt j hj).2
   have hxE : ExIn V4 (fun b => W0.heap.size ≤ b ∧ some b ≠ (Value.slice cq k cc).ownBlock ∧ some b ≠ (Value.slice nq n nc).ownBlock) (exV x xp xc) x := ExIn.low (fun b _ hb => ⟨by omega, fun e => by have := oblt b e.symm; omega, fun e => by have := nblt b e.symm; omega⟩) _ _ EXV
   have hgr := fun (V w9 : World) (q9 : Option Addr) (c9 : Nat) (L : List Value) => HCV.grow (V := V) (w9 := w9) (q9 := q9) (c9 := c9) (L := L) oC
   have hW0 : W0.heap.size ≤ V4.heap.size := by have := FWV.size; omega
   have c9' := HCV.at9
   have hrlw := HCV.qh.lt
   have hzl := BEV.lt
   have hznl := BNV.lt
   have nz1 : some W.heap.size ≠ (Value.slice cq k cc).ownBlock := fun e => by have := oblt _ e.symm; omega
   have nz2 : some (W.heap.size + 1) ≠ (Value.slice cq k cc).ownBlock := fun e => by have := oblt _ e.symm; omega
   have m0 : V4.cell? ⟨W.heap.size, 0, none⟩ = some (.string x.op) := by rw [BEV.cell]; rfl
   have m1 : V4.cell? ⟨W.heap.size, 1, none⟩ = some (.string x.nm) := by rw [BEV.cell]; rfl
   have m2 : V4.cell? ⟨W.heap.size, 2, none⟩ = some (.int .i64 x.vt) := by rw [BEV.cell]; rfl
   have m3 : V4.cell? ⟨W.heap.size, 3, none⟩ = some (.int .i64 x.vn) := by rw [BEV.cell]; rfl
   have m4 : V4.cell? ⟨W.heap.size, 4, none⟩ = some (.string x.vs) := by rw [BEV.cell]; rfl
   have m5 : V4.cell? ⟨W.heap.size, 5, none⟩ = some (.slice xp x.args.length xc) := by rw [BEV.cell]; rfl
   have m6 : V4.cell? ⟨W.heap.size, 6, none⟩ = some (.int .i64 x.pos) := by rw [BEV.cell]; rfl
   clear FWV HX EXV
   go_wp2
   go_region_law (refine step_append_q rfl (.tmp 32) (.tmp 34) 24 rfl W0.heap.size 26 i0 _ 7 96 Tryz.underlying24 hi hz0 hz1 hzz rfl (by decide) (.slice cq k cc) k CS (by simp [Act.eval]) (ownC _ (by repeat (first | exact Below.refl _ _ | refine Below.drew ?_ | refine below_alloc ?_ (Nat.le_refl _) _))) ⟨V4.heap.size, 0, none⟩ 1 1 (exL x xp xc) (by simp [Act.eval]) rfl (news_blk (t := 26) (by first | exact box_blk _ _ _ | rfl)) (ex_one7 _ _ _) (by decide) (by simp [maxLen]; omega) (by omega) (by simp; omega) ?_; intro q9 c9 w9 hown' hgrow hfr'; obtain ⟨⟨k1, k2, k3⟩, KM, KH⟩ := hgr _ w9 q9 c9 _ (by repeat (first | exact Below.refl _ _ | refine Below.drew ?_ | refine below_alloc ?_ (Nat.le_refl _) _)) hown' hgrow hfr')
   all_goals
    have HCM := KM.out.done hck hnk hsz hlt hCl2 pC hxE
    have BNM := BNV.keep (KH.out _ hznl (by omega) nz2)
    clear KM KH hgr ownC HCV BEV BNV hxE pC oC hown' hgrow hfr'
    generalize w9.setCell ⟨rb, 9, none⟩ (.slice q9 (k + 1) c9) = wM at *
    have a10 := HCM.at10
    have hrM := HCM.qh.lt
    have n0 : wM.cell? ⟨W.heap.size + 1, 0, none⟩ = some (.string nm) := by rw [BNM.cell]; rfl
    have hnlM := BNM.lt
    have OwnN : ∀ V, Below wM.heap.size wM V → V.ownsRow W0.heap.size 9 1 (.slice nq n nc) n (ns.map .string) := fun V hb => lown_below HCM.names hb
    have hWM : W0.heap.size ≤ wM.heap.size := HCM.fr.size
    have AddN := fun (V w9 : World) (q9 : Option Addr) (c9 : Nat) => HCM.addN (V := V) (w9 := w9) (q9 := q9) (c9 := c9) (nm := nm)
    clear HCM BNM
    generalize ns.map Value.string = NS at *
    go_wp2
    go_region_law (refine step_append_q rfl (.tmp 44) (.tmp 46) 27 rfl W0.heap.size 9 i1 _ 1 16 Tryz.underlying27 hi1 hy0 hy1 hyz rfl (by decide) (.slice nq n nc) n NS (by simp [Act.eval]) (OwnN _ (by repeat (first | exact Below.refl _ _ | refine Below.drew ?_ | refine below_alloc ?_ (Nat.le_refl _) _))) ⟨wM.heap.size, 0, none⟩ 1 1 [.string nm] (by simp [Act.eval]) rfl (news_str (by simp)) (by intro u hu; simp at hu; subst hu; rfl) (by decide) (by simp [maxLen]; omega) (by omega) (by simp; omega) ?_; intro q8 c8 w8 hown8 hgrow8 hfr8; obtain ⟨⟨e1, e2, e3⟩, KS⟩ := AddN _ w8 q8 c8 (by repeat (first | exact Below.refl _ _ | refine Below.drew ?_ | refine below_alloc ?_ (Nat.le_refl _) _)) hown8 hgrow8 hfr8)
    all_goals
     go_wp2
     go_ret
     refine ⟨R2, x, nm, q9, c9, q8, c8, rfl, ?_, ?_⟩
     ·rw [HA.out]; exact KS
     ·show _ = _; rw [HA.out]
  ·obtain ⟨V4, hV4⟩ : ∃ V4, (w2.alloc (.cells #[.bool true] 4)).drew = V4 := ⟨_, rfl⟩
   have bV : Below w2.heap.size w2 V4 := by rw [← hV4]; exact Below.drew (al _ _)
   rw [hV4]
   clear hV4
   have sV := bV.size
   have HCV := HC.keep (S := fun _ => False) (Fr.of_below bV (by omega)) (fun _ _ h => h) (HC.qh.fr (S := fun _ => False) (Fr.of_below bV (by omega)) (HC.qh.rd.on bV) List.suffix_rfl (fun h => h))
   have EXV := EX.on bV
   have BEV := BE.on bV
   have BNV := BN.on bV
   have FWV : Fr tr (W.heap.size ≤ ·) W V4 := FW.on bV (by omega)
   clear HC EX BE BN FW bV
   obtain ⟨CS, oC, pC⟩ := HCV.cols
   rw [hck] at oC
   have hCl : CS.length = k * 7 := by have := oC.1; omega
   have hCl2 : CS.length = cs.length * 7 := by rw [hck]; exact hCl
   have ownC : ∀ V, Below V4.heap.size V4 V → V.ownsRow W0.heap.size 26 7 (.slice cq k cc) k CS := fun V hb => lown_below oC hb
   have oblt : ∀ j, (Value.slice cq k cc).ownBlock = some j → j < W.heap.size := fun j hj => by
    obtain ⟨cs', hc', -⟩ := HX.out.cols
    exact (hc'.lt j hj).2
   have nblt : ∀ j, (Value.slice nq n nc).ownBlock = some j → j < W.heap.size := fun j hj => (HX.out.names.lt j hj).2
   have hxE : ExIn V4 (fun b => W0.heap.size ≤ b ∧ some b ≠ (Value.slice cq k cc).ownBlock ∧ some b ≠ (Value.slice nq n nc).ownBlock) (exV x xp xc) x := ExIn.low (fun b _ hb => ⟨by omega, fun e => by have := oblt b e.symm; omega, fun e => by have := nblt b e.symm; omega⟩) _ _ EXV
   have hgr := fun (V w9 : World) (q9 : Option Addr) (c9 : Nat) (L : List Value) => HCV.grow (V := V) (w9 := w9) (q9 := q9) (c9 := c9) (L := L) oC
   have hW0 : W0.heap.size ≤ V4.heap.size := by have := FWV.size; omega
   have c9' := HCV.at9
   have hrlw := HCV.qh.lt
   have hzl := BEV.lt
   have hznl := BNV.lt
   have nz1 : some W.heap.size ≠ (Value.slice cq k cc).ownBlock := fun e => by have := oblt _ e.symm; omega
   have nz2 : some (W.heap.size + 1) ≠ (Value.slice cq k cc).ownBlock := fun e => by have := oblt _ e.symm; omega
   clear FWV EXV HX
   have hkz : (k : Int) < (k : Int) + 1 := by omega
   have hk0 : (0 : Int) ≤ (k : Int) := by omega
   go_wp2_with (at_builtin; refine wpList_append_fresh rfl _ _ 24 rfl W0.heap.size 26 i0 _ 7 96 Tryz.underlying24 hi hz0 hz1 hzz rfl (by decide) (.slice cq k cc) k CS rfl (ownC _ (al _ _)) ⟨V4.heap.size, 0, none⟩ 1 1 (exL ex0 none 0) rfl rfl (news_blk (t := 26) (box_blk _ _ _)) (ex_one7 _ _ _) (by decide) (by simp [maxLen]; omega) (by omega) (by simp; omega) ?_)
   intro v' w9 hown' hgrow hfr'
   obtain ⟨q9, c9, rfl⟩ := lown_slice hown'
   obtain ⟨g, rfl⟩ := own_some hown'
   obtain ⟨⟨k1, k2, k3⟩, KM, KH⟩ := hgr _ w9 _ c9 _ (al _ _) hown' hgrow (by first | exact hfr' | (rw [World.size_alloc]; exact hfr'))
   have hgz : g ≠ W.heap.size + 1 := fun e => by
    rcases hfr' with h | h
    ·exact nz2 (by rw [← h, e]; rfl)
    ·have : g = V4.heap.size + 1 := by simpa [Value.ownBlock] using h
     omega
   have hgz1 : g ≠ W.heap.size := fun e => by
    rcases hfr' with h | h
    ·exact nz1 (by rw [← h, e]; rfl)
    ·have : g = V4.heap.size + 1 := by simpa [Value.ownBlock] using h
     omega
   have BNM0 := BNV.keep (KH.out _ hznl (by omega) nz2)
   have BEM := BEV.keep (KH.out _ hzl (by omega) nz1)
   have hrM0 := KM.out.qh.lt
   clear KH hgr ownC HCV BEV BNV oC hown' hgrow hfr'
   obtain ⟨wM0, hwM⟩ : ∃ wM0, w9.setCell ⟨rb, 9, none⟩ (.slice (some ⟨g, 0, none⟩) (k + 1) c9) = wM0 := ⟨_, rfl⟩
   rw [hwM] at KM BNM0 BEM hrM0
   have hs0 : W0.heap.size ≤ wM0.heap.size := KM.out.fr.size
   have KMA := (show Aside _ from KM.out)
   have BEA := (show Aside _ from BEM)
   have BNA := (show Aside _ from BNM0)
   have HXE := (show Aside _ from hxE)
   have HPC := (show Aside _ from pC)
   have HWM : Hid (w9.setCell ⟨rb, 9, none⟩ (.slice (some ⟨g, 0, none⟩) (k + 1) c9) = wM0) := hwM
   clear KM BEM BNM0 hxE pC hwM
   go_upto_region 6 with fail
   refine wp_region_lit ?_
   refine wpList_load_row rfl 26 (.tmp 3) rfl W.heap.size rfl _ (exL x xp xc).toArray _ _ (by rw [HWM.out]; exact BEA.out) Tryz.underlying26 rfl size_exU ?_
   clear hCl2 nz1 nz2 hgz1
   iterate 3 go_step
   have hs0 : W0.heap.size ≤ wM0.heap.size := KMA.out.fr.size
   have hth := own_there KMA.out.own (k * 7) 7 (by omega)
   refine wpList_store_mid rfl 26 (.tmp 26) (.tmp 25) rfl g (k * 7) (exL x xp xc).toArray rfl rfl (by rw [HWM.out]; exact hth) size_exU (ex_one' x xp xc) ?_
   rw [HWM.out]
   have HCM := (KMA.out.store (x := x) (xp := xp) (xc := xc) hlt rfl hCl hs0).done hck hnk hsz hlt (by rw [hck]; exact hCl) HPC.out HXE.out
   have BNM : Blk (wM0.setCells g (k * 7) (exL x xp xc)) (W.heap.size + 1) #[.string nm] 9 := Blk.keep (show Blk wM0 (W.heap.size + 1) #[.string nm] 9 from BNA.out) (heap_cells_other (fun e => hgz e.symm) _ _ _)
   clear KMA BEA BNA HXE HPC HWM hth hs0
   show wpList _ _ _ _ _ (wM0.setCells g (k * 7) (exL x xp xc))
   generalize wM0.setCells g (k * 7) (exL x xp xc) = wM at *
   have a10 := HCM.at10
   have hrM := HCM.qh.lt
   have n0 : wM.cell? ⟨W.heap.size + 1, 0, none⟩ = some (.string nm) := by rw [BNM.cell]; rfl
   have hnlM := BNM.lt
   have OwnN : ∀ V, Below wM.heap.size wM V → V.ownsRow W0.heap.size 9 1 (.slice nq n nc) n (ns.map .string) := fun V hb => lown_below HCM.names hb
   have hWM : W0.heap.size ≤ wM.heap.size := HCM.fr.size
   have AddN := fun (V w9 : World) (q9 : Option Addr) (c9 : Nat) => HCM.addN (V := V) (w9 := w9) (q9 := q9) (c9 := c9) (nm := nm)
   clear HCM BNM
   generalize ns.map Value.string = NS at *
   go_wp2
   go_region_law (refine step_append_q rfl (.tmp 44) (.tmp 46) 27 rfl W0.heap.size 9 i1 _ 1 16 Tryz.underlying27 hi1 hy0 hy1 hyz rfl (by decide) (.slice nq n nc) n NS (by simp [Act.eval]) (OwnN _ (by repeat (first | exact Below.refl _ _ | refine Below.drew ?_ | refine below_alloc ?_ (Nat.le_refl _) _))) ⟨wM.heap.size, 0, none⟩ 1 1 [.string nm] (by simp [Act.eval]) rfl (news_str (by simp)) (by intro u hu; simp at hu; subst hu; rfl) (by decide) (by simp [maxLen]; omega) (by omega) (by simp; omega) ?_; intro q8 c8 w8 hown8 hgrow8 hfr8; obtain ⟨⟨e1, e2, e3⟩, KS⟩ := AddN _ w8 q8 c8 (by repeat (first | exact Below.refl _ _ | refine Below.drew ?_ | refine below_alloc ?_ (Nat.le_refl _) _)) hown8 hgrow8 hfr8)
   all_goals
    go_wp2
    go_ret
    refine ⟨R2, x, nm, (some ⟨g, 0, none⟩), c9, q8, c8, rfl, ?_, ?_⟩
    ·rw [HA.out]; exact KS
    ·show _ = _; rw [HA.out]
end Go.Proofs.YtkbhmghdonomnaaGreatDoor
