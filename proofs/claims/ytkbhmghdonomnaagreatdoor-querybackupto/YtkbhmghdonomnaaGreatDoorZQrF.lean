/-
  Package query's reader: a column: what is kept, and what comes at the end of it.
-/
import Derived.Test.YtkbhmghdonomnaaGreatDoorZQrE
namespace Go.Proofs.YtkbhmghdonomnaaGreatDoor
open Go.RowKit Go.BigFrame
set_option linter.unusedVariables false
set_option linter.unusedSimpArgs false
variable {en : Nat} {WZ : World}

theorem info_exE : (Tryz.prog.info? 26).map (fun i => (i.zero, i.size, i.bytes)) = some (some (.agg #[.string ⟨#[]⟩, .string ⟨#[]⟩, .int .i64 0, .int .i64 0, .string ⟨#[]⟩, .slice none 0 0, .int .i64 0]), 7, 96) := by kernel_rfl
theorem ex_one7 (x : Ex) (xp : Option Addr) (xc : Nat) : ∀ u ∈ exL x xp xc, u.oneCell' = true := by
 intro u hu
 simp at hu
 rcases hu with rfl | rfl | rfl | rfl | rfl | rfl | rfl <;> rfl
def putL : List Value → Nat → List Value → List Value
 | xs, _, [] => xs
 | xs, o, v :: r => putL (xs.set o v) (o + 1) r
theorem putL_end : ∀ (vs A B : List Value), B.length = vs.length → putL (A ++ B) A.length vs = A ++ vs
 | [], A, B, h => by
  have : B = [] := List.length_eq_zero_iff.1 h
  subst this; rfl
 | v :: r, A, [], h => by simp at h
 | v :: r, A, b :: B, h => by
  have e : (A ++ b :: B).set A.length v = (A ++ [v]) ++ B := by simp
  rw [putL, e]
  have := putL_end r (A ++ [v]) B (by simpa using h)
  rw [List.length_append, List.length_singleton] at this
  rw [this]; simp
theorem own_cells {B : Nat} {e : TypeId} {size n cap g : Nat} : ∀ (vs : List Value) (o : Nat) (w : World) (xs : List Value), w.ownsRow B e size (.slice (some ⟨g, 0, none⟩) n cap) n xs → (w.setCells g o vs).ownsRow B e size (.slice (some ⟨g, 0, none⟩) n cap) n (putL xs o vs)
 | [], _, _, _, h => h
 | v :: r, o, w, xs, h => own_cells r (o + 1) _ _ (h.stored o v).1
theorem ArgsO.addU {w w' : World} {B : Nat} {v v' : Value} {u : Option Nat} {xs : List Ex} {cs : List Value} {b0 b1 b2 b3 b4 b5 b6 : Value} {x : Ex} (hlen : cs.length = xs.length * 7)
  (key : ∀ (y : Ex) (z : Value), ExIn w (fun b => B ≤ b ∧ some b ≠ v.ownBlock ∧ some b ≠ u) z y → ExIn w' (fun b => B ≤ b ∧ some b ≠ v'.ownBlock ∧ some b ≠ u) z y)
  (pR : ∀ j (h : j < xs.length), ∃ a0 a1 a2 a3 a4 a5 a6, cs[j * 7]? = some a0 ∧ cs[j * 7 + 1]? = some a1 ∧ cs[j * 7 + 2]? = some a2 ∧ cs[j * 7 + 3]? = some a3 ∧ cs[j * 7 + 4]? = some a4 ∧ cs[j * 7 + 5]? = some a5 ∧ cs[j * 7 + 6]? = some a6 ∧ ExIn w (fun b => B ≤ b ∧ some b ≠ v.ownBlock ∧ some b ≠ u) (.agg #[a0, a1, a2, a3, a4, a5, a6]) xs[j])
  (hx : ExIn w (fun b => B ≤ b ∧ some b ≠ v.ownBlock ∧ some b ≠ u) (.agg #[b0, b1, b2, b3, b4, b5, b6]) x) (hown' : w'.ownsRow B 26 7 v' (xs.length + 1) (cs ++ [b0, b1, b2, b3, b4, b5, b6])) : ArgsO w' B v' u (xs ++ [x]) := by
 refine ⟨cs ++ [b0, b1, b2, b3, b4, b5, b6], by rw [List.length_append, List.length_singleton]; exact hown', fun j hj => ?_⟩
 rw [List.length_append, List.length_singleton] at hj
 by_cases hj2 : j < xs.length
 ·obtain ⟨a0, a1, a2, a3, a4, a5, a6, e0, e1, e2, e3, e4, e5, e6, hy⟩ := pR j hj2
  refine ⟨a0, a1, a2, a3, a4, a5, a6, ?_, ?_, ?_, ?_, ?_, ?_, ?_, ?_⟩
  ·rw [List.getElem?_append_left (by omega)]; exact e0
  ·rw [List.getElem?_append_left (by omega)]; exact e1
  ·rw [List.getElem?_append_left (by omega)]; exact e2
  ·rw [List.getElem?_append_left (by omega)]; exact e3
  ·rw [List.getElem?_append_left (by omega)]; exact e4
  ·rw [List.getElem?_append_left (by omega)]; exact e5
  ·rw [List.getElem?_append_left (by omega)]; exact e6
  ·rw [List.getElem_append_left hj2]; exact key _ _ hy
 ·obtain rfl : j = xs.length := by omega
  refine ⟨b0, b1, b2, b3, b4, b5, b6, ?_, ?_, ?_, ?_, ?_, ?_, ?_, ?_⟩
  ·rw [List.getElem?_append_right (by omega), show xs.length * 7 - cs.length = 0 by omega]; rfl
  ·rw [List.getElem?_append_right (by omega), show xs.length * 7 + 1 - cs.length = 1 by omega]; rfl
  ·rw [List.getElem?_append_right (by omega), show xs.length * 7 + 2 - cs.length = 2 by omega]; rfl
  ·rw [List.getElem?_append_right (by omega), show xs.length * 7 + 3 - cs.length = 3 by omega]; rfl
  ·rw [List.getElem?_append_right (by omega), show xs.length * 7 + 4 - cs.length = 4 by omega]; rfl
  ·rw [List.getElem?_append_right (by omega), show xs.length * 7 + 5 - cs.length = 5 by omega]; rfl
  ·rw [List.getElem?_append_right (by omega), show xs.length * 7 + 6 - cs.length = 6 by omega]; rfl
  ·rw [List.getElem_append_right (Nat.le_refl _)]
   simp only [Nat.sub_self, List.getElem_cons_zero]
   exact key _ _ hx
abbrev bc2 (BC : Array Value) (u v : Value) : Array Value := (BC.setIfInBounds 9 u).setIfInBounds 10 v
structure CoX (WZ : World) (en : Nat) (W0 W : World) (tr rb : Nat) (BC : Array Value) (ts : List Tok) (cs : List Ex) (ns : List ByteArray) (cq : Option Addr) (k cc : Nat) (nq : Option Addr) (n nc : Nat) : Prop where
 qh : QH WZ en W tr rb ts
 box : Blk W rb (bc2 BC (.slice cq k cc) (.slice nq n nc)) 55
 cols : ArgsO W W0.heap.size (.slice cq k cc) (Value.slice nq n nc).ownBlock cs
 names : W.ownsRow W0.heap.size 9 1 (.slice nq n nc) n (ns.map .string)
 ck : cs.length = k
 nk : ns.length = n
 fr : Fr tr (fun k => k = rb) W0 W
 sz : 10 < BC.size
 lt : rb < W0.heap.size
section
variable {W0 W : World} {tr rb : Nat} {BC : Array Value} {ts : List Tok} {cs : List Ex} {ns : List ByteArray} {cq : Option Addr} {k cc : Nat} {nq : Option Addr} {n nc : Nat}
theorem CoX.at9 (h : CoX WZ en W0 W tr rb BC ts cs ns cq k cc nq n nc) : W.cell? ⟨rb, 9, none⟩ = some (.slice cq k cc) := by
 have := h.sz
 rw [h.box.cell, Array.getElem?_setIfInBounds, if_neg (by decide), Array.getElem?_setIfInBounds, if_pos rfl, if_pos (by omega)]
theorem CoX.at10 (h : CoX WZ en W0 W tr rb BC ts cs ns cq k cc nq n nc) : W.cell? ⟨rb, 10, none⟩ = some (.slice nq n nc) := by
 have := h.sz
 rw [h.box.cell, Array.getElem?_setIfInBounds, if_pos rfl, if_pos (by simpa using this)]
theorem CoX.keep {w' : World} {ts' : List Tok} {S : Nat → Prop} (h : CoX WZ en W0 W tr rb BC ts cs ns cq k cc nq n nc) (hf : Fr tr S W w') (hS : ∀ b, b < W.heap.size → ¬ S b) (hq : QH WZ en w' tr rb ts') : CoX WZ en W0 w' tr rb BC ts' cs ns cq k cc nq n nc := by
 have hne := h.qh.ne
 have hlt := h.lt
 have kb : KeepB rb W w' := ⟨hf.size, fun b h1 h2 => hf.kept b h2 (by omega) (hS b h2)⟩
 exact ⟨hq, h.box.fr hf (by omega) (hS rb h.qh.lt), h.cols.keepB kb (by omega), own_keep h.names kb (by omega), h.ck, h.nk, h.fr.trans (hf.mono (fun b hb e => (hS b hb e).elim)), h.sz, h.lt⟩
structure MidC (WZ : World) (en : Nat) (W0 W wM : World) (tr rb : Nat) (BC : Array Value) (ts : List Tok) (ns : List ByteArray) (cq : Option Addr) (k cc : Nat) (nq : Option Addr) (n nc : Nat) (q9 : Option Addr) (c9 : Nat) (L : List Value) : Prop where
 qh : QH WZ en wM tr rb ts
 box : Blk wM rb (bc2 BC (.slice q9 (k + 1) c9) (.slice nq n nc)) 55
 names : wM.ownsRow W0.heap.size 9 1 (.slice nq n nc) n (ns.map .string)
 own : wM.ownsRow W0.heap.size 26 7 (.slice q9 (k + 1) c9) (k + 1) L
 fr : Fr tr (fun k => k = rb) W0 wM
 key : ∀ (y : Ex) (z : Value), ExIn W (fun b => W0.heap.size ≤ b ∧ some b ≠ (Value.slice cq k cc).ownBlock ∧ some b ≠ (Value.slice nq n nc).ownBlock) z y → ExIn wM (fun b => W0.heap.size ≤ b ∧ some b ≠ (Value.slice q9 (k + 1) c9).ownBlock ∧ some b ≠ (Value.slice nq n nc).ownBlock) z y
 keep : ∀ b, W.heap.size ≤ b → False ∨ True
theorem CoX.grow {V w9 : World} {q9 : Option Addr} {c9 : Nat} {L CS : List Value} (h : CoX WZ en W0 W tr rb BC ts cs ns cq k cc nq n nc)
  (o1 : W.ownsRow W0.heap.size 26 7 (.slice cq k cc) k CS)
  (hb : Below W.heap.size W V) (hown' : w9.ownsRow W0.heap.size 26 7 (.slice q9 (k + 1) c9) (k + 1) L) (hgrow : V.grownBy w9 (Value.slice cq k cc).ownBlock) (hf : (Value.slice q9 (k + 1) c9).ownBlock = (Value.slice cq k cc).ownBlock ∨ (Value.slice q9 (k + 1) c9).ownBlock = some V.heap.size) :
  (w9.cell? ⟨rb, 9, none⟩ = some (.slice cq k cc) ∧ w9.frozen? ⟨rb, 9, none⟩ = false ∧ rb < w9.heap.size) ∧ Aside (MidC WZ en W0 W (w9.setCell ⟨rb, 9, none⟩ (.slice q9 (k + 1) c9)) tr rb BC ts ns cq k cc nq n nc q9 c9 L) ∧ Aside (∀ z, z < W.heap.size → z ≠ rb → some z ≠ (Value.slice cq k cc).ownBlock → (w9.setCell ⟨rb, 9, none⟩ (.slice q9 (k + 1) c9)).heap[z]? = W.heap[z]?) := by
 have hne := h.qh.ne
 have hlt := h.lt
 have s0 := h.fr.size
 have sV := hb.size
 have s9 := hgrow.size
 have ownlt : ∀ j, (Value.slice cq k cc).ownBlock = some j → W0.heap.size ≤ j ∧ j < W.heap.size := fun j hj => o1.lt j hj
 have b9 : Blk w9 rb (bc2 BC (.slice cq k cc) (.slice nq n nc)) 55 := (h.box.on hb).grown hgrow (own_ne o1 hlt)
 have F9 : Fr tr (fun k => k = rb) W0 w9 := (h.fr.on hb (by omega)).grown hgrow (fun j hj => by
  have := (ownlt j hj).1
  exact ⟨by omega, fun h => by omega⟩) (by omega)
 have B10 := b9.set 9 (.slice q9 (k + 1) c9)
 have F10 := F9.set 9 (.slice q9 (k + 1) c9) (b := rb) (by omega) (fun _ => rfl)
 have hr9 : RdAt en w9 tr ts := (h.qh.rd.on hb).onB ((Below.refl (tr + 1) V).grown hgrow (by have := h.qh.rd.lt; omega) (fun j hj => by have := (ownlt j hj).1; omega)) hgrow.size
 have hr10 : RdAt en (w9.setCell ⟨rb, 9, none⟩ (.slice q9 (k + 1) c9)) tr ts := hr9.onB ((Below.refl (tr + 1) w9).setCell (p := ⟨rb, 9, none⟩) hne _) (by simp [World.setCell])
 have hbc : (bc2 BC (.slice cq k cc) (.slice nq n nc)).setIfInBounds 9 (.slice q9 (k + 1) c9) = bc2 BC (.slice q9 (k + 1) c9) (.slice nq n nc) := by
  apply Array.ext_getElem?
  intro i
  simp only [bc2, Array.getElem?_setIfInBounds, Array.size_setIfInBounds]
  by_cases h9 : 9 = i
  ·subst h9; simp
  ·simp [h9]
 rw [hbc] at B10
 have nW := own_grown (lown_below h.names hb) (lown_below o1 hb) (by decide) hgrow
 have k9 : KeepB (rb + 1) w9 (w9.setCell ⟨rb, 9, none⟩ (.slice q9 (k + 1) c9)) := KeepB.set w9 9 _ (Nat.lt_succ_self rb)
 refine ⟨⟨?_, b9.frozen 9, b9.lt⟩, ⟨?_, B10, own_keep nW k9 (by omega), own_keep hown' k9 (by omega), F10, fun y z hy => ?_, fun _ _ => .inr trivial⟩, fun z hz hzr hzo => ?_⟩
 ·have := h.sz
  rw [b9.cell, Array.getElem?_setIfInBounds, if_neg (by decide), Array.getElem?_setIfInBounds, if_pos rfl, if_pos (by omega)]
 ·have Fq : Fr tr (fun k => k = rb ∨ W0.heap.size ≤ k) W (w9.setCell ⟨rb, 9, none⟩ (.slice q9 (k + 1) c9)) := ((Fr.of_below hb (by omega)).grown hgrow (fun j hj => by
   have := (ownlt j hj).1
   exact ⟨by omega, fun h => .inr this⟩) (by omega)).set 9 _ (by omega) (fun _ => .inl rfl)
  refine h.qh.go Fq hr10 List.suffix_rfl ?_
  rw [World.cell?_setCell_other _ _ _ _ (by simp), b9.cell, ← h.box.cell]
  exact h.qh.p0
 ·have h3 := ExIn.low (lo' := fun b => (W0.heap.size ≤ b ∧ some b ≠ (Value.slice cq k cc).ownBlock ∧ some b ≠ (Value.slice nq n nc).ownBlock) ∧ b < V.heap.size) (fun b hb hb2 => ⟨hb2, hb⟩) _ _ (hy.on hb)
  have h4 := ExIn.keep (w' := w9) hgrow.size (fun b o hb _ => by simp only [World.cell?, hgrow.block b hb.2 hb.1.2.1]) _ _ h3
  have h5 := ExIn.low (lo' := fun b => W0.heap.size ≤ b ∧ some b ≠ (Value.slice q9 (k + 1) c9).ownBlock ∧ some b ≠ (Value.slice nq n nc).ownBlock) (fun b _ hb => ⟨hb.1.1, by
   rcases hf with hf | hf
   ·rw [hf]; exact hb.1.2.1
   ·rw [hf]; intro e; injection e with e; have := hb.2; omega, hb.1.2.2⟩) _ _ h4
  exact exin_keep h5 k9 (fun b hb => by omega)
 ·rw [heap_setCell_other w9 _ z _ hzr, hgrow.block z (by omega) hzo, hb.block z hz]
theorem MidC.store {wM : World} {q9 : Option Addr} {c9 g : Nat} {x : Ex} {xp : Option Addr} {xc : Nat} {A : List Value} {b0 b1 b2 b3 b4 b5 b6 : Value} (h : MidC WZ en W0 W wM tr rb BC ts ns cq k cc nq n nc q9 c9 (A ++ [b0, b1, b2, b3, b4, b5, b6])) (hlt : rb < W0.heap.size) (hq : q9 = some ⟨g, 0, none⟩) (hA : A.length = k * 7) (hs : W0.heap.size ≤ wM.heap.size) :
  MidC WZ en W0 W (wM.setCells g (k * 7) (exL x xp xc)) tr rb BC ts ns cq k cc nq n nc q9 c9 (A ++ exL x xp xc) := by
 subst hq
 have hg := (h.own.lt g rfl).1
 have hgl := (h.own.lt g rfl).2
 have hne := h.qh.ne
 have hFr : Fr tr (· = g) wM (wM.setCells g (k * 7) (exL x xp xc)) := Fr.cells (tr := tr) (S := (· = g)) (b := g) (by omega) (fun _ => rfl) (exL x xp xc) (k * 7) wM (Fr.refl _ _ _)
 have hsz := setCells_size (b := g) (exL x xp xc) (k * 7) wM
 have hrd : RdAt en (wM.setCells g (k * 7) (exL x xp xc)) tr ts := h.qh.rd.onB (below_cellsB (by omega) _ _ wM (Below.refl _ _)) (by omega)
 have own' := own_cells (exL x xp xc) (k * 7) wM _ h.own
 rw [← hA, putL_end (exL x xp xc) A [b0, b1, b2, b3, b4, b5, b6] rfl] at own'
 rw [← hA]
 have ngrow : ∀ (u : Nat), u ≠ g → (wM.setCells g A.length (exL x xp xc)).heap[u]? = wM.heap[u]? := fun u hu => by
  rw [hA]
  by_cases hul : u < wM.heap.size
  ·by_cases hut : u = tr
   ·subst hut
    exact (below_cellsB (B := u + 1) (b := g) (by omega) (exL x xp xc) (k * 7) wM (Below.refl _ _)).block u (Nat.lt_succ_self u)
   ·exact hFr.kept u hul hut hu
  ·rw [Array.getElem?_eq_none (by omega), Array.getElem?_eq_none (by omega)]
 rw [hA] at own' ⊢
 rw [hA] at ngrow
 refine ⟨h.qh.fr hFr hrd List.suffix_rfl (by omega), h.box.fr hFr (by omega) (by omega), ?_, own', ⟨h.fr.below.trans hFr.below, fun b hb hr hn => by rw [hFr.kept b (by have := h.fr.size; omega) hr (by omega)]; exact h.fr.kept b hb hr hn⟩, fun y z hy => ?_, fun _ _ => .inr trivial⟩
 ·refine ⟨h.names.1, ?_⟩
  rcases h.names.2 with hn | ⟨g', cap, cur, e, h1, hgg, rest⟩
  ·exact .inl hn
  ·refine .inr ⟨g', cap, cur, e, h1, ?_, rest⟩
   rw [ngrow g' (fun e2 => ?_)]
   ·exact hgg
   ·subst e2
    rcases h.own.2 with ⟨hh, _⟩ | ⟨g2, cap2, cur2, hh, _, hgg2, _⟩
    ·simp at hh
    ·simp only [Value.slice.injEq, Option.some.injEq, Addr.mk.injEq, and_true, true_and] at hh
     obtain ⟨rfl, rfl⟩ := hh
     rw [hgg] at hgg2
     injection hgg2 with hgg2
     injection hgg2 with _ h2 _
     exact absurd h2 (by decide)
 ·have h1 := h.key y z hy
  exact ExIn.keep (by omega) (fun b o hb _ => by
   have : b ≠ g := fun e => hb.2.1 (by rw [e]; rfl)
   simp only [World.cell?, ngrow b this]) _ _ h1
theorem MidC.done {wM : World} {q9 : Option Addr} {c9 : Nat} {x : Ex} {xp : Option Addr} {xc : Nat} {CS : List Value} (h : MidC WZ en W0 W wM tr rb BC ts ns cq k cc nq n nc q9 c9 (CS ++ exL x xp xc)) (hk : cs.length = k) (hn : ns.length = n) (hsz : 10 < BC.size) (hlt : rb < W0.heap.size) (hlen : CS.length = cs.length * 7)
  (pR : ∀ j (h : j < cs.length), ∃ a0 a1 a2 a3 a4 a5 a6, CS[j * 7]? = some a0 ∧ CS[j * 7 + 1]? = some a1 ∧ CS[j * 7 + 2]? = some a2 ∧ CS[j * 7 + 3]? = some a3 ∧ CS[j * 7 + 4]? = some a4 ∧ CS[j * 7 + 5]? = some a5 ∧ CS[j * 7 + 6]? = some a6 ∧ ExIn W (fun b => W0.heap.size ≤ b ∧ some b ≠ (Value.slice cq k cc).ownBlock ∧ some b ≠ (Value.slice nq n nc).ownBlock) (.agg #[a0, a1, a2, a3, a4, a5, a6]) cs[j])
  (hx : ExIn W (fun b => W0.heap.size ≤ b ∧ some b ≠ (Value.slice cq k cc).ownBlock ∧ some b ≠ (Value.slice nq n nc).ownBlock) (exV x xp xc) x) : CoX WZ en W0 wM tr rb BC ts (cs ++ [x]) ns q9 (k + 1) c9 nq n nc := by
 subst hk
 exact ⟨h.qh, h.box, ArgsO.addU hlen h.key pR hx h.own, h.names, by simp, hn, h.fr, hsz, hlt⟩
end
end Go.Proofs.YtkbhmghdonomnaaGreatDoor
