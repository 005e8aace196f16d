/-
  AgP, ButM, BlkB, AgT, AgU, in one text.
-/
import Derived.Test.YtfonalmgdjboeaaDoorGrAa
import Derived.Test.YtfonalmgdjboeaaDoorProg
import Derived.WalkKit
import Derived.Below
import Derived.RowKitTokens
import Derived.WalkSmall
import Derived.Deep.Heap
import Derived.OneCell
import Derived.Lib.OthersKept
import Derived.Deep.MidRow
import Derived.Laws.AppendOwnNone
import Derived.Laws.OwnMore
import Derived.Laws.Externs
import Derived.BigQuiet
import Derived.Deep.QuietTactic
import Derived.Deep.LoopGhost
import Derived.Deep.OwnRows
namespace Go.Proofs.YtfonalmgdjboeaaDoor
open Go.RowKit
set_option linter.unusedVariables false

def wCount : List UInt8 := [99, 111, 117, 110, 116]
def wSum : List UInt8 := [115, 117, 109]
def wLeast : List UInt8 := [108, 101, 97, 115, 116]
def wMost : List UInt8 := [109, 111, 115, 116]
/-- A part: which aggregate, the type of its values, the sum as words, the least or most. -/
structure Pt where
  what : ByteArray
  kind : Int
  ws : List Int
  best : V3
def Pt.wh (p : Pt) : List UInt8 := p.what.data.toList
/-- Which of two values is ahead. -/
def cmpX (a b : V3) : Int := cmpN a.1 a.2.1 a.2.2.data.toList b.1 b.2.1 b.2.2.data.toList
/-- Is what one found rather told than what another one did? -/
def aheadP (p o : Pt) : Bool :=
  if p.best.1 = 0 ∨ o.best.1 = 0 then decide (p.best.1 ≠ 0)
  else if p.wh = wLeast then decide (cmpX p.best o.best < 0) else decide (0 < cmpX p.best o.best)
/-- What is known of two. -/
def tkP (p o : Pt) : Pt :=
  if p.wh = wSum then { p with ws := shW (sumW p.ws o.ws) }
  else if p.wh = wLeast ∨ p.wh = wMost then (if aheadP o p = true then { p with best := o.best } else p) else p
/-- What is known of one value. -/
def oneP (p : Pt) (v : V3) : Pt :=
  if p.wh = wSum then ⟨p.what, p.kind, [v.2.1 % 18446744073709551616], noV⟩
  else if p.wh = wLeast ∨ p.wh = wMost then ⟨p.what, p.kind, [], v⟩ else ⟨p.what, p.kind, [], noV⟩
/-- What is wrong with a value. -/
def ckPt (p : Pt) (v : V3) : Int := if p.wh = wCount then 0 else if chk v.1 v.2.1 v.2.2.data.toList ≠ 0 then chk v.1 v.2.1 v.2.2.data.toList else if v.1 ≠ p.kind then 8 else 0
/-- What is told. -/
def resP (p : Pt) (rows : Int) : V3 × Int :=
  if p.wh = wCount then ((1, rows, ⟨#[]⟩), 0)
  else if p.wh = wSum then (if -9223372036854775808 ≤ sv p.ws ∧ sv p.ws ≤ 9223372036854775807 then ((1, sv p.ws, ⟨#[]⟩), 0) else ((1, 0, ⟨#[]⟩), 9))
  else if p.best.1 = 0 then (noV, 5) else (p.best, 0)
/-- What is wrong with an aggregate of a type. -/
def npE (x : List UInt8) (k : Int) : Int := if isAg x = false then 2 else if x = wCount then 0 else if ¬ (k = 1 ∨ k = 2 ∨ k = 3) then 1 else if x = wSum ∧ k ≠ 1 then 8 else 0
def npP (x : ByteArray) (k : Int) : Pt := if npE x.data.toList k ≠ 0 then ⟨⟨#[]⟩, 0, [], noV⟩ else ⟨x, if x.data.toList = wCount then 0 else k, [], noV⟩
/-- A part that is right: what it is of, its words, its least or most. -/
structure OkPt (p : Pt) : Prop where
  ag : isAg p.wh = true
  kn : p.wh ≠ wCount → p.kind = 1 ∨ p.kind = 2 ∨ p.kind = 3
  ks : p.wh = wSum → p.kind = 1
  ws : wdR p.ws ∧ Short p.ws ∧ p.ws.length ≤ 900
  best : p.best.1 = 0 ∧ p.best = noV ∨ p.best.1 = p.kind ∧ chk p.best.1 p.best.2.1 p.best.2.2.data.toList = 0 ∧ inB p.best.2.1
theorem isAg_or {s : List UInt8} (h : isAg s = true) : s = wCount ∨ s = wSum ∨ s = wLeast ∨ s = wMost := by
  simp only [isAg, Bool.or_eq_true, decide_eq_true_eq] at h
  exact h
theorem w_ne : wCount ≠ wSum ∧ wCount ≠ wLeast ∧ wCount ≠ wMost ∧ wSum ≠ wLeast ∧ wSum ≠ wMost ∧ wLeast ≠ wMost := by decide
theorem tkP_what (p o : Pt) : (tkP p o).what = p.what ∧ (tkP p o).kind = p.kind := by
  unfold tkP
  split
  · exact ⟨rfl, rfl⟩
  · split
    · split <;> exact ⟨rfl, rfl⟩
    · exact ⟨rfl, rfl⟩
theorem oneP_what (p : Pt) (v : V3) : (oneP p v).what = p.what ∧ (oneP p v).kind = p.kind := by
  unfold oneP
  split
  · exact ⟨rfl, rfl⟩
  · split <;> exact ⟨rfl, rfl⟩
end Go.Proofs.YtfonalmgdjboeaaDoor
namespace Go.Proofs.YtfonalmgdjboeaaDoor
open Go.RowKit
set_option linter.unusedVariables false

/-- All that was there is kept but the block r. -/
structure But (r : Nat) (w w' : World) : Prop where
  below : Below r w w'
  size : w.heap.size ≤ w'.heap.size
  kept : ∀ k, k < w.heap.size → k ≠ r → w'.heap[k]? = w.heap[k]?
theorem But.refl (r : Nat) (w : World) : But r w w := ⟨Below.refl _ _, Nat.le_refl _, fun _ _ _ => rfl⟩
theorem But.trans {r : Nat} {w w1 w2 : World} (h : But r w w1) (k : But r w1 w2) : But r w w2 :=
  ⟨h.below.trans k.below, Nat.le_trans h.size k.size, fun b hb hr => by rw [k.kept b (by have := h.size; omega) hr, h.kept b hb hr]⟩
theorem But.drewN {r : Nat} {w w1 : World} (h : But r w w1) (q : Nat) : But r w (w1.drewN q) := ⟨below_drewN h.below q, h.size, h.kept⟩
theorem But.drew {r : Nat} {w w1 : World} (h : But r w w1) : But r w w1.drew := ⟨Below.drew h.below, h.size, h.kept⟩
theorem But.set {r : Nat} {w w1 : World} (h : But r w w1) (o : Nat) (v : Value) : But r w (w1.setCell ⟨r, o, none⟩ v) :=
  ⟨h.below.setCell (p := ⟨r, o, none⟩) (Nat.le_refl _) v, by have := h.size; simpa [World.setCell] using this, fun k hk hr => by rw [Below.heap_setCell _ _ _ _ (fun e => hr e)]; exact h.kept k hk hr⟩
theorem But.cell {r : Nat} {w w1 : World} (h : But r w w1) {b : Nat} (o : Nat) (hb : b < w.heap.size) (hr : b ≠ r) : w1.cell? ⟨b, o, none⟩ = w.cell? ⟨b, o, none⟩ := by
  simp only [World.cell?, h.kept b hb hr]
theorem But.of_below' {r : Nat} {w w' : World} (h : Below w.heap.size w w') (hr : r ≤ w.heap.size) : But r w w' := ⟨h.mono hr, h.size, fun k hk _ => h.block k hk⟩
theorem But.setNew {r : Nat} {w w1 : World} (h : But r w w1) (z o : Nat) (hz : w.heap.size ≤ z) (hr : r ≤ z) (v : Value) : But r w (w1.setCell ⟨z, o, none⟩ v) :=
  ⟨h.below.setCell (p := ⟨z, o, none⟩) hr v, by have := h.size; simpa [World.setCell] using this, fun k hk hkr => by rw [Below.heap_setCell _ _ _ _ (fun e => by simp at e; omega)]; exact h.kept k hk hkr⟩
theorem But.alloc {r : Nat} {w w1 : World} (h : But r w w1) (hr : r ≤ w1.heap.size) (o : Obj) : But r w (w1.alloc o) :=
  ⟨h.below.alloc hr o, by have := h.size; simp; omega, fun k hk hkr => by
    rw [((Below.refl w1.heap.size w1).alloc (Nat.le_refl _) o).block k (by have := h.size; omega)]; exact h.kept k hk hkr⟩
end Go.Proofs.YtfonalmgdjboeaaDoor
namespace Go.Proofs.YtfonalmgdjboeaaDoor
open Go.RowKit
set_option linter.unusedVariables false

/-- A block as a whole. -/
def Blk (w : World) (b : Nat) (cs : Array Value) (t : TypeId) : Prop := w.heap[b]? = some (.cells cs t (0, 0))
theorem Blk.lt {w : World} {b : Nat} {cs : Array Value} {t : TypeId} (h : Blk w b cs t) : b < w.heap.size := lt_of_block h
theorem Blk.cell {w : World} {b : Nat} {cs : Array Value} {t : TypeId} (h : Blk w b cs t) (i : Nat) : w.cell? ⟨b, i, none⟩ = cs[i]? := by unfold Blk at h; simp [World.cell?, h]
theorem Blk.frozen {w : World} {b : Nat} {cs : Array Value} {t : TypeId} (h : Blk w b cs t) (i : Nat) : w.frozen? ⟨b, i, none⟩ = false := frozen_of_row w b i cs t h
theorem Blk.keep {w w' : World} {b : Nat} {cs : Array Value} {t : TypeId} (h : Blk w b cs t) (hk : w'.heap[b]? = w.heap[b]?) : Blk w' b cs t := by unfold Blk at *; rw [hk]; exact h
theorem Blk.set {w : World} {b : Nat} {cs : Array Value} {t : TypeId} (h : Blk w b cs t) (i : Nat) (v : Value) : Blk (w.setCell ⟨b, i, none⟩ v) b (cs.setIfInBounds i v) t := heap_setCell_same w b i cs t v h
theorem Blk.far {w : World} {b z : Nat} {cs : Array Value} {t : TypeId} (h : Blk w b cs t) (hz : b ≠ z) (i : Nat) (v : Value) : Blk (w.setCell ⟨z, i, none⟩ v) b cs t := h.keep (heap_setCell_other w _ b v hz)
theorem Blk.but {w w' : World} {r b : Nat} {cs : Array Value} {t : TypeId} (h : Blk w b cs t) (hb : But r w w') (hr : b ≠ r) : Blk w' b cs t := h.keep (hb.kept b h.lt hr)
theorem Blk.on {w w' : World} {b : Nat} {cs : Array Value} {t : TypeId} (h : Blk w b cs t) (hb : Below w.heap.size w w') : Blk w' b cs t := h.keep (hb.block b h.lt)
theorem Blk.grown {w w' : World} {b : Nat} {cs : Array Value} {t : TypeId} {row : Option Nat} (h : Blk w b cs t) (hg : w.grownBy w' row) (hr : some b ≠ row) : Blk w' b cs t := h.keep (hg.block b h.lt hr)
theorem blk_alloc (w : World) (cs : Array Value) (t : TypeId) : Blk (w.alloc (.cells cs t)) w.heap.size cs t := by
  show (w.heap.push _)[_]? = _
  rw [Array.getElem?_push_size]
/-- All blocks from B on stay as they were. -/
def KeepB (B : Nat) (w w' : World) : Prop := w.heap.size ≤ w'.heap.size ∧ ∀ b, B ≤ b → b < w.heap.size → w'.heap[b]? = w.heap[b]?
theorem KeepB.refl (B : Nat) (w : World) : KeepB B w w := ⟨Nat.le_refl _, fun _ _ _ => rfl⟩
theorem KeepB.trans {B : Nat} {w w1 w2 : World} (h : KeepB B w w1) (k : KeepB B w1 w2) : KeepB B w w2 := ⟨Nat.le_trans h.1 k.1, fun b h1 h2 => by rw [k.2 b h1 (by have := h.1; omega), h.2 b h1 h2]⟩
theorem KeepB.but {B r : Nat} {w w' : World} (h : But r w w') (hr : r < B) : KeepB B w w' := ⟨h.size, fun b h1 h2 => h.kept b h2 (by omega)⟩
theorem KeepB.on {B : Nat} {w w' : World} (h : Below w.heap.size w w') : KeepB B w w' := ⟨h.size, fun b _ h2 => h.block b h2⟩
theorem KeepB.set {B z : Nat} (w : World) (i : Nat) (v : Value) (hz : z < B) : KeepB B w (w.setCell ⟨z, i, none⟩ v) := ⟨by simp [World.setCell], fun b h1 _ => heap_setCell_other w _ b v (by show b ≠ z; omega)⟩
theorem own_keep {w w' : World} {B B' : Nat} {e : TypeId} {size n : Nat} {v : Value} {xs : List Value} (h : w.ownsRow B e size v n xs) (hk : KeepB B' w w') (hB : B' ≤ B) : w'.ownsRow B e size v n xs := by
  refine ⟨h.1, ?_⟩
  rcases h.2 with hn | ⟨g, cap, cur, rfl, h1, hgg, rest⟩
  · exact .inl hn
  · exact .inr ⟨g, cap, cur, rfl, h1, by rw [hk.2 g (by omega) (Array.getElem?_eq_some_iff.1 hgg).1]; exact hgg, rest⟩
/-- All that was there is kept but the blocks of S. -/
structure Kp (S : Nat → Prop) (w w' : World) : Prop where
  low : Below 0 w w'
  kept : ∀ k, k < w.heap.size → ¬ S k → w'.heap[k]? = w.heap[k]?
theorem Kp.size {S : Nat → Prop} {w w' : World} (h : Kp S w w') : w.heap.size ≤ w'.heap.size := h.low.size
theorem Kp.refl (S : Nat → Prop) (w : World) : Kp S w w := ⟨Below.refl _ _, fun _ _ _ => rfl⟩
theorem Kp.trans {S : Nat → Prop} {w w1 w2 : World} (h : Kp S w w1) (k : Kp S w1 w2) : Kp S w w2 :=
  ⟨h.low.trans k.low, fun b hb hs => by rw [k.kept b (by have := h.size; omega) hs, h.kept b hb hs]⟩
theorem Kp.mono {S S' : Nat → Prop} {w w1 : World} (h : Kp S w w1) (hs : ∀ k, k < w.heap.size → S k → S' k) : Kp S' w w1 := ⟨h.low, fun b hb hn => h.kept b hb (fun e => hn (hs b hb e))⟩
theorem Kp.of_below {S : Nat → Prop} {w w1 : World} (h : Below w.heap.size w w1) : Kp S w w1 := ⟨h.mono (Nat.zero_le _), fun b hb _ => h.block b hb⟩
theorem Kp.below {S : Nat → Prop} {w w1 : World} {B : Nat} (h : Kp S w w1) (hB : B ≤ w.heap.size) (hs : ∀ k, k < B → ¬ S k) : Below B w w1 :=
  ⟨h.low.os, h.low.tape, h.low.output, h.low.size, fun k hk => h.kept k (by omega) (hs k hk)⟩
theorem Kp.on {S : Nat → Prop} {w w1 w2 : World} (h : Kp S w w1) (k : Below w1.heap.size w1 w2) : Kp S w w2 := h.trans (Kp.of_below k)
theorem Kp.set {S : Nat → Prop} {w w1 : World} (h : Kp S w w1) {b : Nat} (o : Nat) (v : Value) (hs : b < w.heap.size → S b) : Kp S w (w1.setCell ⟨b, o, none⟩ v) :=
  ⟨h.low.setCell (p := ⟨b, o, none⟩) (Nat.zero_le _) v, fun k hk hn => by rw [Below.heap_setCell _ _ _ _ (fun e => by simp at e; subst e; exact hn (hs hk))]; exact h.kept k hk hn⟩
theorem Kp.drew {S : Nat → Prop} {w w1 : World} (h : Kp S w w1) : Kp S w w1.drew := ⟨h.low.drew, h.kept⟩
theorem Kp.alloc {S : Nat → Prop} {w w1 : World} (h : Kp S w w1) (o : Obj) : Kp S w (w1.alloc o) := h.on ((Below.refl _ _).alloc (Nat.le_refl _) o)
theorem Kp.grown {S : Nat → Prop} {w w1 w2 : World} {row : Option Nat} (h : Kp S w w1) (hg : w1.grownBy w2 row) (hr : ∀ k, row = some k → k < w.heap.size → S k) : Kp S w w2 :=
  ⟨h.low.grown hg (Nat.zero_le _) (fun _ _ => Nat.zero_le _), fun k hk hn => by rw [hg.block k (by have := h.size; omega) (fun e => hn (hr k e.symm hk))]; exact h.kept k hk hn⟩
theorem Kp.cell {S : Nat → Prop} {w w1 : World} (h : Kp S w w1) {b : Nat} (o : Nat) (hb : b < w.heap.size) (hs : ¬ S b) : w1.cell? ⟨b, o, none⟩ = w.cell? ⟨b, o, none⟩ := by
  simp only [World.cell?, h.kept b hb hs]
theorem Blk.kp {S : Nat → Prop} {w w1 : World} {b : Nat} {cs : Array Value} {t : TypeId} (h : Blk w b cs t) (hf : Kp S w w1) (hs : ¬ S b) : Blk w1 b cs t := h.keep (hf.kept b h.lt hs)
theorem Blk.there {w : World} {b : Nat} {cs : Array Value} {t : TypeId} (h : Blk w b cs t) (o n : Nat) (hn : o + n ≤ cs.size) : w.there b o n := fun j hj => by
  refine ⟨?_, h.frozen _⟩
  rw [h.cell, Array.getElem?_eq_getElem (by omega)]
  rfl
def putA : Array Value → Nat → List Value → Array Value
  | cs, _, [] => cs
  | cs, o, v :: r => putA (cs.setIfInBounds o v) (o + 1) r
theorem Blk.cells {b : Nat} {t : TypeId} : ∀ (vs : List Value) (o : Nat) (w : World) (cs : Array Value), Blk w b cs t → Blk (w.setCells b o vs) b (putA cs o vs) t
  | [], _, _, _, h => h
  | v :: r, o, _, _, h => Blk.cells r (o + 1) _ _ (h.set o v)
theorem below_cells {B b : Nat} {a : World} (hb : B ≤ b) : ∀ (vs : List Value) (o : Nat) (w : World), Below B a w → Below B a (w.setCells b o vs)
  | [], _, _, h => h
  | v :: r, o, w, h => below_cells hb r (o + 1) _ (h.setCell (p := ⟨b, o, none⟩) hb v)
theorem keep_cells {B b : Nat} (hb : b < B) : ∀ (vs : List Value) (o : Nat) (w : World), KeepB B w (w.setCells b o vs)
  | [], _, w => KeepB.refl _ _
  | v :: r, o, w => (KeepB.set w o v hb).trans (keep_cells hb r (o + 1) _)
theorem cell_ne {w : World} {b o o' : Nat} {v : Value} (h : o ≠ o') : (w.setCell ⟨b, o, none⟩ v).cell? ⟨b, o', none⟩ = w.cell? ⟨b, o', none⟩ := by
  rw [World.cell?_setCell_other]
  intro e
  injection e with _ e
  exact h e
theorem cell_eq {w : World} {b o : Nat} {v u : Value} (h : w.cell? ⟨b, o, none⟩ = some u) : (w.setCell ⟨b, o, none⟩ v).cell? ⟨b, o, none⟩ = some v := by
  simp [World.cell?_setCell_same, h]
theorem Blk.drew {w : World} {b : Nat} {cs : Array Value} {t : TypeId} (h : Blk w b cs t) : Blk w.drew b cs t := h
theorem But.cells {r : Nat} {w : World} : ∀ (vs : List Value) (o : Nat) (w1 : World), But r w w1 → But r w (w1.setCells r o vs)
  | [], _, _, h => h
  | v :: vs, o, _, h => But.cells vs (o + 1) _ (h.set o v)
theorem Kp.of_but {r : Nat} {S : Nat → Prop} {w w1 : World} (h : But r w w1) (hS : S r) : Kp S w w1 := ⟨h.below.mono (Nat.zero_le _), fun k hk hn => h.kept k hk (fun e => by subst e; exact hn hS)⟩
/-- A whole struct is stored into a place of a block that is known as a whole. -/
theorem wpList_store_blk {P : Program} {ops : Array Oper} {rest : List Oper} {op : Oper} {a : Act} {W : World} {Q : Exit → Act → World → Prop} (hgd : op.guard = none) (ty : TypeId) (x y : Operand) (ho : op.op = .store ty x y)
    (b o : Nat) (cells : Array Value) (hx : a.eval x = .pointer (some ⟨b, o, none⟩)) (hy : a.eval y = .agg cells) (cs : Array Value) (T : TypeId) (hb : Blk W b cs T) (hn : o + cells.size ≤ cs.size)
    (hi : (P.info? ty).map (·.size) = some cells.size) (h1 : cells.all (·.oneCell') = true)
    (h : ∀ W', Blk W' b (putA cs o cells.toList) T → But b W W' → wpList P ops Q rest (a.put op.dst undef) W') : wpList P ops Q (op :: rest) a W :=
  wpList_store_mid hgd ty x y ho b o cells hx hy (hb.there o cells.size hn) hi h1 (h _ (Blk.cells _ _ _ _ hb) (But.cells _ _ _ (But.refl _ _)))
/-- A whole struct is read out of a place of a block that is known as a whole. -/
theorem wpList_load_blk {P : Program} {ops : Array Oper} {rest : List Oper} {op : Oper} {a : Act} {W : World} {Q : Exit → Act → World → Prop} (hgd : op.guard = none) (ty : TypeId) (x : Operand) (ho : op.op = .load ty x)
    (b o : Nat) (hx : a.eval x = .pointer (some ⟨b, o, none⟩)) (cs : Array Value) (T : TypeId) (hb : Blk W b cs T) (l : List Value) (hr : ∀ j v, l[j]? = some v → cs[o + j]? = some v) (d : TypeDesc)
    (hu : P.underlying ty = some d) (hd : d.isRow = true) (hi : (P.info? ty).map (·.size) = some l.length)
    (h : wpList P ops Q rest (a.put op.dst (.agg l.toArray)) W) : wpList P ops Q (op :: rest) a W :=
  wpList_load_mid hgd ty x ho b o hx l d (fun j v hv => by rw [hb.cell]; exact hr j v hv) hu hd hi h
end Go.Proofs.YtfonalmgdjboeaaDoor
namespace Go.Proofs.YtfonalmgdjboeaaDoor
open Go.RowKit
set_option linter.unusedVariables false

theorem info_u64 : (Tryd.prog.info? 84).map (fun i => (i.zero, i.size, i.bytes)) = some (some (.int .u64 0), 1, 8) := by kernel_rfl
/-- Words one behind the other; none of them, and they may lie nowhere. -/
def TotA (w : World) (v : Value) (ws : List Int) : Prop := ∃ p c, v = .slice p ws.length c ∧ (ws.length ≤ c ∧ ws.length ≤ 1000) ∧ (p = none → c = 0) ∧ wdR ws ∧ ∀ a, p = some a → ∃ g off, a = ⟨g, off, none⟩ ∧ (∃ cs, w.heap[g]? = some (.cells cs 84 (0, 0))) ∧ ∀ j (h : j < ws.length), w.cell? ⟨g, off + j, none⟩ = some (.int .u64 ws[j])
/-- What keeps rows of words keeps them. -/
theorem TotA.keep {w w' : World} {v : Value} {ws : List Int} (h : TotA w v ws) (hk : ∀ (g : Nat) (cs : Array Value), w.heap[g]? = some (Obj.cells cs 84 (0, 0)) → w'.heap[g]? = w.heap[g]?) : TotA w' v ws := by
  obtain ⟨p, c, e, h1, h2, h3, h4⟩ := h
  refine ⟨p, c, e, h1, h2, h3, fun a ha => ?_⟩
  obtain ⟨g, off, e2, ⟨cs, h5⟩, h6⟩ := h4 a ha
  have := hk g cs h5
  exact ⟨g, off, e2, ⟨cs, by rw [this]; exact h5⟩, fun j hj => by rw [World.cell?_of_block (w := w) (a := ⟨g, off + j, none⟩) this]; exact h6 j hj⟩
theorem TotA.on {w w' : World} {v : Value} {ws : List Int} (h : TotA w v ws) (hb : Below w.heap.size w w') : TotA w' v ws :=
  h.keep fun g cs hg => hb.block g (Array.getElem?_eq_some_iff.1 hg).1
theorem TotA.nil (w : World) : TotA w (.slice none 0 0) [] := ⟨none, 0, rfl, ⟨Nat.le_refl _, Nat.zero_le _⟩, fun _ => rfl, fun x hx => absurd hx (by simp), fun a h => nomatch h⟩
theorem TotA.form {w : World} {v : Value} {ws : List Int} (h : TotA w v ws) : ∃ q c, v = .slice q ws.length c ∧ ws.length ≤ 1000 := by
  obtain ⟨p, c, e, h, _⟩ := h
  exact ⟨p, c, e, h.2⟩
theorem TotA.at {w : World} {q : Option Addr} {n c m : Nat} {ws : List Int} (h : TotA w (.slice q n c) ws) (hm : m < ws.length) : ∃ g off, q = some ⟨g, off, none⟩ ∧ g < w.heap.size ∧ ∀ j (h : j < ws.length), w.cell? ⟨g, off + j, none⟩ = some (.int .u64 ws[j]) := by
  obtain ⟨p', c', e, ⟨h1, h64⟩, h2, _, h3⟩ := h
  injection e with e1 e2 e3
  subst e1 e3
  cases q with
  | none => have := h2 rfl; omega
  | some a =>
    obtain ⟨g, off, rfl, ⟨cs, h5⟩, h6⟩ := h3 a rfl
    exact ⟨g, off, rfl, (Array.getElem?_eq_some_iff.1 h5).1, h6⟩
theorem TotA.R {w : World} {v : Value} {ws : List Int} (h : TotA w v ws) : wdR ws := by
  obtain ⟨p, c, e, h, _, h2, _⟩ := h
  exact h2
theorem tot_slice_h {w : World} {p : Option Addr} {n c l : Nat} {ts : List Int} (h : TotA w (.slice p n c) ts) (hn : ts.length = n) (hl : l ≤ n) : (∀ W, Sem.run Tryd.prog (Instr.slice 58 (.slice p n c) none (some (.int .i64 (l : Int))) none) W = .ok (.slice p l c) W) ∧ TotA w (.slice p l c) (ts.take l) := by
  subst hn
  obtain ⟨p', c', e, ⟨h1, h64⟩, h2, hR, h3⟩ := h
  injection e with e1 e2 e3
  subst e1 e3
  have hr : ∀ W, Sem.run Tryd.prog (Instr.slice 58 (.slice p ts.length c) none (some (.int .i64 (l : Int))) none) W = .ok (sliced p 0 l c 1) W := fun W => by
    have g0 : (0 : Int) ≤ (l : Int) := by omega
    have g1 : (l : Int) ≤ (c : Int) := by omega
    have g2 : Sem.run Tryd.prog (Go.sizeOf (Tryd.prog.elem 58)) W = .ok 1 W := by kernel_rfl
    rw [run_slice_h W 58 p ts.length c (by kernel_rfl) .i64 l g0 g1, g2]
    rfl
  have hlen : (ts.take l).length = l := by rw [List.length_take]; omega
  refine ⟨fun W => ?_, p, c, by rw [hlen], ⟨by omega, by omega⟩, h2, fun x hx => hR x (List.mem_of_mem_take hx), fun a ha => ?_⟩
  · rw [hr W, sliced]
    cases p with
    | none => simp
    | some a =>
      obtain ⟨g, off, rfl, -⟩ := h3 a rfl
      simp [Addr.add]
  · obtain ⟨g, off, e2, h5, h6⟩ := h3 a ha
    refine ⟨g, off, e2, h5, fun j hj => ?_⟩
    rw [List.getElem_take]
    exact h6 j (by omega)
theorem byW_last {ws : List Int} {n : Nat} (h : ws.length = n + 1) : byW ws = if 9223372036854775807 < ws[n]'(by omega) then 18446744073709551615 else 0 := by
  rw [byW, List.getLast?_eq_getElem?, show ws.length - 1 = n by omega, List.getElem?_eq_getElem (by omega)]
  rfl
set_option maxHeartbeats 1000000 in
theorem beyond_any (v : Value) (ws : List Int) (w : World) (h : TotA w v ws) :
    Calls Tryd.prog 63 #[v] w fun e w' => e = .returned (.int .u64 (byW ws)) ∧ w' = w := by
  obtain ⟨q, c, rfl, hl⟩ := h.form
  by_cases h0 : ws.length = 0
  · have hb : byW ws = 0 := by rw [List.length_eq_zero_iff.1 h0]; rfl
    rw [h0, hb]
    clear h h0 hb
    go_enter Tryd.func63, Tryd.ntmps63
    go_wp2
    go_ret
    exact ⟨rfl, rfl⟩
  · obtain ⟨n, hn⟩ : ∃ n, ws.length = n + 1 := ⟨ws.length - 1, by omega⟩
    obtain ⟨g, off, rfl, hg, hc⟩ := h.at (m := n) (by omega)
    have hx := hc n (by omega)
    have hw : IntKind.i64.wrap ((ws.length : Int) - 1) = (n : Int) := by rw [IntKind.wrap_i64]; omega
    have hpos : (0 : Int) < (ws.length : Int) := by omega
    have hlt : (n : Int) < (ws.length : Int) := by omega
    have hnn : (0 : Int) ≤ (n : Int) := by omega
    have hl2 : (ws.length : Int) ≤ 1000 := by omega
    have hB : Hid (byW ws = if 9223372036854775807 < ws[n]'(by omega) then 18446744073709551615 else 0) := byW_last hn
    generalize ws[n]'(by omega) = x at hx hB
    generalize byW ws = R at hB ⊢
    clear hc hn h0 h
    generalize ws.length = L at *
    by_cases hxx : 9223372036854775807 < x
    · have := hB.out
      rw [if_pos hxx] at this
      subst this
      go_enter Tryd.func63, Tryd.ntmps63
      go_wp2
      go_ret
      exact ⟨rfl, rfl⟩
    · have := hB.out
      rw [if_neg hxx] at this
      subst this
      go_enter Tryd.func63, Tryd.ntmps63
      go_wp2
      go_ret
      exact ⟨rfl, rfl⟩
theorem word_any (v : Value) (ws : List Int) (i : Nat) (w : World) (h : TotA w v ws) (hi : i ≤ 100000) :
    Calls Tryd.prog 55 #[v, .int .i64 (i : Int)] w fun e w' => e = .returned (.int .u64 (wordW ws i)) ∧ w' = w := by
  have cB := beyond_any v ws w h
  obtain ⟨q, c, rfl, hl⟩ := h.form
  by_cases hlt : i < ws.length
  · obtain ⟨g, off, rfl, hg, hc⟩ := h.at hlt
    have hx := hc i hlt
    have hW : wordW ws i = ws[i] := by rw [wordW, dif_pos hlt]
    rw [hW]
    generalize ws[i] = x at hx ⊢
    have h1 : (i : Int) < (ws.length : Int) := by omega
    have h2 : (0 : Int) ≤ (i : Int) := by omega
    clear hc hW cB h
    generalize ws.length = L at *
    go_enter Tryd.func55, Tryd.ntmps55
    go_wp2
    go_ret
    exact ⟨rfl, rfl⟩
  · have hW : wordW ws i = byW ws := wordW_far (by omega)
    rw [hW]
    have h1 : ¬ (i : Int) < (ws.length : Int) := by omega
    clear hW h
    generalize byW ws = R at cB ⊢
    generalize ws.length = L at *
    go_enter Tryd.func55, Tryd.ntmps55
    go_wp2_with fail
    refine cB.mono ?_
    rintro e w1 ⟨rfl, rfl⟩
    go_wp2
    go_ret
    exact ⟨rfl, rfl⟩
set_option maxHeartbeats 1000000 in
theorem number_any (v : Value) (ws : List Int) (w : World) (h : TotA w v ws) (hs : Short ws) (T E : Int) (hT : (if -9223372036854775808 ≤ sv ws ∧ sv ws ≤ 9223372036854775807 then (sv ws, (0 : Int)) else (0, 9)) = (T, E)) :
    Calls Tryd.prog 45 #[v] w fun e w' => e = .returned (.tuple #[.int .i64 T, errV E]) ∧ w' = w := by
  have cW := word_any v ws 0 w h (by omega)
  have hR := h.R
  obtain ⟨q, c, rfl, hl⟩ := h.form
  by_cases h1 : ws.length ≤ 1
  · obtain ⟨o1, o2, o3⟩ := one_is ws hR h1
    rw [if_pos ⟨o2, o3⟩] at hT
    obtain ⟨rfl, rfl⟩ := Prod.mk.inj hT
    have hw0 : 0 ≤ wordW ws 0 ∧ wordW ws 0 < 18446744073709551616 := by
      rw [wordW]
      split
      · exact hR _ (List.getElem_mem _)
      · exact byW_R ws _ (by simp)
    have hwr : IntKind.i64.wrap (wordW ws 0) = sv ws := by rw [IntKind.wrap_i64, o1]; split <;> omega
    have hg : ¬ (1 : Int) < (ws.length : Int) := by omega
    generalize sv ws = S at *
    generalize wordW ws 0 = x at *
    generalize ws.length = L at *
    rw [show errV 0 = .nilIface from rfl]
    clear o1 hT h1 h hR
    go_enter Tryd.func45, Tryd.ntmps45
    go_wp2_with fail
    refine cW.mono ?_
    rintro e w1 ⟨rfl, rfl⟩
    clear cW
    go_wp2
    go_ret2
    exact ⟨rfl, rfl⟩
  · rw [if_neg (by have := short_far ws hR hs (by omega); omega)] at hT
    obtain ⟨rfl, rfl⟩ := Prod.mk.inj hT
    have hg : (1 : Int) < (ws.length : Int) := by omega
    generalize ws.length = L at *
    rw [show errV 9 = .iface 53 (.int .i64 9) from rfl]
    clear cW h h1 hT
    go_enter Tryd.func45, Tryd.ntmps45
    go_wp2
    go_ret2
    exact ⟨rfl, rfl⟩
end Go.Proofs.YtfonalmgdjboeaaDoor
namespace Go.Proofs.YtfonalmgdjboeaaDoor
open Go.RowKit
set_option linter.unusedVariables false

theorem cutW_at {ws : List Int} {k : Nat} (h : k < ws.length) (hk : 0 < k) : cutW ws k = (ws[k] == byW (ws.take k)) := by
  rw [cutW, decide_eq_true hk, Bool.true_and, wordW, dif_pos h]
set_option maxHeartbeats 2000000 in
theorem short_any (v : Value) (ws : List Int) (w : World) (h : TotA w v ws) (hn : ws ≠ []) :
    Calls Tryd.prog 61 #[v] w fun e w' => (∃ u, e = .returned u ∧ TotA w' u (shW ws)) ∧ Below w.heap.size w w' := by
  obtain ⟨q, c, rfl, hl⟩ := h.form
  have h0 : 0 < ws.length := by cases ws with
    | nil => exact absurd rfl hn
    | cons x r => simp
  have HT : Aside (TotA w (.slice q ws.length c) ws) := h
  have hw : IntKind.i64.wrap ((ws.length : Int) - 1) = ((ws.length - 1 : Nat) : Int) := by rw [IntKind.wrap_i64]; omega
  have hl2 : (ws.length : Int) ≤ 1000 := by omega
  obtain ⟨PST, hPST⟩ : ∃ PST : Ending → World → Prop, (fun (e : Ending) (w' : World) => (∃ u, e = .returned u ∧ TotA w' u (shW ws)) ∧ Below w.heap.size w w') = PST := ⟨_, rfl⟩
  have HPE : Hid (∀ e w', ((∃ u, e = .returned u ∧ TotA w' u (shW ws)) ∧ Below w.heap.size w w') → PST e w') := by
    intro e w' h
    rw [← hPST]
    exact h
  rw [hPST]
  obtain ⟨L, hL⟩ : ∃ L, ws.length = L := ⟨_, rfl⟩
  have HL : Hid (ws.length = L) := hL
  rw [hL] at hw hl2 h0 ⊢
  clear hPST h hl hn
  obtain ⟨M, hM⟩ : ∃ M, L = M + 1 := ⟨L - 1, by omega⟩
  have HM : Hid (L = M + 1) := hM
  rw [show L - 1 = M by omega] at hw
  have hLM : M < L := by omega
  clear hL hM
  go_enter Tryd.func61, Tryd.ntmps61
  go_wp2
  go_loopg [0, 3] M (fun gg s0 s3 wr => ∃ (kk : Nat), kk ≤ M ∧ kk ≤ gg ∧ s0 = .slice q (kk + 1) c ∧ s3 = .int .i64 (kk : Int) ∧ Hid (shN ws kk = shN ws M) ∧ Aside (Below w.heap.size w wr))
  case atStart => exact ⟨M, Nat.le_refl _, Nat.le_refl _, by rw [HM.out], rfl, (show Hid _ from rfl), (show Aside _ from Below.refl _ _)⟩
  case round =>
    obtain ⟨kk, hkk, hg, rfl, rfl, HS, BW⟩ := hrel
    have HT2 := (tot_slice_h HT.out rfl (l := kk + 1) (by rw [HL.out]; omega)).2
    have hlen : (ws.take (kk + 1)).length = kk + 1 := by rw [List.length_take, HL.out]; omega
    by_cases h00 : kk = 0
    · subst h00
      have HF : Hid (shW ws = ws.take (0 + 1)) := by
        show shW ws = _
        rw [shW, HL.out, HM.out, Nat.add_sub_cancel, ← HS.out]
        rfl
      have hgt : ∀ W, Sem.run Tryd.prog (binOp .gtr 3 (.int .i64 ((0 : Nat) : Int)) (.int .i64 0)) W = .ok (.bool false) W := fun W => by kernel_rfl
      go_wp2
      go_quiet (fail)
      go_wp2
      exact HPE.out _ _ ⟨⟨_, rfl, by rw [HF.out]; exact (HT2.on BW.out).on (below_drewN (Below.refl _ _) _)⟩, below_drewN BW.out _⟩
    · have hz : (0 : Int) < (kk : Int) := by omega
      have hd : ((kk : Int) > 0 : Bool) = true := decide_eq_true hz
      have hgt : ∀ W, Sem.run Tryd.prog (binOp .gtr 3 (.int .i64 (kk : Int)) (.int .i64 0)) W = .ok (.bool true) W := fun W => by rw [binOp_gtr, hd]; rfl
      have hkp : 0 < kk := by omega
      have hki : kk < ws.length := by rw [HL.out]; omega
      obtain ⟨g, off, rfl, hgl, hcc⟩ := HT.out.at hki
      have hcl : wr.cell? ⟨g, off + kk, none⟩ = some (.int .u64 ws[kk]) := by rw [BW.out.cell (p := ⟨g, off + kk, none⟩) hgl]; exact hcc kk hki
      obtain ⟨r1, t1⟩ := tot_slice_h (l := kk) HT2 hlen (by omega)
      rw [List.take_take, Nat.min_eq_left (by omega)] at t1
      have cB := fun (W : World) (hW : Below w.heap.size w W) => beyond_any _ (ws.take kk) W (t1.on hW)
      have hk0 : (0 : Int) ≤ (kk : Int) := by omega
      have hk1 : (kk : Int) < (kk : Int) + 1 := by omega
      have hcut := cutW_at hki (by omega)
      obtain ⟨m, hm⟩ : ∃ m, kk = m + 1 := ⟨kk - 1, by omega⟩
      have hwk : IntKind.i64.wrap ((kk : Int) - 1) = (m : Int) := by rw [IntKind.wrap_i64]; omega
      have HSN : Hid (shN ws kk = if cutW ws kk = true then shN ws m else kk + 1) := by
        show shN ws kk = _
        rw [hm, shN]
      have HKM : Hid (kk = m + 1) := hm
      clear hcc hm
      generalize hx : ws[kk] = x at hcl hcut
      generalize hy : byW (ws.take kk) = y at cB hcut
      have cQ : ∀ W, (∃ n, W = wr.drewN n) → Calls Tryd.prog 63 #[.slice (some ⟨g, off, none⟩) kk c] W fun e w' => e = .returned (.int .u64 y) ∧ w' = W := fun W hW => by
        obtain ⟨n, rfl⟩ := hW
        exact cB _ (below_drewN BW.out _)
      by_cases hxy : x = y
      · subst hxy
        have qe : (x == x) = true := by simp
        have HC : Hid (shN ws m = shN ws M) := by
          show shN ws m = _
          rw [← HS.out, HSN.out, if_pos (by rw [hcut]; exact qe)]
        clear hcut HSN HS
        go_wp2
        go_quiet ((go_at_call 63; exact Calls.quiet_of_same (cQ _ ⟨_, rfl⟩)))
        go_wp2
        go_roundg m
        case measure => have := HKM.out; omega
        case rel => exact ⟨m, by have := HKM.out; omega, Nat.le_refl _, by rw [HKM.out], rfl, HC, (show Aside _ from below_drewN BW.out _)⟩
      · have qe : (x == y) = false := by simpa using hxy
        have HF : Hid (shW ws = ws.take (kk + 1)) := by
          show shW ws = _
          rw [shW, HL.out, HM.out, Nat.add_sub_cancel, ← HS.out, HSN.out, if_neg (by rw [hcut, qe]; simp)]
        clear hcut HSN HS
        go_wp2
        go_quiet ((go_at_call 63; exact Calls.quiet_of_same (cQ _ ⟨_, rfl⟩)))
        go_wp2
        exact HPE.out _ _ ⟨⟨_, rfl, by rw [HF.out]; exact (HT2.on BW.out).on (below_drewN (Below.refl _ _) _)⟩, below_drewN BW.out _⟩
theorem run_add64_at (x y c : Int) (hx : 0 ≤ x) (hy : 0 ≤ y) (hc : c = 0 ∨ c = 1) (w : World) : Sem.run Tryd.prog (callFunc 60 #[.int .u64 x, .int .u64 y, .int .u64 c]) w = .ok (.value (.tuple #[.int .u64 ((x + y + c) % 18446744073709551616), .int .u64 ((x + y + c) / 18446744073709551616)])) w := by
  rw [run_callFunc_extern Tryd.func60 (by kernel_rfl) (by kernel_rfl) (by kernel_rfl) (e := add64Entry) (by kernel_rfl), run_add64 x y c hx hy (by omega) (by omega)]
  rfl
/-- Words that are laid so far. -/
def fillT (ws : List Int) (n : Nat) : List Value := ws.map (fun x => .int .u64 x) ++ List.replicate (n - ws.length) (.int .u64 0)
theorem fillT_zero (n : Nat) : fillT [] n = (madeCells #[.int .u64 0] n).toList := by
  simp [fillT, madeCells]
  apply List.ext_getElem
  · simp
  · intro i h1 h2
    have : i % 1 = 0 := Nat.mod_one i
    simp [this]
theorem fillT_at {ws : List Int} {n : Nat} (h : ws.length < n) : (fillT ws n)[ws.length]? = some (.int .u64 0) := by
  rw [fillT, List.getElem?_append_right (by simp), List.length_map, Nat.sub_self, List.getElem?_replicate, if_pos (by omega)]
theorem fillT_set {ws : List Int} {n : Nat} (h : ws.length < n) (x : Int) : (fillT ws n).set ws.length (.int .u64 x) = fillT (ws ++ [x]) n := by
  obtain ⟨m, hm⟩ : ∃ m, n - ws.length = m + 1 := ⟨n - ws.length - 1, by omega⟩
  rw [fillT, fillT, hm, List.length_append, List.length_singleton, show n - (ws.length + 1) = m by omega, List.replicate_succ, List.set_append_right _ _ (by simp)]
  simp
theorem fillT_full {ws : List Int} {n : Nat} (h : ws.length = n) : fillT ws n = ws.map (fun x => .int .u64 x) := by
  rw [fillT, h, Nat.sub_self]; simp
theorem wordW_R {ws : List Int} (h : wdR ws) (i : Nat) : 0 ≤ wordW ws i ∧ wordW ws i < 18446744073709551616 := by
  rw [wordW]
  split
  · exact h _ (List.getElem_mem _)
  · exact byW_R ws _ (by simp)
theorem extW_R {ws : List Int} (h : wdR ws) (n : Nat) : wdR (extW ws n) := fun x hx => by
  simp only [extW, List.mem_map] at hx
  obtain ⟨i, _, rfl⟩ := hx
  exact wordW_R h i
theorem tot_own {w : World} {B : Nat} {g n : Nat} {ws : List Int} (hn : ws.length = n) (hl : n ≤ 1000) (h : w.ownsRow B 84 1 (.slice (some ⟨g, 0, none⟩) n n) n (ws.map fun x => .int .u64 x)) (hR : wdR ws) : TotA w (.slice (some ⟨g, 0, none⟩) n n) ws := by
  subst hn
  refine ⟨_, _, rfl, ⟨Nat.le_refl _, hl⟩, (fun hp => nomatch hp), hR, fun a ha => ?_⟩
  injection ha with ha
  subst ha
  rcases id h.2 with ⟨e, _⟩ | ⟨g', cap, cur, e, hb, hg, hm, hx, hs, ht⟩
  · injection e with e1; exact absurd e1 (by simp)
  · injection e with e1 e2 e3
    injection e1 with e1
    injection e1 with e1
    subst e1
    refine ⟨g, 0, rfl, ⟨cur, hg⟩, fun j hj => ?_⟩
    have := h.cells (g := g) rfl j (.int .u64 ws[j]) (by rw [List.getElem?_map, List.getElem?_eq_getElem hj]; rfl)
    rw [Go.WideShapes.add_plain] at this
    exact this
set_option maxHeartbeats 2000000 in
set_option maxRecDepth 20000 in
theorem plus_any (u v : Value) (as_ bs : List Int) (w : World) (hu : TotA w u as_) (hv : TotA w v bs) (hla : as_.length ≤ 900) (hlb : bs.length ≤ 900) :
    Calls Tryd.prog 53 #[u, v] w fun e w' => (∃ r, e = .returned r ∧ TotA w' r (shW (sumW as_ bs))) ∧ Below w.heap.size w w' := by
  obtain ⟨p, c, rfl, _⟩ := hu.form
  obtain ⟨q, d, rfl, _⟩ := hv.form
  obtain ⟨n, hn⟩ : ∃ n, max as_.length bs.length + 1 = n := ⟨_, rfl⟩
  have HN : Hid (addW (extW as_ n) (extW bs n) 0 = sumW as_ bs) := by
    show addW (extW as_ n) (extW bs n) 0 = _
    rw [sumW, hn]
  have hnb : n ≤ 901 := by omega
  have hnp : 1 ≤ n := by omega
  have hmk := run_make_row' (P := Tryd.prog) 58 84 (.int .u64 0) 8 Tryd.underlying58 info_u64 rfl .i64 .i64 n (by omega) (by omega)
  have HU : Aside (TotA w (.slice p as_.length c) as_) := hu
  have HV : Aside (TotA w (.slice q bs.length d) bs) := hv
  have HSU : Aside _ := sumW_is as_ bs hu.R hv.R
  have hmx0 : (if (as_.length : Int) < (bs.length : Int) then (bs.length : Int) else (as_.length : Int)) + 1 = (n : Int) := by split <;> omega
  have hmx : Hid _ := hmx0
  clear hmx0
  obtain ⟨PST, hPST⟩ : ∃ PST : Ending → World → Prop, (fun (e : Ending) (w' : World) => (∃ r, e = .returned r ∧ TotA w' r (shW (sumW as_ bs))) ∧ Below w.heap.size w w') = PST := ⟨_, rfl⟩
  have HPE : Hid (∀ e w', ((∃ r, e = .returned r ∧ TotA w' r (shW (sumW as_ bs))) ∧ Below w.heap.size w w') → PST e w') := by
    intro e w' h
    rw [← hPST]
    exact h
  rw [hPST]
  clear hPST hu hv hn
  generalize as_.length = LA at *
  generalize bs.length = LB at *
  have hsplit : ((LA : Int) < (LB : Int) ∧ ∀ W : World, Sem.run Tryd.prog (Instr.makeSlice 58 (.int .i64 ((LB : Int) + 1)) (.int .i64 ((LB : Int) + 1))) W = .ok (.slice (some ⟨W.heap.size, 0, none⟩) n n) (W.alloc (.cells (madeCells #[.int .u64 0] n) 84))) ∨ (¬ (LA : Int) < (LB : Int) ∧ ∀ W : World, Sem.run Tryd.prog (Instr.makeSlice 58 (.int .i64 ((LA : Int) + 1)) (.int .i64 ((LA : Int) + 1))) W = .ok (.slice (some ⟨W.heap.size, 0, none⟩) n n) (W.alloc (.cells (madeCells #[.int .u64 0] n) 84))) := by
    have := hmx.out
    by_cases h : (LA : Int) < (LB : Int)
    · rw [if_pos h] at this; rw [this]; exact .inl ⟨h, hmk⟩
    · rw [if_neg h] at this; rw [this]; exact .inr ⟨h, hmk⟩
  clear hmk hmx
  rcases hsplit with ⟨hab, hmk⟩ | ⟨hab, hmk⟩
  all_goals
    first | have hm2 : max (LA : Int) (LB : Int) = (LB : Int) := (by omega) | have hm2 : max (LA : Int) (LB : Int) = (LA : Int) := (by omega)
    go_enter Tryd.func53, Tryd.ntmps53
    go_wp2
    go_loopg [6, 17] n (fun gg s6 s17 wr => ∃ kk : Nat, kk ≤ n ∧ n - kk ≤ gg ∧ s6 = .int .u64 (carW (extW as_ kk) (extW bs kk) 0) ∧ s17 = .int .i64 kk ∧ Aside (wr.ownsRow w.heap.size 84 1 (.slice (some ⟨w.heap.size, 0, none⟩) n n) n (fillT (addW (extW as_ kk) (extW bs kk) 0) n)) ∧ Aside (Below w.heap.size w wr))
    case atStart =>
      refine ⟨0, Nat.zero_le _, by omega, rfl, rfl, ?_, ?_⟩
      · show World.ownsRow _ _ _ _ _ _ _
        have o1 := World.ownsRow_lit (base := w.heap.size) (e := 84) (size := 1) w (madeCells #[.int .u64 0] n) n (Nat.le_refl _) (by unfold maxLen; omega) (by rw [size_madeCells, Nat.mul_one])
        rw [← fillT_zero] at o1
        exact o1
      · exact (Below.refl _ w).alloc (Nat.le_refl _) _
    case round =>
      obtain ⟨kk, hkk, hg, rfl, rfl, OW, BW⟩ := hrel
      have hcar := carW_01 (extW as_ kk) (extW bs kk) 0 (extW_R HU.out.R kk) (extW_R HV.out.R kk) (.inl rfl)
      obtain ⟨ap1, ap2⟩ := addW_app (extW as_ kk) (extW bs kk) 0 (wordW as_ kk) (wordW bs kk) (by rw [extW_len, extW_len])
      have hlen := addW_len (extW as_ kk) (extW bs kk) 0 (by rw [extW_len, extW_len])
      rw [extW_len] at hlen
      rw [← extW_succ, ← extW_succ] at ap1 ap2
      by_cases hlt : kk < n
      · have hltz : (kk : Int) < (n : Int) := by omega
        have h0z : (0 : Int) ≤ (kk : Int) := by omega
        obtain ⟨x1, x2⟩ := wordW_R HU.out.R kk
        obtain ⟨y1, y2⟩ := wordW_R HV.out.R kk
        have c1 := fun (hW : Below w.heap.size w wr) => word_any _ as_ kk wr (HU.out.on hW) (by omega)
        have c2 := fun (hW : Below w.heap.size w wr) => word_any _ bs kk wr (HV.out.on hW) (by omega)
        have c1 := c1 BW.out
        have c2 := c2 BW.out
        have hfz : wr.frozen? ⟨w.heap.size, kk, none⟩ = false := OW.out.frozenAt kk
        have hce : wr.cell? ⟨w.heap.size, kk, none⟩ = some (.int .u64 0) := by
          rw [OW.out.cellAt kk (by omega)]
          have := fillT_at (ws := addW (extW as_ kk) (extW bs kk) 0) (n := n) (by omega)
          rw [hlen] at this
          exact this
        have hst := (OW.out.stored kk (.int .u64 ((wordW as_ kk + wordW bs kk + carW (extW as_ kk) (extW bs kk) 0) % 18446744073709551616))).1
        have hse := fillT_set (ws := addW (extW as_ kk) (extW bs kk) 0) (n := n) (by omega) ((wordW as_ kk + wordW bs kk + carW (extW as_ kk) (extW bs kk) 0) % 18446744073709551616)
        rw [hlen] at hse
        rw [hse, ← ap1] at hst
        have HST : Aside _ := hst
        have HAP : Hid _ := ap2
        have BW2 : Aside (Below w.heap.size w (wr.setCell ⟨w.heap.size, kk, none⟩ (.int .u64 ((wordW as_ kk + wordW bs kk + carW (extW as_ kk) (extW bs kk) 0) % 18446744073709551616)))) := BW.out.setCell (Nat.le_refl _) _
        have hadd := run_add64_at (wordW as_ kk) (wordW bs kk) (carW (extW as_ kk) (extW bs kk) 0) x1 y1 hcar
        clear hst hse ap1 ap2 hlen OW BW hcar
        generalize hx : wordW as_ kk = x at *
        generalize hy : wordW bs kk = y at *
        generalize carW (extW as_ kk) (extW bs kk) 0 = cr at *
        generalize (x + y + cr) % 18446744073709551616 = sm at *
        generalize (x + y + cr) / 18446744073709551616 = co at *
        go_wp2_with fail
        refine c1.mono ?_
        rintro e w1 ⟨rfl, rfl⟩
        clear c1
        go_wp2_with fail
        refine c2.mono ?_
        rintro e w2 ⟨rfl, rfl⟩
        clear c2
        go_wp2
        go_roundg (n - (kk + 1))
        case measure => omega
        case rel => exact ⟨kk + 1, by omega, by omega, by rw [HAP.out], by go_num, HST, BW2⟩
      · have hltz : ¬ (kk : Int) < (n : Int) := by omega
        obtain rfl : kk = n := by omega
        rw [HN.out] at OW hlen
        have hsl := HSU.out.2.2
        have cS : ∀ W, Below wr.heap.size wr W → Calls Tryd.prog 61 #[.slice (some ⟨w.heap.size, 0, none⟩) kk kk] W fun e w' => (∃ u, e = .returned u ∧ TotA w' u (shW (sumW as_ bs))) ∧ Below W.heap.size W w' := fun W hW => by
          have ho := OW.out
          rw [fillT_full hlen] at ho
          exact short_any _ _ _ ((tot_own hlen (by omega) ho HSU.out.2.1).on hW) (by intro e; rw [e] at hlen; simp at hlen; omega)
        clear OW hlen hsl ap1 ap2 hcar
        go_wp2_with fail
        refine (cS _ (Below.refl _ _)).mono ?_
        rintro e w1 ⟨⟨r, rfl, T1⟩, B1⟩
        clear cS
        have BW3 : Aside (Below w.heap.size w w1) := BW.out.trans (B1.mono BW.out.size)
        have T2 : Aside (TotA w1 r (shW (sumW as_ bs))) := T1
        clear B1 T1 BW
        go_wp2
        exact HPE.out _ _ ⟨⟨_, rfl, T2.out⟩, BW3.out⟩
end Go.Proofs.YtfonalmgdjboeaaDoor
