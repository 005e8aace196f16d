/-
  TreeR1, ButM, TreeIn, TreeR2, TreeR3, VarOf, in one text.
-/
import Derived.Test.YtkbhmghdonomnaaGreatDoorGzAd
import Derived.WalkSmall
import Derived.BigQuiet
import Derived.Deep.RegionWith
import Derived.Test.YtkbhmghdonomnaaGreatDoorProg
import Derived.WalkKit
import Derived.Below
import Derived.RowKitTokens
import Derived.Deep.Heap
import Derived.Deep.QuietTactic
import Derived.OpenShut
import Derived.ChangeSame
import Derived.MakeChecks
import Derived.RowKit
namespace Go.Proofs.YtkbhmghdonomnaaGreatDoor
open Go.RowKit Go.BigFrame
set_option linter.unusedVariables false
def StrsIn (w : World) (b : Nat) (gs : List (List UInt8)) : Prop := b < w.heap.size ∧ ∀ j (h : j < gs.length), w.cell? ⟨b, j, none⟩ = some (.string ⟨gs[j].toArray⟩)
theorem StrsIn.on {w w' : World} {b : Nat} {gs : List (List UInt8)} (h : StrsIn w b gs) (hb : Below w.heap.size w w') : StrsIn w' b gs :=
 ⟨by have := hb.size; have := h.1; omega, fun j hj => by rw [hb.cell (p := ⟨b, j, none⟩) h.1]; exact h.2 j hj⟩
theorem any_hit {gs : List (List UInt8)} {l : List UInt8} {k : Nat} (h : k < gs.length) (e : gs[k] = l) : (gs.any fun g => g == l) = true := by
 rw [List.any_eq_true]
 exact ⟨gs[k], List.getElem_mem h, by simpa using e⟩
theorem any_miss {gs : List (List UInt8)} {l : List UInt8} (h : ∀ j (hj : j < gs.length), gs[j] ≠ l) : (gs.any fun g => g == l) = false := by
 rw [List.any_eq_false]
 intro g hg
 obtain ⟨j, hj, rfl⟩ := List.getElem_of_mem hg
 simpa using h j hj
set_option maxHeartbeats 1000000 in
theorem index_any (x : ByteArray) (b c : Nat) (gs : List (List UInt8)) (w : World) (hn : gs.length ≤ 100) (hc : StrsIn w b gs) :
  Calls Tryz.prog 127 #[.slice (some ⟨b, 0, none⟩) gs.length c, .string x] w fun e w' => ∃ n : Int, e = .returned (.int .i64 n) ∧ Hid (decide (0 ≤ n) = gs.any fun g => g == x.data.toList) ∧ w' = w := by
 go_enter Tryz.func127, Tryz.ntmps127
 go_wp2
 go_loopg [5, 8] gs.length (fun gg _ s8 wr => ∃ kk : Nat, kk ≤ gs.length ∧ gs.length - kk ≤ gg ∧ s8 = .int .i64 kk ∧ wr = w ∧ Aside (∀ j (hj : j < gs.length), j < kk → gs[j] ≠ x.data.toList))
 case atStart => exact ⟨0, Nat.zero_le _, by omega, rfl, rfl, (show Aside _ from fun j _ hj => absurd hj (Nat.not_lt_zero _))⟩
 case round =>
  obtain ⟨kk, hkk, hg, rfl, rfl, A⟩ := hrel
  by_cases hlt : kk < gs.length
  ·have hltz : (kk : Int) < (gs.length : Int) := by omega
   have hcell := hc.2 kk hlt
   have hbl := hc.1
   generalize hy : gs[kk] = y at hcell
   have HY : Hid (gs[kk] = y) := hy
   clear hy
   by_cases he : x.data.toList = y
   ·obtain rfl : x = ⟨y.toArray⟩ := eq_of_list he
    go_wp2
    go_ret
    refine ⟨kk, rfl, ?_, rfl⟩
    show _ = _
    rw [any_hit hlt HY.out]
    simp
   ·have hq : (x.toList == y) = false := by rw [Lib.toList_data]; simpa using he
    go_wp2
    go_roundg (gs.length - (kk + 1))
    case measure => omega
    case rel =>
     refine ⟨kk + 1, by omega, by omega, by go_num, rfl, (show Aside _ from fun j hj hjk => ?_)⟩
     by_cases e : j = kk
     ·subst e
      rw [HY.out]; exact fun e => he e.symm
     ·exact A.out j hj (by omega)
  ·have hltz : ¬ (kk : Int) < (gs.length : Int) := by omega
   go_wp2
   go_ret
   refine ⟨-1, rfl, ?_, rfl⟩
   show _ = _
   rw [any_miss (fun j hj => A.out j hj (by omega))]
   rfl
theorem contains_any (x : ByteArray) (b c : Nat) (gs : List (List UInt8)) (w : World) (hn : gs.length ≤ 100) (hc : StrsIn w b gs) :
  Calls Tryz.prog 107 #[.slice (some ⟨b, 0, none⟩) gs.length c, .string x] w fun e w' => e = .returned (.bool (gs.any fun g => g == x.data.toList)) ∧ w' = w := by
 have cI := index_any x b c gs w hn hc
 generalize (gs.any fun g => g == x.data.toList) = R at cI
 go_enter Tryz.func107, Tryz.ntmps107
 go_wp2_with fail
 refine cI.mono ?_
 rintro e w' ⟨n, rfl, HR, rfl⟩
 go_wp2
 go_ret
 exact ⟨ret_bool HR.out, rfl⟩
def SignIn (w : World) (p : Nat) (gs : List (List UInt8)) : Prop := ∃ b c, w.cell? ⟨p, 0, none⟩ = some (.slice (some ⟨b, 0, none⟩) gs.length c) ∧ p < w.heap.size ∧ StrsIn w b gs ∧ gs.length ≤ 100
theorem SignIn.on {w w' : World} {p : Nat} {gs : List (List UInt8)} (h : SignIn w p gs) (hb : Below w.heap.size w w') : SignIn w' p gs := by
 obtain ⟨b, c, h1, h2, h3, h4⟩ := h
 exact ⟨b, c, by rw [hb.cell (p := ⟨p, 0, none⟩) h2]; exact h1, by have := hb.size; omega, h3.on hb, h4⟩
abbrev signV (p : Nat) : Value := .func (.func 106) #[] #[.pointer (some ⟨p, 0, none⟩)]
def tokV (t : Tok) : Value := .agg #[.int .i64 t.1, .string t.2.1, .int .i64 (t.2.2 : Int)]
theorem oneOf1_any (t : Tok) (p : Nat) (gs : List (List UInt8)) (w : World) (hs : SignIn w p gs) :
  Calls Tryz.prog 106 #[tokV t, .pointer (some ⟨p, 0, none⟩)] w fun e w' => e = .returned (.bool (sgT gs t)) ∧ Below w.heap.size w w' := by
 obtain ⟨b, c, h1, h2, h3, h4⟩ := hs
 obtain ⟨tk, tx, ta⟩ := t
 have cC := fun W (hb : Below w.heap.size w W) => contains_any tx b c gs W h4 (h3.on hb)
 rw [sgT, tokV]
 simp only
 generalize (gs.any fun g => g == tx.data.toList) = R at cC
 clear h3
 go_enter Tryz.func106, Tryz.ntmps106
 go_wp2_with (go_at_call 107; refine (cC _ ((Below.refl _ _).alloc (Nat.le_refl _) _)).mono ?_; rintro e w' ⟨rfl, rfl⟩)
 go_ret
 exact ⟨rfl, (Below.refl _ _).alloc (Nat.le_refl _) _⟩
end Go.Proofs.YtkbhmghdonomnaaGreatDoor
namespace Go.Proofs.YtkbhmghdonomnaaGreatDoor
open Go.RowKit
set_option linter.unusedVariables false
structure But (r : Nat) (w w' : World) : Prop where
 below : Below r w w'
 size : w.heap.size ≤ w'.heap.size
 kept : ∀ k, k < w.heap.size → k ≠ r → w'.heap[k]? = w.heap[k]?
theorem But.refl (r : Nat) (w : World) : But r w w := ⟨Below.refl _ _, Nat.le_refl _, fun _ _ _ => rfl⟩
theorem But.trans {r : Nat} {w w1 w2 : World} (h : But r w w1) (k : But r w1 w2) : But r w w2 :=
 ⟨h.below.trans k.below, Nat.le_trans h.size k.size, fun b hb hr => by rw [k.kept b (by have := h.size; omega) hr, h.kept b hb hr]⟩
theorem But.drewN {r : Nat} {w w1 : World} (h : But r w w1) (q : Nat) : But r w (w1.drewN q) := ⟨below_drewN h.below q, h.size, h.kept⟩
theorem But.drew {r : Nat} {w w1 : World} (h : But r w w1) : But r w w1.drew := ⟨Below.drew h.below, h.size, h.kept⟩
theorem But.set {r : Nat} {w w1 : World} (h : But r w w1) (o : Nat) (v : Value) : But r w (w1.setCell ⟨r, o, none⟩ v) :=
 ⟨h.below.setCell (p := ⟨r, o, none⟩) (Nat.le_refl _) v, by have := h.size; simpa [World.setCell] using this, fun k hk hr => by rw [Below.heap_setCell _ _ _ _ (fun e => hr e)]; exact h.kept k hk hr⟩
theorem But.cell {r : Nat} {w w1 : World} (h : But r w w1) {b : Nat} (o : Nat) (hb : b < w.heap.size) (hr : b ≠ r) : w1.cell? ⟨b, o, none⟩ = w.cell? ⟨b, o, none⟩ := by
 simp only [World.cell?, h.kept b hb hr]
theorem But.of_below' {r : Nat} {w w' : World} (h : Below w.heap.size w w') (hr : r ≤ w.heap.size) : But r w w' := ⟨h.mono hr, h.size, fun k hk _ => h.block k hk⟩
theorem But.setNew {r : Nat} {w w1 : World} (h : But r w w1) (z o : Nat) (hz : w.heap.size ≤ z) (hr : r ≤ z) (v : Value) : But r w (w1.setCell ⟨z, o, none⟩ v) :=
 ⟨h.below.setCell (p := ⟨z, o, none⟩) hr v, by have := h.size; simpa [World.setCell] using this, fun k hk hkr => by rw [Below.heap_setCell _ _ _ _ (fun e => by simp at e; omega)]; exact h.kept k hk hkr⟩
theorem But.alloc {r : Nat} {w w1 : World} (h : But r w w1) (hr : r ≤ w1.heap.size) (o : Obj) : But r w (w1.alloc o) :=
 ⟨h.below.alloc hr o, by have := h.size; simp; omega, fun k hk hkr => by
  rw [((Below.refl w1.heap.size w1).alloc (Nat.le_refl _) o).block k (by have := h.size; omega)]; exact h.kept k hk hkr⟩
structure InAt (w : World) (r : Nat) (tp : Option Addr) (tc : Nat) (ts : List Tok) (en : Nat) (st : St) : Prop where
 c0 : w.cell? ⟨r, 0, none⟩ = some (.slice tp ts.length tc)
 c1 : w.cell? ⟨r, 1, none⟩ = some (.int .i64 (st.i : Int))
 c2 : w.cell? ⟨r, 2, none⟩ = some (.int .i64 (en : Int))
 c3 : w.cell? ⟨r, 3, none⟩ = some (.int .i64 st.bad)
 f1 : w.frozen? ⟨r, 1, none⟩ = false
 f3 : w.frozen? ⟨r, 3, none⟩ = false
 lt : r < w.heap.size
 toks : ts.length = 0 ∨ ∃ b off, tp = some ⟨b, off, none⟩ ∧ b ≠ r ∧ ToksIn w b off ts
theorem InAt.same {w w' : World} {r : Nat} {tp : Option Addr} {tc : Nat} {ts : List Tok} {en : Nat} {st : St} (h : InAt w r tp tc ts en st) (e : w'.heap = w.heap) : InAt w' r tp tc ts en st := by
 have hc : ∀ a : Addr, w'.cell? a = w.cell? a := fun a => by simp only [World.cell?, e]
 have hf : ∀ a : Addr, w'.frozen? a = w.frozen? a := fun a => by simp only [World.frozen?, e]
 refine ⟨by rw [hc]; exact h.c0, by rw [hc]; exact h.c1, by rw [hc]; exact h.c2, by rw [hc]; exact h.c3, by rw [hf]; exact h.f1, by rw [hf]; exact h.f3, by rw [e]; exact h.lt, ?_⟩
 rcases h.toks with h0 | ⟨b, off, e1, e2, h3⟩
 ·exact .inl h0
 ·exact .inr ⟨b, off, e1, e2, by rw [e]; exact h3.1, fun j hj => by rw [hc, hc, hc]; exact h3.2 j hj⟩
theorem InAt.bad {w : World} {r : Nat} {tp : Option Addr} {tc : Nat} {ts : List Tok} {en : Nat} {st : St} (h : InAt w r tp tc ts en st) (x : Int) : InAt (w.setCell ⟨r, 3, none⟩ (.int .i64 x)) r tp tc ts en ⟨st.i, x⟩ := by
 have hb : ∀ b o : Nat, b ≠ r → (w.setCell ⟨r, 3, none⟩ (.int .i64 x)).cell? ⟨b, o, none⟩ = w.cell? ⟨b, o, none⟩ := fun b o hbr => by
  simp only [World.cell?]
  rw [Below.heap_setCell _ _ _ _ (fun e => hbr e)]
 refine ⟨?_, ?_, ?_, World.cell?_setCell_same w ⟨r, 3, none⟩ _ h.c3, ?_, ?_, by have := h.lt; simpa [World.setCell] using this, ?_⟩
 ·rw [World.cell?_setCell_other _ _ _ _ (by simp)]; exact h.c0
 ·rw [World.cell?_setCell_other _ _ _ _ (by simp)]; exact h.c1
 ·rw [World.cell?_setCell_other _ _ _ _ (by simp)]; exact h.c2
 ·have : (w.setCell ⟨r, 3, none⟩ (.int .i64 x)).frozen? ⟨r, 1, none⟩ = w.frozen? ⟨r, 1, none⟩ := by simp
  rw [this]; exact h.f1
 ·have : (w.setCell ⟨r, 3, none⟩ (.int .i64 x)).frozen? ⟨r, 3, none⟩ = w.frozen? ⟨r, 3, none⟩ := by simp
  rw [this]; exact h.f3
 ·rcases h.toks with h0 | ⟨b, off, e1, e2, h3⟩
  ·exact .inl h0
  ·exact .inr ⟨b, off, e1, e2, by have := h3.1; simpa [World.setCell] using this, fun j hj => by rw [hb _ _ e2, hb _ _ e2, hb _ _ e2]; exact h3.2 j hj⟩
theorem InAt.next {w : World} {r : Nat} {tp : Option Addr} {tc : Nat} {ts : List Tok} {en : Nat} {st : St} (h : InAt w r tp tc ts en st) : InAt (w.setCell ⟨r, 1, none⟩ (.int .i64 ((st.i : Int) + 1))) r tp tc ts en (adv st) := by
 have hb : ∀ b o : Nat, b ≠ r → (w.setCell ⟨r, 1, none⟩ (.int .i64 ((st.i : Int) + 1))).cell? ⟨b, o, none⟩ = w.cell? ⟨b, o, none⟩ := fun b o hbr => by
  simp only [World.cell?]
  rw [Below.heap_setCell _ _ _ _ (fun e => hbr e)]
 refine ⟨?_, ?_, ?_, ?_, ?_, ?_, by have := h.lt; simpa [World.setCell] using this, ?_⟩
 ·rw [World.cell?_setCell_other _ _ _ _ (by simp)]; exact h.c0
 ·exact World.cell?_setCell_same w ⟨r, 1, none⟩ _ h.c1
 ·rw [World.cell?_setCell_other _ _ _ _ (by simp)]; exact h.c2
 ·rw [World.cell?_setCell_other _ _ _ _ (by simp)]; exact h.c3
 ·have : (w.setCell ⟨r, 1, none⟩ (.int .i64 ((st.i : Int) + 1))).frozen? ⟨r, 1, none⟩ = w.frozen? ⟨r, 1, none⟩ := by simp
  rw [this]; exact h.f1
 ·have : (w.setCell ⟨r, 1, none⟩ (.int .i64 ((st.i : Int) + 1))).frozen? ⟨r, 3, none⟩ = w.frozen? ⟨r, 3, none⟩ := by simp
  rw [this]; exact h.f3
 ·rcases h.toks with h0 | ⟨b, off, e1, e2, h3⟩
  ·exact .inl h0
  ·exact .inr ⟨b, off, e1, e2, by have := h3.1; simpa [World.setCell] using this, fun j hj => by rw [hb _ _ e2, hb _ _ e2, hb _ _ e2]; exact h3.2 j hj⟩
end Go.Proofs.YtkbhmghdonomnaaGreatDoor
namespace Go.Proofs.YtkbhmghdonomnaaGreatDoor
open Go.RowKit Go.BigFrame
set_option linter.unusedVariables false
variable {en : Nat}

structure RdAt (en : Nat) (w : World) (r : Nat) (ts : List Tok) : Prop where
 cell : ∃ p c, w.cell? ⟨r, 0, none⟩ = some (.slice p ts.length c) ∧ ts.length ≤ c ∧ (ts.length = 0 ∨ ∃ b off, p = some ⟨b, off, none⟩ ∧ b < r ∧ ToksIn w b off ts)
 fz : w.frozen? ⟨r, 0, none⟩ = false
 lt : r < w.heap.size
 fin : w.cell? ⟨r, 1, none⟩ = some (.int .i64 (en : Int))
theorem RdAt.on {w w' : World} {r : Nat} {ts : List Tok} (h : RdAt en w r ts) (hb : Below w.heap.size w w') : RdAt en w' r ts := by
 obtain ⟨⟨p, c, h1, h2, h3⟩, hf, hl, he⟩ := h
 refine ⟨⟨p, c, by rw [hb.cell (p := ⟨r, 0, none⟩) hl]; exact h1, h2, ?_⟩, by rw [hb.frozen (p := ⟨r, 0, none⟩) hl]; exact hf, by have := hb.size; omega, by rw [hb.cell (p := ⟨r, 1, none⟩) hl]; exact he⟩
 rcases h3 with h0 | ⟨b, off, e1, e2, h4⟩
 ·exact .inl h0
 ·exact .inr ⟨b, off, e1, e2, h4.on hb⟩
theorem RdAt.onB {w w' : World} {r : Nat} {ts : List Tok} (h : RdAt en w r ts) (hb : Below (r + 1) w w') (hs : w.heap.size ≤ w'.heap.size) : RdAt en w' r ts := by
 obtain ⟨⟨p, c, h1, h2, h3⟩, hf, hl, he⟩ := h
 refine ⟨⟨p, c, by rw [hb.cell (p := ⟨r, 0, none⟩) (Nat.lt_succ_self r)]; exact h1, h2, ?_⟩, by rw [hb.frozen (p := ⟨r, 0, none⟩) (Nat.lt_succ_self r)]; exact hf, by omega, by rw [hb.cell (p := ⟨r, 1, none⟩) (Nat.lt_succ_self r)]; exact he⟩
 rcases h3 with h0 | ⟨b, off, e1, e2, h4⟩
 ·exact .inl h0
 ·refine .inr ⟨b, off, e1, e2, by have := h4.1; omega, fun j hj => ?_⟩
  rw [hb.cell (p := ⟨b, off + j * 3, none⟩) (by simp; omega), hb.cell (p := ⟨b, off + j * 3 + 1, none⟩) (by simp; omega), hb.cell (p := ⟨b, off + j * 3 + 2, none⟩) (by simp; omega)]
  exact h4.2 j hj
theorem RdAt.step {w W : World} {r : Nat} {t : Tok} {ts : List Tok} {p p' : Option Addr} {c c' : Nat} (h : RdAt en w r (t :: ts)) (hp : w.cell? ⟨r, 0, none⟩ = some (.slice p (t :: ts).length c)) (hp' : p' = if c = 1 then p else p.map (·.add (1 * 3))) (hc' : c' = c - 1)
  (hb : But r w W) (hW : W.cell? ⟨r, 0, none⟩ = some (.slice p' ts.length c')) (hf : W.frozen? ⟨r, 0, none⟩ = false) (hW1 : W.cell? ⟨r, 1, none⟩ = w.cell? ⟨r, 1, none⟩) : RdAt en W r ts := by
 obtain ⟨⟨q, d, h1, h2, h3⟩, _, hl, he⟩ := h
 rw [h1] at hp
 obtain ⟨rfl, hd⟩ : q = p ∧ d = c := by
  injection hp with hp
  injection hp with e1 e2 e3
  exact ⟨e1, e3⟩
 subst hd
 simp only [List.length_cons] at h2
 refine ⟨⟨p', c', hW, by omega, ?_⟩, hf, by have := hb.size; omega, by rw [hW1]; exact he⟩
 rcases Nat.eq_zero_or_pos ts.length with h0 | h0
 ·exact .inl h0
 ·right
  rcases h3 with h3 | ⟨b, off, rfl, hbr, h4⟩
  ·simp at h3
  ·refine ⟨b, off + 3, ?_, hbr, by have := h4.1; have := hb.size; omega, fun j hj => ?_⟩
   ·rw [hp', if_neg (by omega)]; rfl
   ·have := h4.2 (j + 1) (by simpa using hj)
    simp only [show off + (j + 1) * 3 = off + 3 + j * 3 from by omega, List.getElem_cons_succ] at this
    rw [hb.cell _ h4.1 (by omega), hb.cell _ h4.1 (by omega), hb.cell _ h4.1 (by omega)]
    exact this
def noTok : Value := .agg #[.int .i64 0, .string ⟨#[]⟩, .int .i64 0]
theorem ended_none (w : World) (r : Nat) (h : RdAt en w r []) :
  Calls Tryz.prog 12 #[.pointer (some ⟨r, 0, none⟩)] w fun e w' => e = .returned (.bool true) ∧ w' = w := by
 obtain ⟨⟨p, c, h1, h2, h3⟩, hf, hl, he⟩ := h
 simp only [List.length_nil] at h1
 go_enter Tryz.func12, Tryz.ntmps12
 go_wp2
 go_ret
 exact ⟨rfl, rfl⟩
theorem ended_some (w : World) (r : Nat) (t : Tok) (ts : List Tok) (h : RdAt en w r (t :: ts)) :
  Calls Tryz.prog 12 #[.pointer (some ⟨r, 0, none⟩)] w fun e w' => e = .returned (.bool false) ∧ w' = w := by
 obtain ⟨⟨p, c, h1, h2, h3⟩, hf, hl, he⟩ := h
 have hnb : (((t :: ts).length : Int) == 0) = false := by simp; omega
 generalize (t :: ts).length = L at h1 hnb
 clear h2 h3
 go_enter Tryz.func12, Tryz.ntmps12
 go_wp2
 go_ret
 exact ⟨rfl, rfl⟩
theorem next_none (w : World) (r : Nat) (so : Value) (h : RdAt en w r []) :
  Calls Tryz.prog 69 #[.pointer (some ⟨r, 0, none⟩), so] w fun e w' => e = .returned (.bool false) ∧ w' = w := by
 have cE := ended_none w r h
 clear h
 go_enter Tryz.func69, Tryz.ntmps69
 go_wp2_with fail
 refine cE.mono ?_
 rintro e w1 ⟨rfl, rfl⟩
 go_wp2
 go_ret
 exact ⟨rfl, rfl⟩
set_option maxHeartbeats 4000000 in
set_option maxRecDepth 20000 in
theorem next_gen (f : FuncId) (caps : Array Value) (hent : ∀ (args : Array Value) (W : World), Sem.run Tryz.prog (callFunc f args) W = .ok (.enter f args) W) (w : World) (r : Nat) (t : Tok) (ts : List Tok) (B : Bool) (h : RdAt en w r (t :: ts))
  (hf : Calls Tryz.prog f (#[tokV t] ++ caps) w fun e w' => e = .returned (.bool B) ∧ Below w.heap.size w w') :
  Calls Tryz.prog 69 #[.pointer (some ⟨r, 0, none⟩), .func (.func f) #[] caps] w fun e w' => e = .returned (.bool B) ∧ Below w.heap.size w w' := by
 have cE := ended_some w r t ts h
 obtain ⟨⟨p, c, h1, h2, h3⟩, hfz, hl, he⟩ := h
 rcases h3 with h3 | ⟨b, off, rfl, hbr, h4⟩
 ·simp at h3
 obtain ⟨d0, d1, d2⟩ := h4.2 0 (by simp)
 have hbl := h4.1
 have hlen : ((t :: ts).length : Int) = (ts.length : Int) + 1 := by simp
 have hlz : (0 : Int) < ((t :: ts).length : Int) := by omega
 obtain ⟨tk, tx, ta⟩ := t
 rw [tokV] at hf
 simp only [List.getElem_cons_zero, Nat.zero_mul, Nat.add_zero] at d0 d1 d2 hf
 generalize ((tk, tx, ta) :: ts).length = L at h1 h2 hlz cE
 clear h4 hlen he
 go_enter Tryz.func69, Tryz.ntmps69
 go_wp2_with fail
 refine cE.mono ?_
 rintro e w1 ⟨rfl, rfl⟩
 go_wp2_with fail
 refine hf.mono ?_
 rintro e w2 ⟨rfl, b2⟩
 go_wp2
 go_ret
 exact ⟨rfl, b2⟩
set_option maxHeartbeats 4000000 in
set_option maxRecDepth 20000 in
theorem take_none (w : World) (r : Nat) (so : Value) (h : RdAt en w r []) :
  Calls Tryz.prog 67 #[.pointer (some ⟨r, 0, none⟩), so] w fun e w' => e = .returned (.tuple #[noTok, .bool false]) ∧ RdAt en w' r [] ∧ But r w w' := by
 have hb := (Below.refl w.heap.size w).alloc (Nat.le_refl _) (.cells #[.int .i64 0, .string ⟨#[]⟩, .int .i64 0] 80)
 have cN := next_none _ r so (h.on hb)
 have hl := h.lt
 have HH : Aside (RdAt en w r []) := h
 clear h
 go_enter Tryz.func67, Tryz.ntmps67
 go_wp2_with fail
 refine cN.mono ?_
 rintro e w1 ⟨rfl, rfl⟩
 go_wp2
 refine bodyPost_ret (v := .tuple #[noTok, .bool false]) (by simp [results, Tryz.results67, go_sem, noTok]) rfl ?_
 exact ⟨rfl, HH.out.on hb, But.of_below' hb (by omega)⟩
set_option maxHeartbeats 4000000 in
set_option maxRecDepth 20000 in
theorem take_gen (f : FuncId) (caps : Array Value) (hent : ∀ (args : Array Value) (W : World), Sem.run Tryz.prog (callFunc f args) W = .ok (.enter f args) W) (w : World) (r : Nat) (t : Tok) (ts : List Tok) (B : Bool) (h : RdAt en w r (t :: ts))
  (hf : ∀ W, Below w.heap.size w W → Calls Tryz.prog f (#[tokV t] ++ caps) W fun e w' => e = .returned (.bool B) ∧ Below W.heap.size W w') :
  Calls Tryz.prog 67 #[.pointer (some ⟨r, 0, none⟩), .func (.func f) #[] caps] w fun e w' => e = .returned (.tuple #[if B = true then tokV t else noTok, .bool B]) ∧ RdAt en w' r (if B = true then ts else t :: ts) ∧ But r w w' := by
 have h0 := h
 have hb := (Below.refl w.heap.size w).alloc (Nat.le_refl _) (.cells #[.int .i64 0, .string ⟨#[]⟩, .int .i64 0] 80)
 have cN := next_gen f caps hent _ r t ts B (h.on hb) (hf _ hb)
 obtain ⟨⟨p, c, h1, h2, h3⟩, hfz, hl, hen⟩ := h0
 rcases h3 with h3 | ⟨b, off, rfl, hbr, h4⟩
 ·simp at h3
 obtain ⟨d0, d1, d2⟩ := h4.2 0 (by simp)
 have hbl := h4.1
 have hbr : b ≠ r := by omega
 have hlen : ((t :: ts).length : Int) = (ts.length : Int) + 1 := by simp
 have hnn : ¬ (((t :: ts).length : Int) = 0) := by omega
 have hnb : (((t :: ts).length : Int) == 0) = false := by simpa using hnn
 obtain ⟨tk, tx, ta⟩ := t
 simp only [List.getElem_cons_zero, Nat.zero_mul, Nat.add_zero] at d0 d1 d2
 clear hf hen
 go_enter Tryz.func67, Tryz.ntmps67
 go_wp2_with fail
 refine cN.mono ?_
 rintro e w1 ⟨rfl, b1⟩
 have q0 := fun o => b1.cell (p := ⟨w.heap.size, o, none⟩) (by simp)
 have qf := fun o => b1.frozen (p := ⟨w.heap.size, o, none⟩) (by simp)
 have ql : w.heap.size < w1.heap.size := by have := b1.size; simp at this; omega
 have g0 := q0 0
 have g1 := q0 1
 have g2 := q0 2
 have gf0 := qf 0
 have gf1 := qf 1
 have gf2 := qf 2
 rw [World.cell?_alloc_at _ _ _ _ rfl] at g0 g1 g2
 simp at g0 g1 g2 gf0 gf1 gf2
 have b2 : Below w.heap.size w w1 := hb.trans (b1.mono (by simp))
 have h5 := h.on b2
 rw [← b2.cell (p := ⟨r, 0, none⟩) hl] at h1
 rw [← b2.frozen (p := ⟨r, 0, none⟩) hl] at hfz
 rw [← b2.cell (p := ⟨b, off, none⟩) hbl] at d0
 rw [← b2.cell (p := ⟨b, off + 1, none⟩) hbl] at d1
 rw [← b2.cell (p := ⟨b, off + 2, none⟩) hbl] at d2
 have hl1 : r < w1.heap.size := by omega
 have hbl1 : b < w1.heap.size := by omega
 have HE1 : Hid (w1.cell? ⟨r, 1, none⟩ = w.cell? ⟨r, 1, none⟩) := b2.cell (p := ⟨r, 1, none⟩) hl
 clear q0 qf h4 hb b1 cN
 have HH : Aside (RdAt en w r ((tk, tx, ta) :: ts)) := h
 have HC : Aside (w.cell? ⟨r, 0, none⟩ = some (.slice (some ⟨b, off, none⟩) ((tk, tx, ta) :: ts).length c)) := by
  show _ = _
  rw [← b2.cell (p := ⟨r, 0, none⟩) hl]; exact h1
 clear h h5
 have hne : r ≠ w.heap.size := by omega
 have BB := But.of_below' b2 (r := r) (by omega)
 cases B
 ·go_wp2
  refine bodyPost_ret (v := .tuple #[noTok, .bool false]) (by simp [results, Tryz.results67, go_sem, noTok, g0, g1, g2]) rfl ?_
  exact ⟨rfl, HH.out.on (((b2.setCell (p := ⟨w.heap.size, 0, none⟩) (Nat.le_refl _) _).setCell (p := ⟨w.heap.size, 1, none⟩) (Nat.le_refl _) _).setCell (p := ⟨w.heap.size, 2, none⟩) (Nat.le_refl _) _), ((BB.setNew _ 0 (Nat.le_refl _) (by omega) _).setNew _ 1 (Nat.le_refl _) (by omega) _).setNew _ 2 (Nat.le_refl _) (by omega) _⟩
 ·go_wp2
  all_goals
   refine bodyPost_ret (v := .tuple #[tokV (tk, tx, ta), .bool true]) (by simp [results, Tryz.results67, go_sem, tokV, g0, g1, g2, ql]) rfl ?_
   have B1 := fun u => ((((BB.set 0 u).setNew w.heap.size 0 (Nat.le_refl _) (by omega) (.int .i64 tk)).setNew w.heap.size 1 (Nat.le_refl _) (by omega) (.string tx)).setNew w.heap.size 2 (Nat.le_refl _) (by omega) (.int .i64 (ta : Int))).alloc (by simp [World.setCell]; omega) (.cells #[.int .i64 tk, .string tx, .int .i64 (ta : Int)] 80)
  ·refine ⟨rfl, HH.out.step HC.out (p' := some ⟨b, off, none⟩) (c' := 0) (by rw [if_pos ‹c = 1›]) (by omega) (B1 _) ?_ ?_ ?_, B1 _⟩
   ·rw [World.cell?_alloc_past _ _ _ (by simp [World.setCell]; omega), World.cell?_setCell_other _ _ _ _ (by simp), World.cell?_setCell_other _ _ _ _ (by simp), World.cell?_setCell_other _ _ _ _ (by simp), World.cell?_setCell_same w1 ⟨r, 0, none⟩ _ h1]
   ·rw [World.frozen?_alloc_past _ _ _ (by simp [World.setCell]; omega)]
    simpa using hfz
   ·rw [World.cell?_alloc_past _ _ _ (by simp [World.setCell]; omega), World.cell?_setCell_other _ _ _ _ (by simp), World.cell?_setCell_other _ _ _ _ (by simp), World.cell?_setCell_other _ _ _ _ (by simp), World.cell?_setCell_other _ _ _ _ (by simp)]
    exact HE1.out
  ·refine ⟨rfl, HH.out.step HC.out (p' := some ⟨b, off + 3, none⟩) (c' := c - 1) (by rw [if_neg ‹¬ c = 1›]; rfl) (by omega) (B1 _) ?_ ?_ ?_, B1 _⟩
   ·rw [World.cell?_alloc_past _ _ _ (by simp [World.setCell]; omega), World.cell?_setCell_other _ _ _ _ (by simp), World.cell?_setCell_other _ _ _ _ (by simp), World.cell?_setCell_other _ _ _ _ (by simp), World.cell?_setCell_same w1 ⟨r, 0, none⟩ _ h1]
   ·rw [World.frozen?_alloc_past _ _ _ (by simp [World.setCell]; omega)]
    simpa using hfz
   ·rw [World.cell?_alloc_past _ _ _ (by simp [World.setCell]; omega), World.cell?_setCell_other _ _ _ _ (by simp), World.cell?_setCell_other _ _ _ _ (by simp), World.cell?_setCell_other _ _ _ _ (by simp), World.cell?_setCell_other _ _ _ _ (by simp)]
    exact HE1.out
theorem take_none' (P : Tok → Bool) (f : FuncId) (caps : Array Value) (hent : ∀ (args : Array Value) (W : World), Sem.run Tryz.prog (callFunc f args) W = .ok (.enter f args) W) (w : World) (r : Nat) (ts : List Tok) (h : RdAt en w r ts)
  (hf : ∀ t ∈ ts, ∀ W, Below w.heap.size w W → Calls Tryz.prog f (#[tokV t] ++ caps) W fun e w' => e = .returned (.bool (P t)) ∧ Below W.heap.size W w') (hn : nxT P ts = none) :
  Calls Tryz.prog 67 #[.pointer (some ⟨r, 0, none⟩), .func (.func f) #[] caps] w fun e w' => e = .returned (.tuple #[noTok, .bool false]) ∧ RdAt en w' r ts ∧ But r w w' := by
 cases ts with
 | nil => exact take_none w r _ h
 | cons t ts =>
  have hp : P t = false := by
   rw [nxT] at hn
   split at hn
   ·exact absurd hn (by simp)
   ·rename_i h1; simpa using h1
  have := take_gen f caps hent w r t ts (P t) h (fun W hb => hf t (by simp) W hb)
  rw [hp] at this
  exact this
theorem take_some (P : Tok → Bool) (f : FuncId) (caps : Array Value) (hent : ∀ (args : Array Value) (W : World), Sem.run Tryz.prog (callFunc f args) W = .ok (.enter f args) W) (w : World) (r : Nat) (t : Tok) (ts rs : List Tok) (h : RdAt en w r ts)
  (hf : ∀ t ∈ ts, ∀ W, Below w.heap.size w W → Calls Tryz.prog f (#[tokV t] ++ caps) W fun e w' => e = .returned (.bool (P t)) ∧ Below W.heap.size W w') (hn : nxT P ts = some (t, rs)) :
  Calls Tryz.prog 67 #[.pointer (some ⟨r, 0, none⟩), .func (.func f) #[] caps] w fun e w' => e = .returned (.tuple #[tokV t, .bool true]) ∧ RdAt en w' r rs ∧ But r w w' := by
 obtain ⟨rfl, hp⟩ := nxT_len hn
 have := take_gen f caps hent w r t rs (P t) h (fun W hb => hf t (by simp) W hb)
 rw [hp] at this
 exact this
theorem ent_sign (args : Array Value) (W : World) : Sem.run Tryz.prog (callFunc 106 args) W = .ok (.enter 106 args) W := by kernel_rfl
theorem take_sign_none (gs : List (List UInt8)) (p : Nat) (w : World) (r : Nat) (ts : List Tok) (h : RdAt en w r ts) (hs : SignIn w p gs) (hn : nxT (sgT gs) ts = none) :
  Calls Tryz.prog 67 #[.pointer (some ⟨r, 0, none⟩), signV p] w fun e w' => e = .returned (.tuple #[noTok, .bool false]) ∧ RdAt en w' r ts ∧ But r w w' :=
 take_none' (sgT gs) _ _ ent_sign w r ts h (fun t _ W hb => oneOf1_any t p gs W (hs.on hb)) hn
theorem take_sign_some (gs : List (List UInt8)) (p : Nat) (w : World) (r : Nat) (t : Tok) (ts rs : List Tok) (h : RdAt en w r ts) (hs : SignIn w p gs) (hn : nxT (sgT gs) ts = some (t, rs)) :
  Calls Tryz.prog 67 #[.pointer (some ⟨r, 0, none⟩), signV p] w fun e w' => e = .returned (.tuple #[tokV t, .bool true]) ∧ RdAt en w' r rs ∧ But r w w' :=
 take_some (sgT gs) _ _ ent_sign w r t ts rs h (fun t _ W hb => oneOf1_any t p gs W (hs.on hb)) hn
end Go.Proofs.YtkbhmghdonomnaaGreatDoor
namespace Go.Proofs.YtkbhmghdonomnaaGreatDoor
open Go.RowKit Go.BigFrame
set_option linter.unusedVariables false
def Fit (ts : List Tok) : Prop := ∀ t ∈ ts, t.2.1.size ≤ 400
theorem Fit.suf {ts rs : List Tok} (h : Fit ts) (hs : rs <:+ ts) : Fit rs := fun t ht => h t (hs.mem ht)
def opsL : List (List UInt8 × Int) := [([118, 97, 108], 0), ([99, 111, 108], 0), ([111, 114], 2), ([97, 110, 100], 2), ([110, 111, 116], 1), ([61], 2), ([60, 62], 2), ([60], 2), ([60, 61], 2), ([62], 2), ([62, 61], 2), ([43], 2), ([45], 2), ([42], 2), ([47], 2), ([37], 2), ([110, 101, 103], 1), ([108, 101, 110], 1), ([105, 102], 3)]
def opsC : Array Value := #[.string ⟨#[118, 97, 108]⟩, .int .i64 0, .string ⟨#[99, 111, 108]⟩, .int .i64 0, .string ⟨#[111, 114]⟩, .int .i64 2, .string ⟨#[97, 110, 100]⟩, .int .i64 2, .string ⟨#[110, 111, 116]⟩, .int .i64 1, .string ⟨#[61]⟩, .int .i64 2, .string ⟨#[60, 62]⟩, .int .i64 2, .string ⟨#[60]⟩, .int .i64 2, .string ⟨#[60, 61]⟩, .int .i64 2, .string ⟨#[62]⟩, .int .i64 2, .string ⟨#[62, 61]⟩, .int .i64 2, .string ⟨#[43]⟩, .int .i64 2, .string ⟨#[45]⟩, .int .i64 2, .string ⟨#[42]⟩, .int .i64 2, .string ⟨#[47]⟩, .int .i64 2, .string ⟨#[37]⟩, .int .i64 2, .string ⟨#[110, 101, 103]⟩, .int .i64 1, .string ⟨#[108, 101, 110]⟩, .int .i64 1, .string ⟨#[105, 102]⟩, .int .i64 3]
def wordsC : Array Value := #[.string ⟨#[111, 114]⟩, .string ⟨#[97, 110, 100]⟩, .string ⟨#[110, 111, 116]⟩, .string ⟨#[116, 114, 117, 101]⟩, .string ⟨#[102, 97, 108, 115, 101]⟩, .string ⟨#[108, 101, 110]⟩, .string ⟨#[105, 102]⟩, .string ⟨#[115, 101, 108, 101, 99, 116]⟩, .string ⟨#[97, 115]⟩, .string ⟨#[102, 114, 111, 109]⟩, .string ⟨#[119, 104, 101, 114, 101]⟩, .string ⟨#[103, 114, 111, 117, 112]⟩, .string ⟨#[98, 121]⟩, .string ⟨#[119, 105, 110, 100, 111, 119]⟩, .string ⟨#[115, 108, 105, 100, 101]⟩, .string ⟨#[99, 111, 117, 110, 116]⟩, .string ⟨#[115, 117, 109]⟩, .string ⟨#[108, 101, 97, 115, 116]⟩, .string ⟨#[109, 111, 115, 116]⟩]
structure TEnv (w : World) : Prop where
 env : Env w
 big : 15 ≤ w.heap.size
 ops : ∃ t fr, w.heap[0]? = some (.cells opsC t fr)
 wds : ∃ t fr, w.heap[4]? = some (.cells wordsC t fr)
theorem Env.onB {w w' : World} {n : Nat} (h : Env w) (hb : Below n w w') (hn : 15 ≤ n) (hs : w.heap.size ≤ w'.heap.size) : Env w' := by
 have hbig := h.big
 refine ⟨?_, ?_, ?_, ?_, ?_⟩
 ·exact var?_below hb g_tab (by omega) h.tab
 ·obtain ⟨tp, p, hv⟩ := h.syn; exact ⟨tp, p, var?_below hb g_syn (by omega) hv⟩
 ·obtain ⟨tp, p, hv⟩ := h.ran; exact ⟨tp, p, var?_below hb g_ran (by omega) hv⟩
 ·obtain ⟨m, hm⟩ := h.mx; exact ⟨m, by rw [hb.cell (p := ⟨12, 0, none⟩) (by simp; omega)]; exact hm⟩
 ·omega
theorem TEnv.onB {w w' : World} {n : Nat} (h : TEnv w) (hb : Below n w w') (hn : 15 ≤ n) (hs : w.heap.size ≤ w'.heap.size) : TEnv w' := by
 refine ⟨h.env.onB hb hn hs, by have := h.big; omega, ?_, ?_⟩
 ·obtain ⟨t, fr, h1⟩ := h.ops
  exact ⟨t, fr, by rw [hb.block _ (by omega)]; exact h1⟩
 ·obtain ⟨t, fr, h1⟩ := h.wds
  exact ⟨t, fr, by rw [hb.block _ (by omega)]; exact h1⟩
theorem TEnv.on {w w' : World} (h : TEnv w) (hb : Below w.heap.size w w') : TEnv w' := h.onB hb h.big hb.size
theorem TEnv.but {w w' : World} {r : Nat} (h : TEnv w) (hb : But r w w') (hr : 15 ≤ r) : TEnv w' := h.onB hb.below hr hb.size
theorem ExIn.but {w w' : World} {r : Nat} {lo : Nat → Prop} {x : Ex} {v : Value} (h : ExIn w lo v x) (hb : But r w w') (hr : ∀ b, lo b → b ≠ r) : ExIn w' lo v x :=
 ExIn.keep hb.size (fun b o h1 h2 => hb.cell o h2 (hr b h1)) x v h
theorem StrsIn.but {w w' : World} {r b : Nat} {gs : List (List UInt8)} (h : StrsIn w b gs) (hb : But r w w') (hr : b ≠ r) : StrsIn w' b gs :=
 ⟨by have := hb.size; have := h.1; omega, fun j hj => by rw [hb.cell _ h.1 hr]; exact h.2 j hj⟩
def SignBut (w : World) (r p : Nat) (gs : List (List UInt8)) : Prop := ∃ b c, w.cell? ⟨p, 0, none⟩ = some (.slice (some ⟨b, 0, none⟩) gs.length c) ∧ p < w.heap.size ∧ StrsIn w b gs ∧ gs.length ≤ 100 ∧ p ≠ r ∧ b ≠ r
theorem SignBut.sign {w : World} {r p : Nat} {gs : List (List UInt8)} (h : SignBut w r p gs) : SignIn w p gs := by
 obtain ⟨b, c, h1, h2, h3, h4, _, _⟩ := h
 exact ⟨b, c, h1, h2, h3, h4⟩
theorem SignBut.but {w w' : World} {r p : Nat} {gs : List (List UInt8)} (h : SignBut w r p gs) (hb : But r w w') : SignBut w' r p gs := by
 obtain ⟨b, c, h1, h2, h3, h4, h5, h6⟩ := h
 exact ⟨b, c, by rw [hb.cell _ h2 h5]; exact h1, by have := hb.size; omega, h3.but hb h6, h4, h5, h6⟩
theorem But.on {r : Nat} {w w1 w2 : World} (h : But r w w1) (k : Below w1.heap.size w1 w2) (hr : r < w.heap.size) : But r w w2 :=
 h.trans (But.of_below' k (by have := h.size; omega))
theorem but_frozen {r : Nat} {w w1 : World} (h : But r w w1) {b : Nat} (o : Nat) (hb : b < w.heap.size) (hr : b ≠ r) : w1.frozen? ⟨b, o, none⟩ = w.frozen? ⟨b, o, none⟩ := by
 simp only [World.frozen?, h.kept b hb hr]
theorem ExIn.agg {w : World} {lo : Nat → Prop} {v : Value} {x : Ex} (h : ExIn w lo v x) : ∃ op nm vt vn vs p n c pos, v = .agg #[.string op, .string nm, .int .i64 vt, .int .i64 vn, .string vs, .slice p n c, .int .i64 pos] := by
 cases x with
 | node op nm vt vn vs pos args =>
  rw [ExIn] at h
  obtain ⟨p, c, rfl, _⟩ := h
  exact ⟨_, _, _, _, _, _, _, _, _, rfl⟩
theorem ex_two {w W : World} {lo : Nat → Prop} {B : Nat} {a0 a1 a2 a3 a4 a5 a6 b0 b1 b2 b3 b4 b5 b6 : Value} {x y : Ex} {op nm vs : ByteArray} {vt vn pos : Int} (h1 : ExIn w lo (.agg #[a0, a1, a2, a3, a4, a5, a6]) x) (h2 : ExIn w lo (.agg #[b0, b1, b2, b3, b4, b5, b6]) y) (hb : Below w.heap.size w W) (hB : B < W.heap.size) (hlo : lo B)
  (hc : ∀ i, W.cell? ⟨B, i, none⟩ = (#[a0, a1, a2, a3, a4, a5, a6, b0, b1, b2, b3, b4, b5, b6] : Array Value)[i]?) (ho : op.size ≤ maxLen) (hn : nm.size ≤ maxLen) (hv : vs.size ≤ maxLen) :
  ExIn W lo (.agg #[.string op, .string nm, .int .i64 vt, .int .i64 vn, .string vs, .slice (some ⟨B, 0, none⟩) 2 2, .int .i64 pos]) (.node op nm vt vn vs pos [x, y]) := by
 rw [ExIn]
 refine ⟨_, _, rfl, ⟨by simp [maxLen], by simp⟩, ho, hn, hv, .inr ⟨B, 0, rfl, hB, hlo, ?_⟩⟩
 rw [ExsIn, ExsIn, ExsIn]
 refine ⟨⟨a0, a1, a2, a3, a4, a5, a6, ?_, ?_, ?_, ?_, ?_, ?_, ?_, h1.on hb⟩, ⟨b0, b1, b2, b3, b4, b5, b6, ?_, ?_, ?_, ?_, ?_, ?_, ?_, h2.on hb⟩, trivial⟩
 all_goals (rw [hc]; rfl)
theorem ex_one {w W : World} {lo : Nat → Prop} {B : Nat} {a0 a1 a2 a3 a4 a5 a6 : Value} {x : Ex} {op nm vs : ByteArray} {vt vn pos : Int} (h1 : ExIn w lo (.agg #[a0, a1, a2, a3, a4, a5, a6]) x) (hb : Below w.heap.size w W) (hB : B < W.heap.size) (hlo : lo B)
  (hc : ∀ i, W.cell? ⟨B, i, none⟩ = (#[a0, a1, a2, a3, a4, a5, a6] : Array Value)[i]?) (ho : op.size ≤ maxLen) (hn : nm.size ≤ maxLen) (hv : vs.size ≤ maxLen) :
  ExIn W lo (.agg #[.string op, .string nm, .int .i64 vt, .int .i64 vn, .string vs, .slice (some ⟨B, 0, none⟩) 1 1, .int .i64 pos]) (.node op nm vt vn vs pos [x]) := by
 rw [ExIn]
 refine ⟨_, _, rfl, ⟨by simp [maxLen], by simp⟩, ho, hn, hv, .inr ⟨B, 0, rfl, hB, hlo, ?_⟩⟩
 rw [ExsIn, ExsIn]
 refine ⟨⟨a0, a1, a2, a3, a4, a5, a6, ?_, ?_, ?_, ?_, ?_, ?_, ?_, h1.on hb⟩, trivial⟩
 all_goals (rw [hc]; rfl)
theorem ex_leaf {W : World} {lo : Nat → Prop} {p : Option Addr} {c : Nat} {op nm vs : ByteArray} {vt vn pos : Int} (ho : op.size ≤ maxLen) (hn : nm.size ≤ maxLen) (hv : vs.size ≤ maxLen) :
  ExIn W lo (.agg #[.string op, .string nm, .int .i64 vt, .int .i64 vn, .string vs, .slice p 0 c, .int .i64 pos]) (.node op nm vt vn vs pos []) := by
 rw [ExIn]
 exact ⟨_, _, rfl, ⟨by simp, by simp⟩, ho, hn, hv, .inl rfl⟩
set_option maxHeartbeats 4000000 in
set_option maxRecDepth 20000 in
theorem between_any (w : World) (lo : Nat → Prop) (t : Tok) (v1 v2 : Value) (x y : Ex) (h1 : ExIn w lo v1 x) (h2 : ExIn w lo v2 y) (hlo : ∀ b, w.heap.size ≤ b → lo b) (ht : t.2.1.size ≤ maxLen) :
  Calls Tryz.prog 146 #[v1, tokV t, v2] w fun e w' => (∃ v, e = .returned v ∧ ExIn w' lo v (betT x t y)) ∧ Below w.heap.size w w' := by
 obtain ⟨o1, n1, t1, k1, s1, p1, m1, c1, a1, rfl⟩ := h1.agg
 obtain ⟨o2, n2, t2, k2, s2, p2, m2, c2, a2, rfl⟩ := h2.agg
 have H1 : Aside (ExIn w lo (.agg #[.string o1, .string n1, .int .i64 t1, .int .i64 k1, .string s1, .slice p1 m1 c1, .int .i64 a1]) x) := h1
 have H2 : Aside (ExIn w lo (.agg #[.string o2, .string n2, .int .i64 t2, .int .i64 k2, .string s2, .slice p2 m2 c2, .int .i64 a2]) y) := h2
 clear h1 h2
 obtain ⟨tk, tx, ta⟩ := t
 rw [tokV]
 go_enter Tryz.func146, Tryz.ntmps146
 go_wp2
 have hb : Below w.heap.size w _ := (((((Below.refl w.heap.size w).alloc (Nat.le_refl _) (.cells #[.string o1, .string n1, .int .i64 t1, .int .i64 k1, .string s1, .slice p1 m1 c1, .int .i64 a1] 26)).alloc (by simp) (.cells #[.int .i64 tk, .string tx, .int .i64 (ta : Int)] 80)).alloc (by simp; omega) (.cells #[.string o2, .string n2, .int .i64 t2, .int .i64 k2, .string s2, .slice p2 m2 c2, .int .i64 a2] 26)).alloc (by simp; omega) (.cells #[.string tx, .string ⟨#[]⟩, .int .i64 0, .int .i64 0, .string ⟨#[]⟩, .slice (some ⟨w.heap.size + 1 + 1 + 1 + 1, 0, none⟩) 2 2, .int .i64 (ta : Int)] 26)).alloc (by simp; omega) (.cells #[.string o1, .string n1, .int .i64 t1, .int .i64 k1, .string s1, .slice p1 m1 c1, .int .i64 a1, .string o2, .string n2, .int .i64 t2, .int .i64 k2, .string s2, .slice p2 m2 c2, .int .i64 a2] 26)
 refine bodyPost_ret (v := .agg #[.string tx, .string ⟨#[]⟩, .int .i64 0, .int .i64 0, .string ⟨#[]⟩, .slice (some ⟨w.heap.size + 1 + 1 + 1 + 1, 0, none⟩) 2 2, .int .i64 (ta : Int)]) (by simp [results, Tryz.results146, go_sem]) rfl ⟨⟨_, rfl, ?_⟩, hb⟩
 exact ex_two H1.out H2.out hb (by simp) (hlo _ (by omega)) (fun i => World.cell?_alloc_at _ _ _ _ (by simp)) ht (by decide) (by decide)
end Go.Proofs.YtkbhmghdonomnaaGreatDoor
namespace Go.Proofs.YtkbhmghdonomnaaGreatDoor
open Go.RowKit
def cellAt (P : Program) : Nat → TypeId → DataW Unit → Nat → Option Value
 | 0, _, _, _ => none
 | f + 1, t, d, i =>
  match P.underlying t, d with
  | some (.int k), .lit (.int _ n) => if i = 0 then some (.int k n) else none
  | some .string, .lit (.string l) => if i = 0 then some (.string ⟨l.toArray⟩) else none
  | some (.array n e), .agg l => if i / P.cellsOf e < n ∧ i % P.cellsOf e < P.cellsOf e then (l[i / P.cellsOf e]?).bind fun d' => cellAt P f e d' (i % P.cellsOf e) else none
  | some (.struct fs), .agg l =>
   (fs[(fs.toList.findIdx fun g => decide (i < g.offset + P.cellsOf g.type))]?).bind fun g =>
    if g.offset ≤ i ∧ i < g.offset + P.cellsOf g.type then (l[(fs.toList.findIdx fun g => decide (i < g.offset + P.cellsOf g.type))]?).bind fun d' => cellAt P f g.type d' (i - g.offset) else none
  | _, _ => none
theorem chunk_at {cs : List Value} {o k i : Nat} {v : Value} (hk : i < k) (h : ((cs.drop o).take k)[i]? = some v) : cs[o + i]? = some v := by
 rw [List.getElem?_take, if_pos hk, List.getElem?_drop] at h
 exact h
theorem cellAt_trod {P : Program} {W : World} {enc : TypeId × Value → Unit} {base : Nat} {spare : Nat → Bool} {held : Bool} : ∀ (f : Nat) (t : TypeId) (d : DataW Unit) (i : Nat) (v : Value) (fuel : Nat) (cs : List Value) (ps : List MemPlace),
  DataW.trod enc P W base spare held fuel t cs = some (d, ps) → cellAt P f t d i = some v → cs[i]? = some v
 | 0, _, _, _, _, _, _, _, _, h => by simp [cellAt] at h
 | f + 1, t, d, i, v, fuel, cs, ps, ht, h => by
  unfold cellAt at h
  split at h
  ·rename_i k _ n hu
   split at h
   ·rename_i hi
    subst hi
    cases fuel with
    | zero => simp [DataW.trod] at ht
    | succ m =>
     unfold DataW.trod at ht
     rw [hu] at ht
     split at ht <;> simp_all
   ·simp at h
  ·rename_i l hu
   split at h
   ·rename_i hi
    subst hi
    obtain ⟨s, rfl, hx, _⟩ := DataW.trod_string hu ht
    simp at hx h ⊢
    rw [← h, hx.1]
   ·simp at h
  ·rename_i n e l hu
   split at h
   ·rename_i hi
    obtain ⟨xs, m, _, hx, _, hl, hel⟩ := DataW.trod_array hu ht
    simp only [Prod.mk.injEq, DataW.agg.injEq] at hx
    obtain ⟨rfl, rfl⟩ := hx
    rw [Option.bind_eq_some_iff] at h
    obtain ⟨d', hd, h⟩ := h
    have hlt : i / P.cellsOf e < xs.length := by omega
    rw [List.getElem?_map, List.getElem?_eq_getElem hlt] at hd
    have h2 := hel _ hi.1
    rw [List.getElem?_eq_getElem hlt] at h2
    simp only [Option.map_some, Option.some.injEq] at hd
    subst hd
    have h3 := cellAt_trod f e _ _ v _ _ _ h2 h
    have h4 := chunk_at hi.2 h3
    rwa [Nat.mul_comm, Nat.div_add_mod] at h4
   ·simp at h
  ·rename_i fs l hu
   rw [Option.bind_eq_some_iff] at h
   obtain ⟨g, hg, h⟩ := h
   split at h
   ·rename_i hi
    obtain ⟨xs, m, _, hx, _, hl, hel⟩ := DataW.trod_struct hu ht
    simp only [Prod.mk.injEq, DataW.agg.injEq] at hx
    obtain ⟨rfl, rfl⟩ := hx
    rw [Option.bind_eq_some_iff] at h
    obtain ⟨d', hd, h⟩ := h
    have h2 := hel _ g hg
    rw [List.getElem?_map, Option.map_eq_some_iff] at hd
    obtain ⟨y, hy, rfl⟩ := hd
    rw [hy] at h2
    have h3 := cellAt_trod f g.type _ _ v _ _ _ h2 h
    have h4 := chunk_at (by omega) h3
    rwa [show g.offset + (i - g.offset) = i by omega] at h4
   ·simp at h
  ·simp at h
theorem var_row {P : Program} {W : World} {n : String} {cs : Array Value} {g : Nat} (h : W.var? P n = some cs) (hg : P.globalNamed n = some g) : ∃ t fr, W.heap[g]? = some (.cells cs t fr) := by
 unfold World.var? at h
 simp only [hg, Option.bind_some] at h
 split at h
 ·rename_i c t fr he
  obtain rfl := Option.some.inj h
  exact ⟨t, fr, he⟩
 ·simp at h
theorem var_of {P : Program} {W : World} {nm : String} {d : DataW Unit} {rest : List (String × DataW Unit)} {g : Nat} {t e : TypeId} {n : Nat} (C : Array Value)
  (h : laidMet P ((nm, d) :: rest) W) (hg : P.globalNamed nm = some g) (ht : (P.globals[g]?).map (·.type) = some t) (hu : P.underlying t = some (.array n e)) (hc : P.cellsOf t = C.size)
  (hC : (List.range C.size).map (cellAt P 8 t d) = C.toList.map some) : ∃ tt fr, W.heap[g]? = some (.cells C tt fr) := by
 obtain ⟨ps, ⟨g', t', cs, fuel, p, q, hg', ht', hvar, hd, _, _⟩, _⟩ := h
 obtain rfl := Option.some.inj (hg.symm.trans hg')
 obtain rfl := Option.some.inj (ht.symm.trans ht')
 obtain ⟨_, _, _, _, hl, _, _⟩ := DataW.trod_array hu hd
 have hcs : cs = C := by
  apply Array.ext'
  apply List.ext_getElem?
  intro i
  by_cases hi : i < C.size
  ·have h1 : ((List.range C.size).map (cellAt P 8 t d))[i]? = (C.toList.map some)[i]? := by rw [hC]
   rw [List.getElem?_map, List.getElem?_range hi, List.getElem?_map, Array.getElem?_toList, Array.getElem?_eq_getElem hi] at h1
   simp only [Option.map_some, Option.some.injEq] at h1
   rw [cellAt_trod 8 t d i _ _ _ _ hd h1, Array.getElem?_toList, Array.getElem?_eq_getElem hi]
  ·rw [List.getElem?_eq_none (by omega), List.getElem?_eq_none (by simpa using hi)]
 subst hcs
 exact var_row hvar hg
end Go.Proofs.YtkbhmghdonomnaaGreatDoor
