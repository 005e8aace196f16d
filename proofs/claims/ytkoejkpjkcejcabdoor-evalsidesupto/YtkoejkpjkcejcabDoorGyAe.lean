/-
  ButM, TreeIn, TreeR2, TreeR3, TreeR4, in one text.
-/
import Derived.Test.YtkoejkpjkcejcabDoorProg
import Derived.WalkKit
import Derived.Below
import Derived.RowKitTokens
import Derived.WalkSmall
import Derived.Deep.Heap
import Derived.Test.YtkoejkpjkcejcabDoorGyAd
import Derived.Deep.RegionWith
import Derived.Deep.QuietTactic
namespace Go.Proofs.YtkoejkpjkcejcabDoor
open Go.RowKit
set_option linter.unusedVariables false

/-- All that was there is kept but the block r. -/
structure But (r : Nat) (w w' : World) : Prop where
  below : Below r w w'
  size : w.heap.size ≤ w'.heap.size
  kept : ∀ k, k < w.heap.size → k ≠ r → w'.heap[k]? = w.heap[k]?
theorem But.refl (r : Nat) (w : World) : But r w w := ⟨Below.refl _ _, Nat.le_refl _, fun _ _ _ => rfl⟩
theorem But.trans {r : Nat} {w w1 w2 : World} (h : But r w w1) (k : But r w1 w2) : But r w w2 :=
  ⟨h.below.trans k.below, Nat.le_trans h.size k.size, fun b hb hr => by rw [k.kept b (by have := h.size; omega) hr, h.kept b hb hr]⟩
theorem But.drewN {r : Nat} {w w1 : World} (h : But r w w1) (q : Nat) : But r w (w1.drewN q) := ⟨below_drewN h.below q, h.size, h.kept⟩
theorem But.drew {r : Nat} {w w1 : World} (h : But r w w1) : But r w w1.drew := ⟨Below.drew h.below, h.size, h.kept⟩
theorem But.set {r : Nat} {w w1 : World} (h : But r w w1) (o : Nat) (v : Value) : But r w (w1.setCell ⟨r, o, none⟩ v) :=
  ⟨h.below.setCell (p := ⟨r, o, none⟩) (Nat.le_refl _) v, by have := h.size; simpa [World.setCell] using this, fun k hk hr => by rw [Below.heap_setCell _ _ _ _ (fun e => hr e)]; exact h.kept k hk hr⟩
theorem But.cell {r : Nat} {w w1 : World} (h : But r w w1) {b : Nat} (o : Nat) (hb : b < w.heap.size) (hr : b ≠ r) : w1.cell? ⟨b, o, none⟩ = w.cell? ⟨b, o, none⟩ := by
  simp only [World.cell?, h.kept b hb hr]
theorem But.of_below' {r : Nat} {w w' : World} (h : Below w.heap.size w w') (hr : r ≤ w.heap.size) : But r w w' := ⟨h.mono hr, h.size, fun k hk _ => h.block k hk⟩
theorem But.setNew {r : Nat} {w w1 : World} (h : But r w w1) (z o : Nat) (hz : w.heap.size ≤ z) (hr : r ≤ z) (v : Value) : But r w (w1.setCell ⟨z, o, none⟩ v) :=
  ⟨h.below.setCell (p := ⟨z, o, none⟩) hr v, by have := h.size; simpa [World.setCell] using this, fun k hk hkr => by rw [Below.heap_setCell _ _ _ _ (fun e => by simp at e; omega)]; exact h.kept k hk hkr⟩
theorem But.alloc {r : Nat} {w w1 : World} (h : But r w w1) (hr : r ≤ w1.heap.size) (o : Obj) : But r w (w1.alloc o) :=
  ⟨h.below.alloc hr o, by have := h.size; simp; omega, fun k hk hkr => by
    rw [((Below.refl w1.heap.size w1).alloc (Nat.le_refl _) o).block k (by have := h.size; omega)]; exact h.kept k hk hkr⟩
end Go.Proofs.YtkoejkpjkcejcabDoor
namespace Go.Proofs.YtkoejkpjkcejcabDoor
open Go.RowKit
set_option linter.unusedVariables false

/-- The reader lies in block r: its words, the next one, the text's length, where it went wrong. -/
structure InAt (w : World) (r : Nat) (tp : Option Addr) (tc : Nat) (ts : List Tok) (en : Nat) (st : St) : Prop where
  c0 : w.cell? ⟨r, 0, none⟩ = some (.slice tp ts.length tc)
  c1 : w.cell? ⟨r, 1, none⟩ = some (.int .i64 (st.i : Int))
  c2 : w.cell? ⟨r, 2, none⟩ = some (.int .i64 (en : Int))
  c3 : w.cell? ⟨r, 3, none⟩ = some (.int .i64 st.bad)
  f1 : w.frozen? ⟨r, 1, none⟩ = false
  f3 : w.frozen? ⟨r, 3, none⟩ = false
  lt : r < w.heap.size
  toks : ts.length = 0 ∨ ∃ b off, tp = some ⟨b, off, none⟩ ∧ b ≠ r ∧ ToksIn w b off ts
theorem InAt.same {w w' : World} {r : Nat} {tp : Option Addr} {tc : Nat} {ts : List Tok} {en : Nat} {st : St} (h : InAt w r tp tc ts en st) (e : w'.heap = w.heap) : InAt w' r tp tc ts en st := by
  have hc : ∀ a : Addr, w'.cell? a = w.cell? a := fun a => by simp only [World.cell?, e]
  have hf : ∀ a : Addr, w'.frozen? a = w.frozen? a := fun a => by simp only [World.frozen?, e]
  refine ⟨by rw [hc]; exact h.c0, by rw [hc]; exact h.c1, by rw [hc]; exact h.c2, by rw [hc]; exact h.c3, by rw [hf]; exact h.f1, by rw [hf]; exact h.f3, by rw [e]; exact h.lt, ?_⟩
  rcases h.toks with h0 | ⟨b, off, e1, e2, h3⟩
  · exact .inl h0
  · exact .inr ⟨b, off, e1, e2, by rw [e]; exact h3.1, fun j hj => by rw [hc, hc, hc]; exact h3.2 j hj⟩
theorem posAt_in {ts : List Tok} {en i : Nat} (h : i < ts.length) : posAt ts en i = (ts[i].2.2 : Int) := by rw [posAt, List.getElem?_eq_getElem h]
theorem posAt_out {ts : List Tok} {en i : Nat} (h : ts.length ≤ i) : posAt ts en i = (en : Int) := by rw [posAt, List.getElem?_eq_none h]
theorem InAt.bad {w : World} {r : Nat} {tp : Option Addr} {tc : Nat} {ts : List Tok} {en : Nat} {st : St} (h : InAt w r tp tc ts en st) (x : Int) : InAt (w.setCell ⟨r, 3, none⟩ (.int .i64 x)) r tp tc ts en ⟨st.i, x⟩ := by
  have hb : ∀ b o : Nat, b ≠ r → (w.setCell ⟨r, 3, none⟩ (.int .i64 x)).cell? ⟨b, o, none⟩ = w.cell? ⟨b, o, none⟩ := fun b o hbr => by
    simp only [World.cell?]
    rw [Below.heap_setCell _ _ _ _ (fun e => hbr e)]
  refine ⟨?_, ?_, ?_, World.cell?_setCell_same w ⟨r, 3, none⟩ _ h.c3, ?_, ?_, by have := h.lt; simpa [World.setCell] using this, ?_⟩
  · rw [World.cell?_setCell_other _ _ _ _ (by simp)]; exact h.c0
  · rw [World.cell?_setCell_other _ _ _ _ (by simp)]; exact h.c1
  · rw [World.cell?_setCell_other _ _ _ _ (by simp)]; exact h.c2
  · have : (w.setCell ⟨r, 3, none⟩ (.int .i64 x)).frozen? ⟨r, 1, none⟩ = w.frozen? ⟨r, 1, none⟩ := by simp
    rw [this]; exact h.f1
  · have : (w.setCell ⟨r, 3, none⟩ (.int .i64 x)).frozen? ⟨r, 3, none⟩ = w.frozen? ⟨r, 3, none⟩ := by simp
    rw [this]; exact h.f3
  · rcases h.toks with h0 | ⟨b, off, e1, e2, h3⟩
    · exact .inl h0
    · exact .inr ⟨b, off, e1, e2, by have := h3.1; simpa [World.setCell] using this, fun j hj => by rw [hb _ _ e2, hb _ _ e2, hb _ _ e2]; exact h3.2 j hj⟩
theorem InAt.next {w : World} {r : Nat} {tp : Option Addr} {tc : Nat} {ts : List Tok} {en : Nat} {st : St} (h : InAt w r tp tc ts en st) : InAt (w.setCell ⟨r, 1, none⟩ (.int .i64 ((st.i : Int) + 1))) r tp tc ts en (adv st) := by
  have hb : ∀ b o : Nat, b ≠ r → (w.setCell ⟨r, 1, none⟩ (.int .i64 ((st.i : Int) + 1))).cell? ⟨b, o, none⟩ = w.cell? ⟨b, o, none⟩ := fun b o hbr => by
    simp only [World.cell?]
    rw [Below.heap_setCell _ _ _ _ (fun e => hbr e)]
  refine ⟨?_, ?_, ?_, ?_, ?_, ?_, by have := h.lt; simpa [World.setCell] using this, ?_⟩
  · rw [World.cell?_setCell_other _ _ _ _ (by simp)]; exact h.c0
  · exact World.cell?_setCell_same w ⟨r, 1, none⟩ _ h.c1
  · rw [World.cell?_setCell_other _ _ _ _ (by simp)]; exact h.c2
  · rw [World.cell?_setCell_other _ _ _ _ (by simp)]; exact h.c3
  · have : (w.setCell ⟨r, 1, none⟩ (.int .i64 ((st.i : Int) + 1))).frozen? ⟨r, 1, none⟩ = w.frozen? ⟨r, 1, none⟩ := by simp
    rw [this]; exact h.f1
  · have : (w.setCell ⟨r, 1, none⟩ (.int .i64 ((st.i : Int) + 1))).frozen? ⟨r, 3, none⟩ = w.frozen? ⟨r, 3, none⟩ := by simp
    rw [this]; exact h.f3
  · rcases h.toks with h0 | ⟨b, off, e1, e2, h3⟩
    · exact .inl h0
    · exact .inr ⟨b, off, e1, e2, by have := h3.1; simpa [World.setCell] using this, fun j hj => by rw [hb _ _ e2, hb _ _ e2, hb _ _ e2]; exact h3.2 j hj⟩
theorem isT_in {ts : List Tok} {i : Nat} {bad : Int} {s : List UInt8} (hb : bad < 0) (h : i < ts.length) : isT ts ⟨i, bad⟩ s = ((decide (ts[i].1 = 1) || decide (ts[i].1 = 4)) && ts[i].2.1.data.toList == s) := by
  simp [isT, hb, List.getElem?_eq_getElem h]
theorem isT_out {ts : List Tok} {i : Nat} {bad : Int} {s : List UInt8} (h : ts.length ≤ i) : isT ts ⟨i, bad⟩ s = false := by
  simp [isT, List.getElem?_eq_none h]
theorem isT_bad {ts : List Tok} {i : Nat} {bad : Int} {s : List UInt8} (hb : ¬ bad < 0) : isT ts ⟨i, bad⟩ s = false := by
  simp [isT, hb]
end Go.Proofs.YtkoejkpjkcejcabDoor
namespace Go.Proofs.YtkoejkpjkcejcabDoor
open Go.RowKit Go.BigFrame
set_option linter.unusedVariables false
variable {en : Nat}

/-- The reader lies in block r: the words that are ahead, and the text's length. -/
structure RdAt (en : Nat) (w : World) (r : Nat) (ts : List Tok) : Prop where
  cell : ∃ p c, w.cell? ⟨r, 0, none⟩ = some (.slice p ts.length c) ∧ ts.length ≤ c ∧ (ts.length = 0 ∨ ∃ b off, p = some ⟨b, off, none⟩ ∧ b < r ∧ ToksIn w b off ts)
  fz : w.frozen? ⟨r, 0, none⟩ = false
  lt : r < w.heap.size
  fin : w.cell? ⟨r, 1, none⟩ = some (.int .i64 (en : Int))
theorem RdAt.on {w w' : World} {r : Nat} {ts : List Tok} (h : RdAt en w r ts) (hb : Below w.heap.size w w') : RdAt en w' r ts := by
  obtain ⟨⟨p, c, h1, h2, h3⟩, hf, hl, he⟩ := h
  refine ⟨⟨p, c, by rw [hb.cell (p := ⟨r, 0, none⟩) hl]; exact h1, h2, ?_⟩, by rw [hb.frozen (p := ⟨r, 0, none⟩) hl]; exact hf, by have := hb.size; omega, by rw [hb.cell (p := ⟨r, 1, none⟩) hl]; exact he⟩
  rcases h3 with h0 | ⟨b, off, e1, e2, h4⟩
  · exact .inl h0
  · exact .inr ⟨b, off, e1, e2, h4.on hb⟩
theorem RdAt.onB {w w' : World} {r : Nat} {ts : List Tok} (h : RdAt en w r ts) (hb : Below (r + 1) w w') (hs : w.heap.size ≤ w'.heap.size) : RdAt en w' r ts := by
  obtain ⟨⟨p, c, h1, h2, h3⟩, hf, hl, he⟩ := h
  refine ⟨⟨p, c, by rw [hb.cell (p := ⟨r, 0, none⟩) (Nat.lt_succ_self r)]; exact h1, h2, ?_⟩, by rw [hb.frozen (p := ⟨r, 0, none⟩) (Nat.lt_succ_self r)]; exact hf, by omega, by rw [hb.cell (p := ⟨r, 1, none⟩) (Nat.lt_succ_self r)]; exact he⟩
  rcases h3 with h0 | ⟨b, off, e1, e2, h4⟩
  · exact .inl h0
  · refine .inr ⟨b, off, e1, e2, by have := h4.1; omega, fun j hj => ?_⟩
    rw [hb.cell (p := ⟨b, off + j * 3, none⟩) (by simp; omega), hb.cell (p := ⟨b, off + j * 3 + 1, none⟩) (by simp; omega), hb.cell (p := ⟨b, off + j * 3 + 2, none⟩) (by simp; omega)]
    exact h4.2 j hj
/-- A slice of the words from the next one on. -/
theorem RdAt.step {w W : World} {r : Nat} {t : Tok} {ts : List Tok} {p p' : Option Addr} {c c' : Nat} (h : RdAt en w r (t :: ts)) (hp : w.cell? ⟨r, 0, none⟩ = some (.slice p (t :: ts).length c)) (hp' : p' = if c = 1 then p else p.map (·.add (1 * 3))) (hc' : c' = c - 1)
    (hb : But r w W) (hW : W.cell? ⟨r, 0, none⟩ = some (.slice p' ts.length c')) (hf : W.frozen? ⟨r, 0, none⟩ = false) (hW1 : W.cell? ⟨r, 1, none⟩ = w.cell? ⟨r, 1, none⟩) : RdAt en W r ts := by
  obtain ⟨⟨q, d, h1, h2, h3⟩, _, hl, he⟩ := h
  rw [h1] at hp
  obtain ⟨rfl, hd⟩ : q = p ∧ d = c := by
    injection hp with hp
    injection hp with e1 e2 e3
    exact ⟨e1, e3⟩
  subst hd
  simp only [List.length_cons] at h2
  refine ⟨⟨p', c', hW, by omega, ?_⟩, hf, by have := hb.size; omega, by rw [hW1]; exact he⟩
  rcases Nat.eq_zero_or_pos ts.length with h0 | h0
  · exact .inl h0
  · right
    rcases h3 with h3 | ⟨b, off, rfl, hbr, h4⟩
    · simp at h3
    · refine ⟨b, off + 3, ?_, hbr, by have := h4.1; have := hb.size; omega, fun j hj => ?_⟩
      · rw [hp', if_neg (by omega)]; rfl
      · have := h4.2 (j + 1) (by simpa using hj)
        simp only [show off + (j + 1) * 3 = off + 3 + j * 3 from by omega, List.getElem_cons_succ] at this
        rw [hb.cell _ h4.1 (by omega), hb.cell _ h4.1 (by omega), hb.cell _ h4.1 (by omega)]
        exact this
def noTok : Value := .agg #[.int .i64 0, .string ⟨#[]⟩, .int .i64 0]
end Go.Proofs.YtkoejkpjkcejcabDoor
namespace Go.Proofs.YtkoejkpjkcejcabDoor
open Go.RowKit Go.BigFrame
set_option linter.unusedVariables false

def Fit (ts : List Tok) : Prop := ∀ t ∈ ts, t.2.1.size ≤ 400
theorem Fit.suf {ts rs : List Tok} (h : Fit ts) (hs : rs <:+ ts) : Fit rs := fun t ht => h t (hs.mem ht)
/-- What package tree's variables hold: the operations with how many parts each has, and the words of the language. -/
def opsL : List (List UInt8 × Int) := [([118, 97, 108], 0), ([99, 111, 108], 0), ([111, 114], 2), ([97, 110, 100], 2), ([110, 111, 116], 1), ([61], 2), ([60, 62], 2), ([60], 2), ([60, 61], 2), ([62], 2), ([62, 61], 2), ([43], 2), ([45], 2), ([42], 2), ([47], 2), ([37], 2), ([110, 101, 103], 1), ([108, 101, 110], 1), ([105, 102], 3)]
def opsC : Array Value := #[.string ⟨#[118, 97, 108]⟩, .int .i64 0, .string ⟨#[99, 111, 108]⟩, .int .i64 0, .string ⟨#[111, 114]⟩, .int .i64 2, .string ⟨#[97, 110, 100]⟩, .int .i64 2, .string ⟨#[110, 111, 116]⟩, .int .i64 1, .string ⟨#[61]⟩, .int .i64 2, .string ⟨#[60, 62]⟩, .int .i64 2, .string ⟨#[60]⟩, .int .i64 2, .string ⟨#[60, 61]⟩, .int .i64 2, .string ⟨#[62]⟩, .int .i64 2, .string ⟨#[62, 61]⟩, .int .i64 2, .string ⟨#[43]⟩, .int .i64 2, .string ⟨#[45]⟩, .int .i64 2, .string ⟨#[42]⟩, .int .i64 2, .string ⟨#[47]⟩, .int .i64 2, .string ⟨#[37]⟩, .int .i64 2, .string ⟨#[110, 101, 103]⟩, .int .i64 1, .string ⟨#[108, 101, 110]⟩, .int .i64 1, .string ⟨#[105, 102]⟩, .int .i64 3]
def wordsC : Array Value := #[.string ⟨#[111, 114]⟩, .string ⟨#[97, 110, 100]⟩, .string ⟨#[110, 111, 116]⟩, .string ⟨#[116, 114, 117, 101]⟩, .string ⟨#[102, 97, 108, 115, 101]⟩, .string ⟨#[108, 101, 110]⟩, .string ⟨#[105, 102]⟩, .string ⟨#[115, 101, 108, 101, 99, 116]⟩, .string ⟨#[97, 115]⟩, .string ⟨#[102, 114, 111, 109]⟩, .string ⟨#[119, 104, 101, 114, 101]⟩, .string ⟨#[103, 114, 111, 117, 112]⟩, .string ⟨#[98, 121]⟩, .string ⟨#[119, 105, 110, 100, 111, 119]⟩, .string ⟨#[115, 108, 105, 100, 101]⟩, .string ⟨#[99, 111, 117, 110, 116]⟩, .string ⟨#[115, 117, 109]⟩, .string ⟨#[108, 101, 97, 115, 116]⟩, .string ⟨#[109, 111, 115, 116]⟩]
structure TEnv (w : World) : Prop where
  big : 11 ≤ w.heap.size
  ops : ∃ t fr, w.heap[2]? = some (.cells opsC t fr)
  wds : ∃ t fr, w.heap[3]? = some (.cells wordsC t fr)
theorem Env.onB {w w' : World} {n : Nat} (h : Env w) (hb : Below n w w') (hn : 11 ≤ n) (hs : w.heap.size ≤ w'.heap.size) : Env w' := by
  have hbig := h.big
  refine ⟨?_, ?_, ?_⟩
  · exact var?_below hb g_tab (by omega) h.tab
  · obtain ⟨m, hm⟩ := h.mx; exact ⟨m, by rw [hb.cell (p := ⟨6, 0, none⟩) (by simp; omega)]; exact hm⟩
  · omega
theorem TEnv.onB {w w' : World} {n : Nat} (h : TEnv w) (hb : Below n w w') (hn : 11 ≤ n) (hs : w.heap.size ≤ w'.heap.size) : TEnv w' := by
  refine ⟨by have := h.big; omega, ?_, ?_⟩
  · obtain ⟨t, fr, h1⟩ := h.ops
    exact ⟨t, fr, by rw [hb.block _ (by omega)]; exact h1⟩
  · obtain ⟨t, fr, h1⟩ := h.wds
    exact ⟨t, fr, by rw [hb.block _ (by omega)]; exact h1⟩
theorem TEnv.on {w w' : World} (h : TEnv w) (hb : Below w.heap.size w w') : TEnv w' := h.onB hb h.big hb.size
theorem TEnv.but {w w' : World} {r : Nat} (h : TEnv w) (hb : But r w w') (hr : 11 ≤ r) : TEnv w' := h.onB hb.below hr hb.size
theorem ExIn.but {w w' : World} {r : Nat} {lo : Nat → Prop} {x : Ex} {v : Value} (h : ExIn w lo v x) (hb : But r w w') (hr : ∀ b, lo b → b ≠ r) : ExIn w' lo v x :=
  ExIn.keep hb.size (fun b o h1 h2 => hb.cell o h2 (hr b h1)) x v h
theorem StrsIn.but {w w' : World} {r b : Nat} {gs : List (List UInt8)} (h : StrsIn w b gs) (hb : But r w w') (hr : b ≠ r) : StrsIn w' b gs :=
  ⟨by have := hb.size; have := h.1; omega, fun j hj => by rw [hb.cell _ h.1 hr]; exact h.2 j hj⟩
/-- The same, what it has captured not in the reader's block. -/
def SignBut (w : World) (r p : Nat) (gs : List (List UInt8)) : Prop := ∃ b c, w.cell? ⟨p, 0, none⟩ = some (.slice (some ⟨b, 0, none⟩) gs.length c) ∧ p < w.heap.size ∧ StrsIn w b gs ∧ gs.length ≤ 100 ∧ p ≠ r ∧ b ≠ r
theorem SignBut.sign {w : World} {r p : Nat} {gs : List (List UInt8)} (h : SignBut w r p gs) : SignIn w p gs := by
  obtain ⟨b, c, h1, h2, h3, h4, _, _⟩ := h
  exact ⟨b, c, h1, h2, h3, h4⟩
theorem SignBut.but {w w' : World} {r p : Nat} {gs : List (List UInt8)} (h : SignBut w r p gs) (hb : But r w w') : SignBut w' r p gs := by
  obtain ⟨b, c, h1, h2, h3, h4, h5, h6⟩ := h
  exact ⟨b, c, by rw [hb.cell _ h2 h5]; exact h1, by have := hb.size; omega, h3.but hb h6, h4, h5, h6⟩
theorem But.on {r : Nat} {w w1 w2 : World} (h : But r w w1) (k : Below w1.heap.size w1 w2) (hr : r < w.heap.size) : But r w w2 :=
  h.trans (But.of_below' k (by have := h.size; omega))
theorem but_frozen {r : Nat} {w w1 : World} (h : But r w w1) {b : Nat} (o : Nat) (hb : b < w.heap.size) (hr : b ≠ r) : w1.frozen? ⟨b, o, none⟩ = w.frozen? ⟨b, o, none⟩ := by
  simp only [World.frozen?, h.kept b hb hr]
/-- An expression's value is seven cells. -/
theorem ExIn.agg {w : World} {lo : Nat → Prop} {v : Value} {x : Ex} (h : ExIn w lo v x) : ∃ op nm vt vn vs p n c pos, v = .agg #[.string op, .string nm, .int .i64 vt, .int .i64 vn, .string vs, .slice p n c, .int .i64 pos] := by
  cases x with
  | node op nm vt vn vs pos args =>
    rw [ExIn] at h
    obtain ⟨p, c, rfl, _⟩ := h
    exact ⟨_, _, _, _, _, _, _, _, _, rfl⟩
theorem ex_two {w W : World} {lo : Nat → Prop} {B : Nat} {a0 a1 a2 a3 a4 a5 a6 b0 b1 b2 b3 b4 b5 b6 : Value} {x y : Ex} {op nm vs : ByteArray} {vt vn pos : Int} (h1 : ExIn w lo (.agg #[a0, a1, a2, a3, a4, a5, a6]) x) (h2 : ExIn w lo (.agg #[b0, b1, b2, b3, b4, b5, b6]) y) (hb : Below w.heap.size w W) (hB : B < W.heap.size) (hlo : lo B)
    (hc : ∀ i, W.cell? ⟨B, i, none⟩ = (#[a0, a1, a2, a3, a4, a5, a6, b0, b1, b2, b3, b4, b5, b6] : Array Value)[i]?) (ho : op.size ≤ maxLen) (hn : nm.size ≤ maxLen) (hv : vs.size ≤ maxLen) :
    ExIn W lo (.agg #[.string op, .string nm, .int .i64 vt, .int .i64 vn, .string vs, .slice (some ⟨B, 0, none⟩) 2 2, .int .i64 pos]) (.node op nm vt vn vs pos [x, y]) := by
  rw [ExIn]
  refine ⟨_, _, rfl, ⟨by simp [maxLen], by simp⟩, ho, hn, hv, .inr ⟨B, 0, rfl, hB, hlo, ?_⟩⟩
  rw [ExsIn, ExsIn, ExsIn]
  refine ⟨⟨a0, a1, a2, a3, a4, a5, a6, ?_, ?_, ?_, ?_, ?_, ?_, ?_, h1.on hb⟩, ⟨b0, b1, b2, b3, b4, b5, b6, ?_, ?_, ?_, ?_, ?_, ?_, ?_, h2.on hb⟩, trivial⟩
  all_goals (rw [hc]; rfl)
theorem ex_one {w W : World} {lo : Nat → Prop} {B : Nat} {a0 a1 a2 a3 a4 a5 a6 : Value} {x : Ex} {op nm vs : ByteArray} {vt vn pos : Int} (h1 : ExIn w lo (.agg #[a0, a1, a2, a3, a4, a5, a6]) x) (hb : Below w.heap.size w W) (hB : B < W.heap.size) (hlo : lo B)
    (hc : ∀ i, W.cell? ⟨B, i, none⟩ = (#[a0, a1, a2, a3, a4, a5, a6] : Array Value)[i]?) (ho : op.size ≤ maxLen) (hn : nm.size ≤ maxLen) (hv : vs.size ≤ maxLen) :
    ExIn W lo (.agg #[.string op, .string nm, .int .i64 vt, .int .i64 vn, .string vs, .slice (some ⟨B, 0, none⟩) 1 1, .int .i64 pos]) (.node op nm vt vn vs pos [x]) := by
  rw [ExIn]
  refine ⟨_, _, rfl, ⟨by simp [maxLen], by simp⟩, ho, hn, hv, .inr ⟨B, 0, rfl, hB, hlo, ?_⟩⟩
  rw [ExsIn, ExsIn]
  refine ⟨⟨a0, a1, a2, a3, a4, a5, a6, ?_, ?_, ?_, ?_, ?_, ?_, ?_, h1.on hb⟩, trivial⟩
  all_goals (rw [hc]; rfl)
theorem ex_leaf {W : World} {lo : Nat → Prop} {p : Option Addr} {c : Nat} {op nm vs : ByteArray} {vt vn pos : Int} (ho : op.size ≤ maxLen) (hn : nm.size ≤ maxLen) (hv : vs.size ≤ maxLen) :
    ExIn W lo (.agg #[.string op, .string nm, .int .i64 vt, .int .i64 vn, .string vs, .slice p 0 c, .int .i64 pos]) (.node op nm vt vn vs pos []) := by
  rw [ExIn]
  exact ⟨_, _, rfl, ⟨by simp, by simp⟩, ho, hn, hv, .inl rfl⟩
end Go.Proofs.YtkoejkpjkcejcabDoor
namespace Go.Proofs.YtkoejkpjkcejcabDoor
open Go.RowKit Go.BigFrame
set_option linter.unusedVariables false
variable {en : Nat}

/-- A function reads these words as the plain reading says: what comes, and what is left. -/
def Reads (f : FuncId) (sub : List Tok → Option Ex × List Tok) (ts : List Tok) : Prop := ∀ (w : World) (r : Nat) ⦃en : Nat⦄, RdAt en w r ts → TEnv w → 11 ≤ r →
  Calls Tryd.prog f #[.pointer (some ⟨r, 0, none⟩)] w fun e w' => ∃ v ok x, e = .returned (.tuple #[v, .bool ok]) ∧ Aside (ExIn w' (w.heap.size ≤ ·) v x) ∧ Aside (RdAt en w' r (sub ts).2) ∧ Aside (But r w w') ∧ Hid ((sub ts).1 = if ok = true then some x else none)
/-- Seven cells that may be written, in a block. -/
structure Box7 (w : World) (b : Nat) (a0 a1 a2 a3 a4 a5 a6 : Value) : Prop where
  c0 : w.cell? ⟨b, 0, none⟩ = some a0
  c1 : w.cell? ⟨b, 1, none⟩ = some a1
  c2 : w.cell? ⟨b, 2, none⟩ = some a2
  c3 : w.cell? ⟨b, 3, none⟩ = some a3
  c4 : w.cell? ⟨b, 4, none⟩ = some a4
  c5 : w.cell? ⟨b, 5, none⟩ = some a5
  c6 : w.cell? ⟨b, 6, none⟩ = some a6
  fz : ∀ o, w.frozen? ⟨b, o, none⟩ = false
  lt : b < w.heap.size
theorem Box7.but {w w' : World} {r b : Nat} {a0 a1 a2 a3 a4 a5 a6 : Value} (h : Box7 w b a0 a1 a2 a3 a4 a5 a6) (hb : But r w w') (hr : b ≠ r) : Box7 w' b a0 a1 a2 a3 a4 a5 a6 := by
  obtain ⟨c0, c1, c2, c3, c4, c5, c6, fz, lt⟩ := h
  refine ⟨?_, ?_, ?_, ?_, ?_, ?_, ?_, fun o => by rw [but_frozen hb o lt hr]; exact fz o, by have := hb.size; omega⟩
  all_goals (rw [hb.cell _ lt hr]; assumption)
theorem Box7.on {w w' : World} {b : Nat} {a0 a1 a2 a3 a4 a5 a6 : Value} (h : Box7 w b a0 a1 a2 a3 a4 a5 a6) (hb : Below w.heap.size w w') : Box7 w' b a0 a1 a2 a3 a4 a5 a6 := by
  obtain ⟨c0, c1, c2, c3, c4, c5, c6, fz, lt⟩ := h
  have hc := fun o => hb.cell (p := ⟨b, o, none⟩) lt
  have hf := fun o => hb.frozen (p := ⟨b, o, none⟩) lt
  refine ⟨?_, ?_, ?_, ?_, ?_, ?_, ?_, fun o => by rw [hf]; exact fz o, by have := hb.size; omega⟩
  all_goals (rw [hc]; assumption)
theorem box7_alloc (w : World) (a0 a1 a2 a3 a4 a5 a6 : Value) (t : TypeId) : Box7 (w.alloc (.cells #[a0, a1, a2, a3, a4, a5, a6] t)) w.heap.size a0 a1 a2 a3 a4 a5 a6 := by
  refine ⟨?_, ?_, ?_, ?_, ?_, ?_, ?_, fun o => World.frozen?_alloc_at _ _ _ _ rfl, by simp⟩
  all_goals (rw [World.cell?_alloc_at _ _ _ _ rfl]; rfl)
theorem box7_at (w : World) (n : Nat) (hn : n = w.heap.size) (a0 a1 a2 a3 a4 a5 a6 : Value) (t : TypeId) : Box7 (w.alloc (.cells #[a0, a1, a2, a3, a4, a5, a6] t)) n a0 a1 a2 a3 a4 a5 a6 := by
  subst hn
  exact box7_alloc w a0 a1 a2 a3 a4 a5 a6 t
theorem Box7.set {w : World} {b : Nat} {a0 a1 a2 a3 a4 a5 a6 : Value} (h : Box7 w b a0 a1 a2 a3 a4 a5 a6) (v0 v1 v2 v3 v4 v5 v6 : Value) : Box7 (((((((w.setCell ⟨b, 0, none⟩ v0).setCell ⟨b, 1, none⟩ v1).setCell ⟨b, 2, none⟩ v2).setCell ⟨b, 3, none⟩ v3).setCell ⟨b, 4, none⟩ v4).setCell ⟨b, 5, none⟩ v5).setCell ⟨b, 6, none⟩ v6) b v0 v1 v2 v3 v4 v5 v6 := by
  obtain ⟨c0, c1, c2, c3, c4, c5, c6, fz, lt⟩ := h
  refine ⟨?_, ?_, ?_, ?_, ?_, ?_, ?_, fun o => by simpa using fz o, by simpa [World.setCell] using lt⟩
  all_goals simp [World.cell?_setCell_other, World.cell?_setCell_same, c0, c1, c2, c3, c4, c5, c6]
theorem Box7.far {w : World} {b z : Nat} {a0 a1 a2 a3 a4 a5 a6 : Value} (h : Box7 w b a0 a1 a2 a3 a4 a5 a6) (hz : b ≠ z) (v0 v1 v2 v3 v4 v5 v6 : Value) : Box7 (((((((w.setCell ⟨z, 0, none⟩ v0).setCell ⟨z, 1, none⟩ v1).setCell ⟨z, 2, none⟩ v2).setCell ⟨z, 3, none⟩ v3).setCell ⟨z, 4, none⟩ v4).setCell ⟨z, 5, none⟩ v5).setCell ⟨z, 6, none⟩ v6) b a0 a1 a2 a3 a4 a5 a6 := by
  obtain ⟨c0, c1, c2, c3, c4, c5, c6, fz, lt⟩ := h
  refine ⟨?_, ?_, ?_, ?_, ?_, ?_, ?_, fun o => by simpa using fz o, by simpa [World.setCell] using lt⟩
  all_goals simp [World.cell?_setCell_other, c0, c1, c2, c3, c4, c5, c6]
theorem But.set7 {r : Nat} {w w1 : World} (h : But r w w1) {z : Nat} (hz : w.heap.size ≤ z) (hr : r ≤ z) (v0 v1 v2 v3 v4 v5 v6 : Value) : But r w (((((((w1.setCell ⟨z, 0, none⟩ v0).setCell ⟨z, 1, none⟩ v1).setCell ⟨z, 2, none⟩ v2).setCell ⟨z, 3, none⟩ v3).setCell ⟨z, 4, none⟩ v4).setCell ⟨z, 5, none⟩ v5).setCell ⟨z, 6, none⟩ v6) :=
  ((((((h.setNew z 0 hz hr v0).setNew z 1 hz hr v1).setNew z 2 hz hr v2).setNew z 3 hz hr v3).setNew z 4 hz hr v4).setNew z 5 hz hr v5).setNew z 6 hz hr v6
theorem ExIn.set7 {w : World} {lo : Nat → Prop} {v : Value} {x : Ex} (h : ExIn w lo v x) {z : Nat} (hz : ∀ b, lo b → b ≠ z) (v0 v1 v2 v3 v4 v5 v6 : Value) : ExIn (((((((w.setCell ⟨z, 0, none⟩ v0).setCell ⟨z, 1, none⟩ v1).setCell ⟨z, 2, none⟩ v2).setCell ⟨z, 3, none⟩ v3).setCell ⟨z, 4, none⟩ v4).setCell ⟨z, 5, none⟩ v5).setCell ⟨z, 6, none⟩ v6) lo v x :=
  ExIn.keep (by simp [World.setCell]) (fun b o h1 h2 => by have := hz b h1; simp [World.cell?_setCell_other]) x v h
theorem RdAt.set7 {w : World} {r : Nat} {ts : List Tok} (h : RdAt en w r ts) {z : Nat} (hz : r < z) (v0 v1 v2 v3 v4 v5 v6 : Value) : RdAt en (((((((w.setCell ⟨z, 0, none⟩ v0).setCell ⟨z, 1, none⟩ v1).setCell ⟨z, 2, none⟩ v2).setCell ⟨z, 3, none⟩ v3).setCell ⟨z, 4, none⟩ v4).setCell ⟨z, 5, none⟩ v5).setCell ⟨z, 6, none⟩ v6) r ts :=
  h.onB (((((((( Below.refl (r + 1) w).setCell (p := ⟨z, 0, none⟩) hz v0).setCell (p := ⟨z, 1, none⟩) hz v1).setCell (p := ⟨z, 2, none⟩) hz v2).setCell (p := ⟨z, 3, none⟩) hz v3).setCell (p := ⟨z, 4, none⟩) hz v4).setCell (p := ⟨z, 5, none⟩) hz v5).setCell (p := ⟨z, 6, none⟩) hz v6) (by simp [World.setCell])
theorem al (W : World) (o : Obj) : Below W.heap.size W (W.alloc o) := (Below.refl W.heap.size W).alloc (Nat.le_refl _) o
/-- Beyond a block, and not another one. -/
def Off (n e : Nat) (b : Nat) : Prop := n < b ∧ b ≠ e
/-- How far several has come. -/
def SevRel (sub : List Tok → Option Ex × List Tok) (gs : List (List UInt8)) (ts : List Tok) (gg : Nat) (ok : Bool) (x : Ex) (ts' : List Tok) : Prop :=
  ts' <:+ ts ∧ (ok = true → ts'.length < gg ∧ uSev sub gs ts = uLoop sub gs gg x ts') ∧ (ok = false → uSev sub gs ts = (none, ts'))
theorem sevRel_start {sub : List Tok → Option Ex × List Tok} {gs : List (List UInt8)} {ts : List Tok} {ok : Bool} {x : Ex} (hsuf : Suf sub) (h : (sub ts).1 = if ok = true then some x else none) : SevRel sub gs ts ((sub ts).2.length + 1) ok x (sub ts).2 := by
  refine ⟨hsuf ts, ?_, ?_⟩
  · rintro rfl
    rw [if_pos rfl] at h
    refine ⟨by omega, ?_⟩
    rw [uSev]
    cases h3 : sub ts with
    | mk o r => rw [h3] at h; simp only at h; subst h; rfl
  · rintro rfl
    rw [if_neg (by decide)] at h
    rw [uSev]
    cases h3 : sub ts with
    | mk o r => rw [h3] at h; simp only at h; subst h; rfl
theorem sevRel_end {sub : List Tok → Option Ex × List Tok} {gs : List (List UInt8)} {ts ts' : List Tok} {gg : Nat} {x : Ex} (h : SevRel sub gs ts gg true x ts') (hn : nxT (sgT gs) ts' = none) : uSev sub gs ts = (some x, ts') := by
  obtain ⟨_, h2, _⟩ := h
  obtain ⟨h3, h4⟩ := h2 rfl
  obtain ⟨g, rfl⟩ : ∃ g, gg = g + 1 := ⟨gg - 1, by omega⟩
  rw [h4, uLoop, hn]
theorem sevRel_step {sub : List Tok → Option Ex × List Tok} {gs : List (List UInt8)} {ts ts' rs : List Tok} {gg : Nat} {x y : Ex} {t : Tok} {ok : Bool} (hsuf : Suf sub) (h : SevRel sub gs ts gg true x ts') (hn : nxT (sgT gs) ts' = some (t, rs)) (hy : (sub rs).1 = if ok = true then some y else none) : SevRel sub gs ts (gg - 1) ok (betT x t y) (sub rs).2 := by
  obtain ⟨h1, h2, _⟩ := h
  obtain ⟨h3, h4⟩ := h2 rfl
  obtain ⟨g, rfl⟩ : ∃ g, gg = g + 1 := ⟨gg - 1, by omega⟩
  obtain ⟨rfl, _⟩ := nxT_len hn
  have h5 := hsuf rs
  have h6 := h5.length_le
  refine ⟨(h5.trans (List.suffix_cons t rs)).trans h1, ?_, ?_⟩
  · rintro rfl
    rw [if_pos rfl] at hy
    simp only [List.length_cons] at h3
    refine ⟨by omega, ?_⟩
    rw [h4, uLoop, hn]
    cases h7 : sub rs with
    | mk o r => rw [h7] at hy; simp only at hy; subst hy; simp only [Nat.add_sub_cancel]; rw [h7]
  · rintro rfl
    rw [if_neg (by decide)] at hy
    rw [h4, uLoop, hn]
    cases h7 : sub rs with
    | mk o r => rw [h7] at hy; simp only at hy; subst hy; simp only; rw [h7]
abbrev partV (f : FuncId) (r : Nat) : Value := .func (.func f) #[.pointer (some ⟨r, 0, none⟩)] #[]
end Go.Proofs.YtkoejkpjkcejcabDoor
