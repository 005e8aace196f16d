/-
  TreeIn, TreeR2, TreeR3, in one text.
-/
import Derived.Test.YticdcnbeemkapaaGreatDoorGrAc
import Derived.Test.YticdcnbeemkapaaGreatDoorGrAd
import Derived.WalkSmall
import Derived.Deep.RegionWith
import Derived.Deep.Heap
import Derived.Deep.QuietTactic
namespace Go.Proofs.YticdcnbeemkapaaGreatDoor
open Go.RowKit
set_option linter.unusedVariables false

/-- The reader lies in block r: its words, the next one, the text's length, where it went wrong. -/
structure InAt (w : World) (r : Nat) (tp : Option Addr) (tc : Nat) (ts : List Tok) (en : Nat) (st : St) : Prop where
  c0 : w.cell? ⟨r, 0, none⟩ = some (.slice tp ts.length tc)
  c1 : w.cell? ⟨r, 1, none⟩ = some (.int .i64 (st.i : Int))
  c2 : w.cell? ⟨r, 2, none⟩ = some (.int .i64 (en : Int))
  c3 : w.cell? ⟨r, 3, none⟩ = some (.int .i64 st.bad)
  f1 : w.frozen? ⟨r, 1, none⟩ = false
  f3 : w.frozen? ⟨r, 3, none⟩ = false
  lt : r < w.heap.size
  toks : ts.length = 0 ∨ ∃ b off, tp = some ⟨b, off, none⟩ ∧ b ≠ r ∧ ToksIn w b off ts
theorem InAt.same {w w' : World} {r : Nat} {tp : Option Addr} {tc : Nat} {ts : List Tok} {en : Nat} {st : St} (h : InAt w r tp tc ts en st) (e : w'.heap = w.heap) : InAt w' r tp tc ts en st := by
  have hc : ∀ a : Addr, w'.cell? a = w.cell? a := fun a => by simp only [World.cell?, e]
  have hf : ∀ a : Addr, w'.frozen? a = w.frozen? a := fun a => by simp only [World.frozen?, e]
  refine ⟨by rw [hc]; exact h.c0, by rw [hc]; exact h.c1, by rw [hc]; exact h.c2, by rw [hc]; exact h.c3, by rw [hf]; exact h.f1, by rw [hf]; exact h.f3, by rw [e]; exact h.lt, ?_⟩
  rcases h.toks with h0 | ⟨b, off, e1, e2, h3⟩
  · exact .inl h0
  · exact .inr ⟨b, off, e1, e2, by rw [e]; exact h3.1, fun j hj => by rw [hc, hc, hc]; exact h3.2 j hj⟩
theorem posAt_in {ts : List Tok} {en i : Nat} (h : i < ts.length) : posAt ts en i = (ts[i].2.2 : Int) := by rw [posAt, List.getElem?_eq_getElem h]
theorem posAt_out {ts : List Tok} {en i : Nat} (h : ts.length ≤ i) : posAt ts en i = (en : Int) := by rw [posAt, List.getElem?_eq_none h]
theorem InAt.bad {w : World} {r : Nat} {tp : Option Addr} {tc : Nat} {ts : List Tok} {en : Nat} {st : St} (h : InAt w r tp tc ts en st) (x : Int) : InAt (w.setCell ⟨r, 3, none⟩ (.int .i64 x)) r tp tc ts en ⟨st.i, x⟩ := by
  have hb : ∀ b o : Nat, b ≠ r → (w.setCell ⟨r, 3, none⟩ (.int .i64 x)).cell? ⟨b, o, none⟩ = w.cell? ⟨b, o, none⟩ := fun b o hbr => by
    simp only [World.cell?]
    rw [Below.heap_setCell _ _ _ _ (fun e => hbr e)]
  refine ⟨?_, ?_, ?_, World.cell?_setCell_same w ⟨r, 3, none⟩ _ h.c3, ?_, ?_, by have := h.lt; simpa [World.setCell] using this, ?_⟩
  · rw [World.cell?_setCell_other _ _ _ _ (by simp)]; exact h.c0
  · rw [World.cell?_setCell_other _ _ _ _ (by simp)]; exact h.c1
  · rw [World.cell?_setCell_other _ _ _ _ (by simp)]; exact h.c2
  · have : (w.setCell ⟨r, 3, none⟩ (.int .i64 x)).frozen? ⟨r, 1, none⟩ = w.frozen? ⟨r, 1, none⟩ := by simp
    rw [this]; exact h.f1
  · have : (w.setCell ⟨r, 3, none⟩ (.int .i64 x)).frozen? ⟨r, 3, none⟩ = w.frozen? ⟨r, 3, none⟩ := by simp
    rw [this]; exact h.f3
  · rcases h.toks with h0 | ⟨b, off, e1, e2, h3⟩
    · exact .inl h0
    · exact .inr ⟨b, off, e1, e2, by have := h3.1; simpa [World.setCell] using this, fun j hj => by rw [hb _ _ e2, hb _ _ e2, hb _ _ e2]; exact h3.2 j hj⟩
theorem InAt.next {w : World} {r : Nat} {tp : Option Addr} {tc : Nat} {ts : List Tok} {en : Nat} {st : St} (h : InAt w r tp tc ts en st) : InAt (w.setCell ⟨r, 1, none⟩ (.int .i64 ((st.i : Int) + 1))) r tp tc ts en (adv st) := by
  have hb : ∀ b o : Nat, b ≠ r → (w.setCell ⟨r, 1, none⟩ (.int .i64 ((st.i : Int) + 1))).cell? ⟨b, o, none⟩ = w.cell? ⟨b, o, none⟩ := fun b o hbr => by
    simp only [World.cell?]
    rw [Below.heap_setCell _ _ _ _ (fun e => hbr e)]
  refine ⟨?_, ?_, ?_, ?_, ?_, ?_, by have := h.lt; simpa [World.setCell] using this, ?_⟩
  · rw [World.cell?_setCell_other _ _ _ _ (by simp)]; exact h.c0
  · exact World.cell?_setCell_same w ⟨r, 1, none⟩ _ h.c1
  · rw [World.cell?_setCell_other _ _ _ _ (by simp)]; exact h.c2
  · rw [World.cell?_setCell_other _ _ _ _ (by simp)]; exact h.c3
  · have : (w.setCell ⟨r, 1, none⟩ (.int .i64 ((st.i : Int) + 1))).frozen? ⟨r, 1, none⟩ = w.frozen? ⟨r, 1, none⟩ := by simp
    rw [this]; exact h.f1
  · have : (w.setCell ⟨r, 1, none⟩ (.int .i64 ((st.i : Int) + 1))).frozen? ⟨r, 3, none⟩ = w.frozen? ⟨r, 3, none⟩ := by simp
    rw [this]; exact h.f3
  · rcases h.toks with h0 | ⟨b, off, e1, e2, h3⟩
    · exact .inl h0
    · exact .inr ⟨b, off, e1, e2, by have := h3.1; simpa [World.setCell] using this, fun j hj => by rw [hb _ _ e2, hb _ _ e2, hb _ _ e2]; exact h3.2 j hj⟩
theorem isT_in {ts : List Tok} {i : Nat} {bad : Int} {s : List UInt8} (hb : bad < 0) (h : i < ts.length) : isT ts ⟨i, bad⟩ s = ((decide (ts[i].1 = 1) || decide (ts[i].1 = 4)) && ts[i].2.1.data.toList == s) := by
  simp [isT, hb, List.getElem?_eq_getElem h]
theorem isT_out {ts : List Tok} {i : Nat} {bad : Int} {s : List UInt8} (h : ts.length ≤ i) : isT ts ⟨i, bad⟩ s = false := by
  simp [isT, List.getElem?_eq_none h]
theorem isT_bad {ts : List Tok} {i : Nat} {bad : Int} {s : List UInt8} (hb : ¬ bad < 0) : isT ts ⟨i, bad⟩ s = false := by
  simp [isT, hb]
end Go.Proofs.YticdcnbeemkapaaGreatDoor
namespace Go.Proofs.YticdcnbeemkapaaGreatDoor
open Go.RowKit Go.BigFrame
set_option linter.unusedVariables false
variable {en : Nat}

/-- The reader lies in block r: the words that are ahead, and the text's length. -/
structure RdAt (en : Nat) (w : World) (r : Nat) (ts : List Tok) : Prop where
  cell : ∃ p c, w.cell? ⟨r, 0, none⟩ = some (.slice p ts.length c) ∧ ts.length ≤ c ∧ (ts.length = 0 ∨ ∃ b off, p = some ⟨b, off, none⟩ ∧ b < r ∧ ToksIn w b off ts)
  fz : w.frozen? ⟨r, 0, none⟩ = false
  lt : r < w.heap.size
  fin : w.cell? ⟨r, 1, none⟩ = some (.int .i64 (en : Int))
theorem RdAt.on {w w' : World} {r : Nat} {ts : List Tok} (h : RdAt en w r ts) (hb : Below w.heap.size w w') : RdAt en w' r ts := by
  obtain ⟨⟨p, c, h1, h2, h3⟩, hf, hl, he⟩ := h
  refine ⟨⟨p, c, by rw [hb.cell (p := ⟨r, 0, none⟩) hl]; exact h1, h2, ?_⟩, by rw [hb.frozen (p := ⟨r, 0, none⟩) hl]; exact hf, by have := hb.size; omega, by rw [hb.cell (p := ⟨r, 1, none⟩) hl]; exact he⟩
  rcases h3 with h0 | ⟨b, off, e1, e2, h4⟩
  · exact .inl h0
  · exact .inr ⟨b, off, e1, e2, h4.on hb⟩
theorem RdAt.onB {w w' : World} {r : Nat} {ts : List Tok} (h : RdAt en w r ts) (hb : Below (r + 1) w w') (hs : w.heap.size ≤ w'.heap.size) : RdAt en w' r ts := by
  obtain ⟨⟨p, c, h1, h2, h3⟩, hf, hl, he⟩ := h
  refine ⟨⟨p, c, by rw [hb.cell (p := ⟨r, 0, none⟩) (Nat.lt_succ_self r)]; exact h1, h2, ?_⟩, by rw [hb.frozen (p := ⟨r, 0, none⟩) (Nat.lt_succ_self r)]; exact hf, by omega, by rw [hb.cell (p := ⟨r, 1, none⟩) (Nat.lt_succ_self r)]; exact he⟩
  rcases h3 with h0 | ⟨b, off, e1, e2, h4⟩
  · exact .inl h0
  · refine .inr ⟨b, off, e1, e2, by have := h4.1; omega, fun j hj => ?_⟩
    rw [hb.cell (p := ⟨b, off + j * 3, none⟩) (by simp; omega), hb.cell (p := ⟨b, off + j * 3 + 1, none⟩) (by simp; omega), hb.cell (p := ⟨b, off + j * 3 + 2, none⟩) (by simp; omega)]
    exact h4.2 j hj
/-- A slice of the words from the next one on. -/
theorem RdAt.step {w W : World} {r : Nat} {t : Tok} {ts : List Tok} {p p' : Option Addr} {c c' : Nat} (h : RdAt en w r (t :: ts)) (hp : w.cell? ⟨r, 0, none⟩ = some (.slice p (t :: ts).length c)) (hp' : p' = if c = 1 then p else p.map (·.add (1 * 3))) (hc' : c' = c - 1)
    (hb : But r w W) (hW : W.cell? ⟨r, 0, none⟩ = some (.slice p' ts.length c')) (hf : W.frozen? ⟨r, 0, none⟩ = false) (hW1 : W.cell? ⟨r, 1, none⟩ = w.cell? ⟨r, 1, none⟩) : RdAt en W r ts := by
  obtain ⟨⟨q, d, h1, h2, h3⟩, _, hl, he⟩ := h
  rw [h1] at hp
  obtain ⟨rfl, hd⟩ : q = p ∧ d = c := by
    injection hp with hp
    injection hp with e1 e2 e3
    exact ⟨e1, e3⟩
  subst hd
  simp only [List.length_cons] at h2
  refine ⟨⟨p', c', hW, by omega, ?_⟩, hf, by have := hb.size; omega, by rw [hW1]; exact he⟩
  rcases Nat.eq_zero_or_pos ts.length with h0 | h0
  · exact .inl h0
  · right
    rcases h3 with h3 | ⟨b, off, rfl, hbr, h4⟩
    · simp at h3
    · refine ⟨b, off + 3, ?_, hbr, by have := h4.1; have := hb.size; omega, fun j hj => ?_⟩
      · rw [hp', if_neg (by omega)]; rfl
      · have := h4.2 (j + 1) (by simpa using hj)
        simp only [show off + (j + 1) * 3 = off + 3 + j * 3 from by omega, List.getElem_cons_succ] at this
        rw [hb.cell _ h4.1 (by omega), hb.cell _ h4.1 (by omega), hb.cell _ h4.1 (by omega)]
        exact this
def noTok : Value := .agg #[.int .i64 0, .string ⟨#[]⟩, .int .i64 0]
end Go.Proofs.YticdcnbeemkapaaGreatDoor
namespace Go.Proofs.YticdcnbeemkapaaGreatDoor
open Go.RowKit Go.BigFrame
set_option linter.unusedVariables false

def Fit (ts : List Tok) : Prop := ∀ t ∈ ts, t.2.1.size ≤ 400
theorem Fit.suf {ts rs : List Tok} (h : Fit ts) (hs : rs <:+ ts) : Fit rs := fun t ht => h t (hs.mem ht)
/-- What package tree's variables hold: the operations with how many parts each has, and the words of the language. -/
def opsL : List (List UInt8 × Int) := [([118, 97, 108], 0), ([99, 111, 108], 0), ([111, 114], 2), ([97, 110, 100], 2), ([110, 111, 116], 1), ([61], 2), ([60, 62], 2), ([60], 2), ([60, 61], 2), ([62], 2), ([62, 61], 2), ([43], 2), ([45], 2), ([42], 2), ([47], 2), ([37], 2), ([110, 101, 103], 1), ([108, 101, 110], 1), ([105, 102], 3)]
def opsC : Array Value := #[.string ⟨#[118, 97, 108]⟩, .int .i64 0, .string ⟨#[99, 111, 108]⟩, .int .i64 0, .string ⟨#[111, 114]⟩, .int .i64 2, .string ⟨#[97, 110, 100]⟩, .int .i64 2, .string ⟨#[110, 111, 116]⟩, .int .i64 1, .string ⟨#[61]⟩, .int .i64 2, .string ⟨#[60, 62]⟩, .int .i64 2, .string ⟨#[60]⟩, .int .i64 2, .string ⟨#[60, 61]⟩, .int .i64 2, .string ⟨#[62]⟩, .int .i64 2, .string ⟨#[62, 61]⟩, .int .i64 2, .string ⟨#[43]⟩, .int .i64 2, .string ⟨#[45]⟩, .int .i64 2, .string ⟨#[42]⟩, .int .i64 2, .string ⟨#[47]⟩, .int .i64 2, .string ⟨#[37]⟩, .int .i64 2, .string ⟨#[110, 101, 103]⟩, .int .i64 1, .string ⟨#[108, 101, 110]⟩, .int .i64 1, .string ⟨#[105, 102]⟩, .int .i64 3]
def wordsC : Array Value := #[.string ⟨#[111, 114]⟩, .string ⟨#[97, 110, 100]⟩, .string ⟨#[110, 111, 116]⟩, .string ⟨#[116, 114, 117, 101]⟩, .string ⟨#[102, 97, 108, 115, 101]⟩, .string ⟨#[108, 101, 110]⟩, .string ⟨#[105, 102]⟩, .string ⟨#[115, 101, 108, 101, 99, 116]⟩, .string ⟨#[97, 115]⟩, .string ⟨#[102, 114, 111, 109]⟩, .string ⟨#[119, 104, 101, 114, 101]⟩, .string ⟨#[103, 114, 111, 117, 112]⟩, .string ⟨#[98, 121]⟩, .string ⟨#[119, 105, 110, 100, 111, 119]⟩, .string ⟨#[115, 108, 105, 100, 101]⟩, .string ⟨#[99, 111, 117, 110, 116]⟩, .string ⟨#[115, 117, 109]⟩, .string ⟨#[108, 101, 97, 115, 116]⟩, .string ⟨#[109, 111, 115, 116]⟩]
structure TEnv (w : World) : Prop where
  big : 6 ≤ w.heap.size
  ops : ∃ t fr, w.heap[1]? = some (.cells opsC t fr)
  wds : ∃ t fr, w.heap[3]? = some (.cells wordsC t fr)
theorem TEnv.onB {w w' : World} {n : Nat} (h : TEnv w) (hb : Below n w w') (hn : 6 ≤ n) (hs : w.heap.size ≤ w'.heap.size) : TEnv w' := by
  refine ⟨by have := h.big; omega, ?_, ?_⟩
  · obtain ⟨t, fr, h1⟩ := h.ops
    exact ⟨t, fr, by rw [hb.block _ (by omega)]; exact h1⟩
  · obtain ⟨t, fr, h1⟩ := h.wds
    exact ⟨t, fr, by rw [hb.block _ (by omega)]; exact h1⟩
theorem TEnv.on {w w' : World} (h : TEnv w) (hb : Below w.heap.size w w') : TEnv w' := h.onB hb h.big hb.size
theorem TEnv.but {w w' : World} {r : Nat} (h : TEnv w) (hb : But r w w') (hr : 6 ≤ r) : TEnv w' := h.onB hb.below hr hb.size
theorem ExIn.but {w w' : World} {r : Nat} {lo : Nat → Prop} {x : Ex} {v : Value} (h : ExIn w lo v x) (hb : But r w w') (hr : ∀ b, lo b → b ≠ r) : ExIn w' lo v x :=
  ExIn.keep hb.size (fun b o h1 h2 => hb.cell o h2 (hr b h1)) x v h
theorem StrsIn.but {w w' : World} {r b : Nat} {gs : List (List UInt8)} (h : StrsIn w b gs) (hb : But r w w') (hr : b ≠ r) : StrsIn w' b gs :=
  ⟨by have := hb.size; have := h.1; omega, fun j hj => by rw [hb.cell _ h.1 hr]; exact h.2 j hj⟩
/-- The same, what it has captured not in the reader's block. -/
def SignBut (w : World) (r p : Nat) (gs : List (List UInt8)) : Prop := ∃ b c, w.cell? ⟨p, 0, none⟩ = some (.slice (some ⟨b, 0, none⟩) gs.length c) ∧ p < w.heap.size ∧ StrsIn w b gs ∧ gs.length ≤ 100 ∧ p ≠ r ∧ b ≠ r
theorem SignBut.sign {w : World} {r p : Nat} {gs : List (List UInt8)} (h : SignBut w r p gs) : SignIn w p gs := by
  obtain ⟨b, c, h1, h2, h3, h4, _, _⟩ := h
  exact ⟨b, c, h1, h2, h3, h4⟩
theorem SignBut.but {w w' : World} {r p : Nat} {gs : List (List UInt8)} (h : SignBut w r p gs) (hb : But r w w') : SignBut w' r p gs := by
  obtain ⟨b, c, h1, h2, h3, h4, h5, h6⟩ := h
  exact ⟨b, c, by rw [hb.cell _ h2 h5]; exact h1, by have := hb.size; omega, h3.but hb h6, h4, h5, h6⟩
theorem But.on {r : Nat} {w w1 w2 : World} (h : But r w w1) (k : Below w1.heap.size w1 w2) (hr : r < w.heap.size) : But r w w2 :=
  h.trans (But.of_below' k (by have := h.size; omega))
theorem but_frozen {r : Nat} {w w1 : World} (h : But r w w1) {b : Nat} (o : Nat) (hb : b < w.heap.size) (hr : b ≠ r) : w1.frozen? ⟨b, o, none⟩ = w.frozen? ⟨b, o, none⟩ := by
  simp only [World.frozen?, h.kept b hb hr]
/-- An expression's value is seven cells. -/
theorem ExIn.agg {w : World} {lo : Nat → Prop} {v : Value} {x : Ex} (h : ExIn w lo v x) : ∃ op nm vt vn vs p n c pos, v = .agg #[.string op, .string nm, .int .i64 vt, .int .i64 vn, .string vs, .slice p n c, .int .i64 pos] := by
  cases x with
  | node op nm vt vn vs pos args =>
    rw [ExIn] at h
    obtain ⟨p, c, rfl, _⟩ := h
    exact ⟨_, _, _, _, _, _, _, _, _, rfl⟩
theorem ex_two {w W : World} {lo : Nat → Prop} {B : Nat} {a0 a1 a2 a3 a4 a5 a6 b0 b1 b2 b3 b4 b5 b6 : Value} {x y : Ex} {op nm vs : ByteArray} {vt vn pos : Int} (h1 : ExIn w lo (.agg #[a0, a1, a2, a3, a4, a5, a6]) x) (h2 : ExIn w lo (.agg #[b0, b1, b2, b3, b4, b5, b6]) y) (hb : Below w.heap.size w W) (hB : B < W.heap.size) (hlo : lo B)
    (hc : ∀ i, W.cell? ⟨B, i, none⟩ = (#[a0, a1, a2, a3, a4, a5, a6, b0, b1, b2, b3, b4, b5, b6] : Array Value)[i]?) (ho : op.size ≤ maxLen) (hn : nm.size ≤ maxLen) (hv : vs.size ≤ maxLen) :
    ExIn W lo (.agg #[.string op, .string nm, .int .i64 vt, .int .i64 vn, .string vs, .slice (some ⟨B, 0, none⟩) 2 2, .int .i64 pos]) (.node op nm vt vn vs pos [x, y]) := by
  rw [ExIn]
  refine ⟨_, _, rfl, ⟨by simp [maxLen], by simp⟩, ho, hn, hv, .inr ⟨B, 0, rfl, hB, hlo, ?_⟩⟩
  rw [ExsIn, ExsIn, ExsIn]
  refine ⟨⟨a0, a1, a2, a3, a4, a5, a6, ?_, ?_, ?_, ?_, ?_, ?_, ?_, h1.on hb⟩, ⟨b0, b1, b2, b3, b4, b5, b6, ?_, ?_, ?_, ?_, ?_, ?_, ?_, h2.on hb⟩, trivial⟩
  all_goals (rw [hc]; rfl)
theorem ex_one {w W : World} {lo : Nat → Prop} {B : Nat} {a0 a1 a2 a3 a4 a5 a6 : Value} {x : Ex} {op nm vs : ByteArray} {vt vn pos : Int} (h1 : ExIn w lo (.agg #[a0, a1, a2, a3, a4, a5, a6]) x) (hb : Below w.heap.size w W) (hB : B < W.heap.size) (hlo : lo B)
    (hc : ∀ i, W.cell? ⟨B, i, none⟩ = (#[a0, a1, a2, a3, a4, a5, a6] : Array Value)[i]?) (ho : op.size ≤ maxLen) (hn : nm.size ≤ maxLen) (hv : vs.size ≤ maxLen) :
    ExIn W lo (.agg #[.string op, .string nm, .int .i64 vt, .int .i64 vn, .string vs, .slice (some ⟨B, 0, none⟩) 1 1, .int .i64 pos]) (.node op nm vt vn vs pos [x]) := by
  rw [ExIn]
  refine ⟨_, _, rfl, ⟨by simp [maxLen], by simp⟩, ho, hn, hv, .inr ⟨B, 0, rfl, hB, hlo, ?_⟩⟩
  rw [ExsIn, ExsIn]
  refine ⟨⟨a0, a1, a2, a3, a4, a5, a6, ?_, ?_, ?_, ?_, ?_, ?_, ?_, h1.on hb⟩, trivial⟩
  all_goals (rw [hc]; rfl)
theorem ex_leaf {W : World} {lo : Nat → Prop} {p : Option Addr} {c : Nat} {op nm vs : ByteArray} {vt vn pos : Int} (ho : op.size ≤ maxLen) (hn : nm.size ≤ maxLen) (hv : vs.size ≤ maxLen) :
    ExIn W lo (.agg #[.string op, .string nm, .int .i64 vt, .int .i64 vn, .string vs, .slice p 0 c, .int .i64 pos]) (.node op nm vt vn vs pos []) := by
  rw [ExIn]
  exact ⟨_, _, rfl, ⟨by simp, by simp⟩, ho, hn, hv, .inl rfl⟩
end Go.Proofs.YticdcnbeemkapaaGreatDoor
