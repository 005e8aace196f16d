/-
  QwB, QbC, QbD, in one text.
-/
import Derived.Test.YtkbhmghdonomnaaGreatDoorGzAp
import Derived.Test.YtkbhmghdonomnaaGreatDoorGzAt
import Derived.Test.YtkbhmghdonomnaaGreatDoorGzAm
import Derived.Test.YtkbhmghdonomnaaGreatDoorGzAn
import Derived.Test.YtkbhmghdonomnaaGreatDoorZQuC4
namespace Go.Proofs.YtkbhmghdonomnaaGreatDoor
set_option linter.unusedVariables false
set_option linter.unusedSimpArgs false
def txE (x : Ex) : List UInt8 := if ckP x = 0 then txP x else []
def asT (n : List UInt8) : List UInt8 := [32, 97, 115, 32] ++ n
def colW (x : Ex) (n : ByteArray) : List UInt8 := txE x ++ asT n.data.toList
def agW (a : Ag) : List UInt8 := a.what.data.toList ++ ((if a.what.data.toList = wCount then [] else [40] ++ (txE a.arg ++ [41])) ++ asT a.name.data.toList)
def itemsW (q : Qy) : List (List UInt8) := if 0 < q.aggs.length then q.aggs.map agW else (q.cols.zip q.names).map fun p => colW p.1 p.2
def whW (x : Ex) : List UInt8 := if noOp x = true then [] else [32, 119, 104, 101, 114, 101, 32] ++ txE x
def frW (f : List UInt8) (x : Ex) : List UInt8 := [32, 102, 114, 111, 109, 32] ++ (f ++ whW x)
def slW (z s : Int) : List UInt8 := if s = z then [] else [32, 115, 108, 105, 100, 101, 32] ++ Lib.itoa s
def grW (g : List ByteArray) (z s : Int) : List UInt8 := [32, 103, 114, 111, 117, 112, 32, 98, 121, 32] ++ (inter [44, 32] (g.map fun n => n.data.toList) ++ ([32, 119, 105, 110, 100, 111, 119, 32] ++ (Lib.itoa z ++ slW z s)))
def gqW (q : Qy) : List UInt8 := if 0 < q.aggs.length then grW q.group q.size q.slide else []
def wrI (q : Qy) : List UInt8 := [115, 101, 108, 101, 99, 116, 32] ++ (inter [44, 32] (itemsW q) ++ (frW q.frm.data.toList q.whr ++ gqW q))
def wrQ (q : Qy) : List UInt8 := if (wrI q).length ≤ 400 then wrI q else []

theorem txE_len (x : Ex) : (txE x).length ≤ (txP x).length := by
 rw [txE]
 split
 ·exact Nat.le_refl _
 ·simp
def GdA (ts : List Tok) : Prop := ∀ t ∈ ts, GdT t
theorem GdA.suf {ts r : List Tok} (h : GdA ts) (hs : r <:+ ts) : GdA r := gd_suf h hs
theorem thU_to {α β : Type} {a : Option α × List Tok} {f : α → List Tok → Option β × List Tok} {x : α} (h : a.1 = some x) : thU a f = f x a.2 := by
 obtain ⟨o, rs⟩ := a
 cases h
 rfl
theorem thU_suf {α β : Type} {a : Option α × List Tok} {f : α → List Tok → Option β × List Tok} {ts : List Tok} (h : a.2 <:+ ts) (hf : ∀ x rs, (f x rs).2 <:+ rs) : (thU a f).2 <:+ ts := by
 obtain ⟨o, rs⟩ := a
 cases o with
 | none => exact h
 | some x => exact (hf x rs).trans h
theorem frU_suf (ts : List Tok) : (frU ts).2 <:+ ts := thU_suf (jU_suf _ _) fun _ rs => thU_suf (nU_suf rs) fun f rs => thU_suf (whU_suf rs) fun x rs => List.suffix_rfl
theorem jU_rd {g : List UInt8} {ts : List Tok} {u : Unit} (h : (jU g ts).1 = some u) : btT ts = g.length + btT (jU g ts).2 := by
 rw [jU] at h ⊢
 cases hn : nxT (sgT [g]) ts with
 | none => rw [hn] at h; exact absurd h (by simp)
 | some q =>
  obtain ⟨t, r⟩ := q
  obtain ⟨h1, h2⟩ := nxT_len hn
  have := List.mem_singleton.1 (sg_mem h2)
  subst h1
  rw [btT, this]
theorem nU_rd {ts : List Tok} {n : ByteArray} (h : (nU ts).1 = some n) : nameT n.data.toList = true ∧ btT ts = n.data.toList.length + btT (nU ts).2 := by
 rw [nU] at h ⊢
 cases hn : nxT nmT ts with
 | none => rw [hn] at h; exact absurd h (by simp)
 | some q =>
  obtain ⟨t, r⟩ := q
  obtain ⟨h1, h2⟩ := nxT_len hn
  rw [hn] at h
  simp only [Option.some.injEq] at h
  subst h1 h
  exact ⟨h2, by rw [btT]⟩
theorem num_txt {t : Tok} (h : GdT t) (hk : tokAt t.2.1.data.toList = (2, t.2.1.data.toList.length, 0)) : Lib.itoa (nuI t.2.1.data.toList) = t.2.1.data.toList ∧ 0 ≤ nuI t.2.1.data.toList ∧ nuI t.2.1.data.toList ≤ 9223372036854775807 := by
 generalize t.2.1.data.toList = l at hk ⊢
 cases l with
 | nil => simp [tokAt] at hk
 | cons c l =>
  rw [tokAt] at hk
  split at hk
  ·simp at hk
  ·split at hk
   ·simp only [Prod.mk.injEq, true_and] at hk
    obtain ⟨h1, h2⟩ : (numTok (c :: l)).1 = (c :: l).length ∧ (numTok (c :: l)).2 = 0 := by rw [hk]; exact ⟨rfl, rfl⟩
    rw [numTok] at h1 h2
    split at h1
    ·simp at h1
    ·rename_i hz
     split at h1
     ·simp at h1
     ·rename_i hv
      have hg : goN digB (c :: l) = (c :: l).length := h1
      have ha := goN_all digB (c :: l)
      rw [hg, List.take_length] at ha hv
      rw [hg] at hz
      have hd := dec_val l.length (c :: l) (by simp) ha (fun r e => Classical.byContradiction fun hr => hz (.inr ⟨by
       rw [e]
       cases r with
       | nil => exact absurd rfl hr
       | cons _ _ => simp, by rw [e]; rfl⟩))
      refine ⟨?_, ?_, ?_⟩
      ·rw [nuI, Lib.itoa, if_neg (by omega), show ((val10 (c :: l) : Nat) : Int).toNat = val10 (c :: l) from by omega, hd]
      ·rw [nuI]; omega
      ·rw [nuI]; omega
   ·split at hk <;> simp at hk
def GdK (t : Tok) : Prop := tokAt t.2.1.data.toList = (t.1, t.2.1.data.toList.length, 0)
def GkA (ts : List Tok) : Prop := ∀ t ∈ ts, GdK t
theorem GkA.suf {ts r : List Tok} (h : GkA ts) (hs : r <:+ ts) : GkA r := fun t ht => h t (hs.subset ht)
theorem GkA.gd {ts : List Tok} (h : GkA ts) : GdA ts := fun t ht => ⟨_, h t ht⟩
theorem iU_rd {ts : List Tok} {z : Int} (hg : GkA ts) (h : (iU ts).1 = some z) : (0 ≤ z ∧ z ≤ 9223372036854775807) ∧ btT ts = (Lib.itoa z).length + btT (iU ts).2 := by
 rw [iU] at h ⊢
 cases hn : nxT isNum ts with
 | none => rw [hn] at h; exact absurd h (by simp)
 | some q =>
  obtain ⟨t, r⟩ := q
  obtain ⟨h1, h2⟩ := nxT_len hn
  rw [hn] at h
  simp only [Option.some.injEq] at h
  subst h1 h
  have hk := hg t (by simp)
  have h3 : t.1 = 2 := by simpa [isNum] using h2
  rw [GdK, h3] at hk
  obtain ⟨e1, e2, e3⟩ := num_txt (t := t) ⟨_, hk⟩ hk
  exact ⟨⟨e2, e3⟩, by rw [e1, btT]⟩
theorem asU_rd {ts : List Tok} {n : ByteArray} (h : (asU ts).1 = some n) : nameT n.data.toList = true ∧ btT ts = 2 + n.data.toList.length + btT (asU ts).2 := by
 rw [asU] at h ⊢
 obtain ⟨u, h1, h2⟩ := thU_is h
 rw [thU_to h1]
 have e1 := jU_rd h1
 obtain ⟨e2, e3⟩ := nU_rd h2
 refine ⟨e2, ?_⟩
 simp only [List.length_cons, List.length_nil] at e1
 omega
theorem readE_rd {ts : List Tok} {x : Ex} (hg : GkA ts) (h : (readE ts).1 = some x) : OkN x ∧ (txE x).length + 3 + 4 * btT (readE ts).2 ≤ 4 * btT ts := by
 have h1 := readE_lenB h
 have h2 := txE_len x
 exact ⟨uE_snd _ 0 _ x hg.gd h, by omega⟩
theorem colU_rd {ts : List Tok} {p : Ex × ByteArray} (hg : GkA ts) (h : (colU ts).1 = some p) : (OkN p.1 ∧ nameT p.2.data.toList = true) ∧ (colW p.1 p.2).length + 4 * btT (colU ts).2 ≤ 4 * btT ts := by
 rw [colU] at h ⊢
 obtain ⟨x, h1, h2⟩ := thU_is h
 rw [thU_to h1]
 obtain ⟨n, h3, h4⟩ := thU_is h2
 rw [thU_to h3]
 simp only [Option.some.injEq] at h4
 subst h4
 obtain ⟨e1, e2⟩ := readE_rd hg h1
 obtain ⟨e3, e4⟩ := asU_rd h3
 refine ⟨⟨e1, e3⟩, ?_⟩
 simp only [colW, asT, List.length_append, List.length_cons, List.length_nil]
 omega
def OkA (a : Ag) : Prop := isAg a.what.data.toList = true ∧ ((a.what.data.toList = wCount ∧ a.arg = ex0) ∨ (a.what.data.toList ≠ wCount ∧ OkN a.arg)) ∧ nameT a.name.data.toList = true
theorem aggU_rd {ts : List Tok} {a : Ag} (hg : GkA ts) (h : (aggU ts).1 = some a) : OkA a ∧ (agW a).length + 4 * btT (aggU ts).2 ≤ 4 * btT ts := by
 rw [aggU] at h ⊢
 cases hn : nxT agB ts with
 | none => rw [hn] at h; exact absurd h (by simp)
 | some q =>
  obtain ⟨t, r⟩ := q
  obtain ⟨h0, hag⟩ := nxT_len hn
  rw [hn] at h
  simp only at h ⊢
  obtain ⟨x, h1, h2⟩ := thU_is h
  rw [thU_to h1]
  obtain ⟨n, h3, h4⟩ := thU_is h2
  rw [thU_to h3]
  simp only [Option.some.injEq] at h4
  subst h4 h0
  have hgr : GkA r := fun u hu => hg u (by simp [hu])
  obtain ⟨e3, e4⟩ := asU_rd h3
  have hag' : isAg t.2.1.data.toList = true := hag
  by_cases hc : t.2.1.data.toList = wCount
  ·have ea : argU t.2.1.data.toList r = (some ex0, r) := by rw [argU, if_pos hc]
   rw [ea] at h1 e4 ⊢
   simp only [Option.some.injEq] at h1
   subst h1
   refine ⟨⟨hag', .inl ⟨hc, rfl⟩, e3⟩, ?_⟩
   simp only [agW, asT]
   rw [if_pos hc, btT]
   simp only [List.length_append, List.length_cons, List.length_nil] at e4 ⊢
   omega
  ·have ea : argU t.2.1.data.toList r = brU r := by rw [argU, if_neg hc]
   rw [ea] at h1 e4 ⊢
   rw [brU] at h1 e4 ⊢
   obtain ⟨u, k1, k2⟩ := thU_is h1
   rw [thU_to k1] at e4 ⊢
   obtain ⟨y, k3, k4⟩ := thU_is k2
   rw [thU_to k3] at e4 ⊢
   obtain ⟨u2, k5, k6⟩ := thU_is k4
   rw [thU_to k5] at e4 ⊢
   simp only [Option.some.injEq] at k6
   subst k6
   have f1 := jU_rd k1
   obtain ⟨f2, f3⟩ := readE_rd (hgr.suf (jU_suf [40] r)) k3
   have f4 := jU_rd k5
   refine ⟨⟨hag', .inr ⟨hc, f2⟩, e3⟩, ?_⟩
   simp only [agW, asT]
   rw [if_neg hc, btT]
   simp only [List.length_append, List.length_cons, List.length_nil] at e4 f1 f4 ⊢
   omega
theorem sevU_rd {α : Type} {part : List Tok → Option α × List Tok} (tx : α → List UInt8) (P : α → Prop) (hsuf : ∀ ts, (part ts).2 <:+ ts) (hp : ∀ ts x, GkA ts → (part ts).1 = some x → P x ∧ (tx x).length + 4 * btT (part ts).2 ≤ 4 * btT ts) :
  ∀ (k : Nat) (acc : List α) (ts : List Tok) (l : List α) (M : Nat), GkA ts → (∀ x ∈ acc, P x) → (sevU part k acc ts).1 = some l → (if acc.length = 0 then 0 else (inter [44, 32] (acc.map tx)).length + 2) + 4 * btT ts ≤ M → ((∀ x ∈ l, P x) ∧ l ≠ []) ∧ (inter [44, 32] (l.map tx)).length + 4 * btT (sevU part k acc ts).2 ≤ M
 | 0, acc, ts, l, M, hg, ha, h, hM => by simp [sevU] at h
 | k + 1, acc, ts, l, M, hg, ha, h, hM => by
  cases hx : (part ts).1 with
  | none => rw [sevU_fail (rs := (part ts).2) (Prod.ext hx rfl)] at h; exact absurd h (by simp)
  | some x =>
   obtain ⟨h1, h2⟩ := hp ts x hg hx
   have ha' : ∀ y ∈ acc ++ [x], P y := fun y hy => by
    rcases List.mem_append.1 hy with hy | hy
    ·exact ha y hy
    ·rw [List.mem_singleton.1 hy]; exact h1
   have hl : (inter [44, 32] ((acc ++ [x]).map tx)).length = (if acc.length = 0 then 0 else (inter [44, 32] (acc.map tx)).length + 2) + (tx x).length := by
    rw [List.map_append, List.map_singleton, inter_snoc, List.length_map]
    split
    ·simp
    ·simp only [List.length_append, List.length_cons, List.length_nil]
   cases hn : nxT (sgT [[44]]) (part ts).2 with
   | none =>
    rw [sevU_last (x := x) (rs := (part ts).2) (Prod.ext hx rfl) hn] at h ⊢
    simp only [Option.some.injEq] at h
    subst h
    refine ⟨⟨ha', by simp⟩, ?_⟩
    rw [hl]
    simp only
    omega
   | some q =>
    obtain ⟨t, r⟩ := q
    obtain ⟨e1, e2⟩ := nxT_len hn
    have e3 := List.mem_singleton.1 (sg_mem e2)
    rw [sevU_more (x := x) (rs := (part ts).2) (Prod.ext hx rfl) hn] at h ⊢
    refine sevU_rd tx P hsuf hp k _ r l M ((hg.suf (hsuf ts)).suf (nx_suf hn)) ha' h ?_
    rw [if_neg (by simp), hl]
    rw [e1, btT, e3] at h2
    simp only [List.length_cons, List.length_nil] at h2
    omega
def OkW (x : Ex) : Prop := x = ex0 ∨ OkN x
theorem frU_rd {ts : List Tok} {p : ByteArray × Ex} (hg : GkA ts) (h : (frU ts).1 = some p) : (nameT p.1.data.toList = true ∧ OkW p.2) ∧ (frW p.1.data.toList p.2).length + 4 * btT (frU ts).2 ≤ 4 * btT ts := by
 rw [frU] at h ⊢
 obtain ⟨u, h1, h2⟩ := thU_is h
 rw [thU_to h1]
 obtain ⟨f, h3, h4⟩ := thU_is h2
 rw [thU_to h3]
 obtain ⟨x, h5, h6⟩ := thU_is h4
 rw [thU_to h5]
 simp only [Option.some.injEq] at h6
 subst h6
 have e1 := jU_rd h1
 obtain ⟨e2, e3⟩ := nU_rd h3
 have hgr := (hg.suf (jU_suf wFrom ts)).suf (nU_suf _)
 have key : OkW x ∧ (whW x).length + 4 * btT (whU (nU (jU wFrom ts).2).2).2 ≤ 4 * btT (nU (jU wFrom ts).2).2 := by
  generalize (nU (jU wFrom ts).2).2 = rs at h5 hgr
  rw [whU] at h5 ⊢
  cases hn : nxT (sgT [wWhere]) rs with
  | none =>
   rw [hn] at h5
   simp only [Option.some.injEq] at h5
   subst h5
   refine ⟨.inl rfl, ?_⟩
   rw [whW, if_pos (by decide)]
   simp
  | some q =>
   obtain ⟨t, r⟩ := q
   rw [hn] at h5
   simp only at h5 ⊢
   obtain ⟨k1, k2⟩ := nxT_len hn
   have k3 := List.mem_singleton.1 (sg_mem k2)
   obtain ⟨k4, k5⟩ := readE_rd (hgr.suf (nx_suf hn)) h5
   refine ⟨.inr k4, ?_⟩
   rw [k1, btT, k3, whW]
   split
   ·simp only [List.length_cons, List.length_nil]; omega
   ·simp only [List.length_append, List.length_cons, List.length_nil]; omega
 refine ⟨⟨e2, key.1⟩, ?_⟩
 have := key.2
 simp only [frW, List.length_append, List.length_cons, List.length_nil] at e1 ⊢
 omega
def inN (z : Int) : Prop := 0 ≤ z ∧ z ≤ 9223372036854775807
theorem grU_rd {ts : List Tok} {p : List ByteArray × Int × Int} (hg : GkA ts) (h : (grU ts).1 = some p) : ((∀ n ∈ p.1, nameT n.data.toList = true) ∧ p.1 ≠ [] ∧ inN p.2.1 ∧ inN p.2.2) ∧ (grW p.1 p.2.1 p.2.2).length + 4 * btT (grU ts).2 ≤ 4 * btT ts := by
 rw [grU] at h ⊢
 obtain ⟨u, h1, h⟩ := thU_is h
 rw [thU_to h1]
 obtain ⟨u2, h2, h⟩ := thU_is h
 rw [thU_to h2]
 obtain ⟨g, h3, h⟩ := thU_is h
 rw [thU_to h3]
 obtain ⟨u3, h4, h⟩ := thU_is h
 rw [thU_to h4]
 obtain ⟨z, h5, h⟩ := thU_is h
 rw [thU_to h5]
 obtain ⟨s, h6, h⟩ := thU_is h
 rw [thU_to h6]
 simp only [Option.some.injEq] at h
 subst h
 have e1 := jU_rd h1
 have e2 := jU_rd h2
 have g1 := (hg.suf (jU_suf wGroup ts)).suf (jU_suf wBy _)
 have e3 := sevU_rd (fun n : ByteArray => n.data.toList) (fun n => nameT n.data.toList = true) nU_suf (fun ts x _ h => ⟨(nU_rd h).1, by have := (nU_rd h).2; omega⟩) _ [] _ g _ g1 (fun x hx => absurd hx (by simp)) h3 (Nat.le_refl _)
 have g2 := g1.suf (sevU_suf nU_suf ((jU wBy (jU wGroup ts).2).2.length + 1) [] _)
 have e4 := jU_rd h4
 have g3 := g2.suf (jU_suf wWindow _)
 obtain ⟨e5, e6⟩ := iU_rd g3 h5
 have g4 := g3.suf (iU_suf _)
 have key : inN s ∧ (slW z s).length + 4 * btT (slU z (iU (jU wWindow (sevU nU ((jU wBy (jU wGroup ts).2).2.length + 1) [] (jU wBy (jU wGroup ts).2).2).2).2).2).2 ≤ 4 * btT (iU (jU wWindow (sevU nU ((jU wBy (jU wGroup ts).2).2.length + 1) [] (jU wBy (jU wGroup ts).2).2).2).2).2 := by
  generalize (iU (jU wWindow (sevU nU ((jU wBy (jU wGroup ts).2).2.length + 1) [] (jU wBy (jU wGroup ts).2).2).2).2).2 = rs at h6 g4
  rw [slU] at h6 ⊢
  cases hn : nxT (sgT [wSlide]) rs with
  | none =>
   rw [hn] at h6
   simp only [Option.some.injEq] at h6
   subst h6
   refine ⟨e5, ?_⟩
   rw [slW, if_pos rfl]
   simp
  | some q =>
   obtain ⟨t, r⟩ := q
   rw [hn] at h6
   simp only at h6 ⊢
   obtain ⟨k1, k2⟩ := nxT_len hn
   have k3 := List.mem_singleton.1 (sg_mem k2)
   obtain ⟨k4, k5⟩ := iU_rd (g4.suf (nx_suf hn)) h6
   refine ⟨k4, ?_⟩
   rw [k1, btT, k3, slW]
   split
   ·simp only [List.length_cons, List.length_nil]; omega
   ·simp only [List.length_append, List.length_cons, List.length_nil]; omega
 refine ⟨⟨e3.1.1, e3.1.2, e5, key.1⟩, ?_⟩
 have := key.2
 have e32 := e3.2
 simp only [grW, List.length_append, List.length_cons, List.length_nil, if_true] at e1 e2 e32 e4 ⊢
 omega
theorem zip_parts : ∀ c : List (Ex × ByteArray), (c.map (·.1)).zip (c.map (·.2)) = c
 | [] => rfl
 | p :: c => by rw [List.map_cons, List.map_cons, List.zip_cons_cons, zip_parts c]
def OkQ (q : Qy) : Prop := nameT q.frm.data.toList = true ∧ OkW q.whr ∧
 ((q.aggs = [] ∧ q.group = [] ∧ q.size = 0 ∧ q.slide = 0 ∧ ∃ c : List (Ex × ByteArray), c ≠ [] ∧ q.cols = c.map (·.1) ∧ q.names = c.map (·.2) ∧ ∀ p ∈ c, OkN p.1 ∧ nameT p.2.data.toList = true) ∨
  (q.cols = [] ∧ q.names = [] ∧ q.aggs ≠ [] ∧ (∀ a ∈ q.aggs, OkA a) ∧ (∀ n ∈ q.group, nameT n.data.toList = true) ∧ q.group ≠ [] ∧ inN q.size ∧ inN q.slide))
theorem qU_rd {ts : List Tok} {q : Qy} (hg : GkA ts) (h : (qU ts).1 = some q) : OkQ q ∧ (wrI q).length ≤ 4 * btT ts := by
 rw [qU] at h
 obtain ⟨u, h1, h⟩ := thU_is h
 have e1 := jU_rd h1
 have g1 := hg.suf (jU_suf wSelect ts)
 generalize (jU wSelect ts).2 = rs at h e1 g1
 simp only [List.length_cons, List.length_nil] at e1
 split at h
 ·rw [qTwoU] at h
  obtain ⟨a, ha, h⟩ := thU_is h
  obtain ⟨f, hf, h⟩ := thU_is h
  obtain ⟨g, hgr, h⟩ := thU_is h
  simp only [Option.some.injEq] at h
  subst h
  have e2 := sevU_rd agW OkA aggU_suf (fun ts x hg h => aggU_rd hg h) _ [] rs a _ g1 (fun x hx => absurd hx (by simp)) ha (Nat.le_refl _)
  have g2 := g1.suf (sevU_suf aggU_suf (rs.length + 1) [] rs)
  obtain ⟨e3, e4⟩ := frU_rd g2 hf
  have g3 := g2.suf (frU_suf _)
  obtain ⟨e5, e6⟩ := grU_rd g3 hgr
  refine ⟨⟨e3.1, e3.2, .inr ⟨rfl, rfl, e2.1.2, e2.1.1, e5.1, e5.2.1, e5.2.2.1, e5.2.2.2⟩⟩, ?_⟩
  have hpos : 0 < a.length := List.length_pos_iff.2 e2.1.2
  have e22 := e2.2
  simp only [wrI, itemsW, gqW]
  rw [if_pos hpos, if_pos hpos]
  simp only [List.length_append, List.length_cons, List.length_nil, if_true] at e22 ⊢
  omega
 ·rw [qOneU] at h
  obtain ⟨c, hc, h⟩ := thU_is h
  obtain ⟨f, hf, h⟩ := thU_is h
  simp only [Option.some.injEq] at h
  subst h
  have e2 := sevU_rd (fun p : Ex × ByteArray => colW p.1 p.2) (fun p => OkN p.1 ∧ nameT p.2.data.toList = true) colU_suf (fun ts x hg h => colU_rd hg h) _ [] rs c _ g1 (fun x hx => absurd hx (by simp)) hc (Nat.le_refl _)
  have g2 := g1.suf (sevU_suf colU_suf (rs.length + 1) [] rs)
  obtain ⟨e3, e4⟩ := frU_rd g2 hf
  refine ⟨⟨e3.1, e3.2, .inl ⟨rfl, rfl, rfl, rfl, c, e2.1.2, rfl, rfl, e2.1.1⟩⟩, ?_⟩
  have e22 := e2.2
  simp only [wrI, itemsW, gqW]
  rw [if_neg (by simp), if_neg (by simp), zip_parts]
  simp only [List.length_append, List.length_cons, List.length_nil, if_true] at e22 ⊢
  omega
end Go.Proofs.YtkbhmghdonomnaaGreatDoor
namespace Go.Proofs.YtkbhmghdonomnaaGreatDoor
open Go.RowKit Go.BigFrame
set_option linter.unusedVariables false
set_option linter.unusedSimpArgs false
theorem put1_q (s : ByteArray) (S : List UInt8) (hS : s.data.toList = S) (B b g : Nat) (I J : List UInt8) (hJ : I ++ S = J) (W : World) (hg : g = W.heap.size) (hI : WI B b I W) (hB : B ≤ W.heap.size) (hs : s.size ≤ 1048576) :
  Calls Tryz.prog 40 #[.pointer (some ⟨b, 0, none⟩), .slice (some ⟨g, 0, none⟩) 1 1] (W.alloc (.cells #[.string s] 9)) fun e w' => e = .returned (.tuple #[]) ∧ Aside (WI B b J w') ∧ Aside (Keeps B b W w') := by
 subst hg hS hJ
 refine (put_q [s] B b W.heap.size 1 I _ rfl (by decide) (blk_alloc W _ _) (by have := hI.lt.1; omega) (hI.on (al W _)) (by simp; omega) (fun x hx => by rw [List.mem_singleton.1 hx]; exact hs)).mono fun e w' hh => ⟨hh.1, ?_, ?_⟩
 ·have := hh.2.1.out
  show WI _ _ _ _
  simpa [catT] using this
 ·exact ((Keeps.refl B b W).alloc hB _).trans hh.2.2.out
theorem put2_q (s t : ByteArray) (B b g : Nat) (I J : List UInt8) (hJ : I ++ (s.data.toList ++ t.data.toList) = J) (W : World) (hg : g = W.heap.size) (hI : WI B b I W) (hB : B ≤ W.heap.size) (hs : s.size ≤ 1048576) (ht : t.size ≤ 1048576) :
  Calls Tryz.prog 40 #[.pointer (some ⟨b, 0, none⟩), .slice (some ⟨g, 0, none⟩) 2 2] (W.alloc (.cells #[.string s, .string t] 9)) fun e w' => e = .returned (.tuple #[]) ∧ Aside (WI B b J w') ∧ Aside (Keeps B b W w') := by
 subst hg hJ
 refine (put_q [s, t] B b W.heap.size 2 I _ rfl (by decide) (blk_alloc W _ _) (by have := hI.lt.1; omega) (hI.on (al W _)) (by simp; omega) (fun x hx => by
  simp at hx
  rcases hx with rfl | rfl
  ·exact hs
  ·exact ht)).mono fun e w' hh => ⟨hh.1, ?_, ?_⟩
 ·have := hh.2.1.out
  show WI _ _ _ _
  simpa [catT] using this
 ·exact ((Keeps.refl B b W).alloc hB _).trans hh.2.2.out
structure ExO (x : Ex) : Prop where
 n : (x.pre 1).length ≤ 1048576
 b : ∀ q ∈ x.pre 1, inI q.1.vn
theorem txE_small {x : Ex} (h : ExO x) : (txE x).length ≤ 20000 := by
 rw [txE]
 split
 ·rename_i h0
  obtain ⟨htg, hnd⟩ := ckP_zero h0
  have h1 := tx_len x 1 hnd h.b
  have h2 := tg_size htg
  omega
 ·simp
set_option maxHeartbeats 4000000 in
set_option maxRecDepth 20000 in
theorem expression_w (x : Ex) (xp : Option Addr) (xc : Nat) (lo : Nat → Prop) (B b : Nat) (I J : List UInt8) (hJ : I ++ txE x = J) (w : World) (henv : TEnv w) (hx : ExIn w lo (exV x xp xc) x) (hO : ExO x) (hI : WI B b I w) (hB : B ≤ w.heap.size) :
  Calls Tryz.prog 47 #[.pointer (some ⟨b, 0, none⟩), exV x xp xc] w fun e w' => e = .returned (.tuple #[]) ∧ Aside (WI B b J w') ∧ Aside (Keeps B b w w') := by
 obtain ⟨X, hX⟩ : ∃ X : ByteArray, X.data.toList = txE x := ⟨⟨(txE x).toArray⟩, rfl⟩
 have hXs : X.size ≤ 1048576 := by
  have := txE_small hO
  rw [← hX] at this
  have e : X.data.toList.length = X.size := by rw [Lib.size_eq]
  omega
 have b1 := fun o => al w o
 have cP := fun o => treePrint_any x lo (exV x xp xc) (w.alloc o) (henv.on (b1 o)) (fun W hW => ((henv.on (b1 o)).on hW).env) (hx.on (b1 o)) hO.n hO.b X (ckP x) rfl hX
 have cU := fun W (g : Nat) (hg : g = W.heap.size) (hW : WI B b I W) (hBW : B ≤ W.heap.size) => put1_q X (txE x) hX B b g I J hJ W hg hW hBW hXs
 have HI : Aside (WI B b I w) := hI
 clear hx hO hI hX henv hJ
 obtain ⟨K, hK⟩ : ∃ K, errV (ckP x) = K := ⟨_, rfl⟩
 rw [hK] at cP
 clear hK
 obtain ⟨op, nm, vt, vn, vs, pos, l⟩ := x
 simp only [exV, Ex.op, Ex.nm, Ex.vt, Ex.vn, Ex.vs, Ex.args, Ex.pos] at cP ⊢
 generalize l.length = NL at cP ⊢
 go_enter Tryz.func47, Tryz.ntmps47
 go_wp2_with fail
 refine (cP _).mono ?_
 rintro e w2 ⟨rfl, b2⟩
 have B2 : Below w.heap.size w w2 := (b1 _).trans (b2.mono (by simp))
 have K2 : Keeps B b w w2 := keeps_below B2 hB
 have cU2 := cU w2 _ rfl (HI.out.on B2) (Nat.le_trans hB B2.size)
 clear cP cU b2
 go_wp2_with fail
 refine cU2.mono ?_
 rintro e w3 ⟨rfl, W3, K3⟩
 have K4 : Aside (Keeps B b w w3) := K2.trans K3.out
 clear cU2
 go_wp2
 go_end0
 exact ⟨rfl, W3, K4⟩
set_option maxHeartbeats 4000000 in
set_option maxRecDepth 20000 in
theorem col_w (x : Ex) (n : ByteArray) (xp : Option Addr) (xc : Nat) (lo : Nat → Prop) (B b : Nat) (I J : List UInt8) (hJ : I ++ colW x n = J) (w : World) (henv : TEnv w) (hx : ExIn w lo (exV x xp xc) x) (hO : ExO x) (hn : n.size ≤ 1048576) (hI : WI B b I w) (hB : B ≤ w.heap.size) :
  Calls Tryz.prog 45 #[.pointer (some ⟨b, 0, none⟩), exV x xp xc, .string n] w fun e w' => e = .returned (.tuple #[]) ∧ Aside (WI B b J w') ∧ Aside (Keeps B b w w') := by
 have b1 := fun o => al w o
 have cE := fun o => expression_w x xp xc lo B b I (I ++ txE x) rfl (w.alloc o) (henv.on (b1 o)) (hx.on (b1 o)) hO (hI.on (b1 o)) (by simp; omega)
 have cU := fun W (g : Nat) (hg : g = W.heap.size) (hW : WI B b (I ++ txE x) W) (hBW : B ≤ W.heap.size) => put2_q ⟨#[32, 97, 115, 32]⟩ n B b g (I ++ txE x) J (by rw [← hJ, colW, asT, List.append_assoc]) W hg hW hBW (by decide) hn
 clear hx hO hI henv hJ
 generalize I ++ txE x = I1 at cE cU
 obtain ⟨op, nm, vt, vn, vs, pos, l⟩ := x
 simp only [exV, Ex.op, Ex.nm, Ex.vt, Ex.vn, Ex.vs, Ex.args, Ex.pos] at cE ⊢
 generalize l.length = NL at cE ⊢
 go_enter Tryz.func45, Tryz.ntmps45
 go_wp2_with fail
 refine (cE _).mono ?_
 rintro e w2 ⟨rfl, W2, K2⟩
 have K2' : Keeps B b w w2 := ((Keeps.refl B b w).alloc hB _).trans K2.out
 have cU2 := cU w2 _ rfl W2.out (Nat.le_trans hB K2'.1.size)
 clear cE cU
 go_wp2_with fail
 refine cU2.mono ?_
 rintro e w3 ⟨rfl, W3, K3⟩
 have K4 : Aside (Keeps B b w w3) := K2'.trans K3.out
 clear cU2
 go_wp2
 go_end0
 exact ⟨rfl, W3, K4⟩
abbrev agVW (a : Ag) (p : Option Addr) (c : Nat) : Value := .agg #[.string a.what, .string a.arg.op, .string a.arg.nm, .int .i64 a.arg.vt, .int .i64 a.arg.vn, .string a.arg.vs, .slice p a.arg.args.length c, .int .i64 a.arg.pos, .string a.name]
set_option maxHeartbeats 4000000 in
set_option maxRecDepth 20000 in
theorem agg_w (a : Ag) (xp : Option Addr) (xc : Nat) (lo : Nat → Prop) (B b : Nat) (I J : List UInt8) (hJ : I ++ agW a = J) (w : World) (henv : TEnv w) (hx : ExIn w lo (exV a.arg xp xc) a.arg) (hO : ExO a.arg) (hw1 : a.what.size ≤ 1048576) (hn : a.name.size ≤ 1048576) (hI : WI B b I w) (hB : B ≤ w.heap.size) (hlo : ∀ k, lo k → k < B) (henvB : ∀ W, Below B w W → TEnv W) :
  Calls Tryz.prog 43 #[.pointer (some ⟨b, 0, none⟩), agVW a xp xc] w fun e w' => e = .returned (.tuple #[]) ∧ Aside (WI B b J w') ∧ Aside (Keeps B b w w') := by
 obtain ⟨what, ⟨op, nm, vt, vn, vs, pos, l⟩, name⟩ := a
 have hb := hI.lt
 have HJ : Hid (I ++ agW ⟨what, .node op nm vt vn vs pos l, name⟩ = J) := hJ
 have c1 := fun W (g : Nat) (hg : g = W.heap.size) (hW : WI B b I W) (hBW : B ≤ W.heap.size) => put1_q what what.data.toList rfl B b g I (I ++ what.data.toList) rfl W hg hW hBW hw1
 have HI : Aside (WI B b I w) := hI
 have HX : Aside (ExIn w lo (exV (.node op nm vt vn vs pos l) xp xc) (.node op nm vt vn vs pos l)) := hx
 have HO := (show Aside _ from hO)
 have HEB := (show Aside _ from henvB)
 obtain ⟨NL, hNL⟩ : ∃ NL, l.length = NL := ⟨_, rfl⟩
 have HNL : Hid (l.length = NL) := hNL
 simp only [agVW, exV, Ex.op, Ex.nm, Ex.vt, Ex.vn, Ex.vs, Ex.args, Ex.pos, hNL]
 have X0 := blk_alloc w #[.string what, .string op, .string nm, .int .i64 vt, .int .i64 vn, .string vs, .slice xp NL xc, .int .i64 pos, .string name] 49
 have K0 : Keeps B b w (w.alloc (.cells #[.string what, .string op, .string nm, .int .i64 vt, .int .i64 vn, .string vs, .slice xp NL xc, .int .i64 pos, .string name] 49)) := (Keeps.refl B b w).alloc hB _
 have W0 := HI.out.on (al w (.cells #[.string what, .string op, .string nm, .int .i64 vt, .int .i64 vn, .string vs, .slice xp NL xc, .int .i64 pos, .string name] 49))
 have c1' := c1 _ (w.heap.size + 1) (by simp) W0 (by simp; omega)
 have hbox : Aside (∀ W, Keeps B b (w.alloc (.cells #[.string what, .string op, .string nm, .int .i64 vt, .int .i64 vn, .string vs, .slice xp NL xc, .int .i64 pos, .string name] 49)) W → Blk W w.heap.size #[.string what, .string op, .string nm, .int .i64 vt, .int .i64 vn, .string vs, .slice xp NL xc, .int .i64 pos, .string name] 49) := fun W hk => X0.keeps hk (by omega) (by decide)
 have c5 := fun W (g : Nat) (I1 : List UInt8) (hg : g = W.heap.size) (hW : WI B b I1 W) (hBW : B ≤ W.heap.size) (hJ1 : I1 ++ ([32, 97, 115, 32] ++ name.data.toList) = J) => put2_q ⟨#[32, 97, 115, 32]⟩ name B b g I1 J hJ1 W hg hW hBW (by decide) hn
 clear hI hx hO henv hJ c1 X0 W0 hNL henvB hw1 hn
 by_cases hc : what.data.toList = wCount
 ·have hcb : (what.toList == [99, 111, 117, 110, 116]) = true := by rw [Lib.toList_data, hc]; rfl
  go_enter Tryz.func43, Tryz.ntmps43
  go_wp2_with fail
  refine c1'.mono ?_
  rintro e w1 ⟨rfl, W1, K1⟩
  have X1 := hbox.out w1 K1.out
  have K1' := K0.trans K1.out
  have g0 : w1.cell? ⟨w.heap.size, 0, none⟩ = some (.string what) := X1.cell 0
  have g8 : w1.cell? ⟨w.heap.size, 8, none⟩ = some (.string name) := X1.cell 8
  have gl := X1.lt
  have c5' := c5 w1 _ _ rfl W1.out (Nat.le_trans hB K1'.1.size) (by rw [← HJ.out, agW, if_pos hc, asT]; simp)
  clear c1' c5 X1 hbox
  go_wp2_with fail
  refine c5'.mono ?_
  rintro e w2 ⟨rfl, W2, K2⟩
  have K3 : Aside (Keeps B b w w2) := K1'.trans K2.out
  clear c5'
  go_wp2
  go_end0
  exact ⟨rfl, W2, K3⟩
 ·have hcb : (what.toList == [99, 111, 117, 110, 116]) = false := by rw [Lib.toList_data]; simpa using hc
  have c2 := fun W (g : Nat) (hg : g = W.heap.size) (hW : WI B b (I ++ what.data.toList) W) (hBW : B ≤ W.heap.size) => put1_q ⟨#[40]⟩ [40] rfl B b g (I ++ what.data.toList) _ rfl W hg hW hBW (by decide)
  have c3 := fun W (hW : WI B b (I ++ what.data.toList ++ [40]) W) (hk : Keeps B b w W) => expression_w (.node op nm vt vn vs pos l) xp xc lo B b (I ++ what.data.toList ++ [40]) _ rfl W (HEB.out W hk.1) (HX.out.keeps hk hlo) HO.out hW (Nat.le_trans hB hk.1.size)
  simp only [exV, Ex.op, Ex.nm, Ex.vt, Ex.vn, Ex.vs, Ex.args, Ex.pos, HNL.out] at c3
  have c4 := fun W (g : Nat) (hg : g = W.heap.size) (hW : WI B b (I ++ what.data.toList ++ [40] ++ txE (.node op nm vt vn vs pos l)) W) (hBW : B ≤ W.heap.size) => put1_q ⟨#[41]⟩ [41] rfl B b g (I ++ what.data.toList ++ [40] ++ txE (.node op nm vt vn vs pos l)) _ rfl W hg hW hBW (by decide)
  go_enter Tryz.func43, Tryz.ntmps43
  go_wp2_with fail
  refine c1'.mono ?_
  rintro e w1 ⟨rfl, W1, K1⟩
  have X1 := hbox.out w1 K1.out
  have K1' := K0.trans K1.out
  have g0 : w1.cell? ⟨w.heap.size, 0, none⟩ = some (.string what) := X1.cell 0
  have gl := X1.lt
  have c2' := c2 w1 _ rfl W1.out (Nat.le_trans hB K1'.1.size)
  clear c1' c2
  go_wp2_with fail
  refine c2'.mono ?_
  rintro e w2 ⟨rfl, W2, K2⟩
  have X2 := hbox.out w2 (K1.out.trans K2.out)
  have K2' := K1'.trans K2.out
  have h1 : w2.cell? ⟨w.heap.size, 1, none⟩ = some (.string op) := X2.cell 1
  have h2 : w2.cell? ⟨w.heap.size, 2, none⟩ = some (.string nm) := X2.cell 2
  have h3 : w2.cell? ⟨w.heap.size, 3, none⟩ = some (.int .i64 vt) := X2.cell 3
  have h4 : w2.cell? ⟨w.heap.size, 4, none⟩ = some (.int .i64 vn) := X2.cell 4
  have h5 : w2.cell? ⟨w.heap.size, 5, none⟩ = some (.string vs) := X2.cell 5
  have h6 : w2.cell? ⟨w.heap.size, 6, none⟩ = some (.slice xp NL xc) := X2.cell 6
  have h7 : w2.cell? ⟨w.heap.size, 7, none⟩ = some (.int .i64 pos) := X2.cell 7
  have gl2 := X2.lt
  have c3' := c3 w2 W2.out K2'
  clear c2' c3 X1 X2 g0 gl
  go_wp2_with fail
  refine c3'.mono ?_
  rintro e w3 ⟨rfl, W3, K3⟩
  have K3' := K2'.trans K3.out
  have c4' := c4 w3 _ rfl W3.out (Nat.le_trans hB K3'.1.size)
  clear c3' c4 h1 h2 h3 h4 h5 h6 h7 gl2
  go_wp2_with fail
  refine c4'.mono ?_
  rintro e w4 ⟨rfl, W4, K4⟩
  have X4 := hbox.out w4 (((K1.out.trans K2.out).trans K3.out).trans K4.out)
  have K4' := K3'.trans K4.out
  have g8 : w4.cell? ⟨w.heap.size, 8, none⟩ = some (.string name) := X4.cell 8
  have gl := X4.lt
  have c5' := c5 w4 _ _ rfl W4.out (Nat.le_trans hB K4'.1.size) (by rw [← HJ.out, agW, if_neg hc, asT]; simp)
  clear c4' c5 X4 hbox
  go_wp2_with fail
  refine c5'.mono ?_
  rintro e w5 ⟨rfl, W5, K5⟩
  have K6 : Aside (Keeps B b w w5) := K4'.trans K5.out
  clear c5'
  go_wp2
  go_end0
  exact ⟨rfl, W5, K6⟩
set_option maxHeartbeats 4000000 in
set_option maxRecDepth 20000 in
theorem several_w (f : FuncId) (caps : Array Value) (hent : ∀ (args : Array Value) (W : World), Sem.run Tryz.prog (callFunc f args) W = .ok (.enter f args) W) (B b n : Nat) (Ps : List (List UInt8)) (hn : Ps.length = n) (hn2 : n ≤ 1048576) (INV : World → Prop) (hinv : ∀ W W', INV W → Keeps B b W W' → INV W')
  (hpart : ∀ (i : Nat) (h : i < Ps.length) (I : List UInt8) (W : World), INV W → WI B b I W → B ≤ W.heap.size → Calls Tryz.prog f (#[.int .i64 (i : Int)] ++ caps) W fun e w' => e = .returned (.tuple #[]) ∧ Aside (WI B b (I ++ Ps[i]) w') ∧ Aside (Keeps B b W w'))
  (I J : List UInt8) (hJ : I ++ inter [44, 32] Ps = J) (w : World) (hI : WI B b I w) (hB : B ≤ w.heap.size) (hw : INV w) :
  Calls Tryz.prog 41 #[.pointer (some ⟨b, 0, none⟩), .int .i64 (n : Int), .func (.func f) #[] caps] w fun e w' => e = .returned (.tuple #[]) ∧ Aside (WI B b J w') ∧ Aside (Keeps B b w w') := by
 have HN : Hid (Ps.length = n) := hn
 have HI : Aside (WI B b I w) := hI
 have HP := (show Aside _ from hpart)
 have HV := (show Aside _ from hinv)
 have HW : Aside (INV w) := hw
 have HJ : Hid (I ++ inter [44, 32] Ps = J) := hJ
 clear hn hI hpart hinv hw hJ
 go_enter Tryz.func41, Tryz.ntmps41
 go_wp2
 go_loopg [6] n (fun gg s6 wr => ∃ kk : Nat, kk ≤ n ∧ n - kk ≤ gg ∧ s6 = .int .i64 kk ∧ Aside (WI B b (I ++ inter [44, 32] (Ps.take kk)) wr) ∧ Aside (Keeps B b w wr))
 case atStart => exact ⟨0, Nat.zero_le _, by omega, rfl, (show Aside _ from (by simpa [inter] using HI.out : WI B b (I ++ inter [44, 32] (Ps.take 0)) w)), (show Aside _ from Keeps.refl _ _ _)⟩
 case round =>
  obtain ⟨kk, hkk, hg, rfl, WJ, KJ⟩ := hrel
  clear HI
  obtain ⟨acc, fl, hwb, ha, hcase⟩ := id WJ.out
  obtain ⟨c2, f2, l2⟩ := hwb.cells
  have hBr : B ≤ wr.heap.size := Nat.le_trans hB KJ.out.1.size
  by_cases hlt : kk < n
  ·have hltz : (kk : Int) < (n : Int) := by omega
   have hk2 : kk < Ps.length := by rw [HN.out]; exact hlt
   cases fl
   ·have IR := HV.out _ _ HW.out KJ.out
    have hin := inter_take (bt := [44, 32]) hk2
    have HIN := (show Hid _ from hin)
    clear hin hwb ha hcase
    by_cases h0 : kk = 0
    ·have hgt : ¬ (0 : Int) < (kk : Int) := by omega
     have hgd : decide ((0 : Int) < (kk : Int)) = false := by simpa using hgt
     have cP := HP.out kk hk2 _ wr IR WJ.out hBr
     have HX : Hid (I ++ inter [44, 32] (Ps.take kk) ++ Ps[kk] = I ++ inter [44, 32] (Ps.take (kk + 1))) := by
      show _ = _
      have e0 : inter [44, 32] (Ps.take kk) = [] := by rw [h0]; rfl
      rw [HIN.out, if_pos h0, e0]
      simp
     clear HIN h0
     go_wp2_with fail
     refine cP.mono ?_
     rintro e w1 ⟨rfl, W1, K1⟩
     have W1' : Aside (WI B b (I ++ inter [44, 32] (Ps.take (kk + 1))) w1) := by rw [← HX.out]; exact W1
     have K2 : Aside (Keeps B b w w1) := KJ.out.trans K1.out
     clear cP
     go_wp2
     go_roundg (n - (kk + 1))
     case measure => omega
     case rel => exact ⟨kk + 1, by omega, by omega, by go_num, W1', K2⟩
    ·have hgt : (0 : Int) < (kk : Int) := by omega
     have cU := put1_q ⟨#[44, 32]⟩ [44, 32] rfl B b wr.heap.size _ _ rfl wr rfl WJ.out hBr (by decide)
     have HP2 := fun w1 W1 K1 => HP.out kk hk2 (I ++ inter [44, 32] (Ps.take kk) ++ [44, 32]) w1 W1 K1
     have HX : Hid (I ++ inter [44, 32] (Ps.take kk) ++ [44, 32] ++ Ps[kk] = I ++ inter [44, 32] (Ps.take (kk + 1))) := by
      show _ = _
      rw [HIN.out, if_neg h0]
      simp
     clear HIN h0
     go_wp2_with fail
     refine cU.mono ?_
     rintro e w1 ⟨rfl, W1, K1⟩
     have cP := HP2 w1 (HV.out _ _ IR K1.out) W1.out (Nat.le_trans hBr K1.out.1.size)
     clear cU HP2
     go_wp2_with fail
     refine cP.mono ?_
     rintro e w2 ⟨rfl, W2, K2⟩
     have W2' : Aside (WI B b (I ++ inter [44, 32] (Ps.take (kk + 1))) w2) := by rw [← HX.out]; exact W2
     have K3 : Aside (Keeps B b w w2) := (KJ.out.trans K1.out).trans K2.out
     clear cP
     go_wp2
     go_roundg (n - (kk + 1))
     case measure => omega
     case rel => exact ⟨kk + 1, by omega, by omega, by go_num, W2', K3⟩
   ·have hbig : 400 < (I ++ inter [44, 32] (Ps.take kk)).length := by
     rcases hcase with ⟨h, _⟩ | ⟨_, h⟩
     ·exact absurd h (by decide)
     ·exact h
    have W3 : Aside (WI B b J wr) := ⟨acc, true, hwb, ha, .inr ⟨rfl, by
     rw [← HJ.out]
     have := inter_take_len (bt := [44, 32]) (ts := Ps) kk (by omega)
     rw [List.length_append] at hbig ⊢
     omega⟩⟩
    clear hbig hcase ha hwb
    go_wp2
    go_end0
    exact ⟨rfl, W3, KJ⟩
  ·have hltz : ¬ (kk : Int) < (n : Int) := by omega
   obtain rfl : kk = n := by omega
   have W3 : Aside (WI B b J wr) := by
    have := WJ.out
    rw [List.take_of_length_le (by rw [HN.out]; exact Nat.le_refl _), HJ.out] at this
    exact this
   clear hcase ha hwb
   go_wp2
   go_end0
   exact ⟨rfl, W3, KJ⟩
end Go.Proofs.YtkbhmghdonomnaaGreatDoor
