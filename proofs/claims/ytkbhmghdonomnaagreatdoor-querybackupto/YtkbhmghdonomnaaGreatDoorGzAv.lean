/-
  TreeBl, TreeBx, QwC, QwD, QwE, QrR, in one text.
-/
import Derived.Test.YtkbhmghdonomnaaGreatDoorGzAp
import Derived.Test.YtkbhmghdonomnaaGreatDoorGzAu
import Derived.Test.YtkbhmghdonomnaaGreatDoorGzAt
import Derived.Test.YtkbhmghdonomnaaGreatDoorGzAl
namespace Go.Proofs.YtkbhmghdonomnaaGreatDoor
set_option linter.unusedVariables false

def PT (P : Tok → Bool) : Prop := ∀ t t' : Tok, t'.2.1.data.toList = t.2.1.data.toList → P t' = P t
theorem arr_eq {a b : ByteArray} (h : a.data.toList = b.data.toList) : a = b := by
 apply ByteArray.ext
 exact Array.toList_inj.1 h
end Go.Proofs.YtkbhmghdonomnaaGreatDoor
namespace Go.Proofs.YtkbhmghdonomnaaGreatDoor
set_option linter.unusedVariables false
set_option linter.unusedSimpArgs false
abbrev spI : Item := (none, [32])
abbrev wdI (w : List UInt8) : Item := (some 1, w)
def asI (n : List UInt8) : List Item := [spI, wdI wAs, spI, wdI n]
def colI (p : Ex × ByteArray) : List Item := itP p.1 ++ asI p.2.data.toList
def agI (a : Ag) : List Item := wdI a.what.data.toList :: ((if a.what.data.toList = wCount then [] else [((some 4, [40]) : Item)] ++ (itP a.arg ++ [((some 4, [41]) : Item)])) ++ asI a.name.data.toList)
def whI (x : Ex) : List Item := if noOp x = true then [] else spI :: wdI wWhere :: spI :: itP x
def frI (f : List UInt8) (x : Ex) : List Item := spI :: wdI wFrom :: spI :: wdI f :: whI x
def nuIt (z : Int) : Item := (some 2, Lib.itoa z)
def slI (z s : Int) : List Item := if s = z then [] else [spI, wdI wSlide, spI, nuIt s]
abbrev cmI : List Item := [((some 4, [44]) : Item), spI]
def grI (g : List ByteArray) (z s : Int) : List Item := spI :: wdI wGroup :: spI :: wdI wBy :: spI :: (itI cmI (g.map fun n => [wdI n.data.toList]) ++ (spI :: wdI wWindow :: spI :: nuIt z :: slI z s))
def itemsI (q : Qy) : List (List Item) := if 0 < q.aggs.length then q.aggs.map agI else (q.cols.zip q.names).map colI
def gqI (q : Qy) : List Item := if 0 < q.aggs.length then grI q.group q.size q.slide else []
def qIt (q : Qy) : List Item := wdI wSelect :: spI :: (itI cmI (itemsI q) ++ (frI q.frm.data.toList q.whr ++ gqI q))

theorem itT_cons (i : Item) (is : List Item) : itT (i :: is) = i.2 ++ itT is := by simp [itT]
theorem itK_none (b : List UInt8) (is : List Item) : itK ((none, b) :: is) = itK is := by simp [itK]
theorem itK_some (k : Int) (b : List UInt8) (is : List Item) : itK ((some k, b) :: is) = b :: itK is := by simp [itK]
def lettB : List UInt8 → Bool
 | [] => false
 | c :: t => letB c && t.all ldB
theorem name_lett {l : List UInt8} (h : nameT l = true) : lettB l = true := by
 simp only [nameT, lettersB, Bool.and_eq_true, decide_eq_true_eq] at h
 obtain ⟨⟨⟨h1, _⟩, h2⟩, _⟩ := h
 cases l with
 | nil => exact absurd rfl h1
 | cons c q =>
  rw [List.all_cons, Bool.and_eq_true] at h2
  rw [lettB, Bool.and_eq_true]
  refine ⟨h2.1, ?_⟩
  rw [List.all_eq_true] at h2 ⊢
  intro x hx
  simp [ldB, h2.2 x hx]
theorem okp_w {w : List UInt8} {is : List Item} (h : lettB w = true) (hr : hdB ldB (itT is) = false) (hi : Okp is) : Okp (wdI w :: is) := by
 cases w with
 | nil => exact absurd h (by decide)
 | cons c t =>
  rw [lettB, Bool.and_eq_true] at h
  rw [Okp]
  refine ⟨?_, by simp, hi⟩
  rw [List.cons_append, tokAt, if_pos h.1, ← List.cons_append, goN_app ldB (c :: t) _ (by rw [List.all_cons, h.2]; simp [ldB, h.1]) hr]
theorem okp_s {is : List Item} (hi : Okp is) : Okp (spI :: is) := by rw [Okp]; exact ⟨by decide, hi⟩
theorem okp_p {c : UInt8} {is : List Item} (hc : c = 40 ∨ c = 41 ∨ c = 44) (hi : Okp is) : Okp ((some 4, [c]) :: is) := by
 rw [Okp]
 exact ⟨sgn_par c (itT is) hc, by simp, hi⟩
theorem okp_n {z : Int} {is : List Item} (hz : inN z) (hr : endB (itT is)) (hi : Okp is) : Okp (nuIt z :: is) := by
 rw [nuIt, Okp]
 rw [Lib.itoa, if_neg (by have := hz.1; omega)]
 refine ⟨tk_num (by have := hz.2; omega) hr, ?_, hi⟩
 obtain ⟨c, q, e, _⟩ := digits_head z.toNat z.toNat (Nat.le_refl _)
 rw [e]
 simp
theorem hd_sp (is : List Item) : hdB ldB (itT (spI :: is)) = false := by rw [itT_cons]; rfl
theorem end_sp (is : List Item) : endB (itT (spI :: is)) := by rw [itT_cons]; exact end32 _
theorem okp_as {n : List UInt8} {is : List Item} (h : nameT n = true) (hr : hdB ldB (itT is) = false) (hi : Okp is) : Okp (asI n ++ is) :=
 okp_s (okp_w (w := wAs) (by decide) (hd_sp _) (okp_s (okp_w (name_lett h) hr hi)))
theorem okN_okp {x : Ex} (h : OkN x) {rest : List Item} (hr : Okp rest) (he : endB (itT rest)) : Okp (itP x ++ rest) := okp_P x 1 (fun q hq => (h 1 q hq).1) (fun q hq => (h 1 q hq).2) rest hr he
theorem okp_col {p : Ex × ByteArray} {is : List Item} (h : OkN p.1) (hn : nameT p.2.data.toList = true) (hr : hdB ldB (itT is) = false) (hi : Okp is) : Okp (colI p ++ is) := by
 rw [colI, List.append_assoc]
 exact okN_okp h (okp_as hn hr hi) (end_sp _)
theorem ag_lett {l : List UInt8} (h : isAg l = true) : lettB l = true := by
 simp only [isAg, Bool.or_eq_true, decide_eq_true_eq] at h
 rcases h with rfl | rfl | rfl | rfl <;> decide
theorem okp_ag {a : Ag} {is : List Item} (h : OkA a) (hr : hdB ldB (itT is) = false) (hi : Okp is) : Okp (agI a ++ is) := by
 obtain ⟨h1, h2, h3⟩ := h
 have ha := okp_as h3 hr hi
 rw [agI, List.cons_append, List.append_assoc]
 rcases h2 with ⟨hc, hx⟩ | ⟨hc, hx⟩
 ·rw [if_pos hc, List.nil_append]
  exact okp_w (ag_lett h1) (hd_sp _) ha
 ·rw [if_neg hc, List.append_assoc, List.append_assoc]
  refine okp_w (ag_lett h1) ?_ (okp_p (.inl rfl) (okN_okp hx (okp_p (.inr (.inl rfl)) ha) ?_))
  ·show hdB ldB (itT ((some 4, [40]) :: _)) = false
   rw [itT_cons]; rfl
  ·show endB (itT ((some 4, [41]) :: _))
   rw [itT_cons]; exact end41 _
theorem okp_I {rest : List Item} (hr : Okp rest) (hh : hdB ldB (itT rest) = false) : ∀ l : List (List Item), (∀ i ∈ l, ∀ is, hdB ldB (itT is) = false → Okp is → Okp (i ++ is)) → Okp (itI cmI l ++ rest)
 | [], _ => hr
 | [t], h => h t (by simp) rest hh hr
 | t :: u :: l, h => by
  have ih := okp_I hr hh (u :: l) (fun i hi => h i (by simp [List.mem_cons.1 hi]))
  rw [itI, List.append_assoc, List.append_assoc]
  refine h t (by simp) _ ?_ (okp_p (.inr (.inr rfl)) (okp_s ih))
  show hdB ldB (itT ((some 4, [44]) :: _)) = false
  rw [itT_cons]; rfl
theorem okp_wh {x : Ex} (h : OkW x) {rest : List Item} (hr : Okp rest) (he : endB (itT rest)) : Okp (whI x ++ rest) := by
 rw [whI]
 split
 ·exact hr
 ·rename_i h0
  rcases h with rfl | h
  ·exact absurd (by decide) h0
  ·exact okp_s (okp_w (w := wWhere) (by decide) (hd_sp _) (okp_s (okN_okp h hr he)))
theorem end_hdL {r : List UInt8} (h : endB r) : hdB ldB r = false := end_hd ldB (by decide) (by decide) (by decide) h
theorem end_wh {x : Ex} {rest : List Item} (he : endB (itT rest)) : endB (itT (whI x ++ rest)) := by
 rw [whI]
 split
 ·exact he
 ·exact end_sp _
theorem okp_fr {f : List UInt8} {x : Ex} (hf : nameT f = true) (h : OkW x) {rest : List Item} (hr : Okp rest) (he : endB (itT rest)) : Okp (frI f x ++ rest) :=
 okp_s (okp_w (w := wFrom) (by decide) (hd_sp _) (okp_s (okp_w (name_lett hf) (end_hdL (end_wh he)) (okp_wh h hr he))))
theorem okp_gr {g : List ByteArray} {z s : Int} (hg : ∀ n ∈ g, nameT n.data.toList = true) (hz : inN z) (hs : inN s) : Okp (grI g z s) := by
 have h0 : Okp ([] : List Item) := by rw [Okp]; trivial
 have hsl : Okp (slI z s) ∧ endB (itT (slI z s)) := by
  rw [slI]
  split
  ·exact ⟨h0, .inl rfl⟩
  ·exact ⟨okp_s (okp_w (w := wSlide) (by decide) (hd_sp _) (okp_s (okp_n hs (.inl rfl) h0))), end_sp _⟩
 refine okp_s (okp_w (w := wGroup) (by decide) (hd_sp _) (okp_s (okp_w (w := wBy) (by decide) (hd_sp _) (okp_s (okp_I ?_ (hd_sp _) _ ?_)))))
 ·exact okp_s (okp_w (w := wWindow) (by decide) (hd_sp _) (okp_s (okp_n hz hsl.2 hsl.1)))
 ·intro i hi is h1 h2
  obtain ⟨n, hn, rfl⟩ := List.mem_map.1 hi
  exact okp_w (name_lett (hg n hn)) h1 h2
theorem okp_q {q : Qy} (h : OkQ q) : Okp (qIt q) := by
 obtain ⟨hf, hw, h⟩ := h
 rw [qIt]
 refine okp_w (w := wSelect) (by decide) (hd_sp _) (okp_s ?_)
 have hfr : ∀ rest : List Item, Okp rest → endB (itT rest) → Okp (frI q.frm.data.toList q.whr ++ rest) ∧ hdB ldB (itT (frI q.frm.data.toList q.whr ++ rest)) = false := fun rest h1 h2 => ⟨okp_fr hf hw h1 h2, hd_sp _⟩
 rcases h with ⟨h1, h2, h3, h4, c, h5, h6, h7, h8⟩ | ⟨h1, h2, h3, h4, h5, h6, h7, h8⟩
 ·have e1 : ¬ 0 < q.aggs.length := by rw [h1]; simp
  obtain ⟨k1, k2⟩ := hfr [] (by rw [Okp]; trivial) (.inl rfl)
  rw [itemsI, gqI, if_neg e1, if_neg e1, h6, h7, zip_parts]
  refine okp_I k1 k2 _ fun i hi is g1 g2 => ?_
  obtain ⟨p, hp, rfl⟩ := List.mem_map.1 hi
  exact okp_col (h8 p hp).1 (h8 p hp).2 g1 g2
 ·have e1 : 0 < q.aggs.length := List.length_pos_iff.2 h3
  obtain ⟨k1, k2⟩ := hfr (grI q.group q.size q.slide) (okp_gr h5 h7 h8) (end_sp _)
  rw [itemsI, gqI, if_pos e1, if_pos e1]
  refine okp_I k1 k2 _ fun i hi is g1 g2 => ?_
  obtain ⟨a, ha, rfl⟩ := List.mem_map.1 hi
  exact okp_ag (h4 a ha) g1 g2
/-! The words' text is the query's. -/
theorem it_as (n : List UInt8) : itT (asI n) = asT n := by simp [asI, asT, itT]
theorem it_col {p : Ex × ByteArray} (h : ckP p.1 = 0) : itT (colI p) = colW p.1 p.2 := by rw [colI, itT_app, (it_text p.1).1, it_as, colW, txE, if_pos h]
theorem it_ag {a : Ag} (h : a.what.data.toList = wCount ∨ ckP a.arg = 0) : itT (agI a) = agW a := by
 rw [agI, itT_cons, itT_app, it_as, agW]
 congr 2
 split
 ·rfl
 ·rename_i h0
  rw [itT_app, itT_app, (it_text a.arg).1, txE, if_pos (h.resolve_left h0)]
  simp [itT]
theorem it_wh {x : Ex} (h : noOp x = true ∨ ckP x = 0) : itT (whI x) = whW x := by
 rw [whI, whW]
 split
 ·rfl
 ·rename_i h0
  rw [itT_cons, itT_cons, itT_cons, (it_text x).1, txE, if_pos (h.resolve_left h0)]
  simp
theorem it_gr (g : List ByteArray) (z s : Int) : itT (grI g z s) = grW g z s := by
 have e1 : itT (itI cmI (g.map fun n => [wdI n.data.toList])) = inter [44, 32] (g.map fun n => n.data.toList) := by
  rw [itI_text cmI [44, 32] (by simp [itT])]
  congr 1
  rw [List.map_map]
  refine List.map_congr_left fun n _ => ?_
  simp [itT]
 have e2 : itT (slI z s) = slW z s := by
  rw [slI, slW]
  split
  ·rfl
  ·simp [itT, nuIt]
 rw [grI, grW]
 simp only [itT_cons, itT_app, e1, e2, nuIt]
 simp
theorem it_q {q : Qy} (h : OkQ q) (hw : noOp q.whr = true ∨ ckP q.whr = 0) (hc : ∀ x ∈ q.cols, ckP x = 0) (ha : ∀ a ∈ q.aggs, a.what.data.toList = wCount ∨ ckP a.arg = 0) : itT (qIt q) = wrI q := by
 obtain ⟨hf, _, h⟩ := h
 have e1 : itT (itI cmI (itemsI q)) = inter [44, 32] (itemsW q) := by
  rw [itI_text cmI [44, 32] (by simp [itT]), itemsI, itemsW]
  congr 1
  split
  ·rw [List.map_map]
   exact List.map_congr_left fun a h => it_ag (ha a h)
  ·rw [List.map_map]
   refine List.map_congr_left fun p h => it_col (hc _ (List.of_mem_zip h).1)
 have e2 : itT (gqI q) = gqW q := by
  rw [gqI, gqW]
  split
  ·exact it_gr _ _ _
  ·rfl
 rw [qIt, wrI]
 simp only [itT_cons, itT_app, e1, e2, frI, frW, it_wh hw]
 simp
def sameA (a b : Ag) : Bool := decide (a.what = b.what) && (sameE false a.arg b.arg && decide (a.name = b.name))
def samesA : List Ag → List Ag → Bool
 | [], [] => true
 | x :: xs, y :: ys => sameA x y && samesA xs ys
 | _, _ => false
def sameQ (a b : Qy) : Bool := decide (a.frm = b.frm) && (sameE false a.whr b.whr && (sameL false a.cols b.cols && (decide (a.names = b.names) && (decide (a.group = b.group) && (decide (a.size = b.size) && (decide (a.slide = b.slide) && samesA a.aggs b.aggs))))))
theorem ex0_same : sameE false ex0 ex0 = true := by simp [ex0, sameE, sameL]
def Free (r : List Tok) : Prop := r = [] ∨ ∃ t q, r = t :: q ∧ t.2.1.data.toList ∉ bin14
theorem gsA_bin (L : Nat) : ∀ g ∈ gsA L, g ∈ bin14 := by
 have h : L = 0 ∨ L = 1 ∨ L = 2 ∨ L = 3 ∨ L = 4 ∨ L = 5 ∨ 6 ≤ L := by omega
 rcases h with rfl | rfl | rfl | rfl | rfl | rfl | h
 ·decide
 ·decide
 ·decide
 ·decide
 ·decide
 ·decide
 ·have : gsA L = [] := by
   rw [gsA] <;> omega
  rw [this]
  intro g hg
  cases hg
theorem free_nx {r : List Tok} (h : Free r) (gs : List (List UInt8)) (hg : ∀ g ∈ gs, g ∈ bin14) : nxT (sgT gs) r = none := by
 rcases h with rfl | ⟨t, q, rfl, h⟩
 ·rfl
 ·rw [nxT, if_neg]
  intro h1
  exact h (hg _ (sg_mem h1))
theorem free_cnd {ts r : List Tok} (hm : nxT (sgT [[45]]) ts = none) (hn : nxT (sgT [[110, 111, 116]]) ts = none) (h : Free r) (L : Nat) : Cnd ts r L := by
 rw [Cnd]
 split
 ·exact hn
 ·split
  ·exact hm
  ·exact free_nx h _ (gsA_bin L)
theorem readE_back {x : Ex} (hok : OkN x) {ts r : List Tok} (ht : Tx ts = tkP x) (hr : Free r) : ∃ x', sameE false x' x = true ∧ readE (ts ++ r) = (some x', r) := by
 obtain ⟨hh, hr7⟩ := rt7 x 1 (fun q hq => (hok 1 q hq).1) (fun q hq => (hok 1 q hq).2)
 obtain ⟨e, hs, he⟩ := hr7 ts r ht
 obtain ⟨hm, hnn⟩ := hh.none (r := r) ht
 have hlen : ts.length = (tkP x).length := by rw [← ht, Tx, List.length_map]
 refine ⟨e, hs, ?_⟩
 rw [readE]
 have h8 : 8 * (tkP x).length ≤ (ts ++ r).length * 8 + 1 := by rw [List.length_append]; omega
 have := uE_lift 7 ((ts ++ r).length * 8 + 1) 0 (by omega) (he _ h8) (fun k _ _ => free_cnd hm hnn hr k)
 rwa [show (ts ++ r).length * 8 + 1 + 7 = (ts ++ r).length * 8 + 8 from by omega] at this
theorem jU_hit {g : List UInt8} {t : Tok} {r : List Tok} (h : t.2.1.data.toList = g) : jU g (t :: r) = (some (), r) := by
 rw [jU, nxT, if_pos (by simp [sgT, h])]
theorem nU_hit {t : Tok} {r : List Tok} {n : ByteArray} (h : t.2.1.data.toList = n.data.toList) (hn : nameT n.data.toList = true) : nU (t :: r) = (some n, r) := by
 have e := arr_eq h
 rw [nU, nxT, if_pos (by rw [nmT, h]; exact hn)]
 show (some t.2.1, r) = _
 rw [e]
theorem Tx_one {ts : List Tok} {a : List UInt8} (h : Tx ts = [a]) : ∃ t, ts = [t] ∧ t.2.1.data.toList = a := by
 obtain ⟨t, r, rfl, e, h2⟩ := Tx_cons h
 rw [Tx_nil h2]
 exact ⟨t, rfl, e⟩
theorem asU_back {n : ByteArray} (hn : nameT n.data.toList = true) {ts r : List Tok} (ht : Tx ts = [wAs, n.data.toList]) : (∃ t q, ts = t :: q ∧ t.2.1.data.toList = wAs) ∧ asU (ts ++ r) = (some n, r) := by
 obtain ⟨t1, r1, rfl, e1, h1⟩ := Tx_cons ht
 obtain ⟨t2, rfl, e2⟩ := Tx_one h1
 refine ⟨⟨t1, _, rfl, e1⟩, ?_⟩
 rw [asU, List.cons_append, thU_to (x := ()) (by rw [jU_hit e1]), jU_hit e1, List.cons_append]
 exact nU_hit e2 hn
theorem itK_as (n : List UInt8) : itK (asI n) = [wAs, n] := by simp [asI, itK]
theorem colU_back {p : Ex × ByteArray} (h : OkN p.1) (hn : nameT p.2.data.toList = true) {ts r : List Tok} (ht : Tx ts = itK (colI p)) : ∃ p', (sameE false p'.1 p.1 = true ∧ p'.2 = p.2) ∧ colU (ts ++ r) = (some p', r) := by
 rw [colI, itK_app, (it_text p.1).2, itK_as] at ht
 obtain ⟨a, b, rfl, ha, hb⟩ := Tx_app ht
 obtain ⟨⟨t, q, hbe, het⟩, has⟩ := asU_back (r := r) hn hb
 obtain ⟨x', hs, hre⟩ := readE_back (r := b ++ r) h ha (.inr ⟨t, q ++ r, by rw [hbe]; rfl, by rw [het]; decide⟩)
 refine ⟨(x', p.2), ⟨hs, rfl⟩, ?_⟩
 rw [colU, List.append_assoc, thU_to (x := x') (by rw [hre]), hre]
 simp only
 rw [thU_to (x := p.2) (by rw [has]), has]
theorem aggU_back {a : Ag} (h : OkA a) {ts r : List Tok} (ht : Tx ts = itK (agI a)) : ∃ a', sameA a' a = true ∧ aggU (ts ++ r) = (some a', r) := by
 obtain ⟨h1, h2, h3⟩ := h
 rw [agI, itK_some, itK_app, itK_as] at ht
 obtain ⟨t, ts, rfl, e1, ht⟩ := Tx_cons ht
 have ew : t.2.1 = a.what := arr_eq e1
 have hag : agB t = true := by rw [agB, e1]; exact h1
 obtain ⟨u, b, rfl, hu, hb⟩ := Tx_app ht
 obtain ⟨⟨t2, q, hbe, het⟩, has⟩ := asU_back (r := r) h3 hb
 have hx : ∃ x', sameE false x' a.arg = true ∧ argU t.2.1.data.toList (u ++ (b ++ r)) = (some x', b ++ r) := by
  rcases h2 with ⟨hc, he⟩ | ⟨hc, he⟩
  ·rw [if_pos hc] at hu
   rw [Tx_nil hu, argU, e1, if_pos hc, he]
   exact ⟨ex0, ex0_same, rfl⟩
  ·rw [if_neg hc, itK_app, itK_app, (it_text a.arg).2] at hu
   obtain ⟨u1, u2, rfl, k1, k2⟩ := Tx_app hu
   obtain ⟨o, rfl, ko⟩ := Tx_one (a := [40]) (by rw [k1]; simp [itK])
   obtain ⟨v1, v2, rfl, k3, k4⟩ := Tx_app k2
   obtain ⟨c, rfl, kc⟩ := Tx_one (a := [41]) (by rw [k4]; simp [itK])
   obtain ⟨x', hs, hre⟩ := readE_back (r := c :: (b ++ r)) he k3 (.inr ⟨c, _, rfl, by rw [kc]; decide⟩)
   refine ⟨x', hs, ?_⟩
   have e0 : [o] ++ (v1 ++ [c]) ++ (b ++ r) = o :: (v1 ++ (c :: (b ++ r))) := by simp
   rw [argU, e1, if_neg hc, brU, e0, thU_to (x := ()) (by rw [jU_hit ko]), jU_hit ko]
   simp only
   rw [thU_to (x := x') (by rw [hre]), hre]
   simp only
   rw [thU_to (x := ()) (by rw [jU_hit kc]), jU_hit kc]
 obtain ⟨x', hs, har⟩ := hx
 refine ⟨⟨a.what, x', a.name⟩, by simp [sameA, hs], ?_⟩
 rw [aggU, List.cons_append, nxT, if_pos hag]
 simp only
 rw [List.append_assoc, thU_to (x := x') (by rw [har]), har]
 simp only
 rw [thU_to (x := a.name) (by rw [has]), has, ew]
def All2 {α : Type} (S : α → α → Prop) : List α → List α → Prop
 | [], [] => True
 | x :: xs, y :: ys => S x y ∧ All2 S xs ys
 | _, _ => False
theorem sevU_back {α : Type} {part : List Tok → Option α × List Tok} {K : α → List (List UInt8)} {S : α → α → Prop} {r : List Tok} (hr : nxT (sgT [[44]]) r = none) : ∀ (l : List α) (k : Nat) (acc : List α) (ts : List Tok), l ≠ [] → l.length ≤ k → (∀ x ∈ l, ∀ ts r, Tx ts = K x → ∃ x', S x' x ∧ part (ts ++ r) = (some x', r)) → Tx ts = tkI [44] (l.map K) → ∃ l', All2 S l' l ∧ sevU part k acc (ts ++ r) = (some (acc ++ l'), r)
 | [], k, acc, ts, h, _, _, _ => absurd rfl h
 | [x], 0, acc, ts, _, hk, _, _ => absurd hk (by simp)
 | [x], k + 1, acc, ts, _, hk, hp, ht => by
  obtain ⟨x', h1, h2⟩ := hp x (by simp) ts r ht
  exact ⟨[x'], ⟨h1, trivial⟩, by rw [sevU_last h2 hr]⟩
 | x :: y :: l, 0, acc, ts, _, hk, _, _ => absurd hk (by simp)
 | x :: y :: l, k + 1, acc, ts, _, hk, hp, ht => by
  rw [List.map_cons, List.map_cons, tkI] at ht
  obtain ⟨a, b, rfl, ha, hb⟩ := Tx_app ht
  obtain ⟨c, b', rfl, hc, hb'⟩ := Tx_cons hb
  obtain ⟨x', h1, h2⟩ := hp x (by simp) a (c :: (b' ++ r)) ha
  obtain ⟨l', h3, h4⟩ := sevU_back hr (y :: l) k (acc ++ [x']) b' (by simp) (by simpa using hk) (fun z hz => hp z (by simp [List.mem_cons.1 hz])) hb'
  refine ⟨x' :: l', ⟨h1, h3⟩, ?_⟩
  rw [List.append_assoc, List.cons_append, sevU_more h2 (t := c) (rs' := b' ++ r) (by rw [nxT, if_pos (by simp [sgT, hc])]), h4]
  simp
theorem itK_fr (f : List UInt8) (x : Ex) : itK (frI f x) = wFrom :: f :: itK (whI x) := by simp [frI, itK]
def FreeW (r : List Tok) : Prop := r = [] ∨ ∃ t q, r = t :: q ∧ t.2.1.data.toList = wGroup
theorem FreeW.free {r : List Tok} (h : FreeW r) : Free r := h.imp id fun ⟨t, q, e, h⟩ => ⟨t, q, e, by rw [h]; decide⟩
theorem okN_noOp {x : Ex} (h : OkN x) : noOp x = false := by
 obtain ⟨op, nm, vt, vn, vs, pos, l⟩ := x
 have h1 := (h 1 (.node op nm vt vn vs pos l, 1) (by rw [Ex.pre]; exact List.mem_cons_self ..)).1
 obtain ⟨h2, _⟩ := node_ok h1
 have h2' : (apL op.data.toList opsL).2 = true := h2
 rw [noOp, decide_eq_false_iff_not]
 intro e
 have e' : op.data.toList = [] := e
 rw [e'] at h2'
 exact absurd h2' (by decide)
theorem frU_back {f : ByteArray} {x : Ex} (hf : nameT f.data.toList = true) (hx : OkW x) {ts r : List Tok} (ht : Tx ts = itK (frI f.data.toList x)) (hr : FreeW r) : ∃ x', sameE false x' x = true ∧ frU (ts ++ r) = (some (f, x'), r) := by
 rw [itK_fr] at ht
 obtain ⟨t1, ts, rfl, e1, ht⟩ := Tx_cons ht
 obtain ⟨t2, ts, rfl, e2, ht⟩ := Tx_cons ht
 have hw : ∃ x', sameE false x' x = true ∧ whU (ts ++ r) = (some x', r) := by
  rcases hx with rfl | hx
  ·rw [whI, if_pos (by decide)] at ht
   rw [Tx_nil ht, List.nil_append]
   refine ⟨ex0, ex0_same, ?_⟩
   rw [whU]
   rcases hr with rfl | ⟨t, q, rfl, h⟩
   ·rfl
   ·rw [nxT, if_neg (by simp [sgT, h])]
  ·rw [whI, if_neg (by rw [okN_noOp hx]; decide)] at ht
   obtain ⟨t3, ts, rfl, e3, ht⟩ := Tx_cons (a := wWhere) (B := tkP x) (by rw [ht, itK_none, itK_some, itK_none, (it_text x).2])
   obtain ⟨x', hs, hre⟩ := readE_back hx ht hr.free
   refine ⟨x', hs, ?_⟩
   rw [whU, List.cons_append, nxT, if_pos (by simp [sgT, e3])]
   exact hre
 obtain ⟨x', hs, hwh⟩ := hw
 refine ⟨x', hs, ?_⟩
 rw [frU, List.cons_append, List.cons_append, thU_to (x := ()) (by rw [jU_hit e1]), jU_hit e1]
 simp only
 rw [thU_to (x := f) (by rw [nU_hit e2 hf]), nU_hit e2 hf]
 simp only
 rw [thU_to (x := x') (by rw [hwh]), hwh]
theorem iU_hit {t : Tok} {r : List Tok} {z : Int} (hz : inN z) (hk : GdK t) (h : t.2.1.data.toList = Lib.itoa z) : iU (t :: r) = (some z, r) := by
 have e1 : Lib.itoa z = Lib.decDigits z.toNat := by rw [Lib.itoa, if_neg (by have := hz.1; omega)]
 have h2 := tk_num (n := z.toNat) (r := []) (by have := hz.2; omega) (.inl rfl)
 rw [List.append_nil] at h2
 rw [GdK, h, e1, h2] at hk
 have h3 : t.1 = 2 := (Prod.mk.inj hk).1.symm
 have h4 := (dec_digits z.toNat z.toNat (Nat.le_refl _)).2.1
 rw [iU, nxT, if_pos (by simp [isNum, h3])]
 simp only
 rw [h, e1, nuI, h4]
 congr 2
 have := hz.1
 omega
theorem all2_eq : ∀ {l m : List ByteArray}, All2 (fun a b => a = b) l m → l = m
 | [], [], _ => rfl
 | x :: xs, y :: ys, h => by rw [All2] at h; rw [h.1, all2_eq h.2]
 | [], y :: ys, h => by simp [All2] at h
 | x :: xs, [], h => by simp [All2] at h
theorem nU_part {g : List ByteArray} (hg : ∀ n ∈ g, nameT n.data.toList = true) : ∀ n ∈ g, ∀ ts r, Tx ts = [n.data.toList] → ∃ n', n' = n ∧ nU (ts ++ r) = (some n', r) := fun n hn ts r ht => by
 obtain ⟨t, rfl, e⟩ := Tx_one ht
 exact ⟨n, rfl, nU_hit e (hg n hn)⟩
theorem sev_len {α : Type} (K : α → List (List UInt8)) : ∀ l : List α, (∀ x ∈ l, K x ≠ []) → l.length ≤ (tkI [44] (l.map K)).length
 | [], _ => Nat.zero_le _
 | [x], h => by
  have := List.length_pos_iff.2 (h x (by simp))
  simp only [List.map_cons, List.map_nil, tkI, List.length_cons, List.length_nil]
  omega
 | x :: y :: l, h => by
  have ih := sev_len K (y :: l) (fun z hz => h z (by simp [List.mem_cons.1 hz]))
  rw [List.map_cons, List.map_cons, tkI]
  rw [List.map_cons] at ih
  simp only [List.length_append, List.length_cons] at ih ⊢
  omega
theorem itK_sev {α : Type} (f : α → List Item) (l : List α) : itK (itI cmI (l.map f)) = tkI [44] (l.map fun x => itK (f x)) := by
 rw [itI_words cmI [44] (by simp [itK]), List.map_map]
 rfl
theorem Tx_length {ts : List Tok} {K : List (List UInt8)} (h : Tx ts = K) : ts.length = K.length := by rw [← h, Tx, List.length_map]
theorem grU_back {g : List ByteArray} {z s : Int} (hg : ∀ n ∈ g, nameT n.data.toList = true) (hne : g ≠ []) (hz : inN z) (hs : inN s) {ts : List Tok} (hk : GkA ts) (ht : Tx ts = itK (grI g z s)) : grU ts = (some (g, z, s), []) := by
 have e0 : itK (grI g z s) = wGroup :: wBy :: (tkI [44] (g.map fun n => [n.data.toList]) ++ (wWindow :: Lib.itoa z :: itK (slI z s))) := by
  have := itK_sev (fun n : ByteArray => [wdI n.data.toList]) g
  rw [grI, itK_none, itK_some, itK_none, itK_some, itK_none, itK_app, this, itK_none, itK_some, itK_none, nuIt, itK_some]
  simp [itK]
 rw [e0] at ht
 obtain ⟨t1, ts, rfl, e1, ht⟩ := Tx_cons ht
 obtain ⟨t2, ts, rfl, e2, ht⟩ := Tx_cons ht
 obtain ⟨a, b, rfl, ha, hb⟩ := Tx_app ht
 obtain ⟨t3, b, rfl, e3, hb⟩ := Tx_cons hb
 obtain ⟨t4, b, rfl, e4, hb⟩ := Tx_cons hb
 have hk4 : GdK t4 := hk t4 (by simp)
 have hkb : GkA b := fun t ht => hk t (by simp [ht])
 have hlen := sev_len (fun n : ByteArray => [n.data.toList]) g (fun x _ => by simp)
 rw [← Tx_length ha] at hlen
 obtain ⟨l', hl', hsv⟩ := sevU_back (part := nU) (K := fun n : ByteArray => [n.data.toList]) (S := fun a b => a = b) (r := t3 :: t4 :: b) (by rw [nxT, if_neg (by simp [sgT, e3])]) g ((a ++ t3 :: t4 :: b).length + 1) [] a hne (by rw [List.length_append]; omega) (nU_part hg) ha
 have hsl : slU z b = (some s, []) := by
  rw [slI] at hb
  split at hb
  ·rename_i h0
   rw [Tx_nil hb, h0]
   rfl
  ·obtain ⟨t5, t6, hbe, e5, hb2⟩ := Tx_cons (a := wSlide) (B := [Lib.itoa s]) (by rw [hb]; simp [itK, nuIt])
   obtain ⟨t7, rfl, e7⟩ := Tx_one hb2
   subst hbe
   rw [slU, nxT, if_pos (by simp [sgT, e5])]
   exact iU_hit hs (hkb t7 (by simp)) e7
 rw [grU, thU_to (x := ()) (by rw [jU_hit e1]), jU_hit e1]
 simp only
 rw [thU_to (x := ()) (by rw [jU_hit e2]), jU_hit e2]
 simp only
 rw [thU_to (x := l') (by rw [hsv]; rfl), hsv]
 simp only
 rw [thU_to (x := ()) (by rw [jU_hit e3]), jU_hit e3]
 simp only
 rw [thU_to (x := z) (by rw [iU_hit hz hk4 e4]), iU_hit hz hk4 e4]
 simp only
 rw [thU_to (x := s) (by rw [hsl]), hsl, all2_eq hl']
theorem all2_cols : ∀ {l m : List (Ex × ByteArray)}, All2 (fun a b => sameE false a.1 b.1 = true ∧ a.2 = b.2) l m → sameL false (l.map (·.1)) (m.map (·.1)) = true ∧ l.map (·.2) = m.map (·.2)
 | [], [], _ => ⟨by simp [sameL], rfl⟩
 | x :: xs, y :: ys, h => by
  rw [All2] at h
  obtain ⟨h1, h2⟩ := all2_cols h.2
  rw [List.map_cons, List.map_cons, List.map_cons, List.map_cons, sameL, h1, h.1.1, h.1.2, h2]
  exact ⟨rfl, rfl⟩
 | [], y :: ys, h => by simp [All2] at h
 | x :: xs, [], h => by simp [All2] at h
theorem all2_ags : ∀ {l m : List Ag}, All2 (fun a b => sameA a b = true) l m → samesA l m = true
 | [], [], _ => by rw [samesA]
 | x :: xs, y :: ys, h => by
  rw [All2] at h
  rw [samesA, h.1, all2_ags h.2]
  rfl
 | [], y :: ys, h => by simp [All2] at h
 | x :: xs, [], h => by simp [All2] at h
theorem ag_no {t : Tok} (h : agB t = true) (f : Nat) (r : List Tok) : (uE (f + 1) 7 (t :: r)).1 = none := by
 have h : isAg t.2.1.data.toList = true := h
 simp only [isAg, Bool.or_eq_true, decide_eq_true_eq] at h
 have hL : ∀ P : List UInt8 → Prop, P [99, 111, 117, 110, 116] → P [115, 117, 109] → P [108, 101, 97, 115, 116] → P [109, 111, 115, 116] → P t.2.1.data.toList := fun P h1 h2 h3 h4 => by
  rcases h with h | h | h | h <;> rw [h] <;> assumption
 have a1 : nxT (sgT lenIf) (t :: r) = none := by
  rw [nxT, if_neg]
  exact hL (fun l => ¬ (lenIf.any fun g => g == l) = true) (by decide) (by decide) (by decide) (by decide)
 have a2 : nxT vlT (t :: r) = none := by
  rw [nxT, if_neg]
  intro hv
  refine absurd (of_decide_eq_true hv) ?_
  rcases h with h | h | h | h
  ·exact noval h (by decide) (by decide) (by rw [h]; decide) (by rw [h]; decide)
  ·exact noval h (by decide) (by decide) (by rw [h]; decide) (by rw [h]; decide)
  ·exact noval h (by decide) (by decide) (by rw [h]; decide) (by rw [h]; decide)
  ·exact noval h (by decide) (by decide) (by rw [h]; decide) (by rw [h]; decide)
 have a3 : nxT nmT (t :: r) = none := by
  rw [nxT, if_neg]
  exact hL (fun l => ¬ nameT l = true) (by decide) (by decide) (by decide) (by decide)
 have a4 : nxT (sgT [if ([] : List Ex).length = 0 then [40] else [44]]) (t :: r) = none := by
  rw [nxT, if_neg]
  exact hL (fun l => ¬ ([if ([] : List Ex).length = 0 then [40] else [44]].any fun g => g == l) = true) (by decide) (by decide) (by decide) (by decide)
 rw [uE_7, uOne_br a1 a2 a3, uBr, a4]
 rfl
theorem tk_noAg {x : Ex} (hok : OkN x) {ts : List Tok} (ht : Tx ts = tkP x) (r : List Tok) : nextB agB (ts ++ r) = false ∧ tkP x ≠ [] := by
 obtain ⟨hh, hr7⟩ := rt7 x 1 (fun q hq => (hok 1 q hq).1) (fun q hq => (hok 1 q hq).2)
 obtain ⟨hd, tl, e, _⟩ := hh
 obtain ⟨x', _, he⟩ := hr7 ts r ht
 have ht' := ht
 rw [e] at ht'
 obtain ⟨t, q, rfl, e1, _⟩ := Tx_cons ht'
 refine ⟨?_, by rw [e]; simp⟩
 cases hb : agB t with
 | false => exact hb
 | true =>
  have h1 := ag_no hb (8 * (tkP x).length) (q ++ r)
  have h2 := he (8 * (tkP x).length + 1) (by omega)
  rw [List.cons_append] at h2
  rw [h2] at h1
  exact absurd h1 (by simp)
theorem qU_back {q : Qy} (h : OkQ q) {ts : List Tok} (hk : GkA ts) (ht : Tx ts = itK (qIt q)) : ∃ q', sameQ q' q = true ∧ qU ts = (some q', []) := by
 obtain ⟨hf, hw, h⟩ := h
 rw [qIt, itK_some, itK_none, itK_app, itK_app] at ht
 obtain ⟨t1, ts, rfl, e1, ht⟩ := Tx_cons ht
 obtain ⟨a, b, rfl, ha, hb⟩ := Tx_app ht
 obtain ⟨b1, b2, rfl, hb1, hb2⟩ := Tx_app hb
 rw [qU, thU_to (x := ()) (by rw [jU_hit e1]), jU_hit e1]
 simp only
 have hfrm : nxT (sgT [[44]]) (b1 ++ b2) = none := by
  rw [itK_fr] at hb1
  obtain ⟨t2, b3, rfl, e2, _⟩ := Tx_cons hb1
  rw [List.cons_append, nxT, if_neg (by simp [sgT, e2])]
 rcases h with ⟨h1, h2, h3, h4, c, h5, h6, h7, h8⟩ | ⟨h1, h2, h3, h4, h5, h6, h7, h8⟩
 ·have n1 : ¬ 0 < q.aggs.length := by rw [h1]; simp
  rw [gqI, if_neg n1] at hb2
  obtain rfl := Tx_nil hb2
  rw [itemsI, if_neg n1, h6, h7, zip_parts, itK_sev] at ha
  have hnb : nextB agB (a ++ (b1 ++ [])) = false := by
   match c, h5 with
   | p :: c', _ =>
    have hp := h8 p (by simp)
    obtain ⟨rest, hrest⟩ : ∃ rest, tkI [44] (((p :: c').map fun x => itK (colI x))) = tkP p.1 ++ rest := by
     have e3 : itK (colI p) = tkP p.1 ++ [wAs, p.2.data.toList] := by rw [colI, itK_app, (it_text p.1).2, itK_as]
     cases c' with
     | nil => exact ⟨_, by simp only [List.map_cons, List.map_nil, tkI]; exact e3⟩
     | cons y c' => exact ⟨[wAs, p.2.data.toList] ++ [44] :: tkI [44] ((y :: c').map fun x => itK (colI x)), by simp only [List.map_cons, tkI]; rw [e3]; simp⟩
    rw [hrest] at ha
    obtain ⟨a1, a2, rfl, k1, _⟩ := Tx_app ha
    rw [List.append_assoc]
    exact (tk_noAg hp.1 k1 _).1
  rw [if_neg (by rw [hnb]; decide), qOneU]
  have hlen := sev_len (fun x => itK (colI x)) c (fun x hx => by rw [colI, itK_app, itK_as]; simp)
  rw [← Tx_length ha] at hlen
  obtain ⟨l', hl', hsv⟩ := sevU_back (part := colU) (K := fun x => itK (colI x)) (S := fun a b => sameE false a.1 b.1 = true ∧ a.2 = b.2) (r := b1 ++ []) hfrm c ((a ++ (b1 ++ [])).length + 1) [] a h5 (by rw [List.length_append]; omega) (fun x hx ts r ht => colU_back (h8 x hx).1 (h8 x hx).2 ht) ha
  obtain ⟨x', hs, hfr⟩ := frU_back (r := []) hf hw hb1 (.inl rfl)
  obtain ⟨k1, k2⟩ := all2_cols hl'
  refine ⟨⟨q.frm, x', l'.map (·.1), l'.map (·.2), [], 0, 0, []⟩, ?_, ?_⟩
  ·simp only [sameQ, hs, h6, h7, k1, k2, h1, h2, h3, h4, samesA]
   simp
  ·rw [thU_to (x := l') (by rw [hsv]; rfl), hsv]
   simp only
   rw [thU_to (x := (q.frm, x')) (by rw [hfr]), hfr]
 ·have n1 : 0 < q.aggs.length := List.length_pos_iff.2 h3
  rw [gqI, if_pos n1] at hb2
  rw [itemsI, if_pos n1, itK_sev] at ha
  have hnb : nextB agB (a ++ (b1 ++ b2)) = true := by
   match hq : q.aggs, h3 with
   | p :: c', _ =>
    have hp := h4 p (by rw [hq]; simp)
    rw [hq] at ha
    obtain ⟨rest, hrest⟩ : ∃ rest, tkI [44] (((p :: c').map fun x => itK (agI x))) = p.what.data.toList :: rest := by
     cases c' with
     | nil => exact ⟨_, by simp only [List.map_cons, List.map_nil, tkI]; rw [agI, itK_some]⟩
     | cons y c' => exact ⟨_, by simp only [List.map_cons, tkI]; rw [agI, itK_some, List.cons_append]⟩
    rw [hrest] at ha
    obtain ⟨t, a2, rfl, k1, _⟩ := Tx_cons ha
    show agB t = true
    rw [agB, k1]
    exact hp.1
  rw [if_pos hnb, qTwoU]
  have hlen := sev_len (fun x => itK (agI x)) q.aggs (fun x hx => by rw [agI, itK_some]; simp)
  rw [← Tx_length ha] at hlen
  obtain ⟨l', hl', hsv⟩ := sevU_back (part := aggU) (K := fun x => itK (agI x)) (S := fun a b => sameA a b = true) (r := b1 ++ b2) hfrm q.aggs ((a ++ (b1 ++ b2)).length + 1) [] a h3 (by rw [List.length_append]; omega) (fun x hx ts r ht => aggU_back (h4 x hx) ht) ha
  have hfw : FreeW b2 := by
   obtain ⟨t, q2, e, h, _⟩ := Tx_cons (a := wGroup) (ts := b2) (by rw [hb2, grI, itK_none, itK_some])
   exact .inr ⟨t, q2, e, h⟩
  obtain ⟨x', hs, hfr⟩ := frU_back hf hw hb1 hfw
  have hgr := grU_back h5 h6 h7 h8 (ts := b2) (fun t ht => hk t (by simp [ht])) hb2
  have k1 := all2_ags hl'
  refine ⟨⟨q.frm, x', [], [], q.group, q.size, q.slide, l'⟩, ?_, ?_⟩
  ·simp only [sameQ, hs, h1, h2, k1, sameL]
   simp
  ·rw [thU_to (x := l') (by rw [hsv]; rfl), hsv]
   simp only
   rw [thU_to (x := (q.frm, x')) (by rw [hfr]), hfr]
   simp only
   rw [thU_to (x := (q.group, q.size, q.slide)) (by rw [hgr]), hgr]
theorem stand_bt (s : List UInt8) : ∀ (ts : List Tok) (p : Nat), p ≤ s.length → Stand s p ts → btT ts ≤ s.length - p
 | [], p, _, _ => by rw [btT]; omega
 | t :: ts, p, hp, h => by
  rw [Stand] at h
  obtain ⟨h1, h2, h3, _, h5, h6⟩ := h
  have ih := stand_bt s ts _ h2 h6
  have e : t.2.1.data.toList.length = t.2.1.size := by rw [Lib.size_eq]
  rw [btT, e]
  omega
theorem lexAll_gk {s : List UInt8} {R : List Tok} {p : Nat} (h : lexAll s = (R, 0, p)) : GkA R ∧ btT R ≤ s.length := by
 obtain ⟨_, _, h3, hg⟩ := lexAll_ok h
 refine ⟨fun t ht => ?_, by have := stand_bt s R 0 (Nat.zero_le _) h3; omega⟩
 have := (hg t ht).again [] rfl
 rwa [List.append_nil] at this
theorem okN_ck {x : Ex} (h : OkN x) (hk : ckB x = false) : ckP x = 0 := by
 rw [ckB] at hk
 have h4 : ckP x ≠ 4 := by simpa using hk
 rw [ckP] at h4 ⊢
 cases ht : tgB x with
 | true => rw [ht] at h4; exact absurd rfl h4
 | false =>
  rw [if_neg (by decide)]
  exact fold_ck' _ 0 rfl (fun q hq => (h 1 q hq).1)
theorem sameL_mem : ∀ {l m : List Ex}, sameL false l m = true → ∀ x ∈ l, ∃ y ∈ m, sameE false x y = true
 | [], m, _, x, hx => absurd hx (by simp)
 | a :: l, [], h, x, hx => by simp [sameL] at h
 | a :: l, b :: m, h, x, hx => by
  rw [sameL, Bool.and_eq_true] at h
  rcases List.mem_cons.1 hx with rfl | hx
  ·exact ⟨b, by simp, h.1⟩
  ·obtain ⟨y, hy, he⟩ := sameL_mem h.2 x hx
   exact ⟨y, by simp [hy], he⟩
theorem samesA_mem : ∀ {l m : List Ag}, samesA l m = true → ∀ x ∈ l, ∃ y ∈ m, sameA x y = true
 | [], m, _, x, hx => absurd hx (by simp)
 | a :: l, [], h, x, hx => by simp [samesA] at h
 | a :: l, b :: m, h, x, hx => by
  rw [samesA, Bool.and_eq_true] at h
  rcases List.mem_cons.1 hx with rfl | hx
  ·exact ⟨b, by simp, h.1⟩
  ·obtain ⟨y, hy, he⟩ := samesA_mem h.2 x hx
   exact ⟨y, by simp [hy], he⟩
structure SameQ (a b : Qy) : Prop where
 frm : a.frm = b.frm
 whr : sameE false a.whr b.whr = true
 cols : sameL false a.cols b.cols = true
 names : a.names = b.names
 group : a.group = b.group
 size : a.size = b.size
 slide : a.slide = b.slide
 aggs : samesA a.aggs b.aggs = true
theorem sameQ_is {a b : Qy} : sameQ a b = true ↔ SameQ a b := by
 simp only [sameQ, Bool.and_eq_true, decide_eq_true_eq]
 exact ⟨fun ⟨h1, h2, h3, h4, h5, h6, h7, h8⟩ => ⟨h1, h2, h3, h4, h5, h6, h7, h8⟩, fun ⟨h1, h2, h3, h4, h5, h6, h7, h8⟩ => ⟨h1, h2, h3, h4, h5, h6, h7, h8⟩⟩
theorem same_exs {a b : Qy} (h : sameQ a b = true) : ∀ x ∈ exsQ a, ∃ y ∈ exsQ b, sameE false x y = true := by
 have h := sameQ_is.1 h
 intro x hx
 rw [exsQ] at hx ⊢
 rcases List.mem_cons.1 hx with rfl | hx
 ·exact ⟨b.whr, by simp, h.whr⟩
 rcases List.mem_append.1 hx with hx | hx
 ·obtain ⟨y, hy, he⟩ := sameL_mem h.cols x hx
  exact ⟨y, by simp [hy], he⟩
 ·obtain ⟨a', ha, rfl⟩ := List.mem_map.1 hx
  obtain ⟨y, hy, he⟩ := samesA_mem h.aggs a' ha
  rw [sameA, Bool.and_eq_true, Bool.and_eq_true] at he
  exact ⟨y.arg, by simp only [List.mem_cons, List.mem_append, List.mem_map]; exact .inr (.inr ⟨y, hy, rfl⟩), he.2.1⟩
theorem ok_exs {q : Qy} (h : OkQ q) : ∀ x ∈ exsQ q, x = ex0 ∨ OkN x := by
 obtain ⟨hf, hw, h⟩ := h
 intro x hx
 rw [exsQ] at hx
 rcases List.mem_cons.1 hx with rfl | hx
 ·exact hw
 rcases h with ⟨h1, h2, h3, h4, c, h5, h6, h7, h8⟩ | ⟨h1, h2, h3, h4, h5, h6, h7, h8⟩
 ·rw [h1, h6, List.map_nil, List.append_nil] at hx
  obtain ⟨p, hp, rfl⟩ := List.mem_map.1 hx
  exact .inr (h8 p hp).1
 ·rw [h1, List.nil_append] at hx
  obtain ⟨a, ha, rfl⟩ := List.mem_map.1 hx
  rcases (h4 a ha).2.1 with ⟨_, h⟩ | ⟨_, h⟩
  ·exact .inl h
  ·exact .inr h
theorem ck_ex0 : ckB ex0 = false := by
 have h : tgB ex0 = false := by
  rw [tg_small]
  simp [ex0, Ex.small, Ex.size, Ex.sizes, Ex.deep, Ex.deeps]
 rw [ckB, ckP, h, if_neg (by decide)]
 have : (foldP fck 0 (ex0.pre 1)).1 = 2 := by
  have hn : nodeE (Ex.node ⟨#[]⟩ ⟨#[]⟩ 0 0 ⟨#[]⟩ 0 []) = 2 := by
   rw [nodeE, show (apL (Ex.node ⟨#[]⟩ ⟨#[]⟩ 0 0 ⟨#[]⟩ 0 []).op.data.toList opsL).2 = false from by decide]
   simp [nodeB]
  simp [ex0, Ex.pre, Ex.pres, foldP, fck, hn]
 rw [this]
 rfl
theorem any_false {q : Qy} (h : (exsQ q).any ckB = false) : ∀ x ∈ exsQ q, ckB x = false := fun x hx => by
 rw [List.any_eq_false] at h
 simpa using h x hx
theorem query_back {s : List UInt8} {q : Qy} {p : Nat} (h : qpC s = (q, 0, p)) (hl : s.length ≤ 100) : ∃ q', qpC (wrQ q) = (q', 0, 0) ∧ sameQ q' q = true := by
 rw [qpC] at h
 split at h
 ·rename_i h0
  exact absurd (Prod.mk.inj (Prod.mk.inj h).2).1 h0
 rename_i h0
 have hL : lexAll s = ((lexAll s).1, 0, (lexAll s).2.2) := by
  have : (lexAll s).2.1 = 0 := by simpa using h0
  rw [← this]
 obtain ⟨hk, hb⟩ := lexAll_gk hL
 split at h
 ·rename_i q1 hq
  split at h
  ·exact absurd (Prod.mk.inj (Prod.mk.inj h).2).1 (by decide)
  ·rename_i hck
   obtain ⟨rfl, _⟩ := Prod.mk.inj h
   have hck' : (exsQ q1).any ckB = false := by simpa using hck
   obtain ⟨hok, hlen⟩ := qU_rd hk (by rw [hq])
   have hlen' : (wrI q1).length ≤ 400 := by omega
   have hx := any_false hck'
   have hex := ok_exs hok
   have hz : ∀ x ∈ exsQ q1, x = ex0 ∨ ckP x = 0 := fun x hm => (hex x hm).imp id (fun h => okN_ck h (hx x hm))
   have hokA : ∀ a ∈ q1.aggs, a.what.data.toList = wCount ∨ ckP a.arg = 0 := fun a ha => by
    rcases hok.2.2 with ⟨h1, _⟩ | ⟨_, _, _, h4, _⟩
    ·rw [h1] at ha; exact absurd ha (by simp)
    ·rcases (h4 a ha).2.1 with ⟨h, _⟩ | ⟨_, h⟩
     ·exact .inl h
     ·exact .inr (okN_ck h (hx _ (by simp only [exsQ, List.mem_cons, List.mem_append, List.mem_map]; exact .inr (.inr ⟨a, ha, rfl⟩))))
   have hokC : ∀ x ∈ q1.cols, ckP x = 0 := fun x hc => by
    rcases hok.2.2 with ⟨_, _, _, _, c, _, h6, _, h8⟩ | ⟨h1, _⟩
    ·have hm : x ∈ exsQ q1 := by simp only [exsQ, List.mem_cons, List.mem_append]; exact .inr (.inl hc)
     rw [h6] at hc
     obtain ⟨p, hp, rfl⟩ := List.mem_map.1 hc
     exact okN_ck (h8 p hp).1 (hx _ hm)
    ·rw [h1] at hc; exact absurd hc (by simp)
   have hokW : noOp q1.whr = true ∨ ckP q1.whr = 0 := by
    rcases hok.2.1 with h | h
    ·rw [h]; exact .inl (by decide)
    ·exact .inr (okN_ck h (hx _ (by simp [exsQ])))
   have hit := it_q hok hokW hokC hokA
   have hop := okp_q hok
   have hkl := itK_len _ hop
   obtain ⟨ts, e1, e2⟩ := lex_items (qIt q1) ((wrI q1).length + 1) 0 [] hop (by rw [hit] at hkl; omega)
   have hlx : lexAll (wrI q1) = (ts, 0, 0) := by
    rw [lexAll, if_neg (by omega)]
    rw [hit, List.nil_append] at e1
    exact e1
   obtain ⟨hk2, _⟩ := lexAll_gk hlx
   obtain ⟨q', hs, hqu⟩ := qU_back hok hk2 e2
   refine ⟨q', ?_, hs⟩
   obtain ⟨hok', _⟩ := qU_rd hk2 (by rw [hqu])
   have hany : (exsQ q').any ckB = false := by
    rw [List.any_eq_false]
    intro x hm
    have : ckB x = false := by
     rcases ok_exs hok' x hm with rfl | hn
     ·exact ck_ex0
     ·obtain ⟨y, hy, hsy⟩ := same_exs hs x hm
      have hty : tgB y = false := by
       have h4 := hx y hy
       cases ht : tgB y with
       | false => rfl
       | true =>
        rw [ckB, ckP, ht, if_pos rfl] at h4
        exact absurd h4 (by decide)
      have htx : tgB x = false := by rw [same_tg hsy]; exact hty
      rw [ckB, ckP, htx, if_neg (by decide), fold_ck' _ 0 rfl (fun q hq => (hn 1 q hq).1)]
      rfl
    simpa using this
   rw [wrQ, if_pos hlen', qpC, hlx]
   simp only
   rw [if_neg (by decide), hqu]
   simp only
   rw [if_neg (by rw [hany]; decide)]
 ·exact absurd (Prod.mk.inj (Prod.mk.inj h).2).1 (by decide)
end Go.Proofs.YtkbhmghdonomnaaGreatDoor
namespace Go.Proofs.YtkbhmghdonomnaaGreatDoor
open Go.RowKit Go.BigFrame
set_option linter.unusedVariables false
set_option linter.unusedSimpArgs false
abbrev q0D : Array Value := #[.string ⟨#[]⟩, .string ⟨#[]⟩, .string ⟨#[]⟩, .int .i64 0, .int .i64 0, .string ⟨#[]⟩, .slice none 0 0, .int .i64 0, .slice none 0 0, .slice none 0 0, .slice none 0 0, .int .i64 0, .int .i64 0, .slice none 0 0]
theorem size_qyD : (Tryz.prog.info? 30).map (·.size) = some 14 := by kernel_rfl
theorem thereD {w : World} {b : Nat} {cs : Array Value} {t : TypeId} (h : Blk w b cs t) (o n : Nat) (hn : o + n ≤ cs.size) : w.there b o n := fun j hj => by
 refine ⟨?_, h.frozen _⟩
 rw [h.cell, Array.getElem?_eq_getElem (by omega)]
 rfl
def putD : Array Value → Nat → List Value → Array Value
 | cs, _, [] => cs
 | cs, o, v :: r => putD (cs.setIfInBounds o v) (o + 1) r
theorem blkD_cells {b : Nat} {t : TypeId} : ∀ (vs : List Value) (o : Nat) (w : World) (cs : Array Value), Blk w b cs t → Blk (w.setCells b o vs) b (putD cs o vs) t
 | [], _, _, _, h => h
 | v :: r, o, _, _, h => blkD_cells r (o + 1) _ _ (h.set o v)
theorem putD14 {a0 a1 a2 a3 a4 a5 a6 a7 a8 a9 a10 a11 a12 a13 : Value} (v0 v1 v2 v3 v4 v5 v6 v7 v8 v9 v10 v11 v12 v13 : Value) : putD #[a0, a1, a2, a3, a4, a5, a6, a7, a8, a9, a10, a11, a12, a13] 0 [v0, v1, v2, v3, v4, v5, v6, v7, v8, v9, v10, v11, v12, v13] = #[v0, v1, v2, v3, v4, v5, v6, v7, v8, v9, v10, v11, v12, v13] := by
 simp only [putD, List.setIfInBounds_toArray, List.set_cons_zero, List.set_cons_succ, Nat.zero_add, Nat.reduceAdd]
theorem belowD_cells {B b : Nat} {a : World} (hb : B ≤ b) : ∀ (vs : List Value) (o : Nat) (w : World), Below B a w → Below B a (w.setCells b o vs)
 | [], _, _, h => h
 | v :: r, o, w, h => belowD_cells hb r (o + 1) _ (h.setCell (p := ⟨b, o, none⟩) hb v)
theorem cellsD_far {b : Nat} : ∀ (vs : List Value) (o : Nat) (w : World) (c : Nat), c ≠ b → (w.setCells b o vs).heap[c]? = w.heap[c]?
 | [], _, _, _, _ => rfl
 | v :: r, o, w, c, h => by
  show ((w.setCell ⟨b, o, none⟩ v).setCells b (o + 1) r).heap[c]? = _
  rw [cellsD_far r (o + 1) _ c h]
  exact heap_setCell_other w _ c v h
theorem set14 (w : World) (b : Nat) (v0 v1 v2 v3 v4 v5 v6 v7 v8 v9 v10 v11 v12 v13 : Value) : ((((((((((((((w.setCell ⟨b, 0, none⟩ v0).setCell ⟨b, 1, none⟩ v1).setCell ⟨b, 2, none⟩ v2).setCell ⟨b, 3, none⟩ v3).setCell ⟨b, 4, none⟩ v4).setCell ⟨b, 5, none⟩ v5).setCell ⟨b, 6, none⟩ v6).setCell ⟨b, 7, none⟩ v7).setCell ⟨b, 8, none⟩ v8).setCell ⟨b, 9, none⟩ v9).setCell ⟨b, 10, none⟩ v10).setCell ⟨b, 11, none⟩ v11).setCell ⟨b, 12, none⟩ v12).setCell ⟨b, 13, none⟩ v13) = w.setCells b 0 [v0, v1, v2, v3, v4, v5, v6, v7, v8, v9, v10, v11, v12, v13] := rfl
theorem qyZ_in (w : World) (lo : Nat → Prop) : QyIn w lo (.agg q0D) qyZ :=
 ⟨none, 0, none, 0, none, 0, none, 0, none, 0, rfl, ⟨ex_zero _ _, ⟨none, 0, rfl, ⟨Nat.zero_le _, Nat.zero_le _⟩, .inl rfl⟩, Nat.zero_le _, StsA.nil _, StsA.nil _, ⟨Nat.zero_le _, .inl rfl⟩⟩⟩
theorem parse_end (a : Act) (w W : World) (QC : Array Value) (E : Int) (P : Nat) (q : Qy) (hsz : QC.size = 14) (h2 : a.tmps[2]? = some (.pointer (some ⟨w.heap.size, 0, none⟩))) (h3 : a.tmps[3]? = some (.pointer (some ⟨w.heap.size + 1, 0, none⟩))) (hd : a.defers = [])
  (hq : QyIn W (fun _ => True) (.agg QC) q) (X : Blk W w.heap.size QC 30) (Y : Blk W (w.heap.size + 1) #[.int .i64 E, .int .i64 (P : Nat)] 34) (B : Below w.heap.size w W) :
  bodyPost Tryz.prog Tryz.f5 (fun e w' => (∃ v, e = .returned (.tuple #[v, .agg #[.int .i64 E, .int .i64 (P : Nat)]]) ∧ QyIn w' (fun _ => True) v q) ∧ Below w.heap.size w w') .ret a W := by
 have hl := run_loadVar_mid (P := Tryz.prog) W w.heap.size 0 30 QC.toList _ (fun j v hv => by rw [X.cell, Nat.zero_add]; simpa using hv) Tryz.underlying30 rfl (by rw [size_qyD, Array.length_toList, hsz])
 have hl2 := run_loadVar_mid (P := Tryz.prog) W (w.heap.size + 1) 0 34 [.int .i64 E, .int .i64 (P : Nat)] _ (fun j v hv => by rw [Y.cell, Nat.zero_add]; simpa using hv) Tryz.underlying34 rfl (by kernel_rfl)
 refine bodyPost_ret (v := .tuple #[.agg QC, .agg #[.int .i64 E, .int .i64 (P : Nat)]]) ?_ ?_ ⟨⟨_, rfl, hq⟩, B⟩
 ·rw [Array.toArray_toList] at hl
  simp [results, Tryz.results5, h2, h3, hl, hl2, asAddr, Sem.run_bind, Sem.run_pure]
 ·exact hd
set_option maxHeartbeats 8000000 in
set_option maxRecDepth 20000 in
theorem parse_bad (s : ByteArray) (w : World) (henv : TEnv w) (hw : SG w) (R : List Tok) (E : Int) (P : Nat) (hL : lexAll s.data.toList = (R, E, P)) (hE : E ≠ 0) (hs : s.size ≤ maxLen) :
  Calls Tryz.prog 5 #[.string s] w fun e w' => (∃ v, e = .returned (.tuple #[v, .agg #[.int .i64 E, .int .i64 (P : Nat)]]) ∧ QyIn w' (fun _ => True) v qyZ) ∧ Below w.heap.size w w' := by
 have X0 : Aside (Blk ((w.alloc (.cells q0D 30)).alloc (.cells #[.int .i64 0, .int .i64 0] 34)) w.heap.size q0D 30) := (blk_alloc w _ _).on (al _ _)
 have Y0 : Aside (Blk ((w.alloc (.cells q0D 30)).alloc (.cells #[.int .i64 0, .int .i64 0] 34)) (w.heap.size + 1) #[.int .i64 0, .int .i64 0] 34) := by
  have := blk_alloc (w.alloc (.cells q0D 30)) #[.int .i64 0, .int .i64 0] 34
  rwa [show (w.alloc (.cells q0D 30)).heap.size = w.heap.size + 1 by simp] at this
 have b0 : Below w.heap.size w ((w.alloc (.cells q0D 30)).alloc (.cells #[.int .i64 0, .int .i64 0] 34)) := (al w _).alloc (by simp) _
 have cN := newReader_bad s _ (henv.on b0) (hw.on b0) R E P hL hE hs
 have hb0 : (E == 0) = false := by simpa using hE
 clear henv hw hL hE hs
 go_enter Tryz.func5, Tryz.ntmps5
 go_wp2_with fail
 refine cN.mono ?_
 rintro e w1 ⟨rfl, b1⟩
 have X1 : Blk w1 w.heap.size q0D 30 := X0.out.on b1
 have Y1 : Blk w1 (w.heap.size + 1) #[.int .i64 0, .int .i64 0] 34 := Y0.out.on b1
 have B1 : Below w.heap.size w w1 := b0.trans (b1.mono b0.size)
 have hz : w.heap.size + 2 ≤ w1.heap.size := by have := Y1.lt; omega
 clear cN b1 X0 Y0 b0
 have c0 : ∀ i, w1.cell? ⟨w.heap.size, i, none⟩ = q0D[i]? := X1.cell
 have f0 : ∀ i, w1.frozen? ⟨w.heap.size, i, none⟩ = false := X1.frozen
 have c1 : ∀ i, w1.cell? ⟨w.heap.size + 1, i, none⟩ = (#[.int .i64 0, .int .i64 0] : Array Value)[i]? := Y1.cell
 have f1 : ∀ i, w1.frozen? ⟨w.heap.size + 1, i, none⟩ = false := Y1.frozen
 have l0 : w.heap.size < w1.heap.size := by omega
 have l1 : w.heap.size + 1 < w1.heap.size := by omega
 go_wp2
 go_region
 all_goals
  go_wp2
  rw [set14]
  have X2 : Blk (w1.setCells w.heap.size 0 q0D.toList) w.heap.size q0D 30 := by
   have := blkD_cells q0D.toList 0 w1 _ X1
   rwa [show putD q0D 0 q0D.toList = q0D from putD14 _ _ _ _ _ _ _ _ _ _ _ _ _ _] at this
  have Y2 : Blk (w1.setCells w.heap.size 0 q0D.toList) (w.heap.size + 1) #[.int .i64 0, .int .i64 0] 34 := Y1.keep (cellsD_far _ _ _ _ (by omega))
  have B2 : Below w.heap.size w (w1.setCells w.heap.size 0 q0D.toList) := belowD_cells (Nat.le_refl _) _ _ _ B1
  clear X1 Y1 B1 c0 f0 c1 f1
  change bodyPost _ _ _ _ _ ((((w1.setCells w.heap.size 0 q0D.toList).setCell _ _).setCell _ _).alloc _).drew
  generalize w1.setCells w.heap.size 0 q0D.toList = W2 at X2 Y2 B2 ⊢
  have X3 := ((X2.far (z := w.heap.size + 1) (by omega) 0 (.int .i64 E)).far (z := w.heap.size + 1) (by omega) 1 (.int .i64 (P : Nat)))
  have Y3 := (Y2.set 0 (.int .i64 E)).set 1 (.int .i64 (P : Nat))
  have B3 := (B2.setCell (p := ⟨w.heap.size + 1, 0, none⟩) (by simp) (.int .i64 E)).setCell (p := ⟨w.heap.size + 1, 1, none⟩) (by simp) (.int .i64 (P : Nat))
  exact parse_end _ w _ q0D E P qyZ rfl rfl rfl rfl (qyZ_in _ _) (X3.on (Below.drew (al _ _))) (Y3.on (Below.drew (al _ _))) (Below.drew (B3.alloc B3.size _))
theorem st14 {V : World} {b : Nat} {CS QC : Array Value} (X : Blk V b CS 30) (hcs : CS.size = 14) (hq : QC.size = 14) (h1 : QC.all (·.oneCell') = true) (W9 : World) (h9 : V.setCells b 0 QC.toList = W9) {ops : Array Oper} {rest : List Oper} {op : Oper} {a : Act} {Q : Exit → Act → World → Prop} (hgd : op.guard = none) (p y : Operand) (ho : op.op = .store 30 p y) (hx : a.eval p = .pointer (some ⟨b, 0, none⟩)) (hy : a.eval y = .agg QC) (h : wpList Tryz.prog ops Q rest (a.put op.dst undef) W9) : wpList Tryz.prog ops Q (op :: rest) a V := by
 subst h9
 exact wpList_store_mid hgd 30 p y ho b 0 QC hx hy (thereD X 0 QC.size (by omega)) (by rw [size_qyD, hq]) h1 h
theorem AgsIs.keepL {w w' : World} {lo : Nat → Prop} {p : Option Addr} {l : List Ag} (h : AgsIs w lo p l) (hz : w.heap.size ≤ w'.heap.size) (hk : ∀ b o : Nat, lo b → b < w.heap.size → w'.cell? ⟨b, o, none⟩ = w.cell? ⟨b, o, none⟩) : AgsIs w' lo p l := by
 obtain ⟨h1, h2⟩ := h
 refine ⟨h1, ?_⟩
 rcases h2 with h2 | ⟨b, off, e, hl, hlo, h3⟩
 ·exact .inl h2
 ·refine .inr ⟨b, off, e, by omega, hlo, fun j hj => ?_⟩
  obtain ⟨ap, ac, c0, c1, c2, c3, c4, c5, c6, c7, c8, hx⟩ := h3 j hj
  have k : ∀ o, w'.cell? ⟨b, o, none⟩ = w.cell? ⟨b, o, none⟩ := fun o => hk b o hlo hl
  exact ⟨ap, ac, by rw [k]; exact c0, by rw [k]; exact c1, by rw [k]; exact c2, by rw [k]; exact c3, by rw [k]; exact c4, by rw [k]; exact c5, by rw [k]; exact c6, by rw [k]; exact c7, by rw [k]; exact c8, ExIn.keep hz hk _ _ hx⟩
theorem AgsIs.lowT {w : World} {lo : Nat → Prop} {p : Option Addr} {l : List Ag} (h : AgsIs w lo p l) : AgsIs w (fun _ => True) p l := by
 obtain ⟨h1, h2⟩ := h
 refine ⟨h1, ?_⟩
 rcases h2 with h2 | ⟨b, off, e, hl, hlo, h3⟩
 ·exact .inl h2
 ·refine .inr ⟨b, off, e, hl, trivial, fun j hj => ?_⟩
  obtain ⟨ap, ac, c0, c1, c2, c3, c4, c5, c6, c7, c8, hx⟩ := h3 j hj
  exact ⟨ap, ac, c0, c1, c2, c3, c4, c5, c6, c7, c8, ExIn.low (fun _ _ _ => trivial) _ _ hx⟩
theorem ArgsIs.lowT {w : World} {lo : Nat → Prop} {v : Value} {l : List Ex} (h : ArgsIs w lo v l) : ArgsIs w (fun _ => True) v l := by
 obtain ⟨p, c, e, hc, h⟩ := h
 refine ⟨p, c, e, hc, ?_⟩
 rcases h with h | ⟨b, off, e2, hb, hlo, hE⟩
 ·exact .inl h
 ·refine .inr ⟨b, off, e2, hb, trivial, exsIn_mk _ _ _ _ _ fun j hj => ?_⟩
  obtain ⟨v0, v1, v2, v3, v4, v5, v6, c0, c1, c2, c3, c4, c5, c6, hx⟩ := exsIn_at _ _ _ _ _ hE j hj
  exact ⟨v0, v1, v2, v3, v4, v5, v6, c0, c1, c2, c3, c4, c5, c6, ExIn.low (fun _ _ _ => trivial) _ _ hx⟩
theorem StsA.apart {w w' : World} {b : Nat} {v : Value} {ts : List ByteArray} (h : StsA w v ts) (hn : ∀ s ∈ ts, nameT s.data.toList = true) (X : Blk w b q0D 30) (Y : Blk w (b + 1) #[.int .i64 0, .int .i64 0] 34) (hz : w.heap.size ≤ w'.heap.size) (hk : ∀ c, c ≠ b → c ≠ b + 1 → c < w.heap.size → w'.heap[c]? = w.heap[c]?) : StsA w' v ts := by
 obtain ⟨p, c, e, h1, h2, h3⟩ := h
 refine ⟨p, c, e, h1, h2, fun a ha => ?_⟩
 rcases h3 a ha with h0 | ⟨g, off, e2, h5, h6⟩
 ·exact .inl h0
 ·by_cases hl : ts.length = 0
  ·exact .inl hl
  have h7 := h6 0 (by omega)
  have hne : ts[0].data.toList ≠ [] := fun e => by
   have := hn ts[0] (List.getElem_mem _)
   rw [e] at this
   exact absurd this (by decide)
  have g1 : g ≠ b := fun e => by
   subst e
   rw [X.cell] at h7
   have key : ∀ (i : Nat) (s : ByteArray), q0D[i]? = some (.string s) → s.data.toList = [] := fun i s hs => by
    have hi : i < 14 := by
     have := (Array.getElem?_eq_some_iff.1 hs).1
     exact this
    have hi' : i = 0 ∨ i = 1 ∨ i = 2 ∨ i = 3 ∨ i = 4 ∨ i = 5 ∨ i = 6 ∨ i = 7 ∨ i = 8 ∨ i = 9 ∨ i = 10 ∨ i = 11 ∨ i = 12 ∨ i = 13 := by omega
    rcases hi' with rfl | rfl | rfl | rfl | rfl | rfl | rfl | rfl | rfl | rfl | rfl | rfl | rfl | rfl
    all_goals
     simp at hs
     try (rw [← hs])
   exact hne (key _ _ h7)
  have g2 : g ≠ b + 1 := fun e => by
   subst e
   rw [Y.cell] at h7
   have hi : off + 0 < 2 := (Array.getElem?_eq_some_iff.1 h7).1
   have hi' : off = 0 ∨ off = 1 := by omega
   rcases hi' with rfl | rfl <;> simp at h7
  refine .inr ⟨g, off, e2, by omega, fun j hj => ?_⟩
  have := hk g g1 g2 h5
  simp only [World.cell?, this]
  exact h6 j hj
theorem QyBe.boxed {w w' : World} {b B : Nat} {q : Qy} {wp : Option Addr} {wc : Nat} {cp : Option Addr} {cc : Nat} {np : Option Addr} {nc : Nat} {gp : Option Addr} {gc : Nat} {ap : Option Addr} {ac : Nat} (h : QyBe w (B ≤ ·) q wp wc cp cc np nc gp gc ap ac) (hB : b + 1 < B) (hq : OkQ q) (X : Blk w b q0D 30) (Y : Blk w (b + 1) #[.int .i64 0, .int .i64 0] 34) (hz : w.heap.size ≤ w'.heap.size) (hk : ∀ c, c ≠ b → c ≠ b + 1 → c < w.heap.size → w'.heap[c]? = w.heap[c]?) : QyBe w' (fun _ => True) q wp wc cp cc np nc gp gc ap ac := by
 have hc : ∀ c o : Nat, B ≤ c → c < w.heap.size → w'.cell? ⟨c, o, none⟩ = w.cell? ⟨c, o, none⟩ := fun c o h1 h2 => by
  have := hk c (by omega) (by omega) h2
  simp only [World.cell?, this]
 have hn : (∀ s ∈ q.names, nameT s.data.toList = true) ∧ (∀ s ∈ q.group, nameT s.data.toList = true) := by
  rcases hq.2.2 with ⟨_, h2, _, _, c, _, _, h7, h8⟩ | ⟨_, h2, _, _, h5, _⟩
  ·rw [h7, h2]
   refine ⟨fun s hs => ?_, fun s hs => absurd hs (by simp)⟩
   obtain ⟨p, hp, rfl⟩ := List.mem_map.1 hs
   exact (h8 p hp).2
  ·rw [h2]
   exact ⟨fun s hs => absurd hs (by simp), h5⟩
 exact ⟨ExIn.low (fun _ _ _ => trivial) _ _ (ExIn.keep hz hc _ _ h.whr), (h.cols.keep hz hc).lowT, h.clen, h.names.apart hn.1 X Y hz hk, h.group.apart hn.2 X Y hz hk, (h.aggs.keepL hz hc).lowT⟩
end Go.Proofs.YtkbhmghdonomnaaGreatDoor
