/-
  TreeMk, TreeSn, TreeBl, TreeBx, TreeBw, in one text.
-/
import Derived.Test.YtkoejkpjkcejcaaGreatDoorGrAr
import Derived.Test.YtkoejkpjkcejcaaGreatDoorGrAi
import Derived.Test.YtkoejkpjkcejcaaGreatDoorGrAq
import Derived.Test.YtkoejkpjkcejcaaGreatDoorGrAh
import Derived.Test.YtkoejkpjkcejcaaGreatDoorGrAj
import Derived.Test.YtkoejkpjkcejcaaGreatDoorGrAk
import Derived.Test.YtkoejkpjkcejcaaGreatDoorGrAp
import Derived.Deep.RegionWith
import Derived.Deep.DeepCutAuto
import Derived.Deep.QuietTactic
namespace Go.Proofs.YtkoejkpjkcejcaaGreatDoor
set_option linter.unusedVariables false

theorem sameL_all {b : Bool} : ∀ {l m : List Ex}, sameL b l m = true → l.length = m.length ∧ ∀ i (h : i < l.length) (h2 : i < m.length), sameE b l[i] m[i] = true
  | [], [], _ => ⟨rfl, fun i h => absurd h (by simp)⟩
  | [], _ :: _, h => by simp [sameL] at h
  | _ :: _, [], h => by simp [sameL] at h
  | x :: xs, y :: ys, h => by
    rw [sameL, Bool.and_eq_true] at h
    obtain ⟨h1, h2⟩ := sameL_all h.2
    refine ⟨by simp [h1], fun i hi hj => ?_⟩
    cases i with
    | zero => exact h.1
    | succ i => exact h2 i (by simpa using hi) (by simpa using hj)
theorem sizes_same {b : Bool} : ∀ {l m : List Ex}, (∀ y ∈ l, ∀ z, sameE b y z = true → y.size = z.size ∧ y.deep = z.deep) → sameL b l m = true → Ex.sizes l = Ex.sizes m ∧ Ex.deeps l = Ex.deeps m
  | [], [], _, _ => ⟨rfl, rfl⟩
  | [], _ :: _, _, h => by simp [sameL] at h
  | _ :: _, [], _, h => by simp [sameL] at h
  | x :: xs, y :: ys, hI, h => by
    rw [sameL, Bool.and_eq_true] at h
    obtain ⟨h1, h2⟩ := hI x (by simp) y h.1
    obtain ⟨h3, h4⟩ := sizes_same (fun z hz => hI z (by simp [hz])) h.2
    rw [Ex.sizes, Ex.sizes, Ex.deeps, Ex.deeps, h1, h2, h3, h4]
    exact ⟨rfl, rfl⟩
theorem same_size {b : Bool} : ∀ (x y : Ex), sameE b x y = true → x.size = y.size ∧ x.deep = y.deep := by
  refine Ex.ind fun op nm vt vn vs pos l ih y h => ?_
  obtain ⟨op2, nm2, vt2, vn2, vs2, pos2, l2⟩ := y
  rw [sameE] at h
  simp only [Bool.and_eq_true] at h
  obtain ⟨h1, h2⟩ := sizes_same (fun z hz => ih z hz) h.2.2.2.2
  rw [Ex.size, Ex.size, Ex.deep, Ex.deep, h1, h2]
  exact ⟨rfl, rfl⟩
theorem same_tg {b : Bool} {x y : Ex} (h : sameE b x y = true) : tgB x = tgB y := by
  obtain ⟨h1, h2⟩ := same_size x y h
  rw [tg_small, tg_small, Ex.small, Ex.small, h1, h2]
theorem cnd_nil {ts : List Tok} (hm : nxT (sgT [[45]]) ts = none) (hn : nxT (sgT [[110, 111, 116]]) ts = none) (L : Nat) : Cnd ts [] L := by
  rw [Cnd]
  split
  · exact hn
  split
  · exact hm
  · rfl
/-- Parse reads an expression's text as it was. -/
theorem parse_tx {x : Ex} (hck : ckP x = 0) (hi : ∀ q ∈ x.pre 1, inI q.1.vn) (hl : (txP x).length ≤ 400) : ∃ e, parseP (txP x) = (e, 0, 0) ∧ sameE false e x = true := by
  obtain ⟨htg, hn⟩ := ckP_zero hck
  obtain ⟨ts, h1, h2⟩ := lex_tx hn hi hl
  obtain ⟨hh, hr⟩ := rt7 x 1 hn hi
  obtain ⟨e, hs, he⟩ := hr ts [] h2
  obtain ⟨hm, hnn⟩ := hh.none (r := []) h2
  rw [List.append_nil] at he hm hnn
  have hlen : ts.length = (tkP x).length := by rw [← h2, Tx, List.length_map]
  have hread : readE ts = (some e, []) := by
    rw [readE]
    have := uE_lift 7 (ts.length * 8 + 1) 0 (by omega) (he _ (by omega)) (fun k _ _ => cnd_nil hm hnn k)
    rwa [show ts.length * 8 + 1 + 7 = ts.length * 8 + 8 from by omega] at this
  refine ⟨e, ?_, hs⟩
  rw [parseP, h1]
  simp only
  rw [if_neg (by decide), hread]
  simp only
  rw [if_neg (by rw [same_tg hs, htg]; decide)]
end Go.Proofs.YtkoejkpjkcejcaaGreatDoor
namespace Go.Proofs.YtkoejkpjkcejcaaGreatDoor
set_option linter.unusedVariables false

/-- Each node is right, and its number is a machine's. -/
def OkN (x : Ex) : Prop := ∀ d, ∀ q ∈ x.pre d, nodeE q.1 = 0 ∧ inI q.1.vn
theorem pres_inv {d : Nat} {q : Ex × Nat} : ∀ {l : List Ex}, q ∈ Ex.pres d l → ∃ y ∈ l, q ∈ y.pre d
  | [], h => by rw [Ex.pres] at h; exact absurd h (by simp)
  | x :: xs, h => by
    rw [Ex.pres] at h
    rcases List.mem_append.1 h with h | h
    · exact ⟨x, by simp, h⟩
    · obtain ⟨y, hy, hq⟩ := pres_inv h
      exact ⟨y, by simp [hy], hq⟩
theorem okN_mk {op nm vs : ByteArray} {vt vn pos : Int} {l : List Ex} (h : nodeE (.node op nm vt vn vs pos l) = 0) (hv : inI vn) (hl : ∀ y ∈ l, OkN y) : OkN (.node op nm vt vn vs pos l) := by
  intro d q hq
  rw [Ex.pre] at hq
  rcases List.mem_cons.1 hq with rfl | hq
  · exact ⟨h, hv⟩
  · obtain ⟨y, hy, hq⟩ := pres_inv hq
    exact hl y hy (d + 1) q hq
theorem in0 : inI 0 := by unfold inI; omega
/-- A node of an operation whose parts are as many. -/
theorem nodeE_op {op : ByteArray} {pos : Int} {l : List Ex} (h1 : apL op.data.toList opsL = ((l.length : Int), true)) (h2 : op.data.toList ≠ [118, 97, 108]) (h3 : op.data.toList ≠ [99, 111, 108]) : nodeE (.node op ⟨#[]⟩ 0 0 ⟨#[]⟩ pos l) = 0 := by
  have e1 : nodeE (.node op ⟨#[]⟩ 0 0 ⟨#[]⟩ pos l) = nodeB (apL op.data.toList opsL).2 (op.toList == [99, 111, 108]) (nameT (⟨#[]⟩ : ByteArray).data.toList) ((l.length : Int) != (apL op.data.toList opsL).1) (!((⟨#[]⟩ : ByteArray).toList == [])) (op.toList == [118, 97, 108]) (!(((0 : Int) == 0) && (((0 : Int) == 0) && ((⟨#[]⟩ : ByteArray).toList == [])))) (ckV 0 0 (⟨#[]⟩ : ByteArray).data.toList) := rfl
  have q2 : (op.toList == [118, 97, 108]) = false := by rw [Lib.toList_data]; simpa using h2
  have q3 : (op.toList == [99, 111, 108]) = false := by rw [Lib.toList_data]; simpa using h3
  have q4 : ((⟨#[]⟩ : ByteArray).toList == ([] : List UInt8)) = true := by rw [Lib.toList_data]; rfl
  rw [e1, h1, q2, q3, q4]
  simp [nodeB]
theorem bin_ap {op : List UInt8} (h : op ∈ bin14) : apL op opsL = (2, true) ∧ op ≠ [118, 97, 108] ∧ op ≠ [99, 111, 108] := by
  simp only [bin14, List.mem_cons, List.not_mem_nil, or_false] at h
  rcases h with rfl | rfl | rfl | rfl | rfl | rfl | rfl | rfl | rfl | rfl | rfl | rfl | rfl <;> decide
theorem okN_bet {a b : Ex} {t : Tok} (ht : t.2.1.data.toList ∈ bin14) (ha : OkN a) (hb : OkN b) : OkN (betT a t b) := by
  obtain ⟨h1, h2, h3⟩ := bin_ap ht
  exact okN_mk (nodeE_op h1 h2 h3) in0 (fun y hy => by
    rcases List.mem_cons.1 hy with rfl | hy
    · exact ha
    · rw [List.mem_singleton.1 hy]; exact hb)
theorem okN_op1 {op : List UInt8} {pos : Int} {e : Ex} (ho : op = [110, 111, 116] ∨ op = [110, 101, 103]) (he : OkN e) : OkN (op1 op pos [e]) := by
  have h : ∀ o : List UInt8, o = op → apL o opsL = (1, true) ∧ o ≠ [118, 97, 108] ∧ o ≠ [99, 111, 108] := fun o e => by
    rcases ho with h | h <;> rw [e, h] <;> decide
  obtain ⟨h1, h2, h3⟩ := h (⟨op.toArray⟩ : ByteArray).data.toList rfl
  exact okN_mk (nodeE_op h1 h2 h3) in0 (fun y hy => by rw [List.mem_singleton.1 hy]; exact he)
/-- A word as there is one in a text. -/
def GdT (t : Tok) : Prop := ∃ k, tokAt t.2.1.data.toList = (k, t.2.1.data.toList.length, 0)
theorem readV_right {s : ByteArray} {T n : Int} {l : List UInt8} (h : readV s = (T, n, l, 0)) : chk T n l = 0 ∧ inI n ∧ (T = 1 → Lib.itoa n = s.data.toList) := by
  rw [readV] at h
  split at h
  · simp only [Prod.mk.injEq] at h
    obtain ⟨rfl, rfl, rfl, _⟩ := h
    exact ⟨by decide, by unfold inI; omega, fun e => absurd e (by decide)⟩
  split at h
  · simp only [Prod.mk.injEq] at h
    obtain ⟨rfl, rfl, rfl, _⟩ := h
    exact ⟨by decide, in0, fun e => absurd e (by decide)⟩
  split at h
  · split at h
    · simp at h
    · split at h
      · simp at h
      · split at h
        · simp at h
        · rename_i l0 _ hp hl
          simp only [Prod.mk.injEq] at h
          obtain ⟨rfl, rfl, rfl, _⟩ := h
          refine ⟨?_, in0, fun e => absurd e (by decide)⟩
          have hp' : plainB l0 = true := by simpa using hp
          simp [chk, hp']
          omega
  · split at h
    · rename_i m hm
      split at h
      · rename_i he
        simp only [Prod.mk.injEq] at h
        obtain ⟨rfl, rfl, rfl, _⟩ := h
        exact ⟨by simp [chk], atoi_bounds hm, fun _ => he⟩
      · simp at h
    · simp at h
theorem okN_val {t : Tok} (hg : GdT t) (hv : vlT t = true) : OkN (valE t) := by
  obtain ⟨T, n, l, e, hr⟩ : ∃ T n l e, readV t.2.1 = (T, n, l, e) := ⟨_, _, _, _, rfl⟩
  have he : e = 0 := by rw [vlT, hr] at hv; simpa using hv
  subst he
  obtain ⟨hc, hi, h1⟩ := readV_right hr
  have hck : ckV T n l = 0 := by
    rw [ckV, if_neg (by simpa using hc), if_neg]
    rintro ⟨e, hn⟩
    have h2 := h1 e
    rw [Lib.itoa, if_pos hn] at h2
    obtain ⟨k, hk⟩ := hg
    rw [← h2] at hk
    have h45 : ∀ q : List UInt8, tokAt (45 :: q) = (4, 1, 0) := fun q => by
      simp [tokAt, letB, digB, signsL, sgN, Lib.hasPrefix, List.isPrefixOf]
    rw [h45] at hk
    simp only [Prod.mk.injEq, List.length_cons] at hk
    obtain ⟨c, q, hd, _⟩ := digits_head n.natAbs n.natAbs (Nat.le_refl _)
    rw [hd] at hk
    simp at hk
  rw [valE, hr]
  refine okN_mk ?_ hi (fun y hy => absurd hy (by simp))
  have e1 : nodeE (.node ⟨#[118, 97, 108]⟩ ⟨#[]⟩ T n ⟨l.toArray⟩ (t.2.2 : Int) []) = nodeB (apL [118, 97, 108] opsL).2 ((⟨#[118, 97, 108]⟩ : ByteArray).toList == [99, 111, 108]) (nameT (⟨#[]⟩ : ByteArray).data.toList) ((([] : List Ex).length : Int) != (apL [118, 97, 108] opsL).1) (!((⟨#[]⟩ : ByteArray).toList == [])) ((⟨#[118, 97, 108]⟩ : ByteArray).toList == [118, 97, 108]) (!((T == 0) && ((n == 0) && ((⟨l.toArray⟩ : ByteArray).toList == [])))) (ckV T n l) := rfl
  have q1 : ((⟨#[118, 97, 108]⟩ : ByteArray).toList == [99, 111, 108]) = false := by rw [Lib.toList_data]; rfl
  have q2 : ((⟨#[118, 97, 108]⟩ : ByteArray).toList == [118, 97, 108]) = true := by rw [Lib.toList_data]; rfl
  have q4 : ((⟨#[]⟩ : ByteArray).toList == ([] : List UInt8)) = true := by rw [Lib.toList_data]; rfl
  rw [e1, q1, q2, q4, hck]
  simp [nodeB, apL, opsL]
theorem okN_col {t : Tok} (h : nmT t = true) : OkN (colE1 t) := by
  refine okN_mk ?_ in0 (fun y hy => absurd hy (by simp))
  have e1 : nodeE (colE1 t) = nodeB (apL [99, 111, 108] opsL).2 ((⟨#[99, 111, 108]⟩ : ByteArray).toList == [99, 111, 108]) (nameT t.2.1.data.toList) ((([] : List Ex).length : Int) != (apL [99, 111, 108] opsL).1) (!(t.2.1.toList == [])) ((⟨#[99, 111, 108]⟩ : ByteArray).toList == [118, 97, 108]) (!(((0 : Int) == 0) && (((0 : Int) == 0) && ((⟨#[]⟩ : ByteArray).toList == [])))) (ckV 0 0 (⟨#[]⟩ : ByteArray).data.toList) := rfl
  have q1 : ((⟨#[99, 111, 108]⟩ : ByteArray).toList == [99, 111, 108]) = true := by rw [Lib.toList_data]; rfl
  have q2 : ((⟨#[99, 111, 108]⟩ : ByteArray).toList == [118, 97, 108]) = false := by rw [Lib.toList_data]; rfl
  have q4 : ((⟨#[]⟩ : ByteArray).toList == ([] : List UInt8)) = true := by rw [Lib.toList_data]; rfl
  have h' : nameT t.2.1.data.toList = true := h
  show nodeE (colE1 t) = 0
  rw [e1, q1, q2, q4, h']
  simp [nodeB, apL, opsL]
/-- What is read of words as there are in a text is right. -/
def Snd (sub : List Tok → Option Ex × List Tok) : Prop := ∀ ts y, (∀ t ∈ ts, GdT t) → (sub ts).1 = some y → OkN y
theorem gd_suf {ts r : List Tok} (h : ∀ t ∈ ts, GdT t) (hs : r <:+ ts) : ∀ t ∈ r, GdT t := fun t ht => h t (hs.subset ht)
theorem sg_mem {gs : List (List UInt8)} {t : Tok} (h : sgT gs t = true) : t.2.1.data.toList ∈ gs := by
  rw [sgT, List.any_eq_true] at h
  obtain ⟨g, hg, e⟩ := h
  have e : g = t.2.1.data.toList := by simpa using e
  rw [← e]; exact hg
theorem uLoop_snd {sub : List Tok → Option Ex × List Tok} (hs : Snd sub) (hf : Suf sub) (gs : List (List UInt8)) (hgs : ∀ g ∈ gs, g ∈ bin14) : ∀ (k : Nat) (e : Ex) (ts : List Tok) (y : Ex), OkN e → (∀ t ∈ ts, GdT t) → (uLoop sub gs k e ts).1 = some y → OkN y
  | 0, e, ts, y, he, _, h => by rw [uLoop] at h; simp only [Option.some.injEq] at h; subst h; exact he
  | k + 1, e, ts, y, he, hg, h => by
    rw [uLoop] at h
    cases hn : nxT (sgT gs) ts with
    | none => rw [hn] at h; simp only [Option.some.injEq] at h; subst h; exact he
    | some q =>
      obtain ⟨t, r⟩ := q
      rw [hn] at h
      obtain ⟨h1, hst⟩ := nxT_len hn
      subst h1
      simp only at h
      have hgr : ∀ t ∈ r, GdT t := fun u hu => hg u (by simp [hu])
      have h2 := hs r
      have h6 := hf r
      cases h3 : sub r with
      | mk o r2 =>
        rw [h3] at h h2 h6
        cases o with
        | none => exact absurd h (by simp)
        | some b => exact uLoop_snd hs hf gs hgs k (betT e t b) r2 y (okN_bet (hgs _ (sg_mem hst)) he (h2 b hgr rfl)) (gd_suf hgr h6) h
theorem uSev_snd {sub : List Tok → Option Ex × List Tok} (hs : Snd sub) (hf : Suf sub) (gs : List (List UInt8)) (hgs : ∀ g ∈ gs, g ∈ bin14) : Snd (uSev sub gs) := by
  intro ts y hg h
  have h2 := hs ts
  have h6 := hf ts
  rw [uSev] at h
  cases h3 : sub ts with
  | mk o r =>
    rw [h3] at h h2 h6
    cases o with
    | none => exact absurd h (by simp)
    | some e => exact uLoop_snd hs hf gs hgs (r.length + 1) e r y (h2 e hg rfl) (gd_suf hg h6) h
theorem uAhead_snd {sub other : List Tok → Option Ex × List Tok} (hs : Snd sub) (ho : Snd other) (op : List UInt8) (hop : op = [110, 111, 116] ∨ op = [110, 101, 103]) (gs : List (List UInt8)) : Snd (uAhead op gs sub other) := by
  intro ts y hg h
  rw [uAhead] at h
  cases hn : nxT (sgT gs) ts with
  | none => rw [hn] at h; exact ho ts y hg h
  | some q =>
    obtain ⟨t, r⟩ := q
    rw [hn] at h
    have h1 := (nxT_len hn).1
    subst h1
    have h2 := hs r
    simp only at h
    cases h3 : sub r with
    | mk o r2 =>
      rw [h3] at h h2
      cases o with
      | none => exact absurd h (by simp)
      | some e =>
        simp only [Option.some.injEq] at h
        subst h
        exact okN_op1 hop (h2 e (fun u hu => hg u (by simp [hu])) rfl)
theorem uCmp_snd {sub : List Tok → Option Ex × List Tok} (hs : Snd sub) (hf : Suf sub) : Snd (uCmp sub) := by
  intro ts y hg h
  have h2 := hs ts
  have h6 := hf ts
  rw [uCmp] at h
  cases h3 : sub ts with
  | mk o r =>
    rw [h3] at h h2 h6
    cases o with
    | none => exact absurd h (by simp)
    | some e =>
      have h4 := h2 e hg rfl
      simp only at h h6
      cases hn : nxT (sgT cmpL) r with
      | none => rw [hn] at h; simp only [Option.some.injEq] at h; subst h; exact h4
      | some q =>
        obtain ⟨t, r2⟩ := q
        rw [hn] at h
        obtain ⟨h1, hst⟩ := nxT_len hn
        subst h1
        have h5 := hs r2
        simp only at h
        cases h7 : sub r2 with
        | mk o r3 =>
          rw [h7] at h h5
          cases o with
          | none => exact absurd h (by simp)
          | some b =>
            simp only [Option.some.injEq] at h
            subst h
            have hgr := gd_suf hg h6
            refine okN_bet ?_ h4 (h5 b (fun u hu => hgr u (by simp [hu])) rfl)
            have hm := sg_mem hst
            simp only [cmpL, List.mem_cons, List.not_mem_nil, or_false] at hm
            simp only [bin14, List.mem_cons, List.not_mem_nil, or_false]
            rcases hm with h | h | h | h | h | h <;> simp [h]
theorem uBr_snd {sub : List Tok → Option Ex × List Tok} (hs : Snd sub) (hf : Suf sub) : ∀ (k : Nat) (acc : List Ex) (ts : List Tok) (l : List Ex), (∀ e ∈ acc, OkN e) → (∀ t ∈ ts, GdT t) → (uBr sub k acc ts).1 = some l → ∀ e ∈ l, OkN e
  | 0, acc, ts, l, ha, _, h => by
    rw [uBr] at h
    cases hn : nxT (sgT [[41]]) ts with
    | none => rw [hn] at h; exact absurd h (by simp)
    | some q =>
      rw [hn] at h
      simp only [Option.some.injEq] at h
      subst h
      exact ha
  | k + 1, acc, ts, l, ha, hg, h => by
    rw [uBr] at h
    cases hn : nxT (sgT [if acc.length = 0 then [40] else [44]]) ts with
    | none => rw [hn] at h; exact absurd h (by simp)
    | some q =>
      obtain ⟨t, r⟩ := q
      rw [hn] at h
      have h1 := (nxT_len hn).1
      subst h1
      have hgr : ∀ t ∈ r, GdT t := fun u hu => hg u (by simp [hu])
      have h2 := hs r
      have h6 := hf r
      simp only at h
      cases h3 : sub r with
      | mk o r2 =>
        rw [h3] at h h2 h6
        cases o with
        | none => exact absurd h (by simp)
        | some e =>
          exact uBr_snd hs hf k (acc ++ [e]) r2 l (fun x hx => by
            rcases List.mem_append.1 hx with hx | hx
            · exact ha x hx
            · rw [List.mem_singleton.1 hx]; exact h2 e hgr rfl) (gd_suf hgr h6) h
theorem uOne_snd {sub : List Tok → Option Ex × List Tok} (hs : Snd sub) (hf : Suf sub) : Snd (uOne sub) := by
  intro ts y hg h
  cases hn : nxT (sgT lenIf) ts with
  | some q =>
    obtain ⟨t, r⟩ := q
    rw [uOne_call hn] at h
    obtain ⟨h1, hst⟩ := nxT_len hn
    have hgr : ∀ t ∈ r, GdT t := fun u hu => hg u (by rw [h1]; simp [hu])
    have h2 := uBr_snd hs hf (manyT t) [] r
    have h5 := uBr_len (sub := sub) (manyT t) [] r
    cases h3 : (uBr sub (manyT t) [] r).1 with
    | none => rw [h3] at h; exact absurd h (by simp)
    | some l =>
      rw [h3] at h
      simp only [Option.map_some, Option.some.injEq] at h
      rw [← h]
      have h6 := h5 l h3
      have ho := many_ops hst
      have hm := sg_mem hst
      refine okN_mk (nodeE_op (by rw [ho, h6]; simp) ?_ ?_) in0 (h2 l (fun e he => absurd he (by simp)) hgr h3)
      · simp only [List.mem_cons, List.not_mem_nil, or_false] at hm
        rcases hm with e | e <;> rw [e] <;> decide
      · simp only [List.mem_cons, List.not_mem_nil, or_false] at hm
        rcases hm with e | e <;> rw [e] <;> decide
  | none =>
    cases hv : nxT vlT ts with
    | some q =>
      obtain ⟨t, r⟩ := q
      rw [uOne_val hn hv] at h
      simp only [Option.some.injEq] at h
      obtain ⟨h1, h2⟩ := nxT_len hv
      rw [← h]
      exact okN_val (hg t (by rw [h1]; simp)) h2
    | none =>
      cases hc : nxT nmT ts with
      | some q =>
        obtain ⟨t, r⟩ := q
        rw [uOne_col hn hv hc] at h
        simp only [Option.some.injEq] at h
        rw [← h]
        exact okN_col (nxT_len hc).2
      | none =>
        rw [uOne_br hn hv hc] at h
        have h2 := uBr_snd hs hf 1 [] ts
        cases h3 : (uBr sub 1 [] ts).1 with
        | none => rw [h3] at h; exact absurd h (by simp)
        | some l =>
          rw [h3] at h
          have h4 := h2 l (fun e he => absurd he (by simp)) hg h3
          cases l with
          | nil => exact absurd h (by simp)
          | cons x xs =>
            simp only [Option.bind_some, List.head?_cons, Option.some.injEq] at h
            rw [← h]
            exact h4 x (by simp)
theorem uE_snd : ∀ (f lv : Nat), Snd (uE f lv)
  | 0, lv => fun ts y _ h => by rw [uE] at h; exact absurd h (by simp)
  | f + 1, lv => by
    have ih := fun lv => uE_snd f lv
    have hf := fun lv => uE_suf f lv
    intro ts
    unfold uE
    split
    · exact uSev_snd (ih 1) (hf 1) _ (by decide) ts
    · exact uSev_snd (ih 2) (hf 2) _ (by decide) ts
    · exact uAhead_snd (ih 2) (ih 3) _ (.inl rfl) _ ts
    · exact uCmp_snd (ih 4) (hf 4) ts
    · exact uSev_snd (ih 5) (hf 5) _ (by decide) ts
    · exact uSev_snd (ih 6) (hf 6) _ (by decide) ts
    · exact uAhead_snd (ih 6) (ih 7) _ (.inr rfl) _ ts
    · exact uOne_snd (ih 0) (hf 0) ts
/-- What Parse reads is right. -/
theorem parse_right {s : List UInt8} {x : Ex} {p : Nat} (h : parseP s = (x, 0, p)) : ckP x = 0 ∧ (∀ q ∈ x.pre 1, inI q.1.vn) ∧ (x.pre 1).length ≤ 200 ∧ p = 0 := by
  rw [parseP] at h
  split at h
  · rename_i h0
    simp only [Prod.mk.injEq] at h
    exact absurd h.2.1 h0
  · rename_i h0
    have hl : lexAll s = ((lexAll s).1, 0, (lexAll s).2.2) := by
      have : (lexAll s).2.1 = 0 := by simpa using h0
      rw [← this]
    obtain ⟨_, _, _, hgd⟩ := lexAll_ok hl
    have hg : ∀ t ∈ (lexAll s).1, GdT t := fun t ht => ⟨t.1, by
      have := (hgd t ht).again [] rfl
      rwa [List.append_nil] at this⟩
    split at h
    · rename_i y hr
      split at h
      · simp at h
      · rename_i htg
        simp only [Prod.mk.injEq] at h
        obtain ⟨rfl, _, rfl⟩ := h
        have hok : OkN y := uE_snd _ 0 _ y hg (by rw [readE] at hr; rw [hr])
        have htg' : tgB y = false := by simpa using htg
        refine ⟨?_, fun q hq => (hok 1 q hq).2, ?_, rfl⟩
        · rw [ckP, htg', if_neg (by decide)]
          exact fold_ck' _ 0 rfl (fun q hq => (hok 1 q hq).1)
        · rw [tg_small] at htg'
          have h2 : y.small = true := by simpa using htg'
          rw [Ex.small, Bool.and_eq_true, decide_eq_true_eq, decide_eq_true_eq] at h2
          rw [size_pre]
          exact h2.1
    · simp at h
end Go.Proofs.YtkoejkpjkcejcaaGreatDoor
namespace Go.Proofs.YtkoejkpjkcejcaaGreatDoor
set_option linter.unusedVariables false

theorem goN_ext {p : UInt8 → Bool} {c : UInt8} (hc : p c = false) : ∀ l : List UInt8, goN p (l ++ [c]) = goN p l
  | [] => by rw [List.nil_append, goN_no [] hc]; rfl
  | d :: l => by
    rw [List.cons_append]
    cases hd : p d with
    | true => rw [goN_yes _ hd, goN_yes _ hd, goN_ext hc l]
    | false => rw [goN_no _ hd, goN_no _ hd]
theorem hdB_ext {p : UInt8 → Bool} {c : UInt8} (hc : p c = false) (l : List UInt8) : hdB p (l ++ [c]) = hdB p l := by
  cases l with
  | nil => exact hc
  | cons d l => rfl
theorem qscan_ext : ∀ (n : Nat) (l : List UInt8) (k : Nat), l.length ≤ n → qscan l = some k → qscan (l ++ [41]) = some k
  | _, [], k, _, h => by simp [qscan] at h
  | 0, c :: l, k, hl, _ => by simp at hl
  | n + 1, c :: l, k, hl, h => by
    simp only [List.length_cons] at hl
    by_cases hc : c = 39
    · subst hc
      cases l with
      | nil => simpa [qscan] using h
      | cons d r =>
        by_cases hd : d = 39
        · subst hd
          rw [qscan_two] at h
          obtain ⟨m, hm, rfl⟩ := Option.map_eq_some_iff.1 h
          simp only [List.cons_append]
          rw [qscan_two, qscan_ext n r m (by simp at hl; omega) hm]
          rfl
        · rw [qscan_end _ (by simpa using hd)] at h
          rw [List.cons_append, qscan_end _ (by simpa using hd)]
          exact h
    · rw [qscan_ne _ _ hc] at h
      obtain ⟨m, hm, rfl⟩ := Option.map_eq_some_iff.1 h
      rw [List.cons_append, qscan_ne _ _ hc, qscan_ext n l m (by omega) hm]
      rfl
theorem tok_ext {l : List UInt8} {k : Int} {n : Nat} (h : tokAt l = (k, n, 0)) : tokAt (l ++ [41]) = (k, n, 0) := by
  obtain ⟨hn1, hn2⟩ := tokAt_len h
  cases l with
  | nil => simp at hn2; omega
  | cons c l =>
    rw [List.cons_append]
    rw [tokAt] at h ⊢
    by_cases h1 : letB c = true
    · rw [if_pos h1] at h ⊢
      rw [← List.cons_append, goN_ext (by decide)]
      exact h
    rw [if_neg h1] at h ⊢
    by_cases h2 : digB c = true
    · rw [if_pos h2] at h ⊢
      have hnt : numTok (c :: (l ++ [41])) = numTok (c :: l) := by
        rw [← List.cons_append]
        have hg := goN_ext (p := digB) (c := 41) (by decide) (c :: l)
        have hle := goN_le digB (c :: l)
        rw [numTok, numTok, hg, List.drop_append_of_le_length hle, hdB_ext (by decide), List.take_append_of_le_length hle]
        rfl
      rw [hnt]
      exact h
    rw [if_neg h2] at h ⊢
    by_cases h3 : c = 39
    · rw [if_pos h3] at h ⊢
      rw [quoTok] at h ⊢
      cases hq : qscan l with
      | none => rw [hq] at h; simp at h
      | some m =>
        rw [hq] at h
        rw [qscan_ext _ l m (Nat.le_refl _) hq]
        have hm := (qscan_le _ l m (Nat.le_refl _) hq).2
        simp only at h ⊢
        rw [List.take_append_of_le_length hm]
        exact h
    rw [if_neg h3] at h ⊢
    have hs : sgN signsL (c :: (l ++ [41])) = sgN signsL (c :: l) := by
      cases l with
      | nil => simp [signsL, sgN, Lib.hasPrefix, List.isPrefixOf]
      | cons d r => simp [signsL, sgN, Lib.hasPrefix, List.isPrefixOf]
    rw [hs]
    exact h
theorem lexN_ext : ∀ (f a : Nat) (l : List UInt8) (ts : List Tok) (p : Nat), l.length < f → lexN f a l = (ts, 0, p) → ∀ f' a', l.length + 1 < f' → ∃ ts' c, lexN f' a' (l ++ [41]) = (ts' ++ [c], 0, 0) ∧ Tx ts' = Tx ts ∧ c.2.1.data.toList = [41]
  | 0, a, l, ts, p, hl, _ => by omega
  | f + 1, a, l, ts, p, hl, h => by
    intro f' a' hf'
    obtain ⟨g, rfl⟩ : ∃ g, f' = g + 1 := ⟨f' - 1, by omega⟩
    by_cases h0 : l = []
    · subst h0
      rw [lexN, if_pos rfl] at h
      simp only [Prod.mk.injEq] at h
      obtain ⟨rfl, _, _⟩ := h
      refine ⟨[], (4, ⟨#[41]⟩, a'), ?_, rfl, rfl⟩
      have ht : tokAt [41] = (4, 1, 0) := by simp [tokAt, letB, digB, signsL, sgN, Lib.hasPrefix, List.isPrefixOf]
      have hg2 : lexN g (a' + 1 + goN blB []) (([] : List UInt8).drop (goN blB [])) = ([], 0, 0) := by
        cases g with
        | zero => rfl
        | succ g => rw [lexN, if_pos (by simp)]
      rw [List.nil_append, lexN, if_neg (by simp), ht]
      simp only
      rw [if_neg (by decide)]
      simp only [List.drop_succ_cons, List.drop_zero]
      rw [hg2]
      rfl
    · rw [lexN, if_neg h0] at h
      by_cases he : (tokAt l).2.2 = 0
      · obtain ⟨k, n, ht⟩ : ∃ k n, tokAt l = (k, n, 0) := ⟨_, _, by rw [← he]⟩
        rw [ht] at h
        simp only at h
        rw [if_neg (by decide)] at h
        obtain ⟨hn1, hn2⟩ := tokAt_len ht
        have hle := goN_le blB (l.drop n)
        split at h
        · rename_i hz
          obtain ⟨t2, e2, p2, hrec⟩ : ∃ t2 e2 p2, lexN f (a + n + goN blB (l.drop n)) ((l.drop n).drop (goN blB (l.drop n))) = (t2, e2, p2) := ⟨_, _, _, rfl⟩
          rw [hrec] at h hz
          simp only at h hz
          subst hz
          simp only [Prod.mk.injEq] at h
          obtain ⟨rfl, _, _⟩ := h
          have hl2 : ((l.drop n).drop (goN blB (l.drop n))).length < f := by
            rw [List.length_drop, List.length_drop]; omega
          obtain ⟨ts', c, h1, h2, h3⟩ := lexN_ext f _ _ t2 p2 hl2 hrec g (a' + n + goN blB (l.drop n)) (by rw [List.length_drop, List.length_drop]; omega)
          refine ⟨(k, ⟨(l.take n).toArray⟩, a') :: ts', c, ?_, ?_, h3⟩
          · rw [lexN, if_neg (by simp), tok_ext ht]
            simp only
            rw [if_neg (by decide), List.drop_append_of_le_length hn2, goN_ext (by decide), List.drop_append_of_le_length hle, h1, List.take_append_of_le_length hn2]
            rfl
          · simp only [Tx, List.map_cons] at h2 ⊢
            rw [h2]
        · rename_i hz
          simp only [Prod.mk.injEq] at h
          exact absurd (congrArg Prod.fst h.2) hz
      · rw [if_pos he] at h
        simp only [Prod.mk.injEq] at h
        exact absurd h.2.1 he
theorem lex_bracket {s : List UInt8} {ts : List Tok} {p : Nat} (h : lexAll s = (ts, 0, p)) (hl : s.length ≤ 398) : ∃ o ts' c, lexAll (40 :: (s ++ [41])) = (o :: (ts' ++ [c]), 0, 0) ∧ o.2.1.data.toList = [40] ∧ c.2.1.data.toList = [41] ∧ Tx ts' = Tx ts := by
  rw [lexAll, if_neg (by omega), lexS, lexA] at h
  split at h
  · rename_i hz
    obtain ⟨t2, e2, p2, hrec⟩ : ∃ t2 e2 p2, lexN (s.length + 1) (0 + goN blB s) (s.drop (goN blB s)) = (t2, e2, p2) := ⟨_, _, _, rfl⟩
    rw [hrec] at h hz
    simp only at h hz
    subst hz
    simp only [List.nil_append, Prod.mk.injEq] at h
    obtain ⟨rfl, _, _⟩ := h
    have hle := goN_le blB s
    obtain ⟨ts', c, h1, h2, h3⟩ := lexN_ext _ _ _ t2 p2 (by rw [List.length_drop]; omega) hrec (s.length + 2) (0 + 1 + goN blB s) (by rw [List.length_drop]; omega)
    refine ⟨(4, ⟨#[40]⟩, 0), ts', c, ?_, rfl, h3, h2⟩
    have hlen : (40 :: (s ++ [41])).length + 1 = s.length + 2 + 1 := by simp
    have ht : tokAt (40 :: (s ++ [41])) = (4, 1, 0) := sgn_par 40 _ (.inl rfl)
    rw [lexAll, if_neg (by simp; omega), hlen, lexS_no _ _ _ _ rfl, lexA_tok _ _ _ _ (by simp) ht]
    simp only [List.drop_succ_cons, List.drop_zero, List.nil_append]
    rw [lexS, lexA, goN_ext (by decide), List.drop_append_of_le_length hle, h1]
    rfl
  · rename_i hz
    simp only [Prod.mk.injEq] at h
    exact absurd (congrArg Prod.fst h.2) hz
end Go.Proofs.YtkoejkpjkcejcaaGreatDoor
namespace Go.Proofs.YtkoejkpjkcejcaaGreatDoor
set_option linter.unusedVariables false

/-- What follows is nothing, or a bracket that shuts. -/
def StX (X : List Tok) : Prop := X = [] ∨ ∃ c q, X = c :: q ∧ c.2.1.data.toList = [41]
/-- A question that is about a word's text alone. -/
def PT (P : Tok → Bool) : Prop := ∀ t t' : Tok, t'.2.1.data.toList = t.2.1.data.toList → P t' = P t
theorem pt_sg (gs : List (List UInt8)) : PT (sgT gs) := fun t t' h => by rw [sgT, sgT, h]
theorem arr_eq {a b : ByteArray} (h : a.data.toList = b.data.toList) : a = b := by
  apply ByteArray.ext
  exact Array.toList_inj.1 h
theorem pt_vl : PT vlT := fun t t' h => by rw [vlT, vlT, arr_eq h]
theorem pt_nm : PT nmT := fun t t' h => by rw [nmT, nmT, h]
theorem nx_some {P : Tok → Bool} (hP : PT P) {ts r ts' X : List Tok} {t : Tok} (h : nxT P ts = some (t, r)) (ht : Tx ts' = Tx ts) : ∃ t' r', ts' = t' :: r' ∧ nxT P (ts' ++ X) = some (t', r' ++ X) ∧ t'.2.1.data.toList = t.2.1.data.toList ∧ Tx r' = Tx r := by
  obtain ⟨h1, h2⟩ := nxT_len h
  subst h1
  obtain ⟨t', r', rfl, e1, e2⟩ := Tx_cons ht
  refine ⟨t', r', rfl, ?_, e1, e2⟩
  rw [List.cons_append, nxT, if_pos (by rw [hP t t' e1]; exact h2)]
theorem nx_none {P : Tok → Bool} (hP : PT P) {ts ts' X : List Tok} (h : nxT P ts = none) (ht : Tx ts' = Tx ts) (hX : nxT P X = none) : nxT P (ts' ++ X) = none := by
  cases ts with
  | nil => rw [Tx_nil (ht.trans rfl)]; exact hX
  | cons t r =>
    obtain ⟨t', r', rfl, e1, e2⟩ := Tx_cons ht
    rw [nxT] at h
    split at h
    · simp at h
    · rename_i hp
      rw [List.cons_append, nxT, if_neg (by rw [hP t t' e1]; exact hp)]
theorem st_sg {X : List Tok} (h : StX X) {gs : List (List UInt8)} (hg : [41] ∉ gs) : nxT (sgT gs) X = none := by
  rcases h with rfl | ⟨c, q, rfl, hc⟩
  · rfl
  · rw [nxT, if_neg]
    intro e
    exact hg (by have := sg_mem e; rwa [hc] at this)
theorem st_vl {X : List Tok} (h : StX X) : nxT vlT X = none := by
  rcases h with rfl | ⟨c, q, rfl, hc⟩
  · rfl
  · have := noval (s := c.2.1) (c := 41) (r := []) hc (by decide) (by decide) (by rw [hc]; decide) (by rw [hc]; decide)
    rw [nxT, if_neg (by simpa [vlT] using this)]
theorem st_nm {X : List Tok} (h : StX X) : nxT nmT X = none := by
  rcases h with rfl | ⟨c, q, rfl, hc⟩
  · rfl
  · rw [nxT, if_neg (by rw [nmT, hc]; decide)]
/-- What is read of some words is read of the same ones, whatever of that follows. -/
def Rel (X : List Tok) (sub sub' : List Tok → Option Ex × List Tok) : Prop := ∀ ts e r, sub ts = (some e, r) → ∀ ts', Tx ts' = Tx ts → ∃ e' r', sub' (ts' ++ X) = (some e', r' ++ X) ∧ Tx r' = Tx r ∧ sameE false e' e = true
theorem same_bet {a b a' b' : Ex} {t t' : Tok} (ht : t'.2.1.data.toList = t.2.1.data.toList) (ha : sameE false a' a = true) (hb : sameE false b' b = true) : sameE false (betT a' t' b') (betT a t b) = true :=
  same_mk ht rfl rfl rfl rfl (by rw [sameL, ha, sameL, hb, sameL]; rfl)
theorem Tx_len {a b : List Tok} (h : Tx a = Tx b) : a.length = b.length := by
  have := congrArg List.length h
  simpa [Tx] using this
theorem uLoop_rel {X : List Tok} (hX : StX X) {sub sub' : List Tok → Option Ex × List Tok} (hR : Rel X sub sub') (hf : Suf sub) (gs : List (List UInt8)) (hg : [41] ∉ gs) : ∀ (k : Nat) (e : Ex) (ts : List Tok) (y : Ex) (r : List Tok), ts.length < k → uLoop sub gs k e ts = (some y, r) → ∀ (k' : Nat) (e' : Ex) (ts' : List Tok), Tx ts' = Tx ts → sameE false e' e = true → (ts' ++ X).length < k' → ∃ y' r', uLoop sub' gs k' e' (ts' ++ X) = (some y', r' ++ X) ∧ Tx r' = Tx r ∧ sameE false y' y = true
  | 0, e, ts, y, r, hl, _ => by omega
  | k + 1, e, ts, y, r, hl, h => by
    intro k' e' ts' ht he hk'
    obtain ⟨g, rfl⟩ : ∃ g, k' = g + 1 := ⟨k' - 1, by omega⟩
    rw [uLoop] at h
    cases hn : nxT (sgT gs) ts with
    | none =>
      rw [hn] at h
      simp only [Prod.mk.injEq, Option.some.injEq] at h
      obtain ⟨rfl, rfl⟩ := h
      refine ⟨e', ts', ?_, ht, he⟩
      rw [uLoop, nx_none (pt_sg gs) hn ht (st_sg hX hg)]
    | some q =>
      obtain ⟨t, r1⟩ := q
      rw [hn] at h
      obtain ⟨t', r1', rfl, h2, h3, h4⟩ := nx_some (X := X) (pt_sg gs) hn ht
      have h1 := (nxT_len hn).1
      subst h1
      simp only at h
      have h6 := hf r1
      cases h5 : sub r1 with
      | mk o r2 =>
        rw [h5] at h h6
        cases o with
        | none => simp at h
        | some b =>
          simp only at h h6
          obtain ⟨b', r2', e1, e2, e3⟩ := hR r1 b r2 h5 r1' h4
          have l1 := h6.length_le
          have l2 := Tx_len e2
          have l3 := Tx_len h4
          simp only [List.length_cons, List.cons_append, List.length_append] at hl hk'
          obtain ⟨y', r', g1, g2, g3⟩ := uLoop_rel hX hR hf gs hg k (betT e t b) r2 y r (by omega) h g (betT e' t' b') r2' e2 (same_bet h3 he e3) (by rw [List.length_append]; omega)
          refine ⟨y', r', ?_, g2, g3⟩
          rw [uLoop, h2]
          simp only
          rw [e1]
          exact g1
theorem uSev_rel {X : List Tok} (hX : StX X) {sub sub' : List Tok → Option Ex × List Tok} (hR : Rel X sub sub') (hf : Suf sub) (gs : List (List UInt8)) (hg : [41] ∉ gs) : Rel X (uSev sub gs) (uSev sub' gs) := by
  intro ts y r h ts' ht
  rw [uSev] at h
  cases h3 : sub ts with
  | mk o r1 =>
    rw [h3] at h
    cases o with
    | none => simp at h
    | some e =>
      simp only at h
      obtain ⟨e', r1', e1, e2, e3⟩ := hR ts e r1 h3 ts' ht
      obtain ⟨y', r', g1, g2, g3⟩ := uLoop_rel hX hR hf gs hg (r1.length + 1) e r1 y r (by omega) h ((r1' ++ X).length + 1) e' r1' e2 e3 (by omega)
      refine ⟨y', r', ?_, g2, g3⟩
      rw [uSev, e1]
      exact g1
theorem uAhead_rel {X : List Tok} (hX : StX X) {sub sub' oth oth' : List Tok → Option Ex × List Tok} (hR : Rel X sub sub') (hO : Rel X oth oth') (op : List UInt8) (gs : List (List UInt8)) (hg : [41] ∉ gs) : Rel X (uAhead op gs sub oth) (uAhead op gs sub' oth') := by
  intro ts y r h ts' ht
  rw [uAhead] at h
  cases hn : nxT (sgT gs) ts with
  | none =>
    rw [hn] at h
    obtain ⟨e', r', h1, h2, h3⟩ := hO ts y r h ts' ht
    refine ⟨e', r', ?_, h2, h3⟩
    rw [uAhead, nx_none (pt_sg gs) hn ht (st_sg hX hg)]
    exact h1
  | some q =>
    obtain ⟨t, r1⟩ := q
    rw [hn] at h
    obtain ⟨t', r1', rfl, h2, h3, h4⟩ := nx_some (X := X) (pt_sg gs) hn ht
    simp only at h
    cases h5 : sub r1 with
    | mk o r2 =>
      rw [h5] at h
      cases o with
      | none => simp at h
      | some b =>
        simp only [Prod.mk.injEq, Option.some.injEq] at h
        obtain ⟨rfl, rfl⟩ := h
        obtain ⟨b', r2', e1, e2, e3⟩ := hR r1 b r2 h5 r1' h4
        refine ⟨op1 op (t'.2.2 : Int) [b'], r2', ?_, e2, same_mk rfl rfl rfl rfl rfl (by rw [sameL, e3, sameL]; rfl)⟩
        rw [uAhead, h2]
        simp only
        rw [e1]
theorem uCmp_rel {X : List Tok} (hX : StX X) {sub sub' : List Tok → Option Ex × List Tok} (hR : Rel X sub sub') : Rel X (uCmp sub) (uCmp sub') := by
  intro ts y r h ts' ht
  rw [uCmp] at h
  cases h3 : sub ts with
  | mk o r1 =>
    rw [h3] at h
    cases o with
    | none => simp at h
    | some e =>
      simp only at h
      obtain ⟨e', r1', e1, e2, e3⟩ := hR ts e r1 h3 ts' ht
      cases hn : nxT (sgT cmpL) r1 with
      | none =>
        rw [hn] at h
        simp only [Prod.mk.injEq, Option.some.injEq] at h
        obtain ⟨rfl, rfl⟩ := h
        refine ⟨e', r1', ?_, e2, e3⟩
        rw [uCmp, e1]
        simp only
        rw [nx_none (pt_sg cmpL) hn e2 (st_sg hX (by decide))]
      | some q =>
        obtain ⟨t, r2⟩ := q
        rw [hn] at h
        obtain ⟨t', r2', rfl, h2, h4, h5⟩ := nx_some (X := X) (pt_sg cmpL) hn e2
        simp only at h
        cases h6 : sub r2 with
        | mk o r3 =>
          rw [h6] at h
          cases o with
          | none => simp at h
          | some b =>
            simp only [Prod.mk.injEq, Option.some.injEq] at h
            obtain ⟨rfl, rfl⟩ := h
            obtain ⟨b', r3', g1, g2, g3⟩ := hR r2 b r3 h6 r2' h5
            refine ⟨betT e' t' b', r3', ?_, g2, same_bet h4 e3 g3⟩
            rw [uCmp, e1]
            simp only
            rw [h2]
            simp only
            rw [g1]
theorem sameL_app : ∀ {l m : List Ex} {a b : Ex}, sameL false l m = true → sameE false a b = true → sameL false (l ++ [a]) (m ++ [b]) = true
  | [], [], a, b, _, h => by rw [List.nil_append, List.nil_append, sameL, h, sameL]; rfl
  | [], _ :: _, a, b, h, _ => by simp [sameL] at h
  | _ :: _, [], a, b, h, _ => by simp [sameL] at h
  | x :: xs, y :: ys, a, b, h, h2 => by
    rw [sameL, Bool.and_eq_true] at h
    rw [List.cons_append, List.cons_append, sameL, h.1, sameL_app h.2 h2]
    rfl
theorem uBr_rel {X : List Tok} {sub sub' : List Tok → Option Ex × List Tok} (hR : Rel X sub sub') : ∀ (k : Nat) (acc acc' : List Ex) (ts : List Tok) (l : List Ex) (r : List Tok), sameL false acc' acc = true → uBr sub k acc ts = (some l, r) → ∀ ts', Tx ts' = Tx ts → ∃ l' r', uBr sub' k acc' (ts' ++ X) = (some l', r' ++ X) ∧ Tx r' = Tx r ∧ sameL false l' l = true
  | 0, acc, acc', ts, l, r, ha, h => by
    intro ts' ht
    rw [uBr] at h
    cases hn : nxT (sgT [[41]]) ts with
    | none => rw [hn] at h; simp at h
    | some q =>
      obtain ⟨t, r1⟩ := q
      rw [hn] at h
      simp only [Prod.mk.injEq, Option.some.injEq] at h
      obtain ⟨rfl, rfl⟩ := h
      obtain ⟨t', r1', rfl, h2, h3, h4⟩ := nx_some (X := X) (pt_sg [[41]]) hn ht
      refine ⟨acc', r1', ?_, h4, ha⟩
      rw [uBr, h2]
  | k + 1, acc, acc', ts, l, r, ha, h => by
    intro ts' ht
    rw [uBr] at h
    have hlen : acc'.length = acc.length := (sameL_all ha).1
    cases hn : nxT (sgT [if acc.length = 0 then [40] else [44]]) ts with
    | none => rw [hn] at h; simp at h
    | some q =>
      obtain ⟨t, r1⟩ := q
      rw [hn] at h
      obtain ⟨t', r1', rfl, h2, h3, h4⟩ := nx_some (X := X) (pt_sg _) hn ht
      simp only at h
      cases h5 : sub r1 with
      | mk o r2 =>
        rw [h5] at h
        cases o with
        | none => simp at h
        | some e =>
          simp only at h
          obtain ⟨e', r2', g1, g2, g3⟩ := hR r1 e r2 h5 r1' h4
          obtain ⟨l', r', f1, f2, f3⟩ := uBr_rel hR k (acc ++ [e]) (acc' ++ [e']) r2 l r (sameL_app ha g3) h r2' g2
          refine ⟨l', r', ?_, f2, f3⟩
          rw [uBr, hlen, h2]
          simp only
          rw [g1]
          exact f1
theorem uOne_rel {X : List Tok} (hX : StX X) {sub sub' : List Tok → Option Ex × List Tok} (hR : Rel X sub sub') : Rel X (uOne sub) (uOne sub') := by
  intro ts y r h ts' ht
  cases hn : nxT (sgT lenIf) ts with
  | some q =>
    obtain ⟨t, r1⟩ := q
    rw [uOne_call hn] at h
    obtain ⟨t', r1', rfl, h2, h3, h4⟩ := nx_some (X := X) (pt_sg lenIf) hn ht
    have hm : manyT t' = manyT t := by rw [manyT, manyT, h3]
    cases h5 : uBr sub (manyT t) [] r1 with
    | mk o r2 =>
      rw [h5] at h
      cases o with
      | none => simp at h
      | some l =>
        simp only [Option.map_some, Prod.mk.injEq, Option.some.injEq] at h
        obtain ⟨rfl, rfl⟩ := h
        obtain ⟨l', r', g1, g2, g3⟩ := uBr_rel hR (manyT t) [] [] r1 l r2 (by rw [sameL]) h5 r1' h4
        refine ⟨.node t'.2.1 ⟨#[]⟩ 0 0 ⟨#[]⟩ (t'.2.2 : Int) l', r', ?_, g2, same_mk h3 rfl rfl rfl rfl g3⟩
        rw [uOne_call h2, hm, g1]
        rfl
  | none =>
    have n1 := nx_none (X := X) (pt_sg lenIf) hn ht (st_sg hX (by decide))
    cases hv : nxT vlT ts with
    | some q =>
      obtain ⟨t, r1⟩ := q
      rw [uOne_val hn hv] at h
      simp only [Prod.mk.injEq, Option.some.injEq] at h
      obtain ⟨rfl, rfl⟩ := h
      obtain ⟨t', r1', rfl, h2, h3, h4⟩ := nx_some (X := X) pt_vl hv ht
      refine ⟨valE t', r1', uOne_val n1 h2, h4, ?_⟩
      rw [valE, valE, arr_eq h3]
      exact same_mk rfl rfl rfl rfl rfl (by rw [sameL])
    | none =>
      have n2 := nx_none (X := X) pt_vl hv ht (st_vl hX)
      cases hc : nxT nmT ts with
      | some q =>
        obtain ⟨t, r1⟩ := q
        rw [uOne_col hn hv hc] at h
        simp only [Prod.mk.injEq, Option.some.injEq] at h
        obtain ⟨rfl, rfl⟩ := h
        obtain ⟨t', r1', rfl, h2, h3, h4⟩ := nx_some (X := X) pt_nm hc ht
        refine ⟨colE1 t', r1', uOne_col n1 n2 h2, h4, ?_⟩
        rw [colE1, colE1]
        exact same_mk rfl h3 rfl rfl rfl (by rw [sameL])
      | none =>
        have n3 := nx_none (X := X) pt_nm hc ht (st_nm hX)
        rw [uOne_br hn hv hc] at h
        cases h5 : uBr sub 1 [] ts with
        | mk o r2 =>
          rw [h5] at h
          cases o with
          | none => simp at h
          | some l =>
            obtain ⟨l', r', g1, g2, g3⟩ := uBr_rel hR 1 [] [] ts l r2 (by rw [sameL]) h5 ts' ht
            simp only [Option.bind_some, Prod.mk.injEq] at h
            obtain ⟨h6, rfl⟩ := h
            obtain ⟨e1, e2⟩ := sameL_all g3
            cases l with
            | nil => simp at h6
            | cons x xs =>
              cases l' with
              | nil => simp at e1
              | cons x' xs' =>
                simp only [List.head?_cons, Option.some.injEq] at h6
                subst h6
                refine ⟨x', r', ?_, g2, e2 0 (by simp) (by simp)⟩
                rw [uOne_br n1 n2 n3, g1]
                rfl
theorem uE_rel {X : List Tok} (hX : StX X) : ∀ (f f' lv : Nat), f ≤ f' → Rel X (uE f lv) (uE f' lv)
  | 0, f', lv, _ => fun ts e r h => by rw [uE] at h; simp at h
  | f + 1, f', lv, hf => by
    obtain ⟨g, rfl⟩ : ∃ g, f' = g + 1 := ⟨f' - 1, by omega⟩
    have ih := fun lv => uE_rel hX f g lv (by omega)
    have hs := fun lv => uE_suf f lv
    have hlv : lv = 0 ∨ lv = 1 ∨ lv = 2 ∨ lv = 3 ∨ lv = 4 ∨ lv = 5 ∨ lv = 6 ∨ ∃ m, lv = m + 7 := by
      rcases Nat.lt_or_ge lv 7 with h | h
      · omega
      · exact .inr (.inr (.inr (.inr (.inr (.inr (.inr ⟨lv - 7, by omega⟩))))))
    rcases hlv with rfl | rfl | rfl | rfl | rfl | rfl | rfl | ⟨m, rfl⟩
    · exact uSev_rel hX (ih 1) (hs 1) _ (by decide)
    · exact uSev_rel hX (ih 2) (hs 2) _ (by decide)
    · exact uAhead_rel hX (ih 2) (ih 3) _ _ (by decide)
    · exact uCmp_rel hX (ih 4)
    · exact uSev_rel hX (ih 5) (hs 5) _ (by decide)
    · exact uSev_rel hX (ih 6) (hs 6) _ (by decide)
    · exact uAhead_rel hX (ih 6) (ih 7) _ _ (by decide)
    · exact uOne_rel hX (ih 0)
/-- More brackets change nothing. -/
theorem parse_bracket {s : List UInt8} {x : Ex} {p : Nat} (h : parseP s = (x, 0, p)) (hl : s.length ≤ 398) : ∃ e, parseP (40 :: (s ++ [41])) = (e, 0, 0) ∧ sameE false e x = true := by
  rw [parseP] at h
  split at h
  · rename_i h0
    simp only [Prod.mk.injEq] at h
    exact absurd h.2.1 h0
  · rename_i h0
    have hlx : lexAll s = ((lexAll s).1, 0, (lexAll s).2.2) := by
      have : (lexAll s).2.1 = 0 := by simpa using h0
      rw [← this]
    split at h
    · rename_i y hr
      split at h
      · simp at h
      · rename_i htg
        simp only [Prod.mk.injEq] at h
        obtain ⟨rfl, _, _⟩ := h
        obtain ⟨o, ts', c, h1, h2, h3, h4⟩ := lex_bracket hlx hl
        have hlen := Tx_len h4
        rw [readE] at hr
        obtain ⟨e, r', g1, g2, g3⟩ := uE_rel (X := [c]) (.inr ⟨c, [], rfl, h3⟩) _ ((ts'.length + 2) * 8) 0 (by omega) _ _ _ hr ts' h4
        obtain rfl := Tx_nil (g2.trans rfl)
        rw [List.nil_append] at g1
        have h5 := one_br h2 h3 g1
        have hm : nxT (sgT [[45]]) (o :: (ts' ++ [c])) = none := by simp [nxT, sgT, h2]
        have hn : nxT (sgT [[110, 111, 116]]) (o :: (ts' ++ [c])) = none := by simp [nxT, sgT, h2]
        have h6 := uE_lift 7 _ 0 (by omega) h5 (fun k _ _ => cnd_nil hm hn k)
        refine ⟨e, ?_, g3⟩
        have hread : readE (o :: (ts' ++ [c])) = (some e, []) := by
          rw [readE, show (o :: (ts' ++ [c])).length * 8 + 8 = (ts'.length + 2) * 8 + 1 + 7 by simp]
          exact h6
        rw [parseP, h1]
        simp only
        rw [if_neg (by decide), hread]
        simp only
        rw [if_neg (by rw [same_tg g3]; exact htg)]
    · simp at h
end Go.Proofs.YtkoejkpjkcejcaaGreatDoor
namespace Go.Proofs.YtkoejkpjkcejcaaGreatDoor
open Go.RowKit Go.BigFrame
set_option linter.unusedVariables false

def factL : List UInt8 := [97, 32, 43, 32, 50, 32, 42, 32, 98]
def factX : Ex := .node ⟨#[43]⟩ ⟨#[]⟩ 0 0 ⟨#[]⟩ 2 [.node ⟨#[99, 111, 108]⟩ ⟨#[97]⟩ 0 0 ⟨#[]⟩ 0 [], .node ⟨#[42]⟩ ⟨#[]⟩ 0 0 ⟨#[]⟩ 6 [.node ⟨#[118, 97, 108]⟩ ⟨#[]⟩ 1 2 ⟨#[]⟩ 4 [], .node ⟨#[99, 111, 108]⟩ ⟨#[98]⟩ 0 0 ⟨#[]⟩ 8 []]]
theorem fact_parse : parseP factL = (factX, 0, 0) := by kernel_rfl
/-- Where Parse stops is in the text, or at its end. -/
theorem parse_place {s : List UInt8} {x : Ex} {E : Int} {P : Nat} (h : parseP s = (x, E, P)) : P ≤ s.length := by
  rw [parseP] at h
  split at h
  · rename_i h0
    obtain ⟨_, hq, _⟩ := lexAll_bad (s := s) (ts := (lexAll s).1) (e := (lexAll s).2.1) (q := (lexAll s).2.2) rfl h0
    simp only [Prod.mk.injEq] at h
    rw [← h.2.2]; exact hq
  · rename_i h0
    have hlx : lexAll s = ((lexAll s).1, 0, (lexAll s).2.2) := by
      have : (lexAll s).2.1 = 0 := by simpa using h0
      rw [← this]
    obtain ⟨_, _, hst, _⟩ := lexAll_ok hlx
    have hsm := (stand_small s _ 0 (Nat.zero_le _) hst).2
    split at h
    · split at h
      · simp only [Prod.mk.injEq] at h; omega
      · simp only [Prod.mk.injEq] at h; omega
    · rename_i o r _ hr
      simp only [Prod.mk.injEq] at h
      rw [← h.2.2]
      have hsuf := uE_suf ((lexAll s).1.length * 8 + 8) 0 (lexAll s).1
      cases hrr : r with
      | nil => simp [placeT]
      | cons t q =>
        rw [placeT]
        refine (hsm t (hsuf.subset ?_)).2
        rw [readE] at hr
        rw [hr, hrr]
        simp
theorem errB_eql (k : Int) (W : World) : Sem.run Tryz.prog (binOp .eql 38 (errV k) .nilIface) W = .ok (.bool (k == 0)) W := errK_eql k W
/-- Seven cells, kept. -/
def At7 (W : World) (b : Nat) (A : Array Value) : Prop := (∀ i, W.cell? ⟨b, i, none⟩ = A[i]?) ∧ b < W.heap.size
theorem At7.on {W W' : World} {b : Nat} {A : Array Value} (h : At7 W b A) (hb : Below W.heap.size W W') : At7 W' b A :=
  ⟨fun i => by rw [hb.cell (p := ⟨b, i, none⟩) h.2]; exact h.1 i, by have := hb.size; have := h.2; omega⟩
theorem At7.new (W : World) (A : Array Value) (t : TypeId) : At7 (W.alloc (.cells A t)) W.heap.size A :=
  ⟨fun i => by rw [World.cell?_alloc_at _ _ _ _ rfl], by simp⟩
set_option maxHeartbeats 16000000 in
set_option maxRecDepth 20000 in
theorem tells_back (s : ByteArray) (x : Ex) (lo : Nat → Prop) (v : Value) (w : World) (henv : TEnv w) (hsg : SG w) (hx : ExIn w lo v x) (hsz : (x.pre 1).length ≤ 1048576) (hxb : ∀ q ∈ x.pre 1, inI q.1.vn) (hs : s.size ≤ maxLen) :
    Calls Tryz.prog 4 #[.string s, v] w fun e' w' => e' = .returned (.bool true) ∧ Below w.heap.size w w' := by
  have hxT : ExIn w (fun _ => True) v x := ExIn.low (fun _ _ _ => trivial) _ _ hx
  obtain ⟨o1, n1, t1, k1, s1, p1, m1, c1, a1, rfl⟩ := hx.agg
  have b0 : Below w.heap.size w (w.alloc (.cells #[.string o1, .string n1, .int .i64 t1, .int .i64 k1, .string s1, .slice p1 m1 c1, .int .i64 a1] 26)) := (Below.refl _ w).alloc (Nat.le_refl _) _
  have E0 : Hid (∀ W, Below (w.heap.size + 1) (w.alloc (.cells #[.string o1, .string n1, .int .i64 t1, .int .i64 k1, .string s1, .slice p1 m1 c1, .int .i64 a1] 26)) W → (∀ i, W.cell? ⟨w.heap.size, i, none⟩ = (#[.string o1, .string n1, .int .i64 t1, .int .i64 k1, .string s1, .slice p1 m1 c1, .int .i64 a1] : Array Value)[i]?) ∧ w.heap.size < W.heap.size ∧ Below w.heap.size w W) := fun W hb => by
    have h1 := hb.block w.heap.size (Nat.lt_succ_self _)
    rw [heap_alloc_new] at h1
    exact ⟨fun i => Lib.cell_of_heap h1 i, (Array.getElem?_eq_some_iff.1 h1).1, b0.trans (hb.mono (Nat.le_succ _))⟩
  obtain ⟨K, hK⟩ : ∃ K, ckP x = K := ⟨_, rfl⟩
  obtain ⟨X, hX⟩ : ∃ X : ByteArray, X.data.toList = if ckP x = 0 then txP x else [] := ⟨⟨(if ckP x = 0 then txP x else []).toArray⟩, rfl⟩
  obtain ⟨y, Ey, Py, hpy⟩ : ∃ y Ey Py, parseP s.data.toList = (y, Ey, Py) := ⟨_, _, _, rfl⟩
  have hPl : Py ≤ s.size := by have := parse_place hpy; simpa using this
  have hXs : X.size = X.data.toList.length := by simp
  have cF : Aside (∀ W, Below (w.heap.size + 1) (w.alloc (.cells #[.string o1, .string n1, .int .i64 t1, .int .i64 k1, .string s1, .slice p1 m1 c1, .int .i64 a1] 26)) W → Calls Tryz.prog 7 #[.string ⟨#[97, 32, 43, 32, 50, 32, 42, 32, 98]⟩] W fun e w' => (∃ v, e = .returned (.tuple #[v, .agg #[.int .i64 0, .int .i64 ((0 : Nat) : Int)]]) ∧ Aside (ExIn w' (W.heap.size ≤ ·) v factX)) ∧ Below W.heap.size W w') := fun W hW =>
    parse_tree ⟨#[97, 32, 43, 32, 50, 32, 42, 32, 98]⟩ W (henv.on (E0.out W hW).2.2) (hsg.on (E0.out W hW).2.2) factX 0 0 fact_parse (by decide)
  have cP : Aside (∀ W, Below (w.heap.size + 1) (w.alloc (.cells #[.string o1, .string n1, .int .i64 t1, .int .i64 k1, .string s1, .slice p1 m1 c1, .int .i64 a1] 26)) W → Calls Tryz.prog 13 #[.agg #[.string o1, .string n1, .int .i64 t1, .int .i64 k1, .string s1, .slice p1 m1 c1, .int .i64 a1]] W fun e w' => e = .returned (.tuple #[.string X, errV K]) ∧ Below W.heap.size W w') := fun W hW =>
    treePrint_any x (fun _ => True) _ W (henv.on (E0.out W hW).2.2) (fun W' hW' => (henv.on ((E0.out W hW).2.2.trans (hW'.mono (E0.out W hW).2.2.size))).env) (hxT.on (E0.out W hW).2.2) hsz hxb X K hK hX
  have cC : Aside (∀ W, Below (w.heap.size + 1) (w.alloc (.cells #[.string o1, .string n1, .int .i64 t1, .int .i64 k1, .string s1, .slice p1 m1 c1, .int .i64 a1] 26)) W → Calls Tryz.prog 11 #[.agg #[.string o1, .string n1, .int .i64 t1, .int .i64 k1, .string s1, .slice p1 m1 c1, .int .i64 a1]] W fun e w' => e = .returned (errV K) ∧ Below (w.heap.size + 1) (w.alloc (.cells #[.string o1, .string n1, .int .i64 t1, .int .i64 k1, .string s1, .slice p1 m1 c1, .int .i64 a1] 26)) w') := fun W hW => by
    rw [← hK]
    exact (check_tree x (fun _ => True) _ W (henv.on (E0.out W hW).2.2) (hxT.on (E0.out W hW).2.2) hsz).mono fun e w' h => ⟨h.1, hW.trans (h.2.mono (E0.out W hW).2.1)⟩
  have cX : Aside (K = 0 → X.size ≤ 400 → ∃ e, sameE false e x = true ∧ e.size ≤ 1048576 ∧ ∀ W, Below (w.heap.size + 1) (w.alloc (.cells #[.string o1, .string n1, .int .i64 t1, .int .i64 k1, .string s1, .slice p1 m1 c1, .int .i64 a1] 26)) W → Calls Tryz.prog 7 #[.string X] W fun e' w' => (∃ v, e' = .returned (.tuple #[v, .agg #[.int .i64 0, .int .i64 ((0 : Nat) : Int)]]) ∧ Aside (ExIn w' (W.heap.size ≤ ·) v e)) ∧ Below W.heap.size W w') := fun h0 hl => by
    rw [hK, if_pos h0] at hX
    obtain ⟨e, he, hse⟩ := parse_tx (hK.trans h0) hxb (by rw [← hX, ← hXs]; exact hl)
    refine ⟨e, hse, ?_, fun W hW => parse_tree X W (henv.on (E0.out W hW).2.2) (hsg.on (E0.out W hW).2.2) e 0 0 (by rw [hX]; exact he) (by unfold maxLen; omega)⟩
    rw [(same_size e x hse).1, ← size_pre x 1]
    exact hsz
  have cS : Aside (∀ W, Below (w.heap.size + 1) (w.alloc (.cells #[.string o1, .string n1, .int .i64 t1, .int .i64 k1, .string s1, .slice p1 m1 c1, .int .i64 a1] 26)) W → Calls Tryz.prog 7 #[.string s] W fun e w' => (∃ v, e = .returned (.tuple #[v, .agg #[.int .i64 Ey, .int .i64 (Py : Nat)]]) ∧ Aside (ExIn w' (W.heap.size ≤ ·) v y)) ∧ Below W.heap.size W w') := fun W hW =>
    parse_tree s W (henv.on (E0.out W hW).2.2) (hsg.on (E0.out W hW).2.2) y Ey Py hpy hs
  have HXT : Aside (∀ W, Below (w.heap.size + 1) (w.alloc (.cells #[.string o1, .string n1, .int .i64 t1, .int .i64 k1, .string s1, .slice p1 m1 c1, .int .i64 a1] 26)) W → ExIn W (fun _ => True) (.agg #[.string o1, .string n1, .int .i64 t1, .int .i64 k1, .string s1, .slice p1 m1 c1, .int .i64 a1]) x) := fun W hW => hxT.on (E0.out W hW).2.2
  have HTE : Aside (∀ W, Below (w.heap.size + 1) (w.alloc (.cells #[.string o1, .string n1, .int .i64 t1, .int .i64 k1, .string s1, .slice p1 m1 c1, .int .i64 a1] 26)) W → TEnv W ∧ SG W) := fun W hW => ⟨henv.on (E0.out W hW).2.2, hsg.on (E0.out W hW).2.2⟩
  have HPY : Hid (parseP s.data.toList = (y, Ey, Py)) := hpy
  have he1 := errK_eql K
  have he2 := errK_geql K
  have qKK : ((K == 0) != (K == 0)) = false := by simp
  have hPz : (Py : Int) ≤ (s.size : Int) := by omega
  have hPn : (0 : Int) ≤ (Py : Int) := by omega
  unfold maxLen at hs
  clear henv hsg hx hxT hsz hxb hK hX hpy b0 hPl hXs
  go_enter Tryz.func4, Tryz.ntmps4
  go_wp2_with fail
  refine (cF.out _ (Below.refl _ _)).mono ?_
  rintro e' w1 ⟨⟨vf, rfl, hf⟩, b1⟩
  have B1 : Aside (Below (w.heap.size + 1) (w.alloc (.cells #[.string o1, .string n1, .int .i64 t1, .int .i64 k1, .string s1, .slice p1 m1 c1, .int .i64 a1] 26)) w1) := b1.mono (by simp)
  have hf2 := hf.out
  rw [factX, ExIn] at hf2
  obtain ⟨pf, cf, rfl, _, _, _, _, hpf⟩ := hf2
  rcases hpf with h | ⟨bf, of, rfl, hbf, _, hEf⟩
  · exact absurd h (by simp)
  obtain ⟨f0, f1, f2, f3, f4, f5, f6, g0, _, _, _, _, _, _, hfy⟩ := exsIn_at _ _ _ _ _ hEf 1 (by simp)
  simp only [List.getElem_cons_succ, List.getElem_cons_zero] at hfy
  rw [ExIn] at hfy
  obtain ⟨_, _, hfa, _⟩ := hfy
  injection hfa with hfa
  simp only [Array.mk.injEq, List.cons.injEq, and_true] at hfa
  obtain ⟨rfl, _⟩ := hfa
  simp only [List.length_cons, List.length_nil, Nat.zero_add, Nat.reduceAdd, Nat.one_mul] at g0 ⊢
  clear hEf hf cF b1
  have hzf := (E0.out w1 B1.out).2.1
  have BF : Aside (Below (w.heap.size + 1) (w.alloc (.cells #[.string o1, .string n1, .int .i64 t1, .int .i64 k1, .string s1, .slice p1 m1 c1, .int .i64 a1] 26)) ((w1.alloc (.cells #[.string ⟨#[43]⟩, .string ⟨#[]⟩, .int .i64 0, .int .i64 0, .string ⟨#[]⟩, .slice (some ⟨bf, of, none⟩) 2 cf, .int .i64 2] 26)).alloc (.cells #[.int .i64 0, .int .i64 ((0 : Nat) : Int)] 31))) := (B1.out.alloc hzf _).alloc (by simp; omega) _
  obtain ⟨hBF, hzF, _⟩ := E0.out _ BF.out
  obtain ⟨hB1, _, _⟩ := E0.out _ B1.out
  have q0 : w1.cell? ⟨w.heap.size, 0, none⟩ = some (.string o1) := hB1 0
  have q1 : w1.cell? ⟨w.heap.size, 1, none⟩ = some (.string n1) := hB1 1
  have q2 : w1.cell? ⟨w.heap.size, 2, none⟩ = some (.int .i64 t1) := hB1 2
  have q3 : w1.cell? ⟨w.heap.size, 3, none⟩ = some (.int .i64 k1) := hB1 3
  have q4 : w1.cell? ⟨w.heap.size, 4, none⟩ = some (.string s1) := hB1 4
  have q5 : w1.cell? ⟨w.heap.size, 5, none⟩ = some (.slice p1 m1 c1) := hB1 5
  have q6 : w1.cell? ⟨w.heap.size, 6, none⟩ = some (.int .i64 a1) := hB1 6
  have cP1 := cP.out _ BF.out
  clear hB1 hBF cP
  go_wp2_with fail
  refine cP1.mono ?_
  rintro e' w2 ⟨rfl, b2⟩
  have B2 : Aside (Below (w.heap.size + 1) (w.alloc (.cells #[.string o1, .string n1, .int .i64 t1, .int .i64 k1, .string s1, .slice p1 m1 c1, .int .i64 a1] 26)) w2) := BF.out.trans (b2.mono hzF)
  obtain ⟨hB2, hz2, _⟩ := E0.out _ B2.out
  clear cP1 b2 q0 q1 q2 q3 q4 q5 q6 g0 BF
  have g0 : w2.cell? ⟨w.heap.size, 0, none⟩ = some (.string o1) := hB2 0
  have g1 : w2.cell? ⟨w.heap.size, 1, none⟩ = some (.string n1) := hB2 1
  have g2 : w2.cell? ⟨w.heap.size, 2, none⟩ = some (.int .i64 t1) := hB2 2
  have g3 : w2.cell? ⟨w.heap.size, 3, none⟩ = some (.int .i64 k1) := hB2 3
  have g4 : w2.cell? ⟨w.heap.size, 4, none⟩ = some (.string s1) := hB2 4
  have g5 : w2.cell? ⟨w.heap.size, 5, none⟩ = some (.slice p1 m1 c1) := hB2 5
  have g6 : w2.cell? ⟨w.heap.size, 6, none⟩ = some (.int .i64 a1) := hB2 6
  go_upto_region 5 with fail
  go_cut [58] (fun s58 wx => s58 = .bool false ∧ Aside (Below (w.heap.size + 1) (w.alloc (.cells #[.string o1, .string n1, .int .i64 t1, .int .i64 k1, .string s1, .slice p1 m1 c1, .int .i64 a1] 26)) wx))
  case first => as_aux_lemma =>
    go_region_with (go_at_call 11; refine (cC.out _ (by repeat (first | exact B2.out | apply Below.drew))).mono ?_; rintro e' w3 ⟨rfl, b3⟩)
    all_goals
      go_wp2_with fail
      go_meet
      case rel => exact ⟨by first | rfl | simp, (show Aside _ by repeat (first | exact b3 | apply below_drewN | refine Below.drew ?_))⟩
  case rest => as_aux_lemma =>
    obtain ⟨rfl, B3⟩ := hcut
    rename World => w3
    clear g0 g1 g2 g3 g4 g5 g6 hB2 cC B2
    obtain ⟨hB3, hz3, _⟩ := E0.out _ B3.out
    by_cases hK0 : K = 0
    · have qK : (K == 0) = true := by simpa using hK0
      have HK0 : Hid (K = 0) := hK0
      clear hK0
      go_upto_if 65 with fail
      go_cut [9, 10] (fun _ _ wx => Aside (Below (w.heap.size + 1) (w.alloc (.cells #[.string o1, .string n1, .int .i64 t1, .int .i64 k1, .string s1, .slice p1 m1 c1, .int .i64 a1] 26)) wx))
      case first => as_aux_lemma =>
        by_cases hl : X.size ≤ 400
        · have hlz : (X.size : Int) ≤ 400 := by omega
          obtain ⟨e, hse, hes, cX1⟩ := cX.out HK0.out hl
          have cX2 := cX1 w3 B3.out
          clear cX cX1 cS
          go_wp2_with fail
          refine cX2.mono ?_
          rintro e' w4 ⟨⟨ve, rfl, hve⟩, b4⟩
          have hve2 : ExIn w4 (fun _ => True) ve e := ExIn.low (fun _ _ _ => trivial) _ _ hve.out
          obtain ⟨o2, n2, t2, k2, s2, p2, m2, c2, a2, rfl⟩ := hve2.agg
          have B4 : Below (w.heap.size + 1) (w.alloc (.cells #[.string o1, .string n1, .int .i64 t1, .int .i64 k1, .string s1, .slice p1 m1 c1, .int .i64 a1] 26)) w4 := B3.out.trans (b4.mono hz3)
          obtain ⟨hB4, hz4, _⟩ := E0.out _ B4
          have B5 : Aside (Below (w.heap.size + 1) (w.alloc (.cells #[.string o1, .string n1, .int .i64 t1, .int .i64 k1, .string s1, .slice p1 m1 c1, .int .i64 a1] 26)) ((w4.alloc (.cells #[.string o2, .string n2, .int .i64 t2, .int .i64 k2, .string s2, .slice p2 m2 c2, .int .i64 a2] 26)).alloc (.cells #[.int .i64 0, .int .i64 ((0 : Nat) : Int)] 31))) := (B4.alloc hz4 _).alloc (by simp; omega) _
          have cE := treeSame_any e x (fun _ => True) _ _ ((w4.alloc (.cells #[.string o2, .string n2, .int .i64 t2, .int .i64 k2, .string s2, .slice p2 m2 c2, .int .i64 a2] 26)).alloc (.cells #[.int .i64 0, .int .i64 ((0 : Nat) : Int)] 31)) (hve2.on (((Below.refl _ _).alloc (Nat.le_refl _) _).alloc (by simp) _)) (HXT.out _ B5.out) hes
          rw [hse] at cE
          clear b4 hve
          have g0 : w4.cell? ⟨w.heap.size, 0, none⟩ = some (.string o1) := hB4 0
          have g1 : w4.cell? ⟨w.heap.size, 1, none⟩ = some (.string n1) := hB4 1
          have g2 : w4.cell? ⟨w.heap.size, 2, none⟩ = some (.int .i64 t1) := hB4 2
          have g3 : w4.cell? ⟨w.heap.size, 3, none⟩ = some (.int .i64 k1) := hB4 3
          have g4 : w4.cell? ⟨w.heap.size, 4, none⟩ = some (.string s1) := hB4 4
          have g5 : w4.cell? ⟨w.heap.size, 5, none⟩ = some (.slice p1 m1 c1) := hB4 5
          have g6 : w4.cell? ⟨w.heap.size, 6, none⟩ = some (.int .i64 a1) := hB4 6
          clear hB4
          go_wp2_with fail
          refine cE.mono ?_
          rintro e' w5 ⟨rfl, b5⟩
          have B6 : Below (w.heap.size + 1) (w.alloc (.cells #[.string o1, .string n1, .int .i64 t1, .int .i64 k1, .string s1, .slice p1 m1 c1, .int .i64 a1] 26)) w5 := B5.out.trans (b5.mono (by simp; omega))
          clear cE b5
          go_wp2
          go_meet
          case rel => exact B6
        · have hlz : ¬ (X.size : Int) ≤ 400 := by omega
          go_wp2
          go_meet
          case rel => exact B3
      case rest => as_aux_lemma =>
        have B4 : Aside (Below (w.heap.size + 1) (w.alloc (.cells #[.string o1, .string n1, .int .i64 t1, .int .i64 k1, .string s1, .slice p1 m1 c1, .int .i64 a1] 26)) _) := hcut
        rename World => w4
        clear hcut cX he1 he2 qKK B3 hB3 qK HK0
        have hz4 := (E0.out _ B4.out).2.1
        have cS4 := cS.out _ B4.out
        clear cS
        go_wp2_with fail
        refine cS4.mono ?_
        rintro e' w5 ⟨⟨vy, rfl, hvy⟩, b5⟩
        have hvy2 : ExIn w5 (fun _ => True) vy y := ExIn.low (fun _ _ _ => trivial) _ _ hvy.out
        obtain ⟨o2, n2, t2, k2, s2, p2, m2, c2, a2, rfl⟩ := hvy2.agg
        have B5 : Below (w.heap.size + 1) (w.alloc (.cells #[.string o1, .string n1, .int .i64 t1, .int .i64 k1, .string s1, .slice p1 m1 c1, .int .i64 a1] 26)) w5 := B4.out.trans (b5.mono hz4)
        have hz5 := (E0.out _ B5).2.1
        have B6 : Aside (Below (w.heap.size + 1) (w.alloc (.cells #[.string o1, .string n1, .int .i64 t1, .int .i64 k1, .string s1, .slice p1 m1 c1, .int .i64 a1] 26)) ((w5.alloc (.cells #[.string o2, .string n2, .int .i64 t2, .int .i64 k2, .string s2, .slice p2 m2 c2, .int .i64 a2] 26)).alloc (.cells #[.int .i64 Ey, .int .i64 (Py : Int)] 31))) := (B5.alloc hz5 _).alloc (by simp; omega) _
        have HY6 : Aside (ExIn ((w5.alloc (.cells #[.string o2, .string n2, .int .i64 t2, .int .i64 k2, .string s2, .slice p2 m2 c2, .int .i64 a2] 26)).alloc (.cells #[.int .i64 Ey, .int .i64 (Py : Int)] 31)) (fun _ => True) (.agg #[.string o2, .string n2, .int .i64 t2, .int .i64 k2, .string s2, .slice p2 m2 c2, .int .i64 a2]) y) := hvy2.on (((Below.refl _ _).alloc (Nat.le_refl _) _).alloc (by simp) _)
        clear cS4 b5 hvy hvy2 B4
        by_cases hE : Ey = 0
        · subst hE
          obtain ⟨hck, hyb, hyl, hp0⟩ := parse_right HPY.out
          clear hp0
          have hysz : (y.pre 1).length = y.size := size_pre y 1
          have hy1 : 1 ≤ y.size := by
            obtain ⟨oo, nn, tt, kk, ss, pp, ll⟩ := y
            rw [Ex.size]; omega
          have AY : Aside (At7 ((w5.alloc (.cells #[.string o2, .string n2, .int .i64 t2, .int .i64 k2, .string s2, .slice p2 m2 c2, .int .i64 a2] 26)).alloc (.cells #[.int .i64 0, .int .i64 (Py : Int)] 31)) w5.heap.size #[.string o2, .string n2, .int .i64 t2, .int .i64 k2, .string s2, .slice p2 m2 c2, .int .i64 a2]) := (At7.new w5 #[.string o2, .string n2, .int .i64 t2, .int .i64 k2, .string s2, .slice p2 m2 c2, .int .i64 a2] 26).on ((Below.refl _ _).alloc (Nat.le_refl _) _)
          have cC6 := check_tree y (fun _ => True) _ _ (HTE.out _ B6.out).1 HY6.out (by omega)
          rw [hck, show errV 0 = .nilIface from rfl] at cC6
          go_wp2_with fail
          refine cC6.mono ?_
          rintro e' w7 ⟨rfl, b7⟩
          have B7 : Aside (Below (w.heap.size + 1) (w.alloc (.cells #[.string o1, .string n1, .int .i64 t1, .int .i64 k1, .string s1, .slice p1 m1 c1, .int .i64 a1] 26)) w7) := B6.out.trans (b7.mono (by simp; omega))
          have HY7 : Aside (ExIn w7 (fun _ => True) (.agg #[.string o2, .string n2, .int .i64 t2, .int .i64 k2, .string s2, .slice p2 m2 c2, .int .i64 a2]) y) := HY6.out.on b7
          have AY7 : Aside (At7 w7 w5.heap.size #[.string o2, .string n2, .int .i64 t2, .int .i64 k2, .string s2, .slice p2 m2 c2, .int .i64 a2]) := AY.out.on b7
          have hz7 := (E0.out _ B7.out).2.1
          obtain ⟨hA7, hl7⟩ := AY7.out
          have g0 : w7.cell? ⟨w5.heap.size, 0, none⟩ = some (.string o2) := hA7 0
          have g1 : w7.cell? ⟨w5.heap.size, 1, none⟩ = some (.string n2) := hA7 1
          have g2 : w7.cell? ⟨w5.heap.size, 2, none⟩ = some (.int .i64 t2) := hA7 2
          have g3 : w7.cell? ⟨w5.heap.size, 3, none⟩ = some (.int .i64 k2) := hA7 3
          have g4 : w7.cell? ⟨w5.heap.size, 4, none⟩ = some (.string s2) := hA7 4
          have g5 : w7.cell? ⟨w5.heap.size, 5, none⟩ = some (.slice p2 m2 c2) := hA7 5
          have g6 : w7.cell? ⟨w5.heap.size, 6, none⟩ = some (.int .i64 a2) := hA7 6
          have cZ7 := size_any y (fun _ => True) _ w7 HY7.out (by omega)
          rw [hysz] at cZ7
          have hyz1 : ¬ (y.size : Int) < 1 := by omega
          have hyz2 : ¬ (200 : Int) < (y.size : Int) := by omega
          clear cC6 b7 hA7 AY HY6 B6
          go_wp2_with fail
          refine cZ7.mono ?_
          rintro e' w8 ⟨rfl, b8⟩
          have B8 : Aside (Below (w.heap.size + 1) (w.alloc (.cells #[.string o1, .string n1, .int .i64 t1, .int .i64 k1, .string s1, .slice p1 m1 c1, .int .i64 a1] 26)) w8) := B7.out.trans (b8.mono hz7)
          have HY8 : Aside (ExIn w8 (fun _ => True) (.agg #[.string o2, .string n2, .int .i64 t2, .int .i64 k2, .string s2, .slice p2 m2 c2, .int .i64 a2]) y) := HY7.out.on b8
          have AY8 : Aside (At7 w8 w5.heap.size #[.string o2, .string n2, .int .i64 t2, .int .i64 k2, .string s2, .slice p2 m2 c2, .int .i64 a2]) := AY7.out.on b8
          have hz8 := (E0.out _ B8.out).2.1
          clear g0 g1 g2 g3 g4 g5 g6 cZ7 b8 AY7 HY7 B7 hl7
          obtain ⟨hA8, hl8⟩ := AY8.out
          have g0 : w8.cell? ⟨w5.heap.size, 0, none⟩ = some (.string o2) := hA8 0
          have g1 : w8.cell? ⟨w5.heap.size, 1, none⟩ = some (.string n2) := hA8 1
          have g2 : w8.cell? ⟨w5.heap.size, 2, none⟩ = some (.int .i64 t2) := hA8 2
          have g3 : w8.cell? ⟨w5.heap.size, 3, none⟩ = some (.int .i64 k2) := hA8 3
          have g4 : w8.cell? ⟨w5.heap.size, 4, none⟩ = some (.string s2) := hA8 4
          have g5 : w8.cell? ⟨w5.heap.size, 5, none⟩ = some (.slice p2 m2 c2) := hA8 5
          have g6 : w8.cell? ⟨w5.heap.size, 6, none⟩ = some (.int .i64 a2) := hA8 6
          have cZ8 := size_any y (fun _ => True) _ w8 HY8.out (by omega)
          rw [hysz] at cZ8
          clear hA8
          go_wp2_with fail
          refine cZ8.mono ?_
          rintro e' w9 ⟨rfl, b9⟩
          have B9 : Aside (Below (w.heap.size + 1) (w.alloc (.cells #[.string o1, .string n1, .int .i64 t1, .int .i64 k1, .string s1, .slice p1 m1 c1, .int .i64 a1] 26)) w9) := B8.out.trans (b9.mono hz8)
          have HY9 : Aside (ExIn w9 (fun _ => True) (.agg #[.string o2, .string n2, .int .i64 t2, .int .i64 k2, .string s2, .slice p2 m2 c2, .int .i64 a2]) y) := HY8.out.on b9
          have AY9 : Aside (At7 w9 w5.heap.size #[.string o2, .string n2, .int .i64 t2, .int .i64 k2, .string s2, .slice p2 m2 c2, .int .i64 a2]) := AY8.out.on b9
          have hz9 := (E0.out _ B9.out).2.1
          clear g0 g1 g2 g3 g4 g5 g6 cZ8 b9 AY8 HY8 B8 hl8
          go_upto_if 113 with fail
          go_cut [13, 14] (fun _ _ wx => Aside (Below w9.heap.size w9 wx))
          case first => as_aux_lemma =>
            by_cases hl : s.size ≤ 398
            · have hlz : (s.size : Int) ≤ 398 := by omega
              obtain ⟨g, hg, hgs⟩ := parse_bracket HPY.out (by simpa using hl)
              have hsz2 : ((⟨#[40]⟩ : ByteArray) ++ s ++ ⟨#[41]⟩).size ≤ maxLen := by
                rw [ByteArray.size_append, ByteArray.size_append]
                have : (⟨#[40]⟩ : ByteArray).size = 1 := rfl
                have : (⟨#[41]⟩ : ByteArray).size = 1 := rfl
                unfold maxLen; omega
              have cG := parse_tree ((⟨#[40]⟩ : ByteArray) ++ s ++ ⟨#[41]⟩) w9 (HTE.out _ B9.out).1 (HTE.out _ B9.out).2 g 0 0 (by rw [show ((⟨#[40]⟩ : ByteArray) ++ s ++ ⟨#[41]⟩).data.toList = 40 :: (s.data.toList ++ [41]) by simp]; exact hg) hsz2
              go_wp2_with fail
              refine cG.mono ?_
              rintro e' w10 ⟨⟨vg, rfl, hvg⟩, b10⟩
              have hvg2 : ExIn w10 (fun _ => True) vg g := ExIn.low (fun _ _ _ => trivial) _ _ hvg.out
              obtain ⟨o3, n3, t3, k3, s3, p3, m3, c3, a3, rfl⟩ := hvg2.agg
              obtain ⟨hA10, hl10⟩ := AY9.out.on b10
              have g0 : w10.cell? ⟨w5.heap.size, 0, none⟩ = some (.string o2) := hA10 0
              have g1 : w10.cell? ⟨w5.heap.size, 1, none⟩ = some (.string n2) := hA10 1
              have g2 : w10.cell? ⟨w5.heap.size, 2, none⟩ = some (.int .i64 t2) := hA10 2
              have g3 : w10.cell? ⟨w5.heap.size, 3, none⟩ = some (.int .i64 k2) := hA10 3
              have g4 : w10.cell? ⟨w5.heap.size, 4, none⟩ = some (.string s2) := hA10 4
              have g5 : w10.cell? ⟨w5.heap.size, 5, none⟩ = some (.slice p2 m2 c2) := hA10 5
              have g6 : w10.cell? ⟨w5.heap.size, 6, none⟩ = some (.int .i64 a2) := hA10 6
              have b11 : Below w9.heap.size w9 ((w10.alloc (.cells #[.string o3, .string n3, .int .i64 t3, .int .i64 k3, .string s3, .slice p3 m3 c3, .int .i64 a3] 26)).alloc (.cells #[.int .i64 0, .int .i64 ((0 : Nat) : Int)] 31)) := (b10.alloc b10.size _).alloc (by have := b10.size; simp; omega) _
              have cE := treeSame_any g y (fun _ => True) _ _ ((w10.alloc (.cells #[.string o3, .string n3, .int .i64 t3, .int .i64 k3, .string s3, .slice p3 m3 c3, .int .i64 a3] 26)).alloc (.cells #[.int .i64 0, .int .i64 ((0 : Nat) : Int)] 31)) (hvg2.on (((Below.refl _ _).alloc (Nat.le_refl _) _).alloc (by simp) _)) (HY9.out.on b11) (by rw [(same_size g y hgs).1]; omega)
              rw [hgs] at cE
              clear cG hvg hA10
              go_wp2_with fail
              refine cE.mono ?_
              rintro e' w12 ⟨rfl, b12⟩
              have b13 := b11.trans (b12.mono b11.size)
              clear cE b12 b11
              go_wp2
              go_meet
              case rel => exact b13
            · have hlz : ¬ (s.size : Int) ≤ 398 := by omega
              go_wp2
              go_meet
              case rel => exact (show Aside _ from Below.refl _ _)
          case rest => as_aux_lemma =>
            have b10 : Aside (Below w9.heap.size w9 _) := hcut
            rename World => w10
            clear hcut
            have B10 : Aside (Below (w.heap.size + 1) (w.alloc (.cells #[.string o1, .string n1, .int .i64 t1, .int .i64 k1, .string s1, .slice p1 m1 c1, .int .i64 a1] 26)) w10) := B9.out.trans (b10.out.mono hz9)
            have HY10 : Aside (ExIn w10 (fun _ => True) (.agg #[.string o2, .string n2, .int .i64 t2, .int .i64 k2, .string s2, .slice p2 m2 c2, .int .i64 a2]) y) := HY9.out.on b10.out
            have AY10 : Aside (At7 w10 w5.heap.size #[.string o2, .string n2, .int .i64 t2, .int .i64 k2, .string s2, .slice p2 m2 c2, .int .i64 a2]) := AY9.out.on b10.out
            have hz10 := (E0.out _ B10.out).2.1
            clear b10 HY9 AY9 B9
            obtain ⟨hA10, hl10⟩ := AY10.out
            have g0 : w10.cell? ⟨w5.heap.size, 0, none⟩ = some (.string o2) := hA10 0
            have g1 : w10.cell? ⟨w5.heap.size, 1, none⟩ = some (.string n2) := hA10 1
            have g2 : w10.cell? ⟨w5.heap.size, 2, none⟩ = some (.int .i64 t2) := hA10 2
            have g3 : w10.cell? ⟨w5.heap.size, 3, none⟩ = some (.int .i64 k2) := hA10 3
            have g4 : w10.cell? ⟨w5.heap.size, 4, none⟩ = some (.string s2) := hA10 4
            have g5 : w10.cell? ⟨w5.heap.size, 5, none⟩ = some (.slice p2 m2 c2) := hA10 5
            have g6 : w10.cell? ⟨w5.heap.size, 6, none⟩ = some (.int .i64 a2) := hA10 6
            obtain ⟨T, hT⟩ : ∃ T : ByteArray, T.data.toList = txP y := ⟨⟨(txP y).toArray⟩, rfl⟩
            have hTs : T.size = T.data.toList.length := by simp
            have cP10 := treePrint_any y (fun _ => True) _ w10 (HTE.out _ B10.out).1 (fun W' hW' => (HTE.out W' (B10.out.trans (hW'.mono hz10))).1.env) HY10.out (by omega) hyb T 0 hck (by rw [hck, if_pos rfl]; exact hT)
            have hTm : T.size ≤ 20000 := by
              have h1 := tx_len y 1 (ckP_zero hck).2 hyb
              rw [hTs, hT]; omega
            rw [show errV 0 = .nilIface from rfl] at cP10
            obtain ⟨z, Ez, Pz, hpz⟩ : ∃ z Ez Pz, parseP T.data.toList = (z, Ez, Pz) := ⟨_, _, _, rfl⟩
            have HZ : Hid (T.size ≤ 400 → Ez = 0 ∧ sameE false z y = true ∧ z.size ≤ 1048576) := fun h => by
              obtain ⟨e, he, hse⟩ := parse_tx hck hyb (by rw [← hT, ← hTs]; exact h)
              rw [hT, he] at hpz
              simp only [Prod.mk.injEq] at hpz
              obtain ⟨rfl, rfl, _⟩ := hpz
              exact ⟨rfl, hse, by rw [(same_size _ _ hse).1]; omega⟩
            clear hT hA10 hTs
            go_wp2_with fail
            refine cP10.mono ?_
            rintro e' w11 ⟨rfl, b11⟩
            have B11 : Aside (Below (w.heap.size + 1) (w.alloc (.cells #[.string o1, .string n1, .int .i64 t1, .int .i64 k1, .string s1, .slice p1 m1 c1, .int .i64 a1] 26)) w11) := B10.out.trans (b11.mono hz10)
            have HY11 : Aside (ExIn w11 (fun _ => True) (.agg #[.string o2, .string n2, .int .i64 t2, .int .i64 k2, .string s2, .slice p2 m2 c2, .int .i64 a2]) y) := HY10.out.on b11
            have AY11 : Aside (At7 w11 w5.heap.size #[.string o2, .string n2, .int .i64 t2, .int .i64 k2, .string s2, .slice p2 m2 c2, .int .i64 a2]) := AY10.out.on b11
            have hz11 := (E0.out _ B11.out).2.1
            have cZ11 := parse_tree T w11 (HTE.out _ B11.out).1 (HTE.out _ B11.out).2 z Ez Pz hpz (by unfold maxLen; omega)
            clear cP10 b11 g0 g1 g2 g3 g4 g5 g6 HY10 AY10 B10 hl10 hpz
            go_wp2_with fail
            refine cZ11.mono ?_
            rintro e' w12 ⟨⟨vz, rfl, hvz⟩, b12⟩
            have hvz2 : ExIn w12 (fun _ => True) vz z := ExIn.low (fun _ _ _ => trivial) _ _ hvz.out
            obtain ⟨o3, n3, t3, k3, s3, p3, m3, c3, a3, rfl⟩ := hvz2.agg
            have B12 : Below (w.heap.size + 1) (w.alloc (.cells #[.string o1, .string n1, .int .i64 t1, .int .i64 k1, .string s1, .slice p1 m1 c1, .int .i64 a1] 26)) w12 := B11.out.trans (b12.mono hz11)
            have hz12 := (E0.out _ B12).2.1
            have B13 : Aside (Below (w.heap.size + 1) (w.alloc (.cells #[.string o1, .string n1, .int .i64 t1, .int .i64 k1, .string s1, .slice p1 m1 c1, .int .i64 a1] 26)) ((w12.alloc (.cells #[.string o3, .string n3, .int .i64 t3, .int .i64 k3, .string s3, .slice p3 m3 c3, .int .i64 a3] 26)).alloc (.cells #[.int .i64 Ez, .int .i64 (Pz : Int)] 31))) := (B12.alloc hz12 _).alloc (by simp; omega) _
            by_cases hl : T.size ≤ 400
            · have hlz : ¬ (400 : Int) < (T.size : Int) := by omega
              obtain ⟨rfl, hzs, hzz⟩ := HZ.out hl
              have b13 : Below w11.heap.size w11 ((w12.alloc (.cells #[.string o3, .string n3, .int .i64 t3, .int .i64 k3, .string s3, .slice p3 m3 c3, .int .i64 a3] 26)).alloc (.cells #[.int .i64 0, .int .i64 (Pz : Int)] 31)) := (b12.alloc b12.size _).alloc (by have := b12.size; simp; omega) _
              have cE := treeSame_any z y (fun _ => True) _ _ ((w12.alloc (.cells #[.string o3, .string n3, .int .i64 t3, .int .i64 k3, .string s3, .slice p3 m3 c3, .int .i64 a3] 26)).alloc (.cells #[.int .i64 0, .int .i64 (Pz : Int)] 31)) (hvz2.on (((Below.refl _ _).alloc (Nat.le_refl _) _).alloc (by simp) _)) (HY11.out.on b13) hzz
              rw [hzs] at cE
              obtain ⟨hA12, hl12⟩ := AY11.out.on b12
              have g0 : w12.cell? ⟨w5.heap.size, 0, none⟩ = some (.string o2) := hA12 0
              have g1 : w12.cell? ⟨w5.heap.size, 1, none⟩ = some (.string n2) := hA12 1
              have g2 : w12.cell? ⟨w5.heap.size, 2, none⟩ = some (.int .i64 t2) := hA12 2
              have g3 : w12.cell? ⟨w5.heap.size, 3, none⟩ = some (.int .i64 k2) := hA12 3
              have g4 : w12.cell? ⟨w5.heap.size, 4, none⟩ = some (.string s2) := hA12 4
              have g5 : w12.cell? ⟨w5.heap.size, 5, none⟩ = some (.slice p2 m2 c2) := hA12 5
              have g6 : w12.cell? ⟨w5.heap.size, 6, none⟩ = some (.int .i64 a2) := hA12 6
              clear hvz hA12 b13
              go_wp2_with fail
              refine cE.mono ?_
              rintro e' w14 ⟨rfl, b14⟩
              have B14 := (E0.out _ (B13.out.trans (b14.mono (by simp; omega)))).2.2
              clear cE b14
              go_wp2
              go_ret
              exact ⟨rfl, B14⟩
            · have hlz : (400 : Int) < (T.size : Int) := by omega
              have B14 := (E0.out _ B13.out).2.2
              go_wp2
              go_ret
              exact ⟨rfl, B14⟩
        · have hEb : (Ey != 0) = true := by simpa using hE
          have B14 := (E0.out _ B6.out).2.2
          go_wp2
          go_ret
          exact ⟨rfl, B14⟩
    · have qK : (K == 0) = false := by simpa using hK0
      have B4 := B3


      clear cX qKK B3 hB3 hK0
      have hz4 := (E0.out _ B4.out).2.1
      have cS4 := cS.out _ B4.out
      clear cS
      go_wp2_with fail
      refine cS4.mono ?_
      rintro e' w5 ⟨⟨vy, rfl, hvy⟩, b5⟩
      have hvy2 : ExIn w5 (fun _ => True) vy y := ExIn.low (fun _ _ _ => trivial) _ _ hvy.out
      obtain ⟨o2, n2, t2, k2, s2, p2, m2, c2, a2, rfl⟩ := hvy2.agg
      have B5 : Below (w.heap.size + 1) (w.alloc (.cells #[.string o1, .string n1, .int .i64 t1, .int .i64 k1, .string s1, .slice p1 m1 c1, .int .i64 a1] 26)) w5 := B4.out.trans (b5.mono hz4)
      have hz5 := (E0.out _ B5).2.1
      have B6 : Aside (Below (w.heap.size + 1) (w.alloc (.cells #[.string o1, .string n1, .int .i64 t1, .int .i64 k1, .string s1, .slice p1 m1 c1, .int .i64 a1] 26)) ((w5.alloc (.cells #[.string o2, .string n2, .int .i64 t2, .int .i64 k2, .string s2, .slice p2 m2 c2, .int .i64 a2] 26)).alloc (.cells #[.int .i64 Ey, .int .i64 (Py : Int)] 31))) := (B5.alloc hz5 _).alloc (by simp; omega) _
      have HY6 : Aside (ExIn ((w5.alloc (.cells #[.string o2, .string n2, .int .i64 t2, .int .i64 k2, .string s2, .slice p2 m2 c2, .int .i64 a2] 26)).alloc (.cells #[.int .i64 Ey, .int .i64 (Py : Int)] 31)) (fun _ => True) (.agg #[.string o2, .string n2, .int .i64 t2, .int .i64 k2, .string s2, .slice p2 m2 c2, .int .i64 a2]) y) := hvy2.on (((Below.refl _ _).alloc (Nat.le_refl _) _).alloc (by simp) _)
      clear cS4 b5 hvy hvy2 B4
      by_cases hE : Ey = 0
      · subst hE
        obtain ⟨hck, hyb, hyl, hp0⟩ := parse_right HPY.out
        clear hp0
        have hysz : (y.pre 1).length = y.size := size_pre y 1
        have hy1 : 1 ≤ y.size := by
          obtain ⟨oo, nn, tt, kk, ss, pp, ll⟩ := y
          rw [Ex.size]; omega
        have AY : Aside (At7 ((w5.alloc (.cells #[.string o2, .string n2, .int .i64 t2, .int .i64 k2, .string s2, .slice p2 m2 c2, .int .i64 a2] 26)).alloc (.cells #[.int .i64 0, .int .i64 (Py : Int)] 31)) w5.heap.size #[.string o2, .string n2, .int .i64 t2, .int .i64 k2, .string s2, .slice p2 m2 c2, .int .i64 a2]) := (At7.new w5 #[.string o2, .string n2, .int .i64 t2, .int .i64 k2, .string s2, .slice p2 m2 c2, .int .i64 a2] 26).on ((Below.refl _ _).alloc (Nat.le_refl _) _)
        have cC6 := check_tree y (fun _ => True) _ _ (HTE.out _ B6.out).1 HY6.out (by omega)
        rw [hck, show errV 0 = .nilIface from rfl] at cC6
        go_wp2_with fail
        refine cC6.mono ?_
        rintro e' w7 ⟨rfl, b7⟩
        have B7 : Aside (Below (w.heap.size + 1) (w.alloc (.cells #[.string o1, .string n1, .int .i64 t1, .int .i64 k1, .string s1, .slice p1 m1 c1, .int .i64 a1] 26)) w7) := B6.out.trans (b7.mono (by simp; omega))
        have HY7 : Aside (ExIn w7 (fun _ => True) (.agg #[.string o2, .string n2, .int .i64 t2, .int .i64 k2, .string s2, .slice p2 m2 c2, .int .i64 a2]) y) := HY6.out.on b7
        have AY7 : Aside (At7 w7 w5.heap.size #[.string o2, .string n2, .int .i64 t2, .int .i64 k2, .string s2, .slice p2 m2 c2, .int .i64 a2]) := AY.out.on b7
        have hz7 := (E0.out _ B7.out).2.1
        obtain ⟨hA7, hl7⟩ := AY7.out
        have g0 : w7.cell? ⟨w5.heap.size, 0, none⟩ = some (.string o2) := hA7 0
        have g1 : w7.cell? ⟨w5.heap.size, 1, none⟩ = some (.string n2) := hA7 1
        have g2 : w7.cell? ⟨w5.heap.size, 2, none⟩ = some (.int .i64 t2) := hA7 2
        have g3 : w7.cell? ⟨w5.heap.size, 3, none⟩ = some (.int .i64 k2) := hA7 3
        have g4 : w7.cell? ⟨w5.heap.size, 4, none⟩ = some (.string s2) := hA7 4
        have g5 : w7.cell? ⟨w5.heap.size, 5, none⟩ = some (.slice p2 m2 c2) := hA7 5
        have g6 : w7.cell? ⟨w5.heap.size, 6, none⟩ = some (.int .i64 a2) := hA7 6
        have cZ7 := size_any y (fun _ => True) _ w7 HY7.out (by omega)
        rw [hysz] at cZ7
        have hyz1 : ¬ (y.size : Int) < 1 := by omega
        have hyz2 : ¬ (200 : Int) < (y.size : Int) := by omega
        clear cC6 b7 hA7 AY HY6 B6
        go_wp2_with fail
        refine cZ7.mono ?_
        rintro e' w8 ⟨rfl, b8⟩
        have B8 : Aside (Below (w.heap.size + 1) (w.alloc (.cells #[.string o1, .string n1, .int .i64 t1, .int .i64 k1, .string s1, .slice p1 m1 c1, .int .i64 a1] 26)) w8) := B7.out.trans (b8.mono hz7)
        have HY8 : Aside (ExIn w8 (fun _ => True) (.agg #[.string o2, .string n2, .int .i64 t2, .int .i64 k2, .string s2, .slice p2 m2 c2, .int .i64 a2]) y) := HY7.out.on b8
        have AY8 : Aside (At7 w8 w5.heap.size #[.string o2, .string n2, .int .i64 t2, .int .i64 k2, .string s2, .slice p2 m2 c2, .int .i64 a2]) := AY7.out.on b8
        have hz8 := (E0.out _ B8.out).2.1
        clear g0 g1 g2 g3 g4 g5 g6 cZ7 b8 AY7 HY7 B7 hl7
        obtain ⟨hA8, hl8⟩ := AY8.out
        have g0 : w8.cell? ⟨w5.heap.size, 0, none⟩ = some (.string o2) := hA8 0
        have g1 : w8.cell? ⟨w5.heap.size, 1, none⟩ = some (.string n2) := hA8 1
        have g2 : w8.cell? ⟨w5.heap.size, 2, none⟩ = some (.int .i64 t2) := hA8 2
        have g3 : w8.cell? ⟨w5.heap.size, 3, none⟩ = some (.int .i64 k2) := hA8 3
        have g4 : w8.cell? ⟨w5.heap.size, 4, none⟩ = some (.string s2) := hA8 4
        have g5 : w8.cell? ⟨w5.heap.size, 5, none⟩ = some (.slice p2 m2 c2) := hA8 5
        have g6 : w8.cell? ⟨w5.heap.size, 6, none⟩ = some (.int .i64 a2) := hA8 6
        have cZ8 := size_any y (fun _ => True) _ w8 HY8.out (by omega)
        rw [hysz] at cZ8
        clear hA8
        go_wp2_with fail
        refine cZ8.mono ?_
        rintro e' w9 ⟨rfl, b9⟩
        have B9 : Aside (Below (w.heap.size + 1) (w.alloc (.cells #[.string o1, .string n1, .int .i64 t1, .int .i64 k1, .string s1, .slice p1 m1 c1, .int .i64 a1] 26)) w9) := B8.out.trans (b9.mono hz8)
        have HY9 : Aside (ExIn w9 (fun _ => True) (.agg #[.string o2, .string n2, .int .i64 t2, .int .i64 k2, .string s2, .slice p2 m2 c2, .int .i64 a2]) y) := HY8.out.on b9
        have AY9 : Aside (At7 w9 w5.heap.size #[.string o2, .string n2, .int .i64 t2, .int .i64 k2, .string s2, .slice p2 m2 c2, .int .i64 a2]) := AY8.out.on b9
        have hz9 := (E0.out _ B9.out).2.1
        clear g0 g1 g2 g3 g4 g5 g6 cZ8 b9 AY8 HY8 B8 hl8
        go_upto_if 113 with fail
        go_cut [13, 14] (fun _ _ wx => Aside (Below w9.heap.size w9 wx))
        case first => as_aux_lemma =>
          by_cases hl : s.size ≤ 398
          · have hlz : (s.size : Int) ≤ 398 := by omega
            obtain ⟨g, hg, hgs⟩ := parse_bracket HPY.out (by simpa using hl)
            have hsz2 : ((⟨#[40]⟩ : ByteArray) ++ s ++ ⟨#[41]⟩).size ≤ maxLen := by
              rw [ByteArray.size_append, ByteArray.size_append]
              have : (⟨#[40]⟩ : ByteArray).size = 1 := rfl
              have : (⟨#[41]⟩ : ByteArray).size = 1 := rfl
              unfold maxLen; omega
            have cG := parse_tree ((⟨#[40]⟩ : ByteArray) ++ s ++ ⟨#[41]⟩) w9 (HTE.out _ B9.out).1 (HTE.out _ B9.out).2 g 0 0 (by rw [show ((⟨#[40]⟩ : ByteArray) ++ s ++ ⟨#[41]⟩).data.toList = 40 :: (s.data.toList ++ [41]) by simp]; exact hg) hsz2
            go_wp2_with fail
            refine cG.mono ?_
            rintro e' w10 ⟨⟨vg, rfl, hvg⟩, b10⟩
            have hvg2 : ExIn w10 (fun _ => True) vg g := ExIn.low (fun _ _ _ => trivial) _ _ hvg.out
            obtain ⟨o3, n3, t3, k3, s3, p3, m3, c3, a3, rfl⟩ := hvg2.agg
            obtain ⟨hA10, hl10⟩ := AY9.out.on b10
            have g0 : w10.cell? ⟨w5.heap.size, 0, none⟩ = some (.string o2) := hA10 0
            have g1 : w10.cell? ⟨w5.heap.size, 1, none⟩ = some (.string n2) := hA10 1
            have g2 : w10.cell? ⟨w5.heap.size, 2, none⟩ = some (.int .i64 t2) := hA10 2
            have g3 : w10.cell? ⟨w5.heap.size, 3, none⟩ = some (.int .i64 k2) := hA10 3
            have g4 : w10.cell? ⟨w5.heap.size, 4, none⟩ = some (.string s2) := hA10 4
            have g5 : w10.cell? ⟨w5.heap.size, 5, none⟩ = some (.slice p2 m2 c2) := hA10 5
            have g6 : w10.cell? ⟨w5.heap.size, 6, none⟩ = some (.int .i64 a2) := hA10 6
            have b11 : Below w9.heap.size w9 ((w10.alloc (.cells #[.string o3, .string n3, .int .i64 t3, .int .i64 k3, .string s3, .slice p3 m3 c3, .int .i64 a3] 26)).alloc (.cells #[.int .i64 0, .int .i64 ((0 : Nat) : Int)] 31)) := (b10.alloc b10.size _).alloc (by have := b10.size; simp; omega) _
            have cE := treeSame_any g y (fun _ => True) _ _ ((w10.alloc (.cells #[.string o3, .string n3, .int .i64 t3, .int .i64 k3, .string s3, .slice p3 m3 c3, .int .i64 a3] 26)).alloc (.cells #[.int .i64 0, .int .i64 ((0 : Nat) : Int)] 31)) (hvg2.on (((Below.refl _ _).alloc (Nat.le_refl _) _).alloc (by simp) _)) (HY9.out.on b11) (by rw [(same_size g y hgs).1]; omega)
            rw [hgs] at cE
            clear cG hvg hA10
            go_wp2_with fail
            refine cE.mono ?_
            rintro e' w12 ⟨rfl, b12⟩
            have b13 := b11.trans (b12.mono b11.size)
            clear cE b12 b11
            go_wp2
            go_meet
            case rel => exact b13
          · have hlz : ¬ (s.size : Int) ≤ 398 := by omega
            go_wp2
            go_meet
            case rel => exact (show Aside _ from Below.refl _ _)
        case rest => as_aux_lemma =>
          have b10 : Aside (Below w9.heap.size w9 _) := hcut
          rename World => w10
          clear hcut
          have B10 : Aside (Below (w.heap.size + 1) (w.alloc (.cells #[.string o1, .string n1, .int .i64 t1, .int .i64 k1, .string s1, .slice p1 m1 c1, .int .i64 a1] 26)) w10) := B9.out.trans (b10.out.mono hz9)
          have HY10 : Aside (ExIn w10 (fun _ => True) (.agg #[.string o2, .string n2, .int .i64 t2, .int .i64 k2, .string s2, .slice p2 m2 c2, .int .i64 a2]) y) := HY9.out.on b10.out
          have AY10 : Aside (At7 w10 w5.heap.size #[.string o2, .string n2, .int .i64 t2, .int .i64 k2, .string s2, .slice p2 m2 c2, .int .i64 a2]) := AY9.out.on b10.out
          have hz10 := (E0.out _ B10.out).2.1
          clear b10 HY9 AY9 B9
          obtain ⟨hA10, hl10⟩ := AY10.out
          have g0 : w10.cell? ⟨w5.heap.size, 0, none⟩ = some (.string o2) := hA10 0
          have g1 : w10.cell? ⟨w5.heap.size, 1, none⟩ = some (.string n2) := hA10 1
          have g2 : w10.cell? ⟨w5.heap.size, 2, none⟩ = some (.int .i64 t2) := hA10 2
          have g3 : w10.cell? ⟨w5.heap.size, 3, none⟩ = some (.int .i64 k2) := hA10 3
          have g4 : w10.cell? ⟨w5.heap.size, 4, none⟩ = some (.string s2) := hA10 4
          have g5 : w10.cell? ⟨w5.heap.size, 5, none⟩ = some (.slice p2 m2 c2) := hA10 5
          have g6 : w10.cell? ⟨w5.heap.size, 6, none⟩ = some (.int .i64 a2) := hA10 6
          obtain ⟨T, hT⟩ : ∃ T : ByteArray, T.data.toList = txP y := ⟨⟨(txP y).toArray⟩, rfl⟩
          have hTs : T.size = T.data.toList.length := by simp
          have cP10 := treePrint_any y (fun _ => True) _ w10 (HTE.out _ B10.out).1 (fun W' hW' => (HTE.out W' (B10.out.trans (hW'.mono hz10))).1.env) HY10.out (by omega) hyb T 0 hck (by rw [hck, if_pos rfl]; exact hT)
          have hTm : T.size ≤ 20000 := by
            have h1 := tx_len y 1 (ckP_zero hck).2 hyb
            rw [hTs, hT]; omega
          rw [show errV 0 = .nilIface from rfl] at cP10
          obtain ⟨z, Ez, Pz, hpz⟩ : ∃ z Ez Pz, parseP T.data.toList = (z, Ez, Pz) := ⟨_, _, _, rfl⟩
          have HZ : Hid (T.size ≤ 400 → Ez = 0 ∧ sameE false z y = true ∧ z.size ≤ 1048576) := fun h => by
            obtain ⟨e, he, hse⟩ := parse_tx hck hyb (by rw [← hT, ← hTs]; exact h)
            rw [hT, he] at hpz
            simp only [Prod.mk.injEq] at hpz
            obtain ⟨rfl, rfl, _⟩ := hpz
            exact ⟨rfl, hse, by rw [(same_size _ _ hse).1]; omega⟩
          clear hT hA10 hTs
          go_wp2_with fail
          refine cP10.mono ?_
          rintro e' w11 ⟨rfl, b11⟩
          have B11 : Aside (Below (w.heap.size + 1) (w.alloc (.cells #[.string o1, .string n1, .int .i64 t1, .int .i64 k1, .string s1, .slice p1 m1 c1, .int .i64 a1] 26)) w11) := B10.out.trans (b11.mono hz10)
          have HY11 : Aside (ExIn w11 (fun _ => True) (.agg #[.string o2, .string n2, .int .i64 t2, .int .i64 k2, .string s2, .slice p2 m2 c2, .int .i64 a2]) y) := HY10.out.on b11
          have AY11 : Aside (At7 w11 w5.heap.size #[.string o2, .string n2, .int .i64 t2, .int .i64 k2, .string s2, .slice p2 m2 c2, .int .i64 a2]) := AY10.out.on b11
          have hz11 := (E0.out _ B11.out).2.1
          have cZ11 := parse_tree T w11 (HTE.out _ B11.out).1 (HTE.out _ B11.out).2 z Ez Pz hpz (by unfold maxLen; omega)
          clear cP10 b11 g0 g1 g2 g3 g4 g5 g6 HY10 AY10 B10 hl10 hpz
          go_wp2_with fail
          refine cZ11.mono ?_
          rintro e' w12 ⟨⟨vz, rfl, hvz⟩, b12⟩
          have hvz2 : ExIn w12 (fun _ => True) vz z := ExIn.low (fun _ _ _ => trivial) _ _ hvz.out
          obtain ⟨o3, n3, t3, k3, s3, p3, m3, c3, a3, rfl⟩ := hvz2.agg
          have B12 : Below (w.heap.size + 1) (w.alloc (.cells #[.string o1, .string n1, .int .i64 t1, .int .i64 k1, .string s1, .slice p1 m1 c1, .int .i64 a1] 26)) w12 := B11.out.trans (b12.mono hz11)
          have hz12 := (E0.out _ B12).2.1
          have B13 : Aside (Below (w.heap.size + 1) (w.alloc (.cells #[.string o1, .string n1, .int .i64 t1, .int .i64 k1, .string s1, .slice p1 m1 c1, .int .i64 a1] 26)) ((w12.alloc (.cells #[.string o3, .string n3, .int .i64 t3, .int .i64 k3, .string s3, .slice p3 m3 c3, .int .i64 a3] 26)).alloc (.cells #[.int .i64 Ez, .int .i64 (Pz : Int)] 31))) := (B12.alloc hz12 _).alloc (by simp; omega) _
          by_cases hl : T.size ≤ 400
          · have hlz : ¬ (400 : Int) < (T.size : Int) := by omega
            obtain ⟨rfl, hzs, hzz⟩ := HZ.out hl
            have b13 : Below w11.heap.size w11 ((w12.alloc (.cells #[.string o3, .string n3, .int .i64 t3, .int .i64 k3, .string s3, .slice p3 m3 c3, .int .i64 a3] 26)).alloc (.cells #[.int .i64 0, .int .i64 (Pz : Int)] 31)) := (b12.alloc b12.size _).alloc (by have := b12.size; simp; omega) _
            have cE := treeSame_any z y (fun _ => True) _ _ ((w12.alloc (.cells #[.string o3, .string n3, .int .i64 t3, .int .i64 k3, .string s3, .slice p3 m3 c3, .int .i64 a3] 26)).alloc (.cells #[.int .i64 0, .int .i64 (Pz : Int)] 31)) (hvz2.on (((Below.refl _ _).alloc (Nat.le_refl _) _).alloc (by simp) _)) (HY11.out.on b13) hzz
            rw [hzs] at cE
            obtain ⟨hA12, hl12⟩ := AY11.out.on b12
            have g0 : w12.cell? ⟨w5.heap.size, 0, none⟩ = some (.string o2) := hA12 0
            have g1 : w12.cell? ⟨w5.heap.size, 1, none⟩ = some (.string n2) := hA12 1
            have g2 : w12.cell? ⟨w5.heap.size, 2, none⟩ = some (.int .i64 t2) := hA12 2
            have g3 : w12.cell? ⟨w5.heap.size, 3, none⟩ = some (.int .i64 k2) := hA12 3
            have g4 : w12.cell? ⟨w5.heap.size, 4, none⟩ = some (.string s2) := hA12 4
            have g5 : w12.cell? ⟨w5.heap.size, 5, none⟩ = some (.slice p2 m2 c2) := hA12 5
            have g6 : w12.cell? ⟨w5.heap.size, 6, none⟩ = some (.int .i64 a2) := hA12 6
            clear hvz hA12 b13
            go_wp2_with fail
            refine cE.mono ?_
            rintro e' w14 ⟨rfl, b14⟩
            have B14 := (E0.out _ (B13.out.trans (b14.mono (by simp; omega)))).2.2
            clear cE b14
            go_wp2
            go_ret
            exact ⟨rfl, B14⟩
          · have hlz : (400 : Int) < (T.size : Int) := by omega
            have B14 := (E0.out _ B13.out).2.2
            go_wp2
            go_ret
            exact ⟨rfl, B14⟩
      · have hEb : (Ey != 0) = true := by simpa using hE
        have B14 := (E0.out _ B6.out).2.2
        go_wp2
        go_ret
        exact ⟨rfl, B14⟩
end Go.Proofs.YtkoejkpjkcejcaaGreatDoor
