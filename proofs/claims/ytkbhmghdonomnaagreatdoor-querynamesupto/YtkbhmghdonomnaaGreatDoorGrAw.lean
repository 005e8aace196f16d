/-
  TreeSn, QwA, QwB, TreeBl, TreeBx, in one text.
-/
import Derived.Test.YtkbhmghdonomnaaGreatDoorGrAv
import Derived.Test.YtkbhmghdonomnaaGreatDoorGrAh
import Derived.Test.YtkbhmghdonomnaaGreatDoorGrAt
namespace Go.Proofs.YtkbhmghdonomnaaGreatDoor
set_option linter.unusedVariables false

/-- Each node is right, and its number is a machine's. -/
def OkN (x : Ex) : Prop := ∀ d, ∀ q ∈ x.pre d, nodeE q.1 = 0 ∧ inI q.1.vn
theorem pres_inv {d : Nat} {q : Ex × Nat} : ∀ {l : List Ex}, q ∈ Ex.pres d l → ∃ y ∈ l, q ∈ y.pre d
  | [], h => by rw [Ex.pres] at h; exact absurd h (by simp)
  | x :: xs, h => by
    rw [Ex.pres] at h
    rcases List.mem_append.1 h with h | h
    · exact ⟨x, by simp, h⟩
    · obtain ⟨y, hy, hq⟩ := pres_inv h
      exact ⟨y, by simp [hy], hq⟩
theorem okN_mk {op nm vs : ByteArray} {vt vn pos : Int} {l : List Ex} (h : nodeE (.node op nm vt vn vs pos l) = 0) (hv : inI vn) (hl : ∀ y ∈ l, OkN y) : OkN (.node op nm vt vn vs pos l) := by
  intro d q hq
  rw [Ex.pre] at hq
  rcases List.mem_cons.1 hq with rfl | hq
  · exact ⟨h, hv⟩
  · obtain ⟨y, hy, hq⟩ := pres_inv hq
    exact hl y hy (d + 1) q hq
theorem in0 : inI 0 := by unfold inI; omega
/-- A node of an operation whose parts are as many. -/
theorem nodeE_op {op : ByteArray} {pos : Int} {l : List Ex} (h1 : apL op.data.toList opsL = ((l.length : Int), true)) (h2 : op.data.toList ≠ [118, 97, 108]) (h3 : op.data.toList ≠ [99, 111, 108]) : nodeE (.node op ⟨#[]⟩ 0 0 ⟨#[]⟩ pos l) = 0 := by
  have e1 : nodeE (.node op ⟨#[]⟩ 0 0 ⟨#[]⟩ pos l) = nodeB (apL op.data.toList opsL).2 (op.toList == [99, 111, 108]) (nameT (⟨#[]⟩ : ByteArray).data.toList) ((l.length : Int) != (apL op.data.toList opsL).1) (!((⟨#[]⟩ : ByteArray).toList == [])) (op.toList == [118, 97, 108]) (!(((0 : Int) == 0) && (((0 : Int) == 0) && ((⟨#[]⟩ : ByteArray).toList == [])))) (ckV 0 0 (⟨#[]⟩ : ByteArray).data.toList) := rfl
  have q2 : (op.toList == [118, 97, 108]) = false := by rw [Lib.toList_data]; simpa using h2
  have q3 : (op.toList == [99, 111, 108]) = false := by rw [Lib.toList_data]; simpa using h3
  have q4 : ((⟨#[]⟩ : ByteArray).toList == ([] : List UInt8)) = true := by rw [Lib.toList_data]; rfl
  rw [e1, h1, q2, q3, q4]
  simp [nodeB]
theorem bin_ap {op : List UInt8} (h : op ∈ bin14) : apL op opsL = (2, true) ∧ op ≠ [118, 97, 108] ∧ op ≠ [99, 111, 108] := by
  simp only [bin14, List.mem_cons, List.not_mem_nil, or_false] at h
  rcases h with rfl | rfl | rfl | rfl | rfl | rfl | rfl | rfl | rfl | rfl | rfl | rfl | rfl <;> decide
theorem okN_bet {a b : Ex} {t : Tok} (ht : t.2.1.data.toList ∈ bin14) (ha : OkN a) (hb : OkN b) : OkN (betT a t b) := by
  obtain ⟨h1, h2, h3⟩ := bin_ap ht
  exact okN_mk (nodeE_op h1 h2 h3) in0 (fun y hy => by
    rcases List.mem_cons.1 hy with rfl | hy
    · exact ha
    · rw [List.mem_singleton.1 hy]; exact hb)
theorem okN_op1 {op : List UInt8} {pos : Int} {e : Ex} (ho : op = [110, 111, 116] ∨ op = [110, 101, 103]) (he : OkN e) : OkN (op1 op pos [e]) := by
  have h : ∀ o : List UInt8, o = op → apL o opsL = (1, true) ∧ o ≠ [118, 97, 108] ∧ o ≠ [99, 111, 108] := fun o e => by
    rcases ho with h | h <;> rw [e, h] <;> decide
  obtain ⟨h1, h2, h3⟩ := h (⟨op.toArray⟩ : ByteArray).data.toList rfl
  exact okN_mk (nodeE_op h1 h2 h3) in0 (fun y hy => by rw [List.mem_singleton.1 hy]; exact he)
/-- A word as there is one in a text. -/
def GdT (t : Tok) : Prop := ∃ k, tokAt t.2.1.data.toList = (k, t.2.1.data.toList.length, 0)
theorem readV_right {s : ByteArray} {T n : Int} {l : List UInt8} (h : readV s = (T, n, l, 0)) : chk T n l = 0 ∧ inI n ∧ (T = 1 → Lib.itoa n = s.data.toList) := by
  rw [readV] at h
  split at h
  · simp only [Prod.mk.injEq] at h
    obtain ⟨rfl, rfl, rfl, _⟩ := h
    exact ⟨by decide, by unfold inI; omega, fun e => absurd e (by decide)⟩
  split at h
  · simp only [Prod.mk.injEq] at h
    obtain ⟨rfl, rfl, rfl, _⟩ := h
    exact ⟨by decide, in0, fun e => absurd e (by decide)⟩
  split at h
  · split at h
    · simp at h
    · split at h
      · simp at h
      · split at h
        · simp at h
        · rename_i l0 _ hp hl
          simp only [Prod.mk.injEq] at h
          obtain ⟨rfl, rfl, rfl, _⟩ := h
          refine ⟨?_, in0, fun e => absurd e (by decide)⟩
          have hp' : plainB l0 = true := by simpa using hp
          simp [chk, hp']
          omega
  · split at h
    · rename_i m hm
      split at h
      · rename_i he
        simp only [Prod.mk.injEq] at h
        obtain ⟨rfl, rfl, rfl, _⟩ := h
        exact ⟨by simp [chk], atoi_bounds hm, fun _ => he⟩
      · simp at h
    · simp at h
theorem okN_val {t : Tok} (hg : GdT t) (hv : vlT t = true) : OkN (valE t) := by
  obtain ⟨T, n, l, e, hr⟩ : ∃ T n l e, readV t.2.1 = (T, n, l, e) := ⟨_, _, _, _, rfl⟩
  have he : e = 0 := by rw [vlT, hr] at hv; simpa using hv
  subst he
  obtain ⟨hc, hi, h1⟩ := readV_right hr
  have hck : ckV T n l = 0 := by
    rw [ckV, if_neg (by simpa using hc), if_neg]
    rintro ⟨e, hn⟩
    have h2 := h1 e
    rw [Lib.itoa, if_pos hn] at h2
    obtain ⟨k, hk⟩ := hg
    rw [← h2] at hk
    have h45 : ∀ q : List UInt8, tokAt (45 :: q) = (4, 1, 0) := fun q => by
      simp [tokAt, letB, digB, signsL, sgN, Lib.hasPrefix, List.isPrefixOf]
    rw [h45] at hk
    simp only [Prod.mk.injEq, List.length_cons] at hk
    obtain ⟨c, q, hd, _⟩ := digits_head n.natAbs n.natAbs (Nat.le_refl _)
    rw [hd] at hk
    simp at hk
  rw [valE, hr]
  refine okN_mk ?_ hi (fun y hy => absurd hy (by simp))
  have e1 : nodeE (.node ⟨#[118, 97, 108]⟩ ⟨#[]⟩ T n ⟨l.toArray⟩ (t.2.2 : Int) []) = nodeB (apL [118, 97, 108] opsL).2 ((⟨#[118, 97, 108]⟩ : ByteArray).toList == [99, 111, 108]) (nameT (⟨#[]⟩ : ByteArray).data.toList) ((([] : List Ex).length : Int) != (apL [118, 97, 108] opsL).1) (!((⟨#[]⟩ : ByteArray).toList == [])) ((⟨#[118, 97, 108]⟩ : ByteArray).toList == [118, 97, 108]) (!((T == 0) && ((n == 0) && ((⟨l.toArray⟩ : ByteArray).toList == [])))) (ckV T n l) := rfl
  have q1 : ((⟨#[118, 97, 108]⟩ : ByteArray).toList == [99, 111, 108]) = false := by rw [Lib.toList_data]; rfl
  have q2 : ((⟨#[118, 97, 108]⟩ : ByteArray).toList == [118, 97, 108]) = true := by rw [Lib.toList_data]; rfl
  have q4 : ((⟨#[]⟩ : ByteArray).toList == ([] : List UInt8)) = true := by rw [Lib.toList_data]; rfl
  rw [e1, q1, q2, q4, hck]
  simp [nodeB, apL, opsL]
theorem okN_col {t : Tok} (h : nmT t = true) : OkN (colE1 t) := by
  refine okN_mk ?_ in0 (fun y hy => absurd hy (by simp))
  have e1 : nodeE (colE1 t) = nodeB (apL [99, 111, 108] opsL).2 ((⟨#[99, 111, 108]⟩ : ByteArray).toList == [99, 111, 108]) (nameT t.2.1.data.toList) ((([] : List Ex).length : Int) != (apL [99, 111, 108] opsL).1) (!(t.2.1.toList == [])) ((⟨#[99, 111, 108]⟩ : ByteArray).toList == [118, 97, 108]) (!(((0 : Int) == 0) && (((0 : Int) == 0) && ((⟨#[]⟩ : ByteArray).toList == [])))) (ckV 0 0 (⟨#[]⟩ : ByteArray).data.toList) := rfl
  have q1 : ((⟨#[99, 111, 108]⟩ : ByteArray).toList == [99, 111, 108]) = true := by rw [Lib.toList_data]; rfl
  have q2 : ((⟨#[99, 111, 108]⟩ : ByteArray).toList == [118, 97, 108]) = false := by rw [Lib.toList_data]; rfl
  have q4 : ((⟨#[]⟩ : ByteArray).toList == ([] : List UInt8)) = true := by rw [Lib.toList_data]; rfl
  have h' : nameT t.2.1.data.toList = true := h
  show nodeE (colE1 t) = 0
  rw [e1, q1, q2, q4, h']
  simp [nodeB, apL, opsL]
/-- What is read of words as there are in a text is right. -/
def Snd (sub : List Tok → Option Ex × List Tok) : Prop := ∀ ts y, (∀ t ∈ ts, GdT t) → (sub ts).1 = some y → OkN y
theorem gd_suf {ts r : List Tok} (h : ∀ t ∈ ts, GdT t) (hs : r <:+ ts) : ∀ t ∈ r, GdT t := fun t ht => h t (hs.subset ht)
theorem sg_mem {gs : List (List UInt8)} {t : Tok} (h : sgT gs t = true) : t.2.1.data.toList ∈ gs := by
  rw [sgT, List.any_eq_true] at h
  obtain ⟨g, hg, e⟩ := h
  have e : g = t.2.1.data.toList := by simpa using e
  rw [← e]; exact hg
theorem uLoop_snd {sub : List Tok → Option Ex × List Tok} (hs : Snd sub) (hf : Suf sub) (gs : List (List UInt8)) (hgs : ∀ g ∈ gs, g ∈ bin14) : ∀ (k : Nat) (e : Ex) (ts : List Tok) (y : Ex), OkN e → (∀ t ∈ ts, GdT t) → (uLoop sub gs k e ts).1 = some y → OkN y
  | 0, e, ts, y, he, _, h => by rw [uLoop] at h; simp only [Option.some.injEq] at h; subst h; exact he
  | k + 1, e, ts, y, he, hg, h => by
    rw [uLoop] at h
    cases hn : nxT (sgT gs) ts with
    | none => rw [hn] at h; simp only [Option.some.injEq] at h; subst h; exact he
    | some q =>
      obtain ⟨t, r⟩ := q
      rw [hn] at h
      obtain ⟨h1, hst⟩ := nxT_len hn
      subst h1
      simp only at h
      have hgr : ∀ t ∈ r, GdT t := fun u hu => hg u (by simp [hu])
      have h2 := hs r
      have h6 := hf r
      cases h3 : sub r with
      | mk o r2 =>
        rw [h3] at h h2 h6
        cases o with
        | none => exact absurd h (by simp)
        | some b => exact uLoop_snd hs hf gs hgs k (betT e t b) r2 y (okN_bet (hgs _ (sg_mem hst)) he (h2 b hgr rfl)) (gd_suf hgr h6) h
theorem uSev_snd {sub : List Tok → Option Ex × List Tok} (hs : Snd sub) (hf : Suf sub) (gs : List (List UInt8)) (hgs : ∀ g ∈ gs, g ∈ bin14) : Snd (uSev sub gs) := by
  intro ts y hg h
  have h2 := hs ts
  have h6 := hf ts
  rw [uSev] at h
  cases h3 : sub ts with
  | mk o r =>
    rw [h3] at h h2 h6
    cases o with
    | none => exact absurd h (by simp)
    | some e => exact uLoop_snd hs hf gs hgs (r.length + 1) e r y (h2 e hg rfl) (gd_suf hg h6) h
theorem uAhead_snd {sub other : List Tok → Option Ex × List Tok} (hs : Snd sub) (ho : Snd other) (op : List UInt8) (hop : op = [110, 111, 116] ∨ op = [110, 101, 103]) (gs : List (List UInt8)) : Snd (uAhead op gs sub other) := by
  intro ts y hg h
  rw [uAhead] at h
  cases hn : nxT (sgT gs) ts with
  | none => rw [hn] at h; exact ho ts y hg h
  | some q =>
    obtain ⟨t, r⟩ := q
    rw [hn] at h
    have h1 := (nxT_len hn).1
    subst h1
    have h2 := hs r
    simp only at h
    cases h3 : sub r with
    | mk o r2 =>
      rw [h3] at h h2
      cases o with
      | none => exact absurd h (by simp)
      | some e =>
        simp only [Option.some.injEq] at h
        subst h
        exact okN_op1 hop (h2 e (fun u hu => hg u (by simp [hu])) rfl)
theorem uCmp_snd {sub : List Tok → Option Ex × List Tok} (hs : Snd sub) (hf : Suf sub) : Snd (uCmp sub) := by
  intro ts y hg h
  have h2 := hs ts
  have h6 := hf ts
  rw [uCmp] at h
  cases h3 : sub ts with
  | mk o r =>
    rw [h3] at h h2 h6
    cases o with
    | none => exact absurd h (by simp)
    | some e =>
      have h4 := h2 e hg rfl
      simp only at h h6
      cases hn : nxT (sgT cmpL) r with
      | none => rw [hn] at h; simp only [Option.some.injEq] at h; subst h; exact h4
      | some q =>
        obtain ⟨t, r2⟩ := q
        rw [hn] at h
        obtain ⟨h1, hst⟩ := nxT_len hn
        subst h1
        have h5 := hs r2
        simp only at h
        cases h7 : sub r2 with
        | mk o r3 =>
          rw [h7] at h h5
          cases o with
          | none => exact absurd h (by simp)
          | some b =>
            simp only [Option.some.injEq] at h
            subst h
            have hgr := gd_suf hg h6
            refine okN_bet ?_ h4 (h5 b (fun u hu => hgr u (by simp [hu])) rfl)
            have hm := sg_mem hst
            simp only [cmpL, List.mem_cons, List.not_mem_nil, or_false] at hm
            simp only [bin14, List.mem_cons, List.not_mem_nil, or_false]
            rcases hm with h | h | h | h | h | h <;> simp [h]
theorem uBr_snd {sub : List Tok → Option Ex × List Tok} (hs : Snd sub) (hf : Suf sub) : ∀ (k : Nat) (acc : List Ex) (ts : List Tok) (l : List Ex), (∀ e ∈ acc, OkN e) → (∀ t ∈ ts, GdT t) → (uBr sub k acc ts).1 = some l → ∀ e ∈ l, OkN e
  | 0, acc, ts, l, ha, _, h => by
    rw [uBr] at h
    cases hn : nxT (sgT [[41]]) ts with
    | none => rw [hn] at h; exact absurd h (by simp)
    | some q =>
      rw [hn] at h
      simp only [Option.some.injEq] at h
      subst h
      exact ha
  | k + 1, acc, ts, l, ha, hg, h => by
    rw [uBr] at h
    cases hn : nxT (sgT [if acc.length = 0 then [40] else [44]]) ts with
    | none => rw [hn] at h; exact absurd h (by simp)
    | some q =>
      obtain ⟨t, r⟩ := q
      rw [hn] at h
      have h1 := (nxT_len hn).1
      subst h1
      have hgr : ∀ t ∈ r, GdT t := fun u hu => hg u (by simp [hu])
      have h2 := hs r
      have h6 := hf r
      simp only at h
      cases h3 : sub r with
      | mk o r2 =>
        rw [h3] at h h2 h6
        cases o with
        | none => exact absurd h (by simp)
        | some e =>
          exact uBr_snd hs hf k (acc ++ [e]) r2 l (fun x hx => by
            rcases List.mem_append.1 hx with hx | hx
            · exact ha x hx
            · rw [List.mem_singleton.1 hx]; exact h2 e hgr rfl) (gd_suf hgr h6) h
theorem uOne_snd {sub : List Tok → Option Ex × List Tok} (hs : Snd sub) (hf : Suf sub) : Snd (uOne sub) := by
  intro ts y hg h
  cases hn : nxT (sgT lenIf) ts with
  | some q =>
    obtain ⟨t, r⟩ := q
    rw [uOne_call hn] at h
    obtain ⟨h1, hst⟩ := nxT_len hn
    have hgr : ∀ t ∈ r, GdT t := fun u hu => hg u (by rw [h1]; simp [hu])
    have h2 := uBr_snd hs hf (manyT t) [] r
    have h5 := uBr_len (sub := sub) (manyT t) [] r
    cases h3 : (uBr sub (manyT t) [] r).1 with
    | none => rw [h3] at h; exact absurd h (by simp)
    | some l =>
      rw [h3] at h
      simp only [Option.map_some, Option.some.injEq] at h
      rw [← h]
      have h6 := h5 l h3
      have ho := many_ops hst
      have hm := sg_mem hst
      refine okN_mk (nodeE_op (by rw [ho, h6]; simp) ?_ ?_) in0 (h2 l (fun e he => absurd he (by simp)) hgr h3)
      · simp only [List.mem_cons, List.not_mem_nil, or_false] at hm
        rcases hm with e | e <;> rw [e] <;> decide
      · simp only [List.mem_cons, List.not_mem_nil, or_false] at hm
        rcases hm with e | e <;> rw [e] <;> decide
  | none =>
    cases hv : nxT vlT ts with
    | some q =>
      obtain ⟨t, r⟩ := q
      rw [uOne_val hn hv] at h
      simp only [Option.some.injEq] at h
      obtain ⟨h1, h2⟩ := nxT_len hv
      rw [← h]
      exact okN_val (hg t (by rw [h1]; simp)) h2
    | none =>
      cases hc : nxT nmT ts with
      | some q =>
        obtain ⟨t, r⟩ := q
        rw [uOne_col hn hv hc] at h
        simp only [Option.some.injEq] at h
        rw [← h]
        exact okN_col (nxT_len hc).2
      | none =>
        rw [uOne_br hn hv hc] at h
        have h2 := uBr_snd hs hf 1 [] ts
        cases h3 : (uBr sub 1 [] ts).1 with
        | none => rw [h3] at h; exact absurd h (by simp)
        | some l =>
          rw [h3] at h
          have h4 := h2 l (fun e he => absurd he (by simp)) hg h3
          cases l with
          | nil => exact absurd h (by simp)
          | cons x xs =>
            simp only [Option.bind_some, List.head?_cons, Option.some.injEq] at h
            rw [← h]
            exact h4 x (by simp)
theorem uE_snd : ∀ (f lv : Nat), Snd (uE f lv)
  | 0, lv => fun ts y _ h => by rw [uE] at h; exact absurd h (by simp)
  | f + 1, lv => by
    have ih := fun lv => uE_snd f lv
    have hf := fun lv => uE_suf f lv
    intro ts
    unfold uE
    split
    · exact uSev_snd (ih 1) (hf 1) _ (by decide) ts
    · exact uSev_snd (ih 2) (hf 2) _ (by decide) ts
    · exact uAhead_snd (ih 2) (ih 3) _ (.inl rfl) _ ts
    · exact uCmp_snd (ih 4) (hf 4) ts
    · exact uSev_snd (ih 5) (hf 5) _ (by decide) ts
    · exact uSev_snd (ih 6) (hf 6) _ (by decide) ts
    · exact uAhead_snd (ih 6) (ih 7) _ (.inr rfl) _ ts
    · exact uOne_snd (ih 0) (hf 0) ts
/-- What Parse reads is right. -/
theorem parse_right {s : List UInt8} {x : Ex} {p : Nat} (h : parseP s = (x, 0, p)) : ckP x = 0 ∧ (∀ q ∈ x.pre 1, inI q.1.vn) ∧ (x.pre 1).length ≤ 200 ∧ p = 0 := by
  rw [parseP] at h
  split at h
  · rename_i h0
    simp only [Prod.mk.injEq] at h
    exact absurd h.2.1 h0
  · rename_i h0
    have hl : lexAll s = ((lexAll s).1, 0, (lexAll s).2.2) := by
      have : (lexAll s).2.1 = 0 := by simpa using h0
      rw [← this]
    obtain ⟨_, _, _, hgd⟩ := lexAll_ok hl
    have hg : ∀ t ∈ (lexAll s).1, GdT t := fun t ht => ⟨t.1, by
      have := (hgd t ht).again [] rfl
      rwa [List.append_nil] at this⟩
    split at h
    · rename_i y hr
      split at h
      · simp at h
      · rename_i htg
        simp only [Prod.mk.injEq] at h
        obtain ⟨rfl, _, rfl⟩ := h
        have hok : OkN y := uE_snd _ 0 _ y hg (by rw [readE] at hr; rw [hr])
        have htg' : tgB y = false := by simpa using htg
        refine ⟨?_, fun q hq => (hok 1 q hq).2, ?_, rfl⟩
        · rw [ckP, htg', if_neg (by decide)]
          exact fold_ck' _ 0 rfl (fun q hq => (hok 1 q hq).1)
        · rw [tg_small] at htg'
          have h2 : y.small = true := by simpa using htg'
          rw [Ex.small, Bool.and_eq_true, decide_eq_true_eq, decide_eq_true_eq] at h2
          rw [size_pre]
          exact h2.1
    · simp at h
end Go.Proofs.YtkbhmghdonomnaaGreatDoor
namespace Go.Proofs.YtkbhmghdonomnaaGreatDoor
set_option linter.unusedVariables false
set_option linter.unusedSimpArgs false

/-- How many bytes words have. -/
def btT : List Tok → Nat
  | [] => 0
  | t :: ts => t.2.1.data.toList.length + btT ts
def sumT : List Ex → Nat
  | [] => 0
  | x :: xs => (txP x).length + sumT xs
theorem sumT_app : ∀ l m : List Ex, sumT (l ++ m) = sumT l + sumT m
  | [], m => by simp [sumT]
  | x :: xs, m => by rw [List.cons_append, sumT, sumT, sumT_app xs m]; omega
theorem interB_len (bt : List UInt8) : ∀ l : List Ex, (inter bt (txsP l)).length ≤ sumT l + bt.length * l.length
  | [] => by simp [txsP, inter]
  | [x] => by simp [txsP, inter, sumT]
  | x :: y :: l => by
    have ih := interB_len bt (y :: l)
    rw [txsP, txsP, inter, sumT, List.length_append, List.length_append, List.length_cons]
    rw [txsP] at ih
    rw [Nat.mul_add, Nat.mul_one]
    omega
/-- What is read is written in no more than four times the bytes of its words, less three. -/
def LenB (sub : List Tok → Option Ex × List Tok) : Prop := ∀ ts y, (sub ts).1 = some y → (txP y).length + 3 + 4 * btT (sub ts).2 ≤ 4 * btT ts
theorem bin_tx {op : List UInt8} (h : op ∈ bin14) : op ≠ [118, 97, 108] ∧ op ≠ [99, 111, 108] ∧ ¬ (op = [108, 101, 110] ∨ op = [105, 102]) ∧ op ≠ [110, 111, 116] ∧ op ≠ [110, 101, 103] ∧ 1 ≤ op.length := by
  simp only [bin14, List.mem_cons, List.not_mem_nil, or_false] at h
  rcases h with rfl | rfl | rfl | rfl | rfl | rfl | rfl | rfl | rfl | rfl | rfl | rfl | rfl <;> decide
theorem bet_len {a b : Ex} {t : Tok} (ht : t.2.1.data.toList ∈ bin14) : (txP (betT a t b)).length = (txP a).length + (txP b).length + t.2.1.data.toList.length + 4 := by
  obtain ⟨h1, h2, h3, h4, h5, _⟩ := bin_tx ht
  rw [betT, txP, if_neg h1, if_neg h2, if_neg h3, if_neg h4, if_neg h5, txsP, txsP, txsP, argsT, inter, inter]
  simp only [List.length_cons, List.length_append, List.length_nil]
  omega
theorem uLoop_lenB {sub : List Tok → Option Ex × List Tok} (hs : LenB sub) (gs : List (List UInt8)) (hgs : ∀ g ∈ gs, g ∈ bin14) : ∀ (k : Nat) (e : Ex) (ts : List Tok) (y : Ex) (M : Nat), (uLoop sub gs k e ts).1 = some y → (txP e).length + 3 + 4 * btT ts ≤ M → (txP y).length + 3 + 4 * btT (uLoop sub gs k e ts).2 ≤ M
  | 0, e, ts, y, M, h, hM => by rw [uLoop] at h ⊢; simp only [Option.some.injEq] at h; subst h; exact hM
  | k + 1, e, ts, y, M, h, hM => by
    rw [uLoop] at h ⊢
    cases hn : nxT (sgT gs) ts with
    | none => rw [hn] at h; simp only [Option.some.injEq] at h; subst h; exact hM
    | some q =>
      obtain ⟨t, r⟩ := q
      rw [hn] at h
      obtain ⟨h1, hst⟩ := nxT_len hn
      subst h1
      simp only at h ⊢
      have h2 := hs r
      cases h3 : sub r with
      | mk o r2 =>
        rw [h3] at h h2
        cases o with
        | none => exact absurd h (by simp)
        | some b =>
          have hm := hgs _ (sg_mem hst)
          have h4 := h2 b rfl
          simp only at h h4 ⊢
          rw [btT] at hM
          have h5 := (bin_tx hm).2.2.2.2.2
          exact uLoop_lenB hs gs hgs k (betT e t b) r2 y M h (by rw [bet_len hm]; omega)
theorem uSev_lenB {sub : List Tok → Option Ex × List Tok} (hs : LenB sub) (gs : List (List UInt8)) (hgs : ∀ g ∈ gs, g ∈ bin14) : LenB (uSev sub gs) := by
  intro ts y h
  have h2 := hs ts
  rw [uSev] at h ⊢
  cases h3 : sub ts with
  | mk o r =>
    rw [h3] at h h2
    cases o with
    | none => exact absurd h (by simp)
    | some e => exact uLoop_lenB hs gs hgs (r.length + 1) e r y _ h (h2 e rfl)
theorem op1_len {op : List UInt8} {pos : Int} {e : Ex} (hop : op = [110, 111, 116] ∨ op = [110, 101, 103]) : (txP (op1 op pos [e])).length = (if op = [110, 111, 116] then 3 else 1) + (txP e).length + 3 := by
  have e0 : (⟨op.toArray⟩ : ByteArray).data.toList = op := rfl
  rw [op1, txP, e0]
  rcases hop with rfl | rfl
  · simp [txsP, aheadT]; omega
  · simp [txsP, aheadT]; omega
theorem uAhead_lenB {sub other : List Tok → Option Ex × List Tok} (hs : LenB sub) (ho : LenB other) (op : List UInt8) (gs : List (List UInt8)) (hop : (op = [110, 111, 116] ∧ gs = [[110, 111, 116]]) ∨ (op = [110, 101, 103] ∧ gs = [[45]])) : LenB (uAhead op gs sub other) := by
  intro ts y h
  rw [uAhead] at h ⊢
  cases hn : nxT (sgT gs) ts with
  | none => rw [hn] at h; exact ho ts y h
  | some q =>
    obtain ⟨t, r⟩ := q
    rw [hn] at h
    obtain ⟨h1, hst⟩ := nxT_len hn
    subst h1
    have hm := sg_mem hst
    have h2 := hs r
    simp only at h ⊢
    cases h3 : sub r with
    | mk o r2 =>
      rw [h3] at h h2
      cases o with
      | none => exact absurd h (by simp)
      | some e =>
        simp only [Option.some.injEq] at h
        subst h
        have h4 := h2 e rfl
        simp only at h4 ⊢
        rw [op1_len (hop.imp (·.1) (·.1)), btT]
        rcases hop with ⟨rfl, rfl⟩ | ⟨rfl, rfl⟩
        · rw [List.mem_singleton.1 hm, if_pos rfl]
          simp only [List.length_cons, List.length_nil]
          omega
        · rw [List.mem_singleton.1 hm, if_neg (by decide)]
          simp only [List.length_cons, List.length_nil]
          omega
theorem cmp_bin : ∀ g ∈ cmpL, g ∈ bin14 := by decide
theorem uCmp_lenB {sub : List Tok → Option Ex × List Tok} (hs : LenB sub) : LenB (uCmp sub) := by
  intro ts y h
  have h2 := hs ts
  rw [uCmp] at h ⊢
  cases h3 : sub ts with
  | mk o r =>
    rw [h3] at h h2
    cases o with
    | none => exact absurd h (by simp)
    | some e =>
      have h4 := h2 e rfl
      simp only at h h4 ⊢
      cases hn : nxT (sgT cmpL) r with
      | none => rw [hn] at h; simp only [Option.some.injEq] at h; subst h; exact h4
      | some q =>
        obtain ⟨t, r2⟩ := q
        rw [hn] at h
        obtain ⟨h1, hst⟩ := nxT_len hn
        subst h1
        have h5 := hs r2
        simp only at h ⊢
        cases h7 : sub r2 with
        | mk o r3 =>
          rw [h7] at h h5
          cases o with
          | none => exact absurd h (by simp)
          | some b =>
            simp only [Option.some.injEq] at h
            subst h
            have hm := cmp_bin _ (sg_mem hst)
            have h8 := (bin_tx hm).2.2.2.2.2
            have h9 := h5 b rfl
            rw [btT] at h4
            simp only at h9 ⊢
            rw [bet_len hm]
            omega
theorem uBr_lenB {sub : List Tok → Option Ex × List Tok} (hs : LenB sub) : ∀ (k : Nat) (acc : List Ex) (ts : List Tok) (l : List Ex), (uBr sub k acc ts).1 = some l → sumT l + 7 * k + 4 + 4 * btT (uBr sub k acc ts).2 ≤ sumT acc + 4 * btT ts
  | 0, acc, ts, l, h => by
    rw [uBr] at h ⊢
    cases hn : nxT (sgT [[41]]) ts with
    | none => rw [hn] at h; exact absurd h (by simp)
    | some q =>
      obtain ⟨t, r⟩ := q
      rw [hn] at h
      obtain ⟨h1, hst⟩ := nxT_len hn
      subst h1
      have hm := List.mem_singleton.1 (sg_mem hst)
      simp only [Option.some.injEq] at h
      subst h
      simp only
      rw [btT, hm]
      simp only [List.length_cons, List.length_nil]
      omega
  | k + 1, acc, ts, l, h => by
    rw [uBr] at h ⊢
    cases hn : nxT (sgT [if acc.length = 0 then [40] else [44]]) ts with
    | none => rw [hn] at h; exact absurd h (by simp)
    | some q =>
      obtain ⟨t, r⟩ := q
      rw [hn] at h
      obtain ⟨h1, hst⟩ := nxT_len hn
      subst h1
      have hm : t.2.1.data.toList.length = 1 := by
        rw [List.mem_singleton.1 (sg_mem hst)]
        split <;> rfl
      have h2 := hs r
      simp only at h ⊢
      cases h3 : sub r with
      | mk o r2 =>
        rw [h3] at h h2
        cases o with
        | none => exact absurd h (by simp)
        | some e =>
          have h4 := h2 e rfl
          simp only at h h4 ⊢
          have h5 := uBr_lenB hs k (acc ++ [e]) r2 l h
          rw [sumT_app, sumT, sumT] at h5
          rw [btT, hm]
          omega
theorem val_len {t : Tok} (h : vlT t = true) : (txP (valE t)).length = t.2.1.data.toList.length ∧ 1 ≤ t.2.1.data.toList.length := by
  obtain ⟨T, n, l, e, hr⟩ : ∃ T n l e, readV t.2.1 = (T, n, l, e) := ⟨_, _, _, _, rfl⟩
  have he : e = 0 := by rw [vlT, hr] at h; simpa using h
  subst he
  obtain ⟨hc, hsh, _⟩ := shown_read T n l t.2.1 hr
  have e1 : txP (valE t) = t.2.1.data.toList := by
    rw [valE, hr, txP]
    have e0 : (⟨#[118, 97, 108]⟩ : ByteArray).data.toList = [118, 97, 108] := rfl
    have e2 : (⟨l.toArray⟩ : ByteArray).data.toList = l := rfl
    rw [e0, if_pos rfl, e2, prS, if_pos hc, hsh]
  refine ⟨by rw [e1], ?_⟩
  rw [← hsh, shown]
  split
  · rw [Lib.itoa]
    split
    · simp
    · obtain ⟨c, q, hd, _⟩ := digits_head n.toNat n.toNat (Nat.le_refl _)
      rw [hd]
      simp
  · split
    · split <;> simp
    · simp
theorem name_pos {l : List UInt8} (h : nameT l = true) : 1 ≤ l.length := by
  cases l with
  | nil => exact absurd h (by decide)
  | cons c l => simp
theorem uOne_lenB {sub : List Tok → Option Ex × List Tok} (hs : LenB sub) : LenB (uOne sub) := by
  intro ts y h
  cases hn : nxT (sgT lenIf) ts with
  | some q =>
    obtain ⟨t, r⟩ := q
    rw [uOne_call hn] at h ⊢
    obtain ⟨h1, hst⟩ := nxT_len hn
    have h2 := uBr_lenB hs (manyT t) [] r
    have h5 := uBr_len (sub := sub) (manyT t) [] r
    cases h3 : (uBr sub (manyT t) [] r).1 with
    | none => rw [h3] at h; exact absurd h (by simp)
    | some l =>
      rw [h3] at h
      simp only [Option.map_some, Option.some.injEq] at h
      have h6 := h5 l h3
      have h7 := h2 l h3
      have hm := sg_mem hst
      have hm' : t.2.1.data.toList = [108, 101, 110] ∨ t.2.1.data.toList = [105, 102] := by simpa using hm
      have hlen := interB_len [44, 32] l
      have hf : 2 ≤ t.2.1.data.toList.length := by rcases hm' with e | e <;> rw [e] <;> decide
      simp only [List.length_cons, List.length_nil] at hlen h6
      rw [← h, h1, btT, txP, if_neg (by rcases hm' with e | e <;> rw [e] <;> decide), if_neg (by rcases hm' with e | e <;> rw [e] <;> decide), if_pos hm', argsT]
      simp only [List.length_append, List.length_cons, List.length_nil]
      rw [sumT] at h7
      omega
  | none =>
    cases hv : nxT vlT ts with
    | some q =>
      obtain ⟨t, r⟩ := q
      rw [uOne_val hn hv] at h ⊢
      simp only [Option.some.injEq] at h
      obtain ⟨h1, h2⟩ := nxT_len hv
      obtain ⟨h3, h4⟩ := val_len h2
      rw [← h, h1, btT, h3]
      simp only
      omega
    | none =>
      cases hc : nxT nmT ts with
      | some q =>
        obtain ⟨t, r⟩ := q
        rw [uOne_col hn hv hc] at h ⊢
        simp only [Option.some.injEq] at h
        obtain ⟨h1, h2⟩ := nxT_len hc
        have h4 := name_pos h2
        have e1 : txP (colE1 t) = t.2.1.data.toList := by
          rw [colE1, txP]
          have e0 : (⟨#[99, 111, 108]⟩ : ByteArray).data.toList = [99, 111, 108] := rfl
          rw [e0, if_neg (by decide), if_pos rfl]
        rw [← h, h1, btT, e1]
        simp only
        omega
      | none =>
        rw [uOne_br hn hv hc] at h ⊢
        have h2 := uBr_lenB hs 1 [] ts
        have h5 := uBr_len (sub := sub) 1 [] ts
        cases h3 : (uBr sub 1 [] ts).1 with
        | none => rw [h3] at h; exact absurd h (by simp)
        | some l =>
          rw [h3] at h
          have h4 := h2 l h3
          have h6 := h5 l h3
          match l, h6 with
          | [x], _ =>
            simp only [Option.bind_some, List.head?_cons, Option.some.injEq] at h
            subst h
            rw [sumT, sumT, sumT] at h4
            simp only
            omega
theorem uE_lenB : ∀ (f lv : Nat), LenB (uE f lv)
  | 0, lv => fun ts y h => by rw [uE] at h; exact absurd h (by simp)
  | f + 1, lv => by
    have ih := fun lv => uE_lenB f lv
    intro ts
    unfold uE
    split
    · exact uSev_lenB (ih 1) _ (by decide) ts
    · exact uSev_lenB (ih 2) _ (by decide) ts
    · exact uAhead_lenB (ih 2) (ih 3) _ _ (.inl ⟨rfl, rfl⟩) ts
    · exact uCmp_lenB (ih 4) ts
    · exact uSev_lenB (ih 5) _ (by decide) ts
    · exact uSev_lenB (ih 6) _ (by decide) ts
    · exact uAhead_lenB (ih 6) (ih 7) _ _ (.inr ⟨rfl, rfl⟩) ts
    · exact uOne_lenB (ih 0) ts
theorem readE_lenB {ts : List Tok} {x : Ex} (h : (readE ts).1 = some x) : (txP x).length + 3 + 4 * btT (readE ts).2 ≤ 4 * btT ts := uE_lenB _ _ ts x h
end Go.Proofs.YtkbhmghdonomnaaGreatDoor
namespace Go.Proofs.YtkbhmghdonomnaaGreatDoor
set_option linter.unusedVariables false
set_option linter.unusedSimpArgs false

/-- An expression as it is written into a query. -/
def txE (x : Ex) : List UInt8 := if ckP x = 0 then txP x else []
def asT (n : List UInt8) : List UInt8 := [32, 97, 115, 32] ++ n
def colW (x : Ex) (n : ByteArray) : List UInt8 := txE x ++ asT n.data.toList
def agW (a : Ag) : List UInt8 := a.what.data.toList ++ ((if a.what.data.toList = wCount then [] else [40] ++ (txE a.arg ++ [41])) ++ asT a.name.data.toList)
def itemsW (q : Qy) : List (List UInt8) := if 0 < q.aggs.length then q.aggs.map agW else (q.cols.zip q.names).map fun p => colW p.1 p.2
def whW (x : Ex) : List UInt8 := if noOp x = true then [] else [32, 119, 104, 101, 114, 101, 32] ++ txE x
def frW (f : List UInt8) (x : Ex) : List UInt8 := [32, 102, 114, 111, 109, 32] ++ (f ++ whW x)
def slW (z s : Int) : List UInt8 := if s = z then [] else [32, 115, 108, 105, 100, 101, 32] ++ Lib.itoa s
def grW (g : List ByteArray) (z s : Int) : List UInt8 := [32, 103, 114, 111, 117, 112, 32, 98, 121, 32] ++ (inter [44, 32] (g.map fun n => n.data.toList) ++ ([32, 119, 105, 110, 100, 111, 119, 32] ++ (Lib.itoa z ++ slW z s)))
def gqW (q : Qy) : List UInt8 := if 0 < q.aggs.length then grW q.group q.size q.slide else []
/-- The text of a query, if it is not too long. -/
def wrI (q : Qy) : List UInt8 := [115, 101, 108, 101, 99, 116, 32] ++ (inter [44, 32] (itemsW q) ++ (frW q.frm.data.toList q.whr ++ gqW q))
def wrQ (q : Qy) : List UInt8 := if (wrI q).length ≤ 400 then wrI q else []

theorem txE_len (x : Ex) : (txE x).length ≤ (txP x).length := by
  rw [txE]
  split
  · exact Nat.le_refl _
  · simp
def GdA (ts : List Tok) : Prop := ∀ t ∈ ts, GdT t
theorem GdA.suf {ts r : List Tok} (h : GdA ts) (hs : r <:+ ts) : GdA r := gd_suf h hs
theorem thU_to {α β : Type} {a : Option α × List Tok} {f : α → List Tok → Option β × List Tok} {x : α} (h : a.1 = some x) : thU a f = f x a.2 := by
  obtain ⟨o, rs⟩ := a
  cases h
  rfl
theorem thU_suf {α β : Type} {a : Option α × List Tok} {f : α → List Tok → Option β × List Tok} {ts : List Tok} (h : a.2 <:+ ts) (hf : ∀ x rs, (f x rs).2 <:+ rs) : (thU a f).2 <:+ ts := by
  obtain ⟨o, rs⟩ := a
  cases o with
  | none => exact h
  | some x => exact (hf x rs).trans h
theorem frU_suf (ts : List Tok) : (frU ts).2 <:+ ts := thU_suf (jU_suf _ _) fun _ rs => thU_suf (nU_suf rs) fun f rs => thU_suf (whU_suf rs) fun x rs => List.suffix_rfl
theorem jU_rd {g : List UInt8} {ts : List Tok} {u : Unit} (h : (jU g ts).1 = some u) : btT ts = g.length + btT (jU g ts).2 := by
  rw [jU] at h ⊢
  cases hn : nxT (sgT [g]) ts with
  | none => rw [hn] at h; exact absurd h (by simp)
  | some q =>
    obtain ⟨t, r⟩ := q
    obtain ⟨h1, h2⟩ := nxT_len hn
    have := List.mem_singleton.1 (sg_mem h2)
    subst h1
    rw [btT, this]
theorem nU_rd {ts : List Tok} {n : ByteArray} (h : (nU ts).1 = some n) : nameT n.data.toList = true ∧ btT ts = n.data.toList.length + btT (nU ts).2 := by
  rw [nU] at h ⊢
  cases hn : nxT nmT ts with
  | none => rw [hn] at h; exact absurd h (by simp)
  | some q =>
    obtain ⟨t, r⟩ := q
    obtain ⟨h1, h2⟩ := nxT_len hn
    rw [hn] at h
    simp only [Option.some.injEq] at h
    subst h1 h
    exact ⟨h2, by rw [btT]⟩
theorem num_txt {t : Tok} (h : GdT t) (hk : tokAt t.2.1.data.toList = (2, t.2.1.data.toList.length, 0)) : Lib.itoa (nuI t.2.1.data.toList) = t.2.1.data.toList ∧ 0 ≤ nuI t.2.1.data.toList ∧ nuI t.2.1.data.toList ≤ 9223372036854775807 := by
  generalize t.2.1.data.toList = l at hk ⊢
  cases l with
  | nil => simp [tokAt] at hk
  | cons c l =>
    rw [tokAt] at hk
    split at hk
    · simp at hk
    · split at hk
      · simp only [Prod.mk.injEq, true_and] at hk
        obtain ⟨h1, h2⟩ : (numTok (c :: l)).1 = (c :: l).length ∧ (numTok (c :: l)).2 = 0 := by rw [hk]; exact ⟨rfl, rfl⟩
        rw [numTok] at h1 h2
        split at h1
        · simp at h1
        · rename_i hz
          split at h1
          · simp at h1
          · rename_i hv
            have hg : goN digB (c :: l) = (c :: l).length := h1
            have ha := goN_all digB (c :: l)
            rw [hg, List.take_length] at ha hv
            rw [hg] at hz
            have hd := dec_val l.length (c :: l) (by simp) ha (fun r e => Classical.byContradiction fun hr => hz (.inr ⟨by
              rw [e]
              cases r with
              | nil => exact absurd rfl hr
              | cons _ _ => simp, by rw [e]; rfl⟩))
            refine ⟨?_, ?_, ?_⟩
            · rw [nuI, Lib.itoa, if_neg (by omega), show ((val10 (c :: l) : Nat) : Int).toNat = val10 (c :: l) from by omega, hd]
            · rw [nuI]; omega
            · rw [nuI]; omega
      · split at hk <;> simp at hk
/-- A word of a text has its own kind. -/
def GdK (t : Tok) : Prop := tokAt t.2.1.data.toList = (t.1, t.2.1.data.toList.length, 0)
def GkA (ts : List Tok) : Prop := ∀ t ∈ ts, GdK t
theorem GkA.suf {ts r : List Tok} (h : GkA ts) (hs : r <:+ ts) : GkA r := fun t ht => h t (hs.subset ht)
theorem GkA.gd {ts : List Tok} (h : GkA ts) : GdA ts := fun t ht => ⟨_, h t ht⟩
theorem iU_rd {ts : List Tok} {z : Int} (hg : GkA ts) (h : (iU ts).1 = some z) : (0 ≤ z ∧ z ≤ 9223372036854775807) ∧ btT ts = (Lib.itoa z).length + btT (iU ts).2 := by
  rw [iU] at h ⊢
  cases hn : nxT isNum ts with
  | none => rw [hn] at h; exact absurd h (by simp)
  | some q =>
    obtain ⟨t, r⟩ := q
    obtain ⟨h1, h2⟩ := nxT_len hn
    rw [hn] at h
    simp only [Option.some.injEq] at h
    subst h1 h
    have hk := hg t (by simp)
    have h3 : t.1 = 2 := by simpa [isNum] using h2
    rw [GdK, h3] at hk
    obtain ⟨e1, e2, e3⟩ := num_txt (t := t) ⟨_, hk⟩ hk
    exact ⟨⟨e2, e3⟩, by rw [e1, btT]⟩
theorem asU_rd {ts : List Tok} {n : ByteArray} (h : (asU ts).1 = some n) : nameT n.data.toList = true ∧ btT ts = 2 + n.data.toList.length + btT (asU ts).2 := by
  rw [asU] at h ⊢
  obtain ⟨u, h1, h2⟩ := thU_is h
  rw [thU_to h1]
  have e1 := jU_rd h1
  obtain ⟨e2, e3⟩ := nU_rd h2
  refine ⟨e2, ?_⟩
  simp only [List.length_cons, List.length_nil] at e1
  omega
theorem readE_rd {ts : List Tok} {x : Ex} (hg : GkA ts) (h : (readE ts).1 = some x) : OkN x ∧ (txE x).length + 3 + 4 * btT (readE ts).2 ≤ 4 * btT ts := by
  have h1 := readE_lenB h
  have h2 := txE_len x
  exact ⟨uE_snd _ 0 _ x hg.gd h, by omega⟩
theorem colU_rd {ts : List Tok} {p : Ex × ByteArray} (hg : GkA ts) (h : (colU ts).1 = some p) : (OkN p.1 ∧ nameT p.2.data.toList = true) ∧ (colW p.1 p.2).length + 4 * btT (colU ts).2 ≤ 4 * btT ts := by
  rw [colU] at h ⊢
  obtain ⟨x, h1, h2⟩ := thU_is h
  rw [thU_to h1]
  obtain ⟨n, h3, h4⟩ := thU_is h2
  rw [thU_to h3]
  simp only [Option.some.injEq] at h4
  subst h4
  obtain ⟨e1, e2⟩ := readE_rd hg h1
  obtain ⟨e3, e4⟩ := asU_rd h3
  refine ⟨⟨e1, e3⟩, ?_⟩
  simp only [colW, asT, List.length_append, List.length_cons, List.length_nil]
  omega
def OkA (a : Ag) : Prop := isAg a.what.data.toList = true ∧ ((a.what.data.toList = wCount ∧ a.arg = ex0) ∨ (a.what.data.toList ≠ wCount ∧ OkN a.arg)) ∧ nameT a.name.data.toList = true
theorem aggU_rd {ts : List Tok} {a : Ag} (hg : GkA ts) (h : (aggU ts).1 = some a) : OkA a ∧ (agW a).length + 4 * btT (aggU ts).2 ≤ 4 * btT ts := by
  rw [aggU] at h ⊢
  cases hn : nxT agB ts with
  | none => rw [hn] at h; exact absurd h (by simp)
  | some q =>
    obtain ⟨t, r⟩ := q
    obtain ⟨h0, hag⟩ := nxT_len hn
    rw [hn] at h
    simp only at h ⊢
    obtain ⟨x, h1, h2⟩ := thU_is h
    rw [thU_to h1]
    obtain ⟨n, h3, h4⟩ := thU_is h2
    rw [thU_to h3]
    simp only [Option.some.injEq] at h4
    subst h4 h0
    have hgr : GkA r := fun u hu => hg u (by simp [hu])
    obtain ⟨e3, e4⟩ := asU_rd h3
    have hag' : isAg t.2.1.data.toList = true := hag
    by_cases hc : t.2.1.data.toList = wCount
    · have ea : argU t.2.1.data.toList r = (some ex0, r) := by rw [argU, if_pos hc]
      rw [ea] at h1 e4 ⊢
      simp only [Option.some.injEq] at h1
      subst h1
      refine ⟨⟨hag', .inl ⟨hc, rfl⟩, e3⟩, ?_⟩
      simp only [agW, asT]
      rw [if_pos hc, btT]
      simp only [List.length_append, List.length_cons, List.length_nil] at e4 ⊢
      omega
    · have ea : argU t.2.1.data.toList r = brU r := by rw [argU, if_neg hc]
      rw [ea] at h1 e4 ⊢
      rw [brU] at h1 e4 ⊢
      obtain ⟨u, k1, k2⟩ := thU_is h1
      rw [thU_to k1] at e4 ⊢
      obtain ⟨y, k3, k4⟩ := thU_is k2
      rw [thU_to k3] at e4 ⊢
      obtain ⟨u2, k5, k6⟩ := thU_is k4
      rw [thU_to k5] at e4 ⊢
      simp only [Option.some.injEq] at k6
      subst k6
      have f1 := jU_rd k1
      obtain ⟨f2, f3⟩ := readE_rd (hgr.suf (jU_suf [40] r)) k3
      have f4 := jU_rd k5
      refine ⟨⟨hag', .inr ⟨hc, f2⟩, e3⟩, ?_⟩
      simp only [agW, asT]
      rw [if_neg hc, btT]
      simp only [List.length_append, List.length_cons, List.length_nil] at e4 f1 f4 ⊢
      omega
/-- Several, a comma between. -/
theorem sevU_rd {α : Type} {part : List Tok → Option α × List Tok} (tx : α → List UInt8) (P : α → Prop) (hsuf : ∀ ts, (part ts).2 <:+ ts) (hp : ∀ ts x, GkA ts → (part ts).1 = some x → P x ∧ (tx x).length + 4 * btT (part ts).2 ≤ 4 * btT ts) :
    ∀ (k : Nat) (acc : List α) (ts : List Tok) (l : List α) (M : Nat), GkA ts → (∀ x ∈ acc, P x) → (sevU part k acc ts).1 = some l → (if acc.length = 0 then 0 else (inter [44, 32] (acc.map tx)).length + 2) + 4 * btT ts ≤ M → ((∀ x ∈ l, P x) ∧ l ≠ []) ∧ (inter [44, 32] (l.map tx)).length + 4 * btT (sevU part k acc ts).2 ≤ M
  | 0, acc, ts, l, M, hg, ha, h, hM => by simp [sevU] at h
  | k + 1, acc, ts, l, M, hg, ha, h, hM => by
    cases hx : (part ts).1 with
    | none => rw [sevU_fail (rs := (part ts).2) (Prod.ext hx rfl)] at h; exact absurd h (by simp)
    | some x =>
      obtain ⟨h1, h2⟩ := hp ts x hg hx
      have ha' : ∀ y ∈ acc ++ [x], P y := fun y hy => by
        rcases List.mem_append.1 hy with hy | hy
        · exact ha y hy
        · rw [List.mem_singleton.1 hy]; exact h1
      have hl : (inter [44, 32] ((acc ++ [x]).map tx)).length = (if acc.length = 0 then 0 else (inter [44, 32] (acc.map tx)).length + 2) + (tx x).length := by
        rw [List.map_append, List.map_singleton, inter_snoc, List.length_map]
        split
        · simp
        · simp only [List.length_append, List.length_cons, List.length_nil]
      cases hn : nxT (sgT [[44]]) (part ts).2 with
      | none =>
        rw [sevU_last (x := x) (rs := (part ts).2) (Prod.ext hx rfl) hn] at h ⊢
        simp only [Option.some.injEq] at h
        subst h
        refine ⟨⟨ha', by simp⟩, ?_⟩
        rw [hl]
        simp only
        omega
      | some q =>
        obtain ⟨t, r⟩ := q
        obtain ⟨e1, e2⟩ := nxT_len hn
        have e3 := List.mem_singleton.1 (sg_mem e2)
        rw [sevU_more (x := x) (rs := (part ts).2) (Prod.ext hx rfl) hn] at h ⊢
        refine sevU_rd tx P hsuf hp k _ r l M ((hg.suf (hsuf ts)).suf (nx_suf hn)) ha' h ?_
        rw [if_neg (by simp), hl]
        rw [e1, btT, e3] at h2
        simp only [List.length_cons, List.length_nil] at h2
        omega
def OkW (x : Ex) : Prop := x = ex0 ∨ OkN x
theorem frU_rd {ts : List Tok} {p : ByteArray × Ex} (hg : GkA ts) (h : (frU ts).1 = some p) : (nameT p.1.data.toList = true ∧ OkW p.2) ∧ (frW p.1.data.toList p.2).length + 4 * btT (frU ts).2 ≤ 4 * btT ts := by
  rw [frU] at h ⊢
  obtain ⟨u, h1, h2⟩ := thU_is h
  rw [thU_to h1]
  obtain ⟨f, h3, h4⟩ := thU_is h2
  rw [thU_to h3]
  obtain ⟨x, h5, h6⟩ := thU_is h4
  rw [thU_to h5]
  simp only [Option.some.injEq] at h6
  subst h6
  have e1 := jU_rd h1
  obtain ⟨e2, e3⟩ := nU_rd h3
  have hgr := (hg.suf (jU_suf wFrom ts)).suf (nU_suf _)
  have key : OkW x ∧ (whW x).length + 4 * btT (whU (nU (jU wFrom ts).2).2).2 ≤ 4 * btT (nU (jU wFrom ts).2).2 := by
    generalize (nU (jU wFrom ts).2).2 = rs at h5 hgr
    rw [whU] at h5 ⊢
    cases hn : nxT (sgT [wWhere]) rs with
    | none =>
      rw [hn] at h5
      simp only [Option.some.injEq] at h5
      subst h5
      refine ⟨.inl rfl, ?_⟩
      rw [whW, if_pos (by decide)]
      simp
    | some q =>
      obtain ⟨t, r⟩ := q
      rw [hn] at h5
      simp only at h5 ⊢
      obtain ⟨k1, k2⟩ := nxT_len hn
      have k3 := List.mem_singleton.1 (sg_mem k2)
      obtain ⟨k4, k5⟩ := readE_rd (hgr.suf (nx_suf hn)) h5
      refine ⟨.inr k4, ?_⟩
      rw [k1, btT, k3, whW]
      split
      · simp only [List.length_cons, List.length_nil]; omega
      · simp only [List.length_append, List.length_cons, List.length_nil]; omega
  refine ⟨⟨e2, key.1⟩, ?_⟩
  have := key.2
  simp only [frW, List.length_append, List.length_cons, List.length_nil] at e1 ⊢
  omega
def inN (z : Int) : Prop := 0 ≤ z ∧ z ≤ 9223372036854775807
theorem grU_rd {ts : List Tok} {p : List ByteArray × Int × Int} (hg : GkA ts) (h : (grU ts).1 = some p) : ((∀ n ∈ p.1, nameT n.data.toList = true) ∧ p.1 ≠ [] ∧ inN p.2.1 ∧ inN p.2.2) ∧ (grW p.1 p.2.1 p.2.2).length + 4 * btT (grU ts).2 ≤ 4 * btT ts := by
  rw [grU] at h ⊢
  obtain ⟨u, h1, h⟩ := thU_is h
  rw [thU_to h1]
  obtain ⟨u2, h2, h⟩ := thU_is h
  rw [thU_to h2]
  obtain ⟨g, h3, h⟩ := thU_is h
  rw [thU_to h3]
  obtain ⟨u3, h4, h⟩ := thU_is h
  rw [thU_to h4]
  obtain ⟨z, h5, h⟩ := thU_is h
  rw [thU_to h5]
  obtain ⟨s, h6, h⟩ := thU_is h
  rw [thU_to h6]
  simp only [Option.some.injEq] at h
  subst h
  have e1 := jU_rd h1
  have e2 := jU_rd h2
  have g1 := (hg.suf (jU_suf wGroup ts)).suf (jU_suf wBy _)
  have e3 := sevU_rd (fun n : ByteArray => n.data.toList) (fun n => nameT n.data.toList = true) nU_suf (fun ts x _ h => ⟨(nU_rd h).1, by have := (nU_rd h).2; omega⟩) _ [] _ g _ g1 (fun x hx => absurd hx (by simp)) h3 (Nat.le_refl _)
  have g2 := g1.suf (sevU_suf nU_suf ((jU wBy (jU wGroup ts).2).2.length + 1) [] _)
  have e4 := jU_rd h4
  have g3 := g2.suf (jU_suf wWindow _)
  obtain ⟨e5, e6⟩ := iU_rd g3 h5
  have g4 := g3.suf (iU_suf _)
  have key : inN s ∧ (slW z s).length + 4 * btT (slU z (iU (jU wWindow (sevU nU ((jU wBy (jU wGroup ts).2).2.length + 1) [] (jU wBy (jU wGroup ts).2).2).2).2).2).2 ≤ 4 * btT (iU (jU wWindow (sevU nU ((jU wBy (jU wGroup ts).2).2.length + 1) [] (jU wBy (jU wGroup ts).2).2).2).2).2 := by
    generalize (iU (jU wWindow (sevU nU ((jU wBy (jU wGroup ts).2).2.length + 1) [] (jU wBy (jU wGroup ts).2).2).2).2).2 = rs at h6 g4
    rw [slU] at h6 ⊢
    cases hn : nxT (sgT [wSlide]) rs with
    | none =>
      rw [hn] at h6
      simp only [Option.some.injEq] at h6
      subst h6
      refine ⟨e5, ?_⟩
      rw [slW, if_pos rfl]
      simp
    | some q =>
      obtain ⟨t, r⟩ := q
      rw [hn] at h6
      simp only at h6 ⊢
      obtain ⟨k1, k2⟩ := nxT_len hn
      have k3 := List.mem_singleton.1 (sg_mem k2)
      obtain ⟨k4, k5⟩ := iU_rd (g4.suf (nx_suf hn)) h6
      refine ⟨k4, ?_⟩
      rw [k1, btT, k3, slW]
      split
      · simp only [List.length_cons, List.length_nil]; omega
      · simp only [List.length_append, List.length_cons, List.length_nil]; omega
  refine ⟨⟨e3.1.1, e3.1.2, e5, key.1⟩, ?_⟩
  have := key.2
  have e32 := e3.2
  simp only [grW, List.length_append, List.length_cons, List.length_nil, if_true] at e1 e2 e32 e4 ⊢
  omega
theorem zip_parts : ∀ c : List (Ex × ByteArray), (c.map (·.1)).zip (c.map (·.2)) = c
  | [] => rfl
  | p :: c => by rw [List.map_cons, List.map_cons, List.zip_cons_cons, zip_parts c]
/-- A query as it is read. -/
def OkQ (q : Qy) : Prop := nameT q.frm.data.toList = true ∧ OkW q.whr ∧
  ((q.aggs = [] ∧ q.group = [] ∧ q.size = 0 ∧ q.slide = 0 ∧ ∃ c : List (Ex × ByteArray), c ≠ [] ∧ q.cols = c.map (·.1) ∧ q.names = c.map (·.2) ∧ ∀ p ∈ c, OkN p.1 ∧ nameT p.2.data.toList = true) ∨
   (q.cols = [] ∧ q.names = [] ∧ q.aggs ≠ [] ∧ (∀ a ∈ q.aggs, OkA a) ∧ (∀ n ∈ q.group, nameT n.data.toList = true) ∧ q.group ≠ [] ∧ inN q.size ∧ inN q.slide))
theorem qU_rd {ts : List Tok} {q : Qy} (hg : GkA ts) (h : (qU ts).1 = some q) : OkQ q ∧ (wrI q).length ≤ 4 * btT ts := by
  rw [qU] at h
  obtain ⟨u, h1, h⟩ := thU_is h
  have e1 := jU_rd h1
  have g1 := hg.suf (jU_suf wSelect ts)
  generalize (jU wSelect ts).2 = rs at h e1 g1
  simp only [List.length_cons, List.length_nil] at e1
  split at h
  · rw [qTwoU] at h
    obtain ⟨a, ha, h⟩ := thU_is h
    obtain ⟨f, hf, h⟩ := thU_is h
    obtain ⟨g, hgr, h⟩ := thU_is h
    simp only [Option.some.injEq] at h
    subst h
    have e2 := sevU_rd agW OkA aggU_suf (fun ts x hg h => aggU_rd hg h) _ [] rs a _ g1 (fun x hx => absurd hx (by simp)) ha (Nat.le_refl _)
    have g2 := g1.suf (sevU_suf aggU_suf (rs.length + 1) [] rs)
    obtain ⟨e3, e4⟩ := frU_rd g2 hf
    have g3 := g2.suf (frU_suf _)
    obtain ⟨e5, e6⟩ := grU_rd g3 hgr
    refine ⟨⟨e3.1, e3.2, .inr ⟨rfl, rfl, e2.1.2, e2.1.1, e5.1, e5.2.1, e5.2.2.1, e5.2.2.2⟩⟩, ?_⟩
    have hpos : 0 < a.length := List.length_pos_iff.2 e2.1.2
    have e22 := e2.2
    simp only [wrI, itemsW, gqW]
    rw [if_pos hpos, if_pos hpos]
    simp only [List.length_append, List.length_cons, List.length_nil, if_true] at e22 ⊢
    omega
  · rw [qOneU] at h
    obtain ⟨c, hc, h⟩ := thU_is h
    obtain ⟨f, hf, h⟩ := thU_is h
    simp only [Option.some.injEq] at h
    subst h
    have e2 := sevU_rd (fun p : Ex × ByteArray => colW p.1 p.2) (fun p => OkN p.1 ∧ nameT p.2.data.toList = true) colU_suf (fun ts x hg h => colU_rd hg h) _ [] rs c _ g1 (fun x hx => absurd hx (by simp)) hc (Nat.le_refl _)
    have g2 := g1.suf (sevU_suf colU_suf (rs.length + 1) [] rs)
    obtain ⟨e3, e4⟩ := frU_rd g2 hf
    refine ⟨⟨e3.1, e3.2, .inl ⟨rfl, rfl, rfl, rfl, c, e2.1.2, rfl, rfl, e2.1.1⟩⟩, ?_⟩
    have e22 := e2.2
    simp only [wrI, itemsW, gqW]
    rw [if_neg (by simp), if_neg (by simp), zip_parts]
    simp only [List.length_append, List.length_cons, List.length_nil, if_true] at e22 ⊢
    omega
end Go.Proofs.YtkbhmghdonomnaaGreatDoor
namespace Go.Proofs.YtkbhmghdonomnaaGreatDoor
set_option linter.unusedVariables false

theorem goN_ext {p : UInt8 → Bool} {c : UInt8} (hc : p c = false) : ∀ l : List UInt8, goN p (l ++ [c]) = goN p l
  | [] => by rw [List.nil_append, goN_no [] hc]; rfl
  | d :: l => by
    rw [List.cons_append]
    cases hd : p d with
    | true => rw [goN_yes _ hd, goN_yes _ hd, goN_ext hc l]
    | false => rw [goN_no _ hd, goN_no _ hd]
theorem hdB_ext {p : UInt8 → Bool} {c : UInt8} (hc : p c = false) (l : List UInt8) : hdB p (l ++ [c]) = hdB p l := by
  cases l with
  | nil => exact hc
  | cons d l => rfl
theorem qscan_ext : ∀ (n : Nat) (l : List UInt8) (k : Nat), l.length ≤ n → qscan l = some k → qscan (l ++ [41]) = some k
  | _, [], k, _, h => by simp [qscan] at h
  | 0, c :: l, k, hl, _ => by simp at hl
  | n + 1, c :: l, k, hl, h => by
    simp only [List.length_cons] at hl
    by_cases hc : c = 39
    · subst hc
      cases l with
      | nil => simpa [qscan] using h
      | cons d r =>
        by_cases hd : d = 39
        · subst hd
          rw [qscan_two] at h
          obtain ⟨m, hm, rfl⟩ := Option.map_eq_some_iff.1 h
          simp only [List.cons_append]
          rw [qscan_two, qscan_ext n r m (by simp at hl; omega) hm]
          rfl
        · rw [qscan_end _ (by simpa using hd)] at h
          rw [List.cons_append, qscan_end _ (by simpa using hd)]
          exact h
    · rw [qscan_ne _ _ hc] at h
      obtain ⟨m, hm, rfl⟩ := Option.map_eq_some_iff.1 h
      rw [List.cons_append, qscan_ne _ _ hc, qscan_ext n l m (by omega) hm]
      rfl
theorem tok_ext {l : List UInt8} {k : Int} {n : Nat} (h : tokAt l = (k, n, 0)) : tokAt (l ++ [41]) = (k, n, 0) := by
  obtain ⟨hn1, hn2⟩ := tokAt_len h
  cases l with
  | nil => simp at hn2; omega
  | cons c l =>
    rw [List.cons_append]
    rw [tokAt] at h ⊢
    by_cases h1 : letB c = true
    · rw [if_pos h1] at h ⊢
      rw [← List.cons_append, goN_ext (by decide)]
      exact h
    rw [if_neg h1] at h ⊢
    by_cases h2 : digB c = true
    · rw [if_pos h2] at h ⊢
      have hnt : numTok (c :: (l ++ [41])) = numTok (c :: l) := by
        rw [← List.cons_append]
        have hg := goN_ext (p := digB) (c := 41) (by decide) (c :: l)
        have hle := goN_le digB (c :: l)
        rw [numTok, numTok, hg, List.drop_append_of_le_length hle, hdB_ext (by decide), List.take_append_of_le_length hle]
        rfl
      rw [hnt]
      exact h
    rw [if_neg h2] at h ⊢
    by_cases h3 : c = 39
    · rw [if_pos h3] at h ⊢
      rw [quoTok] at h ⊢
      cases hq : qscan l with
      | none => rw [hq] at h; simp at h
      | some m =>
        rw [hq] at h
        rw [qscan_ext _ l m (Nat.le_refl _) hq]
        have hm := (qscan_le _ l m (Nat.le_refl _) hq).2
        simp only at h ⊢
        rw [List.take_append_of_le_length hm]
        exact h
    rw [if_neg h3] at h ⊢
    have hs : sgN signsL (c :: (l ++ [41])) = sgN signsL (c :: l) := by
      cases l with
      | nil => simp [signsL, sgN, Lib.hasPrefix, List.isPrefixOf]
      | cons d r => simp [signsL, sgN, Lib.hasPrefix, List.isPrefixOf]
    rw [hs]
    exact h
theorem lexN_ext : ∀ (f a : Nat) (l : List UInt8) (ts : List Tok) (p : Nat), l.length < f → lexN f a l = (ts, 0, p) → ∀ f' a', l.length + 1 < f' → ∃ ts' c, lexN f' a' (l ++ [41]) = (ts' ++ [c], 0, 0) ∧ Tx ts' = Tx ts ∧ c.2.1.data.toList = [41]
  | 0, a, l, ts, p, hl, _ => by omega
  | f + 1, a, l, ts, p, hl, h => by
    intro f' a' hf'
    obtain ⟨g, rfl⟩ : ∃ g, f' = g + 1 := ⟨f' - 1, by omega⟩
    by_cases h0 : l = []
    · subst h0
      rw [lexN, if_pos rfl] at h
      simp only [Prod.mk.injEq] at h
      obtain ⟨rfl, _, _⟩ := h
      refine ⟨[], (4, ⟨#[41]⟩, a'), ?_, rfl, rfl⟩
      have ht : tokAt [41] = (4, 1, 0) := by simp [tokAt, letB, digB, signsL, sgN, Lib.hasPrefix, List.isPrefixOf]
      have hg2 : lexN g (a' + 1 + goN blB []) (([] : List UInt8).drop (goN blB [])) = ([], 0, 0) := by
        cases g with
        | zero => rfl
        | succ g => rw [lexN, if_pos (by simp)]
      rw [List.nil_append, lexN, if_neg (by simp), ht]
      simp only
      rw [if_neg (by decide)]
      simp only [List.drop_succ_cons, List.drop_zero]
      rw [hg2]
      rfl
    · rw [lexN, if_neg h0] at h
      by_cases he : (tokAt l).2.2 = 0
      · obtain ⟨k, n, ht⟩ : ∃ k n, tokAt l = (k, n, 0) := ⟨_, _, by rw [← he]⟩
        rw [ht] at h
        simp only at h
        rw [if_neg (by decide)] at h
        obtain ⟨hn1, hn2⟩ := tokAt_len ht
        have hle := goN_le blB (l.drop n)
        split at h
        · rename_i hz
          obtain ⟨t2, e2, p2, hrec⟩ : ∃ t2 e2 p2, lexN f (a + n + goN blB (l.drop n)) ((l.drop n).drop (goN blB (l.drop n))) = (t2, e2, p2) := ⟨_, _, _, rfl⟩
          rw [hrec] at h hz
          simp only at h hz
          subst hz
          simp only [Prod.mk.injEq] at h
          obtain ⟨rfl, _, _⟩ := h
          have hl2 : ((l.drop n).drop (goN blB (l.drop n))).length < f := by
            rw [List.length_drop, List.length_drop]; omega
          obtain ⟨ts', c, h1, h2, h3⟩ := lexN_ext f _ _ t2 p2 hl2 hrec g (a' + n + goN blB (l.drop n)) (by rw [List.length_drop, List.length_drop]; omega)
          refine ⟨(k, ⟨(l.take n).toArray⟩, a') :: ts', c, ?_, ?_, h3⟩
          · rw [lexN, if_neg (by simp), tok_ext ht]
            simp only
            rw [if_neg (by decide), List.drop_append_of_le_length hn2, goN_ext (by decide), List.drop_append_of_le_length hle, h1, List.take_append_of_le_length hn2]
            rfl
          · simp only [Tx, List.map_cons] at h2 ⊢
            rw [h2]
        · rename_i hz
          simp only [Prod.mk.injEq] at h
          exact absurd (congrArg Prod.fst h.2) hz
      · rw [if_pos he] at h
        simp only [Prod.mk.injEq] at h
        exact absurd h.2.1 he
theorem lex_bracket {s : List UInt8} {ts : List Tok} {p : Nat} (h : lexAll s = (ts, 0, p)) (hl : s.length ≤ 398) : ∃ o ts' c, lexAll (40 :: (s ++ [41])) = (o :: (ts' ++ [c]), 0, 0) ∧ o.2.1.data.toList = [40] ∧ c.2.1.data.toList = [41] ∧ Tx ts' = Tx ts := by
  rw [lexAll, if_neg (by omega), lexS, lexA] at h
  split at h
  · rename_i hz
    obtain ⟨t2, e2, p2, hrec⟩ : ∃ t2 e2 p2, lexN (s.length + 1) (0 + goN blB s) (s.drop (goN blB s)) = (t2, e2, p2) := ⟨_, _, _, rfl⟩
    rw [hrec] at h hz
    simp only at h hz
    subst hz
    simp only [List.nil_append, Prod.mk.injEq] at h
    obtain ⟨rfl, _, _⟩ := h
    have hle := goN_le blB s
    obtain ⟨ts', c, h1, h2, h3⟩ := lexN_ext _ _ _ t2 p2 (by rw [List.length_drop]; omega) hrec (s.length + 2) (0 + 1 + goN blB s) (by rw [List.length_drop]; omega)
    refine ⟨(4, ⟨#[40]⟩, 0), ts', c, ?_, rfl, h3, h2⟩
    have hlen : (40 :: (s ++ [41])).length + 1 = s.length + 2 + 1 := by simp
    have ht : tokAt (40 :: (s ++ [41])) = (4, 1, 0) := sgn_par 40 _ (.inl rfl)
    rw [lexAll, if_neg (by simp; omega), hlen, lexS_no _ _ _ _ rfl, lexA_tok _ _ _ _ (by simp) ht]
    simp only [List.drop_succ_cons, List.drop_zero, List.nil_append]
    rw [lexS, lexA, goN_ext (by decide), List.drop_append_of_le_length hle, h1]
    rfl
  · rename_i hz
    simp only [Prod.mk.injEq] at h
    exact absurd (congrArg Prod.fst h.2) hz
end Go.Proofs.YtkbhmghdonomnaaGreatDoor
namespace Go.Proofs.YtkbhmghdonomnaaGreatDoor
set_option linter.unusedVariables false

/-- What follows is nothing, or a bracket that shuts. -/
def StX (X : List Tok) : Prop := X = [] ∨ ∃ c q, X = c :: q ∧ c.2.1.data.toList = [41]
/-- A question that is about a word's text alone. -/
def PT (P : Tok → Bool) : Prop := ∀ t t' : Tok, t'.2.1.data.toList = t.2.1.data.toList → P t' = P t
theorem pt_sg (gs : List (List UInt8)) : PT (sgT gs) := fun t t' h => by rw [sgT, sgT, h]
theorem arr_eq {a b : ByteArray} (h : a.data.toList = b.data.toList) : a = b := by
  apply ByteArray.ext
  exact Array.toList_inj.1 h
theorem pt_vl : PT vlT := fun t t' h => by rw [vlT, vlT, arr_eq h]
theorem pt_nm : PT nmT := fun t t' h => by rw [nmT, nmT, h]
theorem nx_some {P : Tok → Bool} (hP : PT P) {ts r ts' X : List Tok} {t : Tok} (h : nxT P ts = some (t, r)) (ht : Tx ts' = Tx ts) : ∃ t' r', ts' = t' :: r' ∧ nxT P (ts' ++ X) = some (t', r' ++ X) ∧ t'.2.1.data.toList = t.2.1.data.toList ∧ Tx r' = Tx r := by
  obtain ⟨h1, h2⟩ := nxT_len h
  subst h1
  obtain ⟨t', r', rfl, e1, e2⟩ := Tx_cons ht
  refine ⟨t', r', rfl, ?_, e1, e2⟩
  rw [List.cons_append, nxT, if_pos (by rw [hP t t' e1]; exact h2)]
theorem nx_none {P : Tok → Bool} (hP : PT P) {ts ts' X : List Tok} (h : nxT P ts = none) (ht : Tx ts' = Tx ts) (hX : nxT P X = none) : nxT P (ts' ++ X) = none := by
  cases ts with
  | nil => rw [Tx_nil (ht.trans rfl)]; exact hX
  | cons t r =>
    obtain ⟨t', r', rfl, e1, e2⟩ := Tx_cons ht
    rw [nxT] at h
    split at h
    · simp at h
    · rename_i hp
      rw [List.cons_append, nxT, if_neg (by rw [hP t t' e1]; exact hp)]
theorem st_sg {X : List Tok} (h : StX X) {gs : List (List UInt8)} (hg : [41] ∉ gs) : nxT (sgT gs) X = none := by
  rcases h with rfl | ⟨c, q, rfl, hc⟩
  · rfl
  · rw [nxT, if_neg]
    intro e
    exact hg (by have := sg_mem e; rwa [hc] at this)
theorem st_vl {X : List Tok} (h : StX X) : nxT vlT X = none := by
  rcases h with rfl | ⟨c, q, rfl, hc⟩
  · rfl
  · have := noval (s := c.2.1) (c := 41) (r := []) hc (by decide) (by decide) (by rw [hc]; decide) (by rw [hc]; decide)
    rw [nxT, if_neg (by simpa [vlT] using this)]
theorem st_nm {X : List Tok} (h : StX X) : nxT nmT X = none := by
  rcases h with rfl | ⟨c, q, rfl, hc⟩
  · rfl
  · rw [nxT, if_neg (by rw [nmT, hc]; decide)]
/-- What is read of some words is read of the same ones, whatever of that follows. -/
def Rel (X : List Tok) (sub sub' : List Tok → Option Ex × List Tok) : Prop := ∀ ts e r, sub ts = (some e, r) → ∀ ts', Tx ts' = Tx ts → ∃ e' r', sub' (ts' ++ X) = (some e', r' ++ X) ∧ Tx r' = Tx r ∧ sameE false e' e = true
theorem same_bet {a b a' b' : Ex} {t t' : Tok} (ht : t'.2.1.data.toList = t.2.1.data.toList) (ha : sameE false a' a = true) (hb : sameE false b' b = true) : sameE false (betT a' t' b') (betT a t b) = true :=
  same_mk ht rfl rfl rfl rfl (by rw [sameL, ha, sameL, hb, sameL]; rfl)
theorem Tx_len {a b : List Tok} (h : Tx a = Tx b) : a.length = b.length := by
  have := congrArg List.length h
  simpa [Tx] using this
theorem uLoop_rel {X : List Tok} (hX : StX X) {sub sub' : List Tok → Option Ex × List Tok} (hR : Rel X sub sub') (hf : Suf sub) (gs : List (List UInt8)) (hg : [41] ∉ gs) : ∀ (k : Nat) (e : Ex) (ts : List Tok) (y : Ex) (r : List Tok), ts.length < k → uLoop sub gs k e ts = (some y, r) → ∀ (k' : Nat) (e' : Ex) (ts' : List Tok), Tx ts' = Tx ts → sameE false e' e = true → (ts' ++ X).length < k' → ∃ y' r', uLoop sub' gs k' e' (ts' ++ X) = (some y', r' ++ X) ∧ Tx r' = Tx r ∧ sameE false y' y = true
  | 0, e, ts, y, r, hl, _ => by omega
  | k + 1, e, ts, y, r, hl, h => by
    intro k' e' ts' ht he hk'
    obtain ⟨g, rfl⟩ : ∃ g, k' = g + 1 := ⟨k' - 1, by omega⟩
    rw [uLoop] at h
    cases hn : nxT (sgT gs) ts with
    | none =>
      rw [hn] at h
      simp only [Prod.mk.injEq, Option.some.injEq] at h
      obtain ⟨rfl, rfl⟩ := h
      refine ⟨e', ts', ?_, ht, he⟩
      rw [uLoop, nx_none (pt_sg gs) hn ht (st_sg hX hg)]
    | some q =>
      obtain ⟨t, r1⟩ := q
      rw [hn] at h
      obtain ⟨t', r1', rfl, h2, h3, h4⟩ := nx_some (X := X) (pt_sg gs) hn ht
      have h1 := (nxT_len hn).1
      subst h1
      simp only at h
      have h6 := hf r1
      cases h5 : sub r1 with
      | mk o r2 =>
        rw [h5] at h h6
        cases o with
        | none => simp at h
        | some b =>
          simp only at h h6
          obtain ⟨b', r2', e1, e2, e3⟩ := hR r1 b r2 h5 r1' h4
          have l1 := h6.length_le
          have l2 := Tx_len e2
          have l3 := Tx_len h4
          simp only [List.length_cons, List.cons_append, List.length_append] at hl hk'
          obtain ⟨y', r', g1, g2, g3⟩ := uLoop_rel hX hR hf gs hg k (betT e t b) r2 y r (by omega) h g (betT e' t' b') r2' e2 (same_bet h3 he e3) (by rw [List.length_append]; omega)
          refine ⟨y', r', ?_, g2, g3⟩
          rw [uLoop, h2]
          simp only
          rw [e1]
          exact g1
theorem uSev_rel {X : List Tok} (hX : StX X) {sub sub' : List Tok → Option Ex × List Tok} (hR : Rel X sub sub') (hf : Suf sub) (gs : List (List UInt8)) (hg : [41] ∉ gs) : Rel X (uSev sub gs) (uSev sub' gs) := by
  intro ts y r h ts' ht
  rw [uSev] at h
  cases h3 : sub ts with
  | mk o r1 =>
    rw [h3] at h
    cases o with
    | none => simp at h
    | some e =>
      simp only at h
      obtain ⟨e', r1', e1, e2, e3⟩ := hR ts e r1 h3 ts' ht
      obtain ⟨y', r', g1, g2, g3⟩ := uLoop_rel hX hR hf gs hg (r1.length + 1) e r1 y r (by omega) h ((r1' ++ X).length + 1) e' r1' e2 e3 (by omega)
      refine ⟨y', r', ?_, g2, g3⟩
      rw [uSev, e1]
      exact g1
theorem uAhead_rel {X : List Tok} (hX : StX X) {sub sub' oth oth' : List Tok → Option Ex × List Tok} (hR : Rel X sub sub') (hO : Rel X oth oth') (op : List UInt8) (gs : List (List UInt8)) (hg : [41] ∉ gs) : Rel X (uAhead op gs sub oth) (uAhead op gs sub' oth') := by
  intro ts y r h ts' ht
  rw [uAhead] at h
  cases hn : nxT (sgT gs) ts with
  | none =>
    rw [hn] at h
    obtain ⟨e', r', h1, h2, h3⟩ := hO ts y r h ts' ht
    refine ⟨e', r', ?_, h2, h3⟩
    rw [uAhead, nx_none (pt_sg gs) hn ht (st_sg hX hg)]
    exact h1
  | some q =>
    obtain ⟨t, r1⟩ := q
    rw [hn] at h
    obtain ⟨t', r1', rfl, h2, h3, h4⟩ := nx_some (X := X) (pt_sg gs) hn ht
    simp only at h
    cases h5 : sub r1 with
    | mk o r2 =>
      rw [h5] at h
      cases o with
      | none => simp at h
      | some b =>
        simp only [Prod.mk.injEq, Option.some.injEq] at h
        obtain ⟨rfl, rfl⟩ := h
        obtain ⟨b', r2', e1, e2, e3⟩ := hR r1 b r2 h5 r1' h4
        refine ⟨op1 op (t'.2.2 : Int) [b'], r2', ?_, e2, same_mk rfl rfl rfl rfl rfl (by rw [sameL, e3, sameL]; rfl)⟩
        rw [uAhead, h2]
        simp only
        rw [e1]
theorem uCmp_rel {X : List Tok} (hX : StX X) {sub sub' : List Tok → Option Ex × List Tok} (hR : Rel X sub sub') : Rel X (uCmp sub) (uCmp sub') := by
  intro ts y r h ts' ht
  rw [uCmp] at h
  cases h3 : sub ts with
  | mk o r1 =>
    rw [h3] at h
    cases o with
    | none => simp at h
    | some e =>
      simp only at h
      obtain ⟨e', r1', e1, e2, e3⟩ := hR ts e r1 h3 ts' ht
      cases hn : nxT (sgT cmpL) r1 with
      | none =>
        rw [hn] at h
        simp only [Prod.mk.injEq, Option.some.injEq] at h
        obtain ⟨rfl, rfl⟩ := h
        refine ⟨e', r1', ?_, e2, e3⟩
        rw [uCmp, e1]
        simp only
        rw [nx_none (pt_sg cmpL) hn e2 (st_sg hX (by decide))]
      | some q =>
        obtain ⟨t, r2⟩ := q
        rw [hn] at h
        obtain ⟨t', r2', rfl, h2, h4, h5⟩ := nx_some (X := X) (pt_sg cmpL) hn e2
        simp only at h
        cases h6 : sub r2 with
        | mk o r3 =>
          rw [h6] at h
          cases o with
          | none => simp at h
          | some b =>
            simp only [Prod.mk.injEq, Option.some.injEq] at h
            obtain ⟨rfl, rfl⟩ := h
            obtain ⟨b', r3', g1, g2, g3⟩ := hR r2 b r3 h6 r2' h5
            refine ⟨betT e' t' b', r3', ?_, g2, same_bet h4 e3 g3⟩
            rw [uCmp, e1]
            simp only
            rw [h2]
            simp only
            rw [g1]
theorem sameL_app : ∀ {l m : List Ex} {a b : Ex}, sameL false l m = true → sameE false a b = true → sameL false (l ++ [a]) (m ++ [b]) = true
  | [], [], a, b, _, h => by rw [List.nil_append, List.nil_append, sameL, h, sameL]; rfl
  | [], _ :: _, a, b, h, _ => by simp [sameL] at h
  | _ :: _, [], a, b, h, _ => by simp [sameL] at h
  | x :: xs, y :: ys, a, b, h, h2 => by
    rw [sameL, Bool.and_eq_true] at h
    rw [List.cons_append, List.cons_append, sameL, h.1, sameL_app h.2 h2]
    rfl
theorem uBr_rel {X : List Tok} {sub sub' : List Tok → Option Ex × List Tok} (hR : Rel X sub sub') : ∀ (k : Nat) (acc acc' : List Ex) (ts : List Tok) (l : List Ex) (r : List Tok), sameL false acc' acc = true → uBr sub k acc ts = (some l, r) → ∀ ts', Tx ts' = Tx ts → ∃ l' r', uBr sub' k acc' (ts' ++ X) = (some l', r' ++ X) ∧ Tx r' = Tx r ∧ sameL false l' l = true
  | 0, acc, acc', ts, l, r, ha, h => by
    intro ts' ht
    rw [uBr] at h
    cases hn : nxT (sgT [[41]]) ts with
    | none => rw [hn] at h; simp at h
    | some q =>
      obtain ⟨t, r1⟩ := q
      rw [hn] at h
      simp only [Prod.mk.injEq, Option.some.injEq] at h
      obtain ⟨rfl, rfl⟩ := h
      obtain ⟨t', r1', rfl, h2, h3, h4⟩ := nx_some (X := X) (pt_sg [[41]]) hn ht
      refine ⟨acc', r1', ?_, h4, ha⟩
      rw [uBr, h2]
  | k + 1, acc, acc', ts, l, r, ha, h => by
    intro ts' ht
    rw [uBr] at h
    have hlen : acc'.length = acc.length := (sameL_all ha).1
    cases hn : nxT (sgT [if acc.length = 0 then [40] else [44]]) ts with
    | none => rw [hn] at h; simp at h
    | some q =>
      obtain ⟨t, r1⟩ := q
      rw [hn] at h
      obtain ⟨t', r1', rfl, h2, h3, h4⟩ := nx_some (X := X) (pt_sg _) hn ht
      simp only at h
      cases h5 : sub r1 with
      | mk o r2 =>
        rw [h5] at h
        cases o with
        | none => simp at h
        | some e =>
          simp only at h
          obtain ⟨e', r2', g1, g2, g3⟩ := hR r1 e r2 h5 r1' h4
          obtain ⟨l', r', f1, f2, f3⟩ := uBr_rel hR k (acc ++ [e]) (acc' ++ [e']) r2 l r (sameL_app ha g3) h r2' g2
          refine ⟨l', r', ?_, f2, f3⟩
          rw [uBr, hlen, h2]
          simp only
          rw [g1]
          exact f1
theorem uOne_rel {X : List Tok} (hX : StX X) {sub sub' : List Tok → Option Ex × List Tok} (hR : Rel X sub sub') : Rel X (uOne sub) (uOne sub') := by
  intro ts y r h ts' ht
  cases hn : nxT (sgT lenIf) ts with
  | some q =>
    obtain ⟨t, r1⟩ := q
    rw [uOne_call hn] at h
    obtain ⟨t', r1', rfl, h2, h3, h4⟩ := nx_some (X := X) (pt_sg lenIf) hn ht
    have hm : manyT t' = manyT t := by rw [manyT, manyT, h3]
    cases h5 : uBr sub (manyT t) [] r1 with
    | mk o r2 =>
      rw [h5] at h
      cases o with
      | none => simp at h
      | some l =>
        simp only [Option.map_some, Prod.mk.injEq, Option.some.injEq] at h
        obtain ⟨rfl, rfl⟩ := h
        obtain ⟨l', r', g1, g2, g3⟩ := uBr_rel hR (manyT t) [] [] r1 l r2 (by rw [sameL]) h5 r1' h4
        refine ⟨.node t'.2.1 ⟨#[]⟩ 0 0 ⟨#[]⟩ (t'.2.2 : Int) l', r', ?_, g2, same_mk h3 rfl rfl rfl rfl g3⟩
        rw [uOne_call h2, hm, g1]
        rfl
  | none =>
    have n1 := nx_none (X := X) (pt_sg lenIf) hn ht (st_sg hX (by decide))
    cases hv : nxT vlT ts with
    | some q =>
      obtain ⟨t, r1⟩ := q
      rw [uOne_val hn hv] at h
      simp only [Prod.mk.injEq, Option.some.injEq] at h
      obtain ⟨rfl, rfl⟩ := h
      obtain ⟨t', r1', rfl, h2, h3, h4⟩ := nx_some (X := X) pt_vl hv ht
      refine ⟨valE t', r1', uOne_val n1 h2, h4, ?_⟩
      rw [valE, valE, arr_eq h3]
      exact same_mk rfl rfl rfl rfl rfl (by rw [sameL])
    | none =>
      have n2 := nx_none (X := X) pt_vl hv ht (st_vl hX)
      cases hc : nxT nmT ts with
      | some q =>
        obtain ⟨t, r1⟩ := q
        rw [uOne_col hn hv hc] at h
        simp only [Prod.mk.injEq, Option.some.injEq] at h
        obtain ⟨rfl, rfl⟩ := h
        obtain ⟨t', r1', rfl, h2, h3, h4⟩ := nx_some (X := X) pt_nm hc ht
        refine ⟨colE1 t', r1', uOne_col n1 n2 h2, h4, ?_⟩
        rw [colE1, colE1]
        exact same_mk rfl h3 rfl rfl rfl (by rw [sameL])
      | none =>
        have n3 := nx_none (X := X) pt_nm hc ht (st_nm hX)
        rw [uOne_br hn hv hc] at h
        cases h5 : uBr sub 1 [] ts with
        | mk o r2 =>
          rw [h5] at h
          cases o with
          | none => simp at h
          | some l =>
            obtain ⟨l', r', g1, g2, g3⟩ := uBr_rel hR 1 [] [] ts l r2 (by rw [sameL]) h5 ts' ht
            simp only [Option.bind_some, Prod.mk.injEq] at h
            obtain ⟨h6, rfl⟩ := h
            obtain ⟨e1, e2⟩ := sameL_all g3
            cases l with
            | nil => simp at h6
            | cons x xs =>
              cases l' with
              | nil => simp at e1
              | cons x' xs' =>
                simp only [List.head?_cons, Option.some.injEq] at h6
                subst h6
                refine ⟨x', r', ?_, g2, e2 0 (by simp) (by simp)⟩
                rw [uOne_br n1 n2 n3, g1]
                rfl
theorem uE_rel {X : List Tok} (hX : StX X) : ∀ (f f' lv : Nat), f ≤ f' → Rel X (uE f lv) (uE f' lv)
  | 0, f', lv, _ => fun ts e r h => by rw [uE] at h; simp at h
  | f + 1, f', lv, hf => by
    obtain ⟨g, rfl⟩ : ∃ g, f' = g + 1 := ⟨f' - 1, by omega⟩
    have ih := fun lv => uE_rel hX f g lv (by omega)
    have hs := fun lv => uE_suf f lv
    have hlv : lv = 0 ∨ lv = 1 ∨ lv = 2 ∨ lv = 3 ∨ lv = 4 ∨ lv = 5 ∨ lv = 6 ∨ ∃ m, lv = m + 7 := by
      rcases Nat.lt_or_ge lv 7 with h | h
      · omega
      · exact .inr (.inr (.inr (.inr (.inr (.inr (.inr ⟨lv - 7, by omega⟩))))))
    rcases hlv with rfl | rfl | rfl | rfl | rfl | rfl | rfl | ⟨m, rfl⟩
    · exact uSev_rel hX (ih 1) (hs 1) _ (by decide)
    · exact uSev_rel hX (ih 2) (hs 2) _ (by decide)
    · exact uAhead_rel hX (ih 2) (ih 3) _ _ (by decide)
    · exact uCmp_rel hX (ih 4)
    · exact uSev_rel hX (ih 5) (hs 5) _ (by decide)
    · exact uSev_rel hX (ih 6) (hs 6) _ (by decide)
    · exact uAhead_rel hX (ih 6) (ih 7) _ _ (by decide)
    · exact uOne_rel hX (ih 0)
/-- More brackets change nothing. -/
theorem parse_bracket {s : List UInt8} {x : Ex} {p : Nat} (h : parseP s = (x, 0, p)) (hl : s.length ≤ 398) : ∃ e, parseP (40 :: (s ++ [41])) = (e, 0, 0) ∧ sameE false e x = true := by
  rw [parseP] at h
  split at h
  · rename_i h0
    simp only [Prod.mk.injEq] at h
    exact absurd h.2.1 h0
  · rename_i h0
    have hlx : lexAll s = ((lexAll s).1, 0, (lexAll s).2.2) := by
      have : (lexAll s).2.1 = 0 := by simpa using h0
      rw [← this]
    split at h
    · rename_i y hr
      split at h
      · simp at h
      · rename_i htg
        simp only [Prod.mk.injEq] at h
        obtain ⟨rfl, _, _⟩ := h
        obtain ⟨o, ts', c, h1, h2, h3, h4⟩ := lex_bracket hlx hl
        have hlen := Tx_len h4
        rw [readE] at hr
        obtain ⟨e, r', g1, g2, g3⟩ := uE_rel (X := [c]) (.inr ⟨c, [], rfl, h3⟩) _ ((ts'.length + 2) * 8) 0 (by omega) _ _ _ hr ts' h4
        obtain rfl := Tx_nil (g2.trans rfl)
        rw [List.nil_append] at g1
        have h5 := one_br h2 h3 g1
        have hm : nxT (sgT [[45]]) (o :: (ts' ++ [c])) = none := by simp [nxT, sgT, h2]
        have hn : nxT (sgT [[110, 111, 116]]) (o :: (ts' ++ [c])) = none := by simp [nxT, sgT, h2]
        have h6 := uE_lift 7 _ 0 (by omega) h5 (fun k _ _ => cnd_nil hm hn k)
        refine ⟨e, ?_, g3⟩
        have hread : readE (o :: (ts' ++ [c])) = (some e, []) := by
          rw [readE, show (o :: (ts' ++ [c])).length * 8 + 8 = (ts'.length + 2) * 8 + 1 + 7 by simp]
          exact h6
        rw [parseP, h1]
        simp only
        rw [if_neg (by decide), hread]
        simp only
        rw [if_neg (by rw [same_tg g3]; exact htg)]
    · simp at h
end Go.Proofs.YtkbhmghdonomnaaGreatDoor
