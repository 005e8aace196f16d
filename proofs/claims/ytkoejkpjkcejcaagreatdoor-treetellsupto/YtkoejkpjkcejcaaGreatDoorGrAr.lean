/-
  TreeRu, TreeRv, TreeLx, TreeLy, TreeLz, in one text.
-/
import Derived.Test.YtkoejkpjkcejcaaGreatDoorGrAq
import Derived.Test.YtkoejkpjkcejcaaGreatDoorGrAi
namespace Go.Proofs.YtkoejkpjkcejcaaGreatDoor
set_option linter.unusedVariables false

/-- What is right with a node. -/
theorem node_all {op nm vs : ByteArray} {vt vn pos : Int} {l : List Ex} (h : nodeE (.node op nm vt vn vs pos l) = 0) :
    (op.data.toList = [99, 111, 108] → nameT nm.data.toList = true) ∧ (op.data.toList ≠ [99, 111, 108] → nm.data.toList = []) ∧ (op.data.toList ≠ [118, 97, 108] → vt = 0 ∧ vn = 0 ∧ vs.data.toList = []) ∧ (op.data.toList = [118, 97, 108] → ckV vt vn vs.data.toList = 0) := by
  have h1 : nodeE (.node op nm vt vn vs pos l) = nodeB (apL op.data.toList opsL).2 (op.toList == [99, 111, 108]) (nameT nm.data.toList) ((l.length : Int) != (apL op.data.toList opsL).1) (!(nm.toList == [])) (op.toList == [118, 97, 108]) (!((vt == 0) && ((vn == 0) && (vs.toList == [])))) (ckV vt vn vs.data.toList) := rfl
  rw [h1, nodeB, Lib.toList_data, Lib.toList_data, Lib.toList_data] at h
  by_cases g1 : (!(apL op.data.toList opsL).2 || ((op.data.toList == [99, 111, 108]) && !nameT nm.data.toList)) = true
  · rw [if_pos g1] at h; exact absurd h (by decide)
  rw [if_neg g1] at h
  by_cases g2 : (((l.length : Int) != (apL op.data.toList opsL).1) || ((!(op.data.toList == [99, 111, 108]) && !(nm.data.toList == [])) || (!(op.data.toList == [118, 97, 108]) && !((vt == 0) && ((vn == 0) && (vs.data.toList == [])))))) = true
  · rw [if_pos g2] at h; exact absurd h (by decide)
  rw [if_neg g2] at h
  simp only [Bool.not_eq_true, Bool.or_eq_false_iff, Bool.and_eq_false_iff, Bool.not_eq_false'] at g1 g2
  refine ⟨fun e => ?_, fun e => ?_, fun e => ?_, fun e => ?_⟩
  · rcases g1.2 with g | g
    · rw [e] at g; exact absurd g (by decide)
    · exact g
  · rcases g2.2.1 with g | g
    · exact absurd (by simpa using g) e
    · simpa using g
  · rcases g2.2.2 with g | g
    · exact absurd (by simpa using g) e
    · simpa using g
  · rw [if_pos (by simpa using e)] at h
    exact h
theorem noval {s : ByteArray} {c : UInt8} {r : List UInt8} (h : s.data.toList = c :: r) (h39 : c ≠ 39) (hc : ¬ (c.toNat = 45 ∨ 48 ≤ c.toNat ∧ c.toNat ≤ 57)) (ht : s.data.toList ≠ [116, 114, 117, 101]) (hf : s.data.toList ≠ [102, 97, 108, 115, 101]) : (readV s).2.2.2 ≠ 0 := by
  have hp : ¬ Lib.hasPrefix s.data.toList [39] = true := by
    intro e
    have := (hasPre_len e).2
    rw [h] at this
    simp at this
    exact h39 this
  rw [readV, if_neg ht, if_neg hf, if_neg hp]
  split
  · split
    · rename_i n _ e
      obtain ⟨c', r', e', hh⟩ := itoa_head n
      rw [e', h] at e
      injection e with e _
      subst e
      exact absurd hh hc
    · decide
  · decide
theorem letB_num {c : UInt8} (h : letB c = true) : 97 ≤ c.toNat ∧ c.toNat ≤ 122 := by
  simp only [letB, Bool.and_eq_true, decide_eq_true_eq] at h
  omega
theorem name_noval {s : ByteArray} (h : nameT s.data.toList = true) : (readV s).2.2.2 ≠ 0 := by
  have h0 := h
  simp only [nameT, lettersB, Bool.and_eq_true, decide_eq_true_eq, Bool.not_eq_true'] at h
  obtain ⟨⟨⟨h1, _⟩, h2⟩, h3⟩ := h
  have hne : ∀ w ∈ wordsL, s.data.toList ≠ w := fun w hw e => by
    rw [List.any_eq_false] at h3
    exact h3 w hw (by rw [e]; simp)
  cases hs : s.data.toList with
  | nil => exact absurd hs h1
  | cons c r =>
    rw [hs, List.all_cons, Bool.and_eq_true] at h2
    have hc := letB_num h2.1
    refine noval hs (fun e => ?_) (by omega) (hne _ (by decide)) (hne _ (by decide))
    subst e
    exact absurd hc.1 (by decide)
theorem uE_7 (f : Nat) (ts : List Tok) : uE (f + 1) 7 ts = uOne (uE f 0) ts := rfl
/-- A bracket with one in it. -/
theorem one_br {f : Nat} {cs r : List Tok} {o c : Tok} {e : Ex} (ho : o.2.1.data.toList = [40]) (hc : c.2.1.data.toList = [41]) (h : uE f 0 cs = (some e, c :: r)) : uE (f + 1) 7 (o :: cs) = (some e, r) := by
  have hv : vlT o = false := by
    have := noval (s := o.2.1) (c := 40) (r := []) ho (by decide) (by decide) (by rw [ho]; decide) (by rw [ho]; decide)
    simpa [vlT] using this
  have hn : nmT o = false := by rw [nmT, ho]; decide
  rw [uE_7, uOne, nxT, if_neg (by simp [sgT, ho])]
  simp only
  rw [nxT, if_neg (by simp [hv])]
  simp only
  rw [nxT, if_neg (by simp [hn])]
  simp only
  rw [uBr, nxT, if_pos (by simp [sgT, ho])]
  simp only
  rw [h]
  simp only
  rw [uBr, nxT, if_pos (by simp [sgT, hc])]
  rfl
theorem call1 {f : Nat} {cs r : List Tok} {t o c : Tok} {e : Ex} (ht : t.2.1.data.toList = [108, 101, 110]) (ho : o.2.1.data.toList = [40]) (hc : c.2.1.data.toList = [41]) (h : uE f 0 cs = (some e, c :: r)) : uE (f + 1) 7 (t :: o :: cs) = (some (.node t.2.1 ⟨#[]⟩ 0 0 ⟨#[]⟩ (t.2.2 : Int) [e]), r) := by
  rw [uE_7, uOne, nxT, if_pos (by simp [sgT, ht])]
  simp only
  rw [if_pos ht, uBr, nxT, if_pos (by simp [sgT, ho])]
  simp only
  rw [h]
  simp only
  rw [uBr, nxT, if_pos (by simp [sgT, hc])]
  rfl
theorem call3 {f : Nat} {cs c2 c3 r : List Tok} {t o m1 m2 c : Tok} {e1 e2 e3 : Ex} (ht : t.2.1.data.toList = [105, 102]) (ho : o.2.1.data.toList = [40]) (h1c : m1.2.1.data.toList = [44]) (h2c : m2.2.1.data.toList = [44]) (hc : c.2.1.data.toList = [41]) (h1 : uE f 0 cs = (some e1, m1 :: c2)) (h2 : uE f 0 c2 = (some e2, m2 :: c3)) (h3 : uE f 0 c3 = (some e3, c :: r)) : uE (f + 1) 7 (t :: o :: cs) = (some (.node t.2.1 ⟨#[]⟩ 0 0 ⟨#[]⟩ (t.2.2 : Int) [e1, e2, e3]), r) := by
  rw [uE_7, uOne, nxT, if_pos (by simp [sgT, ht])]
  simp only
  rw [if_neg (by rw [ht]; decide), uBr, nxT, if_pos (by simp [sgT, ho])]
  simp only
  rw [h1]
  simp only
  rw [uBr, nxT, if_pos (by simp [sgT, h1c])]
  simp only
  rw [h2]
  simp only
  rw [uBr, nxT, if_pos (by simp [sgT, h2c])]
  simp only
  rw [h3]
  simp only
  rw [uBr, nxT, if_pos (by simp [sgT, hc])]
  rfl
theorem same_mk {o n s o2 n2 s2 : ByteArray} {t k p t2 k2 p2 : Int} {l l2 : List Ex} (h1 : o.data.toList = o2.data.toList) (h2 : n.data.toList = n2.data.toList) (h3 : t = t2) (h4 : k = k2) (h5 : s.data.toList = s2.data.toList) (h6 : sameL false l l2 = true) : sameE false (.node o n t k s p l) (.node o2 n2 t2 k2 s2 p2 l2) = true := by
  rw [sameE]
  simp [Lib.toList_data, h1, h2, h3, h4, h5, h6]
/-- The first word of an expression's text is no sign that stands ahead. -/
def HdOk (L : List (List UInt8)) : Prop := ∃ h rest, L = h :: rest ∧ h ≠ [45] ∧ h ≠ [110, 111, 116]
theorem HdOk.none {L : List (List UInt8)} (h : HdOk L) {ts r : List Tok} (ht : Tx ts = L) : nxT (sgT [[45]]) (ts ++ r) = none ∧ nxT (sgT [[110, 111, 116]]) (ts ++ r) = none := by
  obtain ⟨a, rest, rfl, h1, h2⟩ := h
  obtain ⟨t, r', rfl, e, _⟩ := Tx_cons ht
  constructor
  · simp [nxT, sgT, e, Ne.symm h1]
  · simp [nxT, sgT, e, Ne.symm h2]
end Go.Proofs.YtkoejkpjkcejcaaGreatDoor
namespace Go.Proofs.YtkoejkpjkcejcaaGreatDoor
set_option linter.unusedVariables false

theorem ckV_ok {t n : Int} {l : List UInt8} (h : ckV t n l = 0) : chk t n l = 0 ∧ (t = 1 → 0 ≤ n) := by
  rw [ckV] at h
  by_cases h1 : chk t n l = 0
  · rw [if_neg (by simpa using h1)] at h
    refine ⟨h1, fun e => ?_⟩
    by_cases h2 : n < 0
    · rw [if_pos ⟨e, h2⟩] at h
      exact absurd h (by decide)
    · omega
  · rw [if_pos h1] at h
    exact absurd h h1
theorem shown_hd {t n : Int} {l : List UInt8} (h : ckV t n l = 0) : ∃ c r, shown t n l = c :: r ∧ ((48 ≤ c.toNat ∧ c.toNat ≤ 57) ∨ c = 116 ∨ c = 102 ∨ c = 39) := by
  obtain ⟨h1, h2⟩ := ckV_ok h
  rcases chk_type h1 with ⟨rfl, _⟩ | ⟨rfl, _, hb⟩ | ⟨rfl, rfl, _, _⟩
  · rw [shown, if_pos rfl, Lib.itoa, if_neg (by have := h2 rfl; omega)]
    obtain ⟨c, r, e, hc⟩ := digits_head n.toNat n.toNat (Nat.le_refl _)
    exact ⟨c, r, e, .inl hc⟩
  · rw [shown, if_neg (by decide), if_pos rfl]
    split
    · exact ⟨_, _, rfl, .inr (.inl rfl)⟩
    · exact ⟨_, _, rfl, .inr (.inr (.inl rfl))⟩
  · rw [shown, if_neg (by decide), if_neg (by decide)]
    exact ⟨_, _, rfl, .inr (.inr (.inr rfl))⟩
theorem shown_ne {t n : Int} {l : List UInt8} (h : ckV t n l = 0) : shown t n l ≠ [45] ∧ shown t n l ≠ [110, 111, 116] ∧ shown t n l ≠ [108, 101, 110] ∧ shown t n l ≠ [105, 102] := by
  obtain ⟨c, r, e, hc⟩ := shown_hd h
  rw [e]
  refine ⟨fun q => ?_, fun q => ?_, fun q => ?_, fun q => ?_⟩ <;> (injection q with q _; subst q; revert hc; decide)
theorem name_ne {l : List UInt8} (h : nameT l = true) : (∀ w ∈ wordsL, l ≠ w) ∧ l ≠ [45] := by
  simp only [nameT, lettersB, Bool.and_eq_true, decide_eq_true_eq, Bool.not_eq_true'] at h
  obtain ⟨⟨⟨h1, _⟩, h2⟩, h3⟩ := h
  refine ⟨fun w hw e => ?_, fun e => ?_⟩
  · rw [List.any_eq_false] at h3
    exact h3 w hw (by rw [e]; simp)
  · rw [e] at h2
    exact absurd h2 (by decide)
theorem Tx_nil {ts : List Tok} (h : Tx ts = []) : ts = [] := by simpa [Tx] using h
/-- The operations of two parts. -/
theorem op_kinds {op : List UInt8} {n : Nat} (h1 : (apL op opsL).2 = true) (h2 : (n : Int) = (apL op opsL).1) (a1 : op ≠ [118, 97, 108]) (a2 : op ≠ [99, 111, 108]) :
    (op = [108, 101, 110] ∧ n = 1) ∨ (op = [105, 102] ∧ n = 3) ∨ (op = [110, 111, 116] ∧ n = 1) ∨ (op = [110, 101, 103] ∧ n = 1) ∨ (op ∈ bin14 ∧ n = 2 ∧ op ≠ [108, 101, 110] ∧ op ≠ [105, 102] ∧ op ≠ [110, 111, 116] ∧ op ≠ [110, 101, 103]) := by
  have key : ∀ l : List (List UInt8 × Int), (∀ o ∈ l, o.1 = op → (op = [108, 101, 110] ∧ o.2 = 1) ∨ (op = [105, 102] ∧ o.2 = 3) ∨ (op = [110, 111, 116] ∧ o.2 = 1) ∨ (op = [110, 101, 103] ∧ o.2 = 1) ∨ (op ∈ bin14 ∧ o.2 = 2 ∧ op ≠ [108, 101, 110] ∧ op ≠ [105, 102] ∧ op ≠ [110, 111, 116] ∧ op ≠ [110, 101, 103])) → (apL op l).2 = true → (op = [108, 101, 110] ∧ (apL op l).1 = 1) ∨ (op = [105, 102] ∧ (apL op l).1 = 3) ∨ (op = [110, 111, 116] ∧ (apL op l).1 = 1) ∨ (op = [110, 101, 103] ∧ (apL op l).1 = 1) ∨ (op ∈ bin14 ∧ (apL op l).1 = 2 ∧ op ≠ [108, 101, 110] ∧ op ≠ [105, 102] ∧ op ≠ [110, 111, 116] ∧ op ≠ [110, 101, 103]) := by
    intro l
    induction l with
    | nil => intro _ h; simp [apL] at h
    | cons o os ih =>
      intro ho h
      rw [apL] at h ⊢
      split
      · rename_i e
        exact ho o (by simp) e
      · rename_i e
        rw [if_neg e] at h
        exact ih (fun o' h' => ho o' (by simp [h'])) h
  have h3 := key opsL (fun o ho e => by
    simp only [opsL, List.mem_cons, List.not_mem_nil, or_false] at ho
    rcases ho with rfl | rfl | rfl | rfl | rfl | rfl | rfl | rfl | rfl | rfl | rfl | rfl | rfl | rfl | rfl | rfl | rfl | rfl | rfl
    · exact absurd e.symm a1
    · exact absurd e.symm a2
    all_goals
      simp only at e
      subst e
      decide) h1
  rw [← h2] at h3
  rcases h3 with ⟨a, b⟩ | ⟨a, b⟩ | ⟨a, b⟩ | ⟨a, b⟩ | ⟨a, b, c⟩
  · exact .inl ⟨a, by omega⟩
  · exact .inr (.inl ⟨a, by omega⟩)
  · exact .inr (.inr (.inl ⟨a, by omega⟩))
  · exact .inr (.inr (.inr (.inl ⟨a, by omega⟩)))
  · exact .inr (.inr (.inr (.inr ⟨a, by omega, c⟩)))
/-- An expression is read of its words, whatever follows. -/
theorem rt7 : ∀ (x : Ex) (d : Nat), (∀ q ∈ x.pre d, nodeE q.1 = 0) → (∀ q ∈ x.pre d, inI q.1.vn) → HdOk (tkP x) ∧ ∀ (ts r : List Tok), Tx ts = tkP x → ∃ x', sameE false x' x = true ∧ ∀ f, 8 * (tkP x).length ≤ f → uE f 7 (ts ++ r) = (some x', r) := by
  refine Ex.ind fun op nm vt vn vs pos l ih d hpre hin => ?_
  have hself := hpre (.node op nm vt vn vs pos l, d) (by rw [Ex.pre]; exact List.mem_cons_self ..)
  have hvn : inI vn := hin (.node op nm vt vn vs pos l, d) (by rw [Ex.pre]; exact List.mem_cons_self ..)
  have hsub : ∀ y ∈ l, ∀ q ∈ y.pre (d + 1), q ∈ (Ex.node op nm vt vn vs pos l).pre d := fun y hy q hq => by
    rw [Ex.pre]; exact List.mem_cons_of_mem _ (pres_mem hy q hq)
  have hI := fun y hy => ih y hy (d + 1) (fun q hq => hpre q (hsub y hy q hq)) (fun q hq => hin q (hsub y hy q hq))
  obtain ⟨ha1, ha2, _⟩ := node_ok hself
  have ha2' : (l.length : Int) = (apL op.data.toList opsL).1 := ha2
  have ha1' : (apL op.data.toList opsL).2 = true := ha1
  obtain ⟨hcol, hncol, hnval, hval⟩ := node_all hself
  clear ha1 ha2 hpre hin hsub ih hself
  rw [tkP, tksP_map]
  by_cases h1 : op.data.toList = [118, 97, 108]
  · rw [if_pos h1]
    have hck := hval h1
    obtain ⟨hc0, _⟩ := ckV_ok hck
    obtain ⟨n1, n2, n3, n4⟩ := shown_ne hck
    rw [prS, if_pos hc0]
    have hl0 : l = [] := by
      rw [h1] at ha2'
      have : (l.length : Int) = 0 := ha2'
      exact List.length_eq_zero_iff.1 (by omega)
    subst hl0
    refine ⟨⟨_, _, rfl, n1, n2⟩, fun ts r hts => ?_⟩
    obtain ⟨t, r', rfl, ht, hr'⟩ := Tx_cons hts
    obtain rfl := Tx_nil hr'
    have hrd := read_shown vt vn vs.data.toList t.2.1 hvn hc0 ht
    refine ⟨valE t, ?_, fun f hf => ?_⟩
    · rw [valE, hrd]
      exact same_mk (by rw [h1]) (by rw [hncol (by rw [h1]; decide)]) rfl rfl rfl (by rw [sameL])
    · obtain ⟨g, rfl⟩ : ∃ g, f = g + 1 := ⟨f - 1, by simp at hf; omega⟩
      rw [uE_7, List.singleton_append, uOne, nxT, if_neg (by simp [sgT, ht, Ne.symm n3, Ne.symm n4])]
      simp only
      rw [nxT, if_pos (by simp [vlT, hrd])]
  rw [if_neg h1]
  obtain ⟨rfl, rfl, hvs0⟩ := hnval h1
  by_cases h2 : op.data.toList = [99, 111, 108]
  · rw [if_pos h2]
    have hnm := hcol h2
    obtain ⟨n1, n2⟩ := name_ne hnm
    have hl0 : l = [] := by
      rw [h2] at ha2'
      have : (l.length : Int) = 0 := ha2'
      exact List.length_eq_zero_iff.1 (by omega)
    subst hl0
    refine ⟨⟨_, _, rfl, n2, n1 _ (by decide)⟩, fun ts r hts => ?_⟩
    obtain ⟨t, r', rfl, ht, hr'⟩ := Tx_cons hts
    obtain rfl := Tx_nil hr'
    have hnv := name_noval (s := t.2.1) (by rw [ht]; exact hnm)
    refine ⟨colE1 t, ?_, fun f hf => ?_⟩
    · rw [colE1]
      exact same_mk (by rw [h2]) ht rfl rfl (by rw [hvs0]) (by rw [sameL])
    · obtain ⟨g, rfl⟩ : ∃ g, f = g + 1 := ⟨f - 1, by simp at hf; omega⟩
      rw [uE_7, List.singleton_append, uOne, nxT, if_neg (by simp [sgT, ht, Ne.symm (n1 [108, 101, 110] (by decide)), Ne.symm (n1 [105, 102] (by decide))])]
      simp only
      rw [nxT, if_neg (by simp [vlT, hnv])]
      simp only
      rw [nxT, if_pos (by rw [nmT, ht]; exact hnm)]
  rw [if_neg h2]
  have hnm0 := hncol h2
  clear hcol hncol hnval hval hvn
  -- a part, up to the level of the whole
  have up : ∀ y ∈ l, ∀ (ts r : List Tok) (c : Tok), Tx ts = tkP y → (c.2.1.data.toList = [41] ∨ c.2.1.data.toList = [44]) → ∃ x', sameE false x' y = true ∧ ∀ f, 8 * (tkP y).length + 7 ≤ f → uE f 0 (ts ++ c :: r) = (some x', c :: r) := fun y hy ts r c hts hc => by
    obtain ⟨hh, hr⟩ := hI y hy
    obtain ⟨x', hs, hx'⟩ := hr ts (c :: r) hts
    obtain ⟨hm, hn⟩ := hh.none (r := c :: r) hts
    refine ⟨x', hs, fun f hf => ?_⟩
    have := uE_lift 7 (f - 7) 0 (by omega) (hx' _ (by omega)) (fun k h1 h2 => cnd_close hm hn hc k (by omega))
    rwa [show f - 7 + 7 = f from by omega] at this
  rcases op_kinds ha1' ha2' h1 h2 with ⟨ho, hl⟩ | ⟨ho, hl⟩ | ⟨ho, hl⟩ | ⟨ho, hl⟩ | ⟨ho, hl, o1, o2, o3, o4⟩
  · obtain ⟨y, rfl⟩ := head_of hl
    rw [if_pos (.inl ho)]
    simp only [List.map_cons, List.map_nil, tkI]
    refine ⟨⟨_, _, rfl, by rw [ho]; decide, by rw [ho]; decide⟩, fun ts r hts => ?_⟩
    obtain ⟨t, r1, rfl, ht, hr1⟩ := Tx_cons hts
    obtain ⟨o, r2, rfl, hoo, hr2⟩ := Tx_cons hr1
    obtain ⟨ty, tc, rfl, hty, htc⟩ := Tx_app hr2
    obtain ⟨c, r3, rfl, hc, hr3⟩ := Tx_cons htc
    obtain rfl := Tx_nil hr3
    obtain ⟨y', hs, hy'⟩ := up y (by simp) ty r c hty (.inl hc)
    refine ⟨.node t.2.1 ⟨#[]⟩ 0 0 ⟨#[]⟩ (t.2.2 : Int) [y'], ?_, fun f hf => ?_⟩
    · exact same_mk ht hnm0.symm rfl rfl hvs0.symm (by rw [sameL, hs, sameL]; rfl)
    · simp only [List.length_cons, List.length_append, List.length_nil] at hf
      obtain ⟨g, rfl⟩ : ∃ g, f = g + 1 := ⟨f - 1, by omega⟩
      have := call1 (f := g) (by rw [ht]; exact ho) hoo hc (hy' g (by omega))
      simpa using this
  · obtain ⟨y, z, u, rfl⟩ : ∃ y z u, l = [y, z, u] := by
      match l, hl with
      | [y, z, u], _ => exact ⟨y, z, u, rfl⟩
    rw [if_pos (.inr ho)]
    simp only [List.map_cons, List.map_nil, tkI]
    refine ⟨⟨_, _, rfl, by rw [ho]; decide, by rw [ho]; decide⟩, fun ts r hts => ?_⟩
    obtain ⟨t, r1, rfl, ht, hr1⟩ := Tx_cons hts
    obtain ⟨o, r2, rfl, hoo, hr2⟩ := Tx_cons hr1
    obtain ⟨tm, tc, rfl, htm, htc⟩ := Tx_app hr2
    obtain ⟨c, r3, rfl, hc, hr3⟩ := Tx_cons htc
    obtain rfl := Tx_nil hr3
    obtain ⟨ty, t2, rfl, hty, ht2⟩ := Tx_app htm
    obtain ⟨m1, t3, rfl, hm1, ht3⟩ := Tx_cons ht2
    obtain ⟨tz, t4, rfl, htz, ht4⟩ := Tx_app ht3
    obtain ⟨m2, tu, rfl, hm2, htu⟩ := Tx_cons ht4
    obtain ⟨y', sy, hy'⟩ := up y (by simp) ty (tz ++ m2 :: (tu ++ c :: r)) m1 hty (.inr hm1)
    obtain ⟨z', sz, hz'⟩ := up z (by simp) tz (tu ++ c :: r) m2 htz (.inr hm2)
    obtain ⟨u', su, hu'⟩ := up u (by simp) tu r c htu (.inl hc)
    refine ⟨.node t.2.1 ⟨#[]⟩ 0 0 ⟨#[]⟩ (t.2.2 : Int) [y', z', u'], ?_, fun f hf => ?_⟩
    · exact same_mk ht hnm0.symm rfl rfl hvs0.symm (by rw [sameL, sy, sameL, sz, sameL, su, sameL]; rfl)
    · simp only [List.length_cons, List.length_append, List.length_nil] at hf
      obtain ⟨g, rfl⟩ : ∃ g, f = g + 1 := ⟨f - 1, by omega⟩
      have := call3 (f := g) (by rw [ht]; exact ho) hoo hm1 hm2 hc (hy' g (by omega)) (hz' g (by omega)) (hu' g (by omega))
      simpa using this
  · obtain ⟨y, rfl⟩ := head_of hl
    rw [if_neg (by rw [ho]; decide), if_pos ho]
    simp only [List.map_cons, List.map_nil, List.headD_cons]
    refine ⟨⟨_, _, rfl, by decide, by decide⟩, fun ts r hts => ?_⟩
    obtain ⟨o, r1, rfl, hoo, hr1⟩ := Tx_cons hts
    obtain ⟨t, r2, rfl, ht, hr2⟩ := Tx_cons hr1
    obtain ⟨ty, tc, rfl, hty, htc⟩ := Tx_app hr2
    obtain ⟨c, r3, rfl, hc, hr3⟩ := Tx_cons htc
    obtain rfl := Tx_nil hr3
    obtain ⟨hh, hrr⟩ := hI y (by simp)
    obtain ⟨y', sy, hy'⟩ := hrr ty (c :: r) hty
    obtain ⟨hm, hn⟩ := hh.none (r := c :: r) hty
    refine ⟨op1 [110, 111, 116] (t.2.2 : Int) [y'], ?_, fun f hf => ?_⟩
    · exact same_mk (by rw [ho]) hnm0.symm rfl rfl hvs0.symm (by rw [sameL, sy, sameL]; rfl)
    · simp only [List.length_cons, List.length_append, List.length_nil] at hf
      obtain ⟨g, rfl⟩ : ∃ g, f = g + 1 := ⟨f - 1, by omega⟩
      have := one_br hoo hc (uE_not (f := 8 * (tkP y).length) ht (.inl hc) hy' hm hn g (by omega))
      simpa using this
  · obtain ⟨y, rfl⟩ := head_of hl
    rw [if_neg (by rw [ho]; decide), if_neg (by rw [ho]; decide), if_pos ho]
    simp only [List.map_cons, List.map_nil, List.headD_cons]
    refine ⟨⟨_, _, rfl, by decide, by decide⟩, fun ts r hts => ?_⟩
    obtain ⟨o, r1, rfl, hoo, hr1⟩ := Tx_cons hts
    obtain ⟨t, r2, rfl, ht, hr2⟩ := Tx_cons hr1
    obtain ⟨ty, tc, rfl, hty, htc⟩ := Tx_app hr2
    obtain ⟨c, r3, rfl, hc, hr3⟩ := Tx_cons htc
    obtain rfl := Tx_nil hr3
    obtain ⟨hh, hrr⟩ := hI y (by simp)
    obtain ⟨y', sy, hy'⟩ := hrr ty (c :: r) hty
    obtain ⟨hm, hn⟩ := hh.none (r := c :: r) hty
    refine ⟨op1 [110, 101, 103] (t.2.2 : Int) [y'], ?_, fun f hf => ?_⟩
    · exact same_mk (by rw [ho]) hnm0.symm rfl rfl hvs0.symm (by rw [sameL, sy, sameL]; rfl)
    · simp only [List.length_cons, List.length_append, List.length_nil] at hf
      obtain ⟨g, rfl⟩ : ∃ g, f = g + 1 := ⟨f - 1, by omega⟩
      have := one_br hoo hc (uE_neg (f := 8 * (tkP y).length) ht (.inl hc) hy' hm hn g (by omega))
      simpa using this
  · obtain ⟨y, z, rfl⟩ : ∃ y z, l = [y, z] := by
      match l, hl with
      | [y, z], _ => exact ⟨y, z, rfl⟩
    rw [if_neg (fun h => h.elim o1 o2), if_neg o3, if_neg o4]
    simp only [List.map_cons, List.map_nil, tkI]
    refine ⟨⟨_, _, rfl, by decide, by decide⟩, fun ts r hts => ?_⟩
    obtain ⟨o, r1, rfl, hoo, hr1⟩ := Tx_cons hts
    obtain ⟨tm, tc, rfl, htm, htc⟩ := Tx_app hr1
    obtain ⟨c, r3, rfl, hc, hr3⟩ := Tx_cons htc
    obtain rfl := Tx_nil hr3
    obtain ⟨ty, t2, rfl, hty, ht2⟩ := Tx_app htm
    obtain ⟨t, tz, rfl, ht, htz⟩ := Tx_cons ht2
    obtain ⟨hy, hyr⟩ := hI y (by simp)
    obtain ⟨hz, hzr⟩ := hI z (by simp)
    obtain ⟨y', sy, hy'⟩ := hyr ty (t :: (tz ++ c :: r)) hty
    obtain ⟨z', sz, hz'⟩ := hzr tz (c :: r) htz
    obtain ⟨hma, hna⟩ := hy.none (r := t :: (tz ++ c :: r)) hty
    obtain ⟨hmb, hnb⟩ := hz.none (r := c :: r) htz
    refine ⟨betT y' t z', ?_, fun f hf => ?_⟩
    · exact same_mk ht hnm0.symm rfl rfl hvs0.symm (by rw [sameL, sy, sameL, sz, sameL]; rfl)
    · simp only [List.length_cons, List.length_append, List.length_nil] at hf
      obtain ⟨g, rfl⟩ : ∃ g, f = g + 1 := ⟨f - 1, by omega⟩
      have := one_br hoo hc (uE_bin (f := 8 * ((tkP y).length + (tkP z).length)) ho ht (.inl hc) (fun f' h => hy' f' (by omega)) (fun f' h => hz' f' (by omega)) hma hna hmb hnb g (by omega))
      simpa using this
end Go.Proofs.YtkoejkpjkcejcaaGreatDoor
namespace Go.Proofs.YtkoejkpjkcejcaaGreatDoor
set_option linter.unusedVariables false

/-- What may follow a word of an expression. -/
def endB (r : List UInt8) : Prop := r = [] ∨ ∃ c q, r = c :: q ∧ (c = 41 ∨ c = 44 ∨ c = 32)
theorem end_hd (p : UInt8 → Bool) (h41 : p 41 = false) (h44 : p 44 = false) (h32 : p 32 = false) {r : List UInt8} (h : endB r) : hdB p r = false := by
  rcases h with rfl | ⟨c, q, rfl, rfl | rfl | rfl⟩
  · rfl
  · exact h41
  · exact h44
  · exact h32
theorem tk_word {c : UInt8} {t r : List UInt8} (hc : letB c = true) (ht : t.all ldB = true) (hr : endB r) : tokAt (c :: t ++ r) = (1, (c :: t).length, 0) := by
  rw [List.cons_append, tokAt, if_pos hc, ← List.cons_append, goN_app ldB (c :: t) r (by rw [List.all_cons, ht]; simp [ldB, hc]) (end_hd ldB (by decide) (by decide) (by decide) hr)]
theorem dig_let {c : UInt8} (h : 48 ≤ c.toNat ∧ c.toNat ≤ 57) : letB c = false ∧ digB c = true := by
  constructor
  · simp only [letB, Bool.and_eq_false_iff, decide_eq_false_iff_not]
    left; omega
  · exact (digB_iff c).2 (by omega)
theorem tk_num {n : Nat} {r : List UInt8} (hn : n ≤ 9223372036854775807) (hr : endB r) : tokAt (Lib.decDigits n ++ r) = (2, (Lib.decDigits n).length, 0) := by
  obtain ⟨c, q, e, hc⟩ := digits_head n n (Nat.le_refl _)
  obtain ⟨h1, h2, h3⟩ := dec_digits n n (Nat.le_refl _)
  obtain ⟨d1, d2⟩ := dig_let hc
  have hgo : goN digB (Lib.decDigits n ++ r) = (Lib.decDigits n).length := goN_app digB _ r h1 (end_hd digB (by decide) (by decide) (by decide) hr)
  have hnt : numTok (Lib.decDigits n ++ r) = ((Lib.decDigits n).length, 0) := by
    rw [numTok, hgo, List.drop_left, List.take_left, if_neg, h2, if_neg (by omega)]
    rintro (h | ⟨h, h48⟩)
    · rw [end_hd letB (by decide) (by decide) (by decide) hr] at h
      exact absurd h (by decide)
    · rw [e, List.cons_append, List.head?_cons] at h48
      have := h3 q (by rw [e]; injection h48 with h48; rw [h48])
      rw [e, this] at h
      simp at h
  rw [e, List.cons_append, tokAt, if_neg (by rw [d1]; decide), if_pos d2, ← List.cons_append, ← e, hnt]
theorem qscan_esc : ∀ (l r : List UInt8), r.head? ≠ some 39 → qscan (esc l ++ 39 :: r) = some ((esc l).length + 1)
  | [], r, h => by rw [esc_nil, List.nil_append, qscan_end r h]; rfl
  | c :: l, r, h => by
    have ih := qscan_esc l r h
    rw [esc_cons]
    by_cases hc : c = 39
    · rw [if_pos hc]
      simp only [List.cons_append, List.nil_append]
      rw [qscan_two, ih]
      simp
    · rw [if_neg hc]
      simp only [List.cons_append, List.nil_append]
      rw [qscan_ne _ _ hc, ih]
      simp
theorem end_q {r : List UInt8} (h : endB r) : r.head? ≠ some 39 := by
  rcases h with rfl | ⟨c, q, rfl, rfl | rfl | rfl⟩ <;> simp
theorem sgn_par (c : UInt8) (r : List UInt8) (h : c = 40 ∨ c = 41 ∨ c = 44) : tokAt (c :: r) = (4, 1, 0) := by
  rcases h with rfl | rfl | rfl <;> simp [tokAt, letB, digB, signsL, sgN, Lib.hasPrefix, List.isPrefixOf]
end Go.Proofs.YtkoejkpjkcejcaaGreatDoor
namespace Go.Proofs.YtkoejkpjkcejcaaGreatDoor
set_option linter.unusedVariables false

theorem tk_quote {l r : List UInt8} (hl : l.length ≤ 40) (hp : plainB l = true) (hr : endB r) : tokAt (39 :: (esc l ++ [39]) ++ r) = (3, (39 :: (esc l ++ [39])).length, 0) := by
  have hq : qscan (esc l ++ [39] ++ r) = some ((esc l).length + 1) := by
    rw [List.append_assoc]
    exact qscan_esc l r (end_q hr)
  have hE : qE ((esc l ++ [39] ++ r).take ((esc l).length + 1)) = 0 := by
    rw [show (esc l).length + 1 = (esc l ++ [39]).length by simp, List.take_left, qE, (rd_app _ (esc l) (Nat.le_refl _)).1, unq_esc]
    simp only
    rw [if_neg (by rw [hp]; decide), if_neg (by omega)]
  rw [List.cons_append, tokAt, if_neg (by decide), if_neg (by decide), if_pos rfl, quoTok, hq]
  simp only
  rw [if_pos hE]
  simp
/-- A word, with its kind; or blanks. -/
abbrev Item := Option Int × List UInt8
def itT (is : List Item) : List UInt8 := is.flatMap (·.2)
def itK (is : List Item) : List (List UInt8) := is.flatMap fun i => match i.1 with
  | none => []
  | some _ => [i.2]
theorem itT_app (a b : List Item) : itT (a ++ b) = itT a ++ itT b := by simp [itT]
theorem itK_app (a b : List Item) : itK (a ++ b) = itK a ++ itK b := by simp [itK]
/-- Each word stays one ahead of what follows. -/
def Okp : List Item → Prop
  | [] => True
  | (none, bs) :: is => bs.all blB = true ∧ Okp is
  | (some k, t) :: is => tokAt (t ++ itT is) = (k, t.length, 0) ∧ t ≠ [] ∧ Okp is
theorem lexS_blanks (f : Nat) (l : List UInt8) (acc : List Tok) : ∀ (bs : List UInt8) (a : Nat), bs.all blB = true → lexS f a (bs ++ l) acc = lexS f (a + bs.length) l acc
  | [], a, _ => rfl
  | c :: bs, a, h => by
    rw [List.all_cons, Bool.and_eq_true] at h
    rw [List.cons_append, lexS_blank f a c _ acc h.1, lexS_blanks f l acc bs (a + 1) h.2, List.length_cons, show a + 1 + bs.length = a + (bs.length + 1) from by omega]
theorem lex_items : ∀ (is : List Item) (f a : Nat) (acc : List Tok), Okp is → (itK is).length < f → ∃ ts, lexS f a (itT is) acc = (acc ++ ts, 0, 0) ∧ Tx ts = itK is
  | [], f, a, acc, _, hf => by
    obtain ⟨g, rfl⟩ : ∃ g, f = g + 1 := ⟨f - 1, by simp [itK] at hf; omega⟩
    exact ⟨[], by rw [List.append_nil]; exact lexS_nil g a acc, rfl⟩
  | (none, bs) :: is, f, a, acc, h, hf => by
    rw [Okp] at h
    obtain ⟨ts, h1, h2⟩ := lex_items is f (a + bs.length) acc h.2 (by simpa [itK] using hf)
    refine ⟨ts, ?_, by rw [h2]; simp [itK]⟩
    have e : itT ((none, bs) :: is) = bs ++ itT is := by simp [itT]
    rw [e, lexS_blanks f _ acc bs a h.1, h1]
  | (some k, t) :: is, f, a, acc, h, hf => by
    rw [Okp] at h
    obtain ⟨h1, h2, h3⟩ := h
    have hk : itK ((some k, t) :: is) = t :: itK is := by simp [itK]
    rw [hk, List.length_cons] at hf
    obtain ⟨g, rfl⟩ : ∃ g, f = g + 1 := ⟨f - 1, by omega⟩
    obtain ⟨ts, e1, e2⟩ := lex_items is g (a + t.length) (acc ++ [(k, ⟨t.toArray⟩, a)]) h3 (by omega)
    refine ⟨(k, ⟨t.toArray⟩, a) :: ts, ?_, by rw [hk]; simp only [Tx, List.map_cons] at e2 ⊢; rw [e2]⟩
    have e : itT ((some k, t) :: is) = t ++ itT is := by simp [itT]
    have hne : t ++ itT is ≠ [] := by simp [h2]
    have hhd : hdB blB (t ++ itT is) = false := by
      cases t with
      | nil => exact absurd rfl h2
      | cons c t =>
        cases hb : blB c with
        | false => exact hb
        | true =>
          rw [List.cons_append] at h1
          exact absurd (by rw [h1]) (tok_blank (l := t ++ itT is) hb)
    rw [e, lexS_no _ _ _ _ hhd, lexA_tok g a _ acc hne h1, List.drop_left, List.take_left, e1]
    simp
def itI (sep : List Item) : List (List Item) → List Item
  | [] => []
  | [t] => t
  | t :: u :: ts => t ++ sep ++ itI sep (u :: ts)
def opK (op : List UInt8) : Int := if op = [111, 114] ∨ op = [97, 110, 100] then 1 else 4
def valK (t : Int) : Int := if t = 1 then 2 else if t = 2 then 1 else 3
mutual
/-- The words and blanks of an expression's text. -/
def itP : Ex → List Item
  | .node op nm vt vn vs _ l =>
    if op.data.toList = [118, 97, 108] then [(some (valK vt), prS vt vn vs.data.toList)]
    else if op.data.toList = [99, 111, 108] then [(some 1, nm.data.toList)]
    else if op.data.toList = [108, 101, 110] ∨ op.data.toList = [105, 102] then (some 1, op.data.toList) :: (some 4, [40]) :: (itI [(some 4, [44]), (none, [32])] (itsP l) ++ [(some 4, [41])])
    else if op.data.toList = [110, 111, 116] then (some 4, [40]) :: (some 1, [110, 111, 116]) :: (none, [32]) :: ((itsP l).headD [] ++ [(some 4, [41])])
    else if op.data.toList = [110, 101, 103] then (some 4, [40]) :: (some 4, [45]) :: (none, [32]) :: ((itsP l).headD [] ++ [(some 4, [41])])
    else (some 4, [40]) :: (itI [(none, [32]), (some (opK op.data.toList), op.data.toList), (none, [32])] (itsP l) ++ [(some 4, [41])])
def itsP : List Ex → List (List Item)
  | [] => []
  | x :: xs => itP x :: itsP xs
end
theorem itsP_map : ∀ l : List Ex, itsP l = l.map itP
  | [] => by rw [itsP]; rfl
  | x :: xs => by rw [itsP, itsP_map xs]; rfl
theorem itI_text (sep : List Item) (bt : List UInt8) (hs : itT sep = bt) : ∀ ts : List (List Item), itT (itI sep ts) = inter bt (ts.map itT)
  | [] => rfl
  | [t] => rfl
  | t :: u :: ts => by
    have ih := itI_text sep bt hs (u :: ts)
    simp only [itI, List.map_cons, inter, itT_app, hs] at ih ⊢
    rw [ih]
theorem itI_words (sep : List Item) (k : List UInt8) (hs : itK sep = [k]) : ∀ ts : List (List Item), itK (itI sep ts) = tkI k (ts.map itK)
  | [] => rfl
  | [t] => rfl
  | t :: u :: ts => by
    have ih := itI_words sep k hs (u :: ts)
    simp only [itI, List.map_cons, tkI, itK_app, hs] at ih ⊢
    rw [ih]
    simp
theorem it_text : ∀ x : Ex, itT (itP x) = txP x ∧ itK (itP x) = tkP x := by
  refine Ex.ind fun op nm vt vn vs pos l ih => ?_
  have hm1 : (l.map itP).map itT = l.map txP := by
    rw [List.map_map]; exact List.map_congr_left fun y hy => (ih y hy).1
  have hm2 : (l.map itP).map itK = l.map tkP := by
    rw [List.map_map]; exact List.map_congr_left fun y hy => (ih y hy).2
  have hd1 : itT ((l.map itP).headD []) = (l.map txP).headD [] := by
    cases l with
    | nil => rfl
    | cons y ys => exact (ih y (by simp)).1
  have hd2 : itK ((l.map itP).headD []) = (l.map tkP).headD [] := by
    cases l with
    | nil => rfl
    | cons y ys => exact (ih y (by simp)).2
  rw [itP, txP, tkP, itsP_map, txsP_map, tksP_map]
  have c1 : ∀ (i : Item) (is : List Item), itT (i :: is) = i.2 ++ itT is := fun i is => by simp [itT]
  have c2 : ∀ (k : Int) (t : List UInt8) (is : List Item), itK ((some k, t) :: is) = t :: itK is := fun k t is => by simp [itK]
  have c3 : ∀ (t : List UInt8) (is : List Item), itK ((none, t) :: is) = itK is := fun t is => by simp [itK]
  have n1 : itT [] = [] := rfl
  have n2 : itK [] = [] := rfl
  split
  · simp only [c1, c2, n1, n2, List.append_nil, and_self]
  split
  · simp only [c1, c2, n1, n2, List.append_nil, and_self]
  split
  · constructor
    · simp only [c1, itT_app, itI_text [(some 4, [44]), (none, [32])] [44, 32] rfl, hm1, argsT, n1]
      simp
    · simp only [c2, itK_app, itI_words [(some 4, [44]), (none, [32])] [44] rfl, hm2, n2]
  split
  · constructor
    · simp only [c1, itT_app, hd1, aheadT, n1]
      simp
    · simp only [c2, c3, itK_app, hd2, n2]
  split
  · constructor
    · simp only [c1, itT_app, hd1, aheadT, n1]
      simp
    · simp only [c2, c3, itK_app, hd2, n2]
  · constructor
    · simp only [c1, itT_app, itI_text [(none, [32]), (some (opK op.data.toList), op.data.toList), (none, [32])] (32 :: (op.data.toList ++ [32])) (by simp [itT]), hm1, argsT, n1]
      simp
    · simp only [c2, itK_app, itI_words [(none, [32]), (some (opK op.data.toList), op.data.toList), (none, [32])] op.data.toList (by simp [itK]), hm2, n2]
theorem end41 (r : List UInt8) : endB (41 :: r) := .inr ⟨_, _, rfl, .inl rfl⟩
theorem end44 (r : List UInt8) : endB (44 :: r) := .inr ⟨_, _, rfl, .inr (.inl rfl)⟩
theorem end32 (r : List UInt8) : endB (32 :: r) := .inr ⟨_, _, rfl, .inr (.inr rfl)⟩
theorem tok_op {op : List UInt8} (h : op ∈ bin14) (r : List UInt8) : tokAt (op ++ 32 :: r) = (opK op, op.length, 0) ∧ op ≠ [] := by
  have hs : ∀ g ∈ signsL, sgN signsL (g ++ 32 :: r) = g.length := fun g hg => sign_again g hg (32 :: r) (by simp [sepB, blB])
  simp only [bin14, List.mem_cons, List.not_mem_nil, or_false] at h
  rcases h with rfl | rfl | rfl | rfl | rfl | rfl | rfl | rfl | rfl | rfl | rfl | rfl | rfl
  · exact ⟨tk_word (c := 111) (t := [114]) (by decide) (by decide) (end32 r), by decide⟩
  · exact ⟨tk_word (c := 97) (t := [110, 100]) (by decide) (by decide) (end32 r), by decide⟩
  all_goals
    refine ⟨?_, by decide⟩
    have h1 := hs _ (by first | exact (by decide : ([61] : List UInt8) ∈ signsL) | exact (by decide : ([60, 62] : List UInt8) ∈ signsL) | exact (by decide : ([60] : List UInt8) ∈ signsL))
    simp [tokAt, letB, digB, signsL, sgN, Lib.hasPrefix, List.isPrefixOf, opK]
theorem tok_minus (r : List UInt8) : tokAt (45 :: 32 :: r) = (4, 1, 0) := by
  simp [tokAt, letB, digB, signsL, sgN, Lib.hasPrefix, List.isPrefixOf]
theorem tok_val {t n : Int} {l r : List UInt8} (hn : inI n) (h : ckV t n l = 0) (hr : endB r) : tokAt (prS t n l ++ r) = (valK t, (prS t n l).length, 0) ∧ prS t n l ≠ [] := by
  obtain ⟨hc, h0⟩ := ckV_ok h
  rw [prS, if_pos hc]
  refine ⟨?_, by obtain ⟨c, q, e, _⟩ := shown_hd h; rw [e]; simp⟩
  rcases chk_type hc with ⟨rfl, _⟩ | ⟨rfl, _, hb⟩ | ⟨rfl, rfl, hl, hp⟩
  · rw [shown, if_pos rfl, Lib.itoa, if_neg (by have := h0 rfl; omega)]
    exact tk_num (by have := hn.2; omega) hr
  · rw [shown, if_neg (by decide), if_pos rfl]
    split
    · exact tk_word (c := 116) (t := [114, 117, 101]) (by decide) (by decide) hr
    · exact tk_word (c := 102) (t := [97, 108, 115, 101]) (by decide) (by decide) hr
  · rw [shown, if_neg (by decide), if_neg (by decide)]
    exact tk_quote hl hp hr
theorem tok_name {l r : List UInt8} (h : nameT l = true) (hr : endB r) : tokAt (l ++ r) = (1, l.length, 0) ∧ l ≠ [] := by
  simp only [nameT, lettersB, Bool.and_eq_true, decide_eq_true_eq] at h
  obtain ⟨⟨⟨h1, _⟩, h2⟩, _⟩ := h
  refine ⟨?_, h1⟩
  cases l with
  | nil => exact absurd rfl h1
  | cons c q =>
    rw [List.all_cons, Bool.and_eq_true] at h2
    refine tk_word h2.1 ?_ hr
    rw [List.all_eq_true] at h2 ⊢
    intro x hx
    simp [ldB, h2.2 x hx]
end Go.Proofs.YtkoejkpjkcejcaaGreatDoor
namespace Go.Proofs.YtkoejkpjkcejcaaGreatDoor
set_option linter.unusedVariables false

theorem okp_P : ∀ (x : Ex) (d : Nat), (∀ q ∈ x.pre d, nodeE q.1 = 0) → (∀ q ∈ x.pre d, inI q.1.vn) → ∀ rest : List Item, Okp rest → endB (itT rest) → Okp (itP x ++ rest) := by
  refine Ex.ind fun op nm vt vn vs pos l ih d hpre hin rest hr he => ?_
  have hself := hpre (.node op nm vt vn vs pos l, d) (by rw [Ex.pre]; exact List.mem_cons_self ..)
  have hvn : inI vn := hin (.node op nm vt vn vs pos l, d) (by rw [Ex.pre]; exact List.mem_cons_self ..)
  have hsub : ∀ y ∈ l, ∀ q ∈ y.pre (d + 1), q ∈ (Ex.node op nm vt vn vs pos l).pre d := fun y hy q hq => by
    rw [Ex.pre]; exact List.mem_cons_of_mem _ (pres_mem hy q hq)
  have hI := fun y hy => ih y hy (d + 1) (fun q hq => hpre q (hsub y hy q hq)) (fun q hq => hin q (hsub y hy q hq))
  obtain ⟨ha1, ha2, _⟩ := node_ok hself
  have ha2' : (l.length : Int) = (apL op.data.toList opsL).1 := ha2
  have ha1' : (apL op.data.toList opsL).2 = true := ha1
  obtain ⟨hcol, hncol, hnval, hval⟩ := node_all hself
  clear ha1 ha2 hpre hin hsub ih hself
  have ct : ∀ (i : Item) (is : List Item), itT (i :: is) = i.2 ++ itT is := fun i is => by simp [itT]
  have par : ∀ (c : UInt8) (is : List Item), (c = 40 ∨ c = 41 ∨ c = 44) → Okp is → Okp ((some 4, [c]) :: is) := fun c is hc h => by
    rw [Okp]
    exact ⟨sgn_par c (itT is) hc, by simp, h⟩
  have bl : ∀ is : List Item, Okp is → Okp ((none, [32]) :: is) := fun is h => by
    rw [Okp]
    exact ⟨by decide, h⟩
  rw [itP, itsP_map]
  by_cases h1 : op.data.toList = [118, 97, 108]
  · rw [if_pos h1, List.singleton_append, Okp]
    obtain ⟨a, b⟩ := tok_val hvn (hval h1) he
    exact ⟨a, b, hr⟩
  rw [if_neg h1]
  by_cases h2 : op.data.toList = [99, 111, 108]
  · rw [if_pos h2, List.singleton_append, Okp]
    obtain ⟨a, b⟩ := tok_name (hcol h2) he
    exact ⟨a, b, hr⟩
  rw [if_neg h2]
  have hcl : Okp ((some 4, [41]) :: rest) := par 41 rest (.inr (.inl rfl)) hr
  have hcle : endB (itT ((some 4, [41]) :: rest)) := by rw [ct]; exact end41 _
  rcases op_kinds ha1' ha2' h1 h2 with ⟨ho, hl⟩ | ⟨ho, hl⟩ | ⟨ho, hl⟩ | ⟨ho, hl⟩ | ⟨ho, hl, o1, o2, o3, o4⟩
  · obtain ⟨y, rfl⟩ := head_of hl
    rw [if_pos (.inl ho)]
    simp only [List.map_cons, List.map_nil, itI, List.cons_append, List.append_assoc, List.nil_append]
    have h3 := hI y (by simp) _ hcl hcle
    have h4 := par 40 _ (.inl rfl) h3
    rw [Okp]
    refine ⟨?_, by rw [ho]; decide, h4⟩
    rw [ho, ct]
    have hw : tokAt ([108, 101, 110] ++ 40 :: itT (itP y ++ (some 4, [41]) :: rest)) = (1, 3, 0) := by
      simp [tokAt, letB, goN, ldB, digB]
    exact hw
  · obtain ⟨y, z, u, rfl⟩ : ∃ y z u, l = [y, z, u] := by
      match l, hl with
      | [y, z, u], _ => exact ⟨y, z, u, rfl⟩
    rw [if_pos (.inr ho)]
    simp only [List.map_cons, List.map_nil, itI, List.cons_append, List.append_assoc, List.nil_append]
    have h3 := hI u (by simp) _ hcl hcle
    have h4 := par 44 _ (.inr (.inr rfl)) (bl _ h3)
    have h5 := hI z (by simp) _ h4 (by rw [ct]; exact end44 _)
    have h6 := par 44 _ (.inr (.inr rfl)) (bl _ h5)
    have h7 := hI y (by simp) _ h6 (by rw [ct]; exact end44 _)
    have h8 := par 40 _ (.inl rfl) h7
    rw [Okp]
    refine ⟨?_, by rw [ho]; decide, h8⟩
    rw [ho, ct]
    generalize itT _ = W
    show tokAt ([105, 102] ++ 40 :: W) = (1, 2, 0)
    simp [tokAt, letB, goN, ldB, digB]
  · obtain ⟨y, rfl⟩ := head_of hl
    rw [if_neg (by rw [ho]; decide), if_pos ho]
    simp only [List.map_cons, List.map_nil, List.headD_cons, List.cons_append, List.append_assoc, List.nil_append]
    have h3 := bl _ (hI y (by simp) _ hcl hcle)
    refine par 40 _ (.inl rfl) ?_
    rw [Okp]
    exact ⟨tk_word (c := 110) (t := [111, 116]) (by decide) (by decide) (by rw [ct]; exact end32 _), by decide, h3⟩
  · obtain ⟨y, rfl⟩ := head_of hl
    rw [if_neg (by rw [ho]; decide), if_neg (by rw [ho]; decide), if_pos ho]
    simp only [List.map_cons, List.map_nil, List.headD_cons, List.cons_append, List.append_assoc, List.nil_append]
    have h3 := bl _ (hI y (by simp) _ hcl hcle)
    refine par 40 _ (.inl rfl) ?_
    rw [Okp, ct]
    exact ⟨tok_minus _, by decide, h3⟩
  · obtain ⟨y, z, rfl⟩ : ∃ y z, l = [y, z] := by
      match l, hl with
      | [y, z], _ => exact ⟨y, z, rfl⟩
    rw [if_neg (fun h => h.elim o1 o2), if_neg o3, if_neg o4]
    simp only [List.map_cons, List.map_nil, itI, List.cons_append, List.append_assoc, List.nil_append]
    have h3 := bl _ (hI z (by simp) _ hcl hcle)
    have h4 : Okp ((some (opK op.data.toList), op.data.toList) :: (none, [32]) :: (itP z ++ (some 4, [41]) :: rest)) := by
      rw [Okp, ct]
      obtain ⟨a, b⟩ := tok_op ho (itT (itP z ++ (some 4, [41]) :: rest))
      exact ⟨a, b, h3⟩
    have h5 := hI y (by simp) _ (bl _ h4) (by rw [ct]; exact end32 _)
    exact par 40 _ (.inl rfl) h5
theorem itK_len : ∀ is : List Item, Okp is → (itK is).length ≤ (itT is).length
  | [], _ => by simp [itK]
  | (none, bs) :: is, h => by
    rw [Okp] at h
    have := itK_len is h.2
    simp only [itK, itT, List.flatMap_cons, List.length_append, List.nil_append] at this ⊢
    omega
  | (some k, t) :: is, h => by
    rw [Okp] at h
    have := itK_len is h.2.2
    have h2 : 1 ≤ t.length := by
      cases t with
      | nil => exact absurd rfl h.2.1
      | cons c q => simp
    simp only [itK, itT, List.flatMap_cons, List.length_append, List.length_singleton] at this ⊢
    omega
/-- The text of an expression that is right falls into its words. -/
theorem lex_tx {x : Ex} (hn : ∀ q ∈ x.pre 1, nodeE q.1 = 0) (hi : ∀ q ∈ x.pre 1, inI q.1.vn) (hl : (txP x).length ≤ 400) : ∃ ts, lexAll (txP x) = (ts, 0, 0) ∧ Tx ts = tkP x := by
  obtain ⟨e1, e2⟩ := it_text x
  have hok : Okp (itP x) := by
    have := okp_P x 1 hn hi [] (by rw [Okp]; trivial) (.inl rfl)
    rwa [List.append_nil] at this
  have hk := itK_len _ hok
  obtain ⟨ts, h1, h2⟩ := lex_items (itP x) ((txP x).length + 1) 0 [] hok (by rw [e1] at hk; omega)
  refine ⟨ts, ?_, by rw [h2, e2]⟩
  rw [lexAll, if_neg (by omega), ← e1]
  rw [e1] at h1 ⊢
  rw [h1, List.nil_append]
end Go.Proofs.YtkoejkpjkcejcaaGreatDoor
