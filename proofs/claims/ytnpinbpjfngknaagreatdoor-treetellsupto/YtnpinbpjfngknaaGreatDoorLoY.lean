/-
  TreeAg, TreeAh, TreeAi, TreeAj, TreeAk, in one text.
-/
import Derived.Test.YtnpinbpjfngknaaGreatDoorLoQ
namespace Go.Proofs.YtnpinbpjfngknaaGreatDoor
set_option linter.unusedVariables false

/-- A word whose kind is its text's. -/
def KdT (t : Tok) : Prop := tokAt t.2.1.data.toList = (t.1, t.2.1.data.toList.length, 0)
/-- The words that both ask for have the kinds of words and signs. -/
def keysL : List (List UInt8) := [[111, 114], [97, 110, 100], [110, 111, 116], [61], [60, 62], [60], [60, 61], [62], [62, 61], [43], [45], [42], [47], [37], [40], [41], [44], [108, 101, 110], [105, 102]]
theorem key_kind {t : Tok} (h : KdT t) (hk : t.2.1.data.toList ∈ keysL) : t.1 = 1 ∨ t.1 = 4 := by
  rw [KdT] at h
  simp only [keysL, List.mem_cons, List.not_mem_nil, or_false] at hk
  have key : ∀ g : List UInt8, t.2.1.data.toList = g → ((tokAt g).1 = 1 ∨ (tokAt g).1 = 4) → t.1 = 1 ∨ t.1 = 4 := fun g e hg => by
    rw [e] at h; rw [h] at hg; exact hg
  rcases hk with e | e | e | e | e | e | e | e | e | e | e | e | e | e | e | e | e | e | e <;> exact key _ e (by decide)
section
variable (ts : List Tok) (en : Nat)
/-- The words that are left, and the place of the next one. -/
theorem suf_at {r : List Tok} (h : r <:+ ts) : ts[ts.length - r.length]? = r.head? ∧ r.length ≤ ts.length := by
  obtain ⟨p, rfl⟩ := h
  refine ⟨?_, by simp⟩
  rw [List.length_append, show p.length + r.length - r.length = p.length from by omega, List.getElem?_append_right (Nat.le_refl _), Nat.sub_self]
  cases r <;> rfl
def S0 (r : List Tok) : St := ⟨ts.length - r.length, -1⟩
theorem S0_adv {r : List Tok} {t : Tok} (h : (t :: r) <:+ ts) : adv (S0 ts (t :: r)) = S0 ts r := by
  have := (suf_at ts h).2
  simp only [List.length_cons] at this
  simp only [adv, S0, List.length_cons, St.mk.injEq, and_true]
  omega
theorem pos_at {r : List Tok} {t : Tok} (h : (t :: r) <:+ ts) : posAt ts en (S0 ts (t :: r)).i = (t.2.2 : Int) := by
  rw [posAt, show (S0 ts (t :: r)).i = ts.length - (t :: r).length from rfl, (suf_at ts h).1]
  rfl
/-- Is the next of the words that are left this one? -/
def hdIs (g : List UInt8) : List Tok → Bool
  | [] => false
  | t :: _ => t.2.1.data.toList == g
theorem S0_neg (r : List Tok) : (S0 ts r).bad < 0 := by
  show (-1 : Int) < 0
  decide
theorem is_at {r : List Tok} (h : r <:+ ts) (hk : ∀ t ∈ ts, KdT t) {g : List UInt8} (hg : g ∈ keysL) : isT ts (S0 ts r) g = hdIs g r := by
  rw [isT, show (S0 ts r).i = ts.length - r.length from rfl, (suf_at ts h).1, show (S0 ts r).bad = -1 from rfl]
  cases r with
  | nil => rfl
  | cons t q =>
    simp only [List.head?_cons, hdIs]
    cases he : t.2.1.data.toList == g with
    | false => simp
    | true =>
      have e : t.2.1.data.toList = g := by simpa using he
      rcases key_kind (hk t (h.subset (by simp))) (by rw [e]; exact hg) with h1 | h1 <;> simp [h1]
theorem first_at {r : List Tok} (h : r <:+ ts) (hk : ∀ t ∈ ts, KdT t) : ∀ gs : List (List UInt8), (∀ g ∈ gs, g ∈ keysL) → firstT ts (S0 ts r) gs = (nxT (sgT gs) r).map fun q => q.1.2.1.data.toList
  | [], _ => by cases r <;> simp [firstT, nxT, sgT]
  | g :: gs, hg => by
    rw [firstT, is_at ts h hk (hg g (by simp)), first_at h hk gs (fun x hx => hg x (by simp [hx]))]
    cases r with
    | nil => simp [nxT, hdIs]
    | cons t q =>
      have hs : sgT (g :: gs) t = ((g == t.2.1.data.toList) || sgT gs t) := by simp [sgT]
      have hh : hdIs g (t :: q) = (t.2.1.data.toList == g) := rfl
      rw [nxT, nxT, hs, hh]
      by_cases e : t.2.1.data.toList = g
      · have b1 : (t.2.1.data.toList == g) = true := by simpa using e
        have b2 : (g == t.2.1.data.toList) = true := by simpa using e.symm
        rw [b1, b2]
        simp [e]
      · have b1 : (t.2.1.data.toList == g) = false := by simpa using e
        have b2 : (g == t.2.1.data.toList) = false := by simpa using fun x => e x.symm
        rw [b1, b2, Bool.false_or, if_neg (by decide)]
/-- Both read the same, or go wrong at the same place. -/
def Sim (U : Option Ex × List Tok) (P : Ex × St) : Prop := match U.1 with
  | some e => P = (e, S0 ts U.2)
  | none => P.2.bad = posAt ts en (ts.length - U.2.length)
theorem pos_nn (i : Nat) : 0 ≤ posAt ts en i := by
  rw [posAt]
  split <;> omega
theorem bad_is {st : St} (h : 0 ≤ st.bad) (g : List UInt8) : isT ts st g = false := by
  rw [isT, decide_eq_false (by omega), Bool.false_and]
theorem bad_first {st : St} (h : 0 ≤ st.bad) : ∀ gs : List (List UInt8), firstT ts st gs = none
  | [] => rfl
  | g :: gs => by rw [firstT, bad_is ts h, if_neg (by decide), bad_first h gs]
theorem bad_loop {st : St} (h : 0 ≤ st.bad) (sub : St → Ex × St) (lv k : Nat) (e : Ex) : pLoop ts en sub lv k e st = (e, st) := by
  cases k with
  | zero => rfl
  | succ k => rw [pLoop, bad_first ts h]
theorem bad_need {st : St} (h : 0 ≤ st.bad) (g : List UInt8) : needT ts en st g = st := by
  rw [needT, bad_is ts h, if_neg (by decide), failT, if_neg (by omega)]
theorem bet_op {a b : Ex} {t : Tok} {r : List Tok} (h : (t :: r) <:+ ts) : op1 t.2.1.data.toList (posAt ts en (S0 ts (t :: r)).i) [a, b] = betT a t b := by
  rw [pos_at ts en h]
  rfl
/-- Signs and parts, over and over. -/
theorem loop_sim (hk : ∀ t ∈ ts, KdT t) {subU : List Tok → Option Ex × List Tok} {subP : St → Ex × St} (hf : Suf subU) (lv : Nat) (hlv : lv ≠ 2) (hkey : ∀ g ∈ sgl lv, g ∈ keysL) : ∀ (k k' : Nat) (e : Ex) (r : List Tok), r <:+ ts → r.length < k → r.length < k' → (∀ q, q <:+ ts → q.length < r.length → Sim ts en (subU q) (subP (S0 ts q))) → Sim ts en (uLoop subU (sgl lv) k e r) (pLoop ts en subP lv k' e (S0 ts r))
  | 0, k', e, r, hr, h1, _, _ => by omega
  | k + 1, 0, e, r, hr, _, h2, _ => by omega
  | k + 1, k' + 1, e, r, hr, h1, h2, hI => by
    rw [uLoop, pLoop, first_at ts hr hk _ hkey]
    cases hn : nxT (sgT (sgl lv)) r with
    | none => exact rfl
    | some q =>
      obtain ⟨t, r1⟩ := q
      have hr1 := (nxT_len hn).1
      subst hr1
      have hs1 : r1 <:+ ts := (List.suffix_cons t r1).trans hr
      simp only [Option.map_some]
      rw [if_neg hlv, S0_adv ts hr]
      have h4 := hI r1 hs1 (by simp)
      have h5 := hf r1
      cases h3 : subU r1 with
      | mk o r2 =>
        rw [h3] at h4 h5
        cases o with
        | none =>
          have h6 : (subP (S0 ts r1)).2.bad = posAt ts en (ts.length - r2.length) := h4
          simp only
          rw [bad_loop ts en (by rw [h6]; exact pos_nn ts en _)]
          exact h6
        | some b =>
          have h6 : subP (S0 ts r1) = (b, S0 ts r2) := h4
          rw [h6]
          simp only
          rw [bet_op ts en hr]
          have h7 : r2.length ≤ r1.length := h5.length_le
          simp only [List.length_cons] at h1 h2
          exact loop_sim hk hf lv hlv hkey k k' (betT e t b) r2 (h5.trans hs1) (by omega) (by omega) (fun q hq hl => hI q hq (by rw [List.length_cons]; omega))
end
end Go.Proofs.YtnpinbpjfngknaaGreatDoor
namespace Go.Proofs.YtnpinbpjfngknaaGreatDoor
set_option linter.unusedVariables false

theorem rd_some : ∀ (n : Nat) (q x : List UInt8), q.length ≤ n → rd q = some x → q = esc x ++ [39]
  | _, [], x, _, h => by rw [rd_nil] at h; exact absurd h (by simp)
  | 0, c :: q, x, hl, _ => by simp at hl
  | n + 1, c :: q, x, hl, h => by
    simp only [List.length_cons] at hl
    by_cases hc : c = 39
    · subst hc
      cases q with
      | nil => rw [rd_one] at h; simp only [Option.some.injEq] at h; subst h; rfl
      | cons d r =>
        by_cases hd : d = 39
        · subst hd
          rw [rd_two] at h
          obtain ⟨y, hy, rfl⟩ := Option.map_eq_some_iff.1 h
          simp only [List.length_cons] at hl
          rw [rd_some n r y (by omega) hy, esc_cons, if_pos rfl]
          rfl
        · rw [rd_bad d r hd] at h
          exact absurd h (by simp)
    · rw [rd_ne c q hc] at h
      obtain ⟨y, hy, rfl⟩ := Option.map_eq_some_iff.1 h
      rw [rd_some n q y (by omega) hy, esc_cons, if_neg hc]
      rfl
theorem noval_minus {s : ByteArray} (h : s.data.toList = [45]) : (readV s).2.2.2 ≠ 0 := by
  rw [readV, if_neg (by rw [h]; decide), if_neg (by rw [h]; decide), if_neg (by rw [h]; decide)]
  split
  · split
    · rename_i n _ e
      rw [h, Lib.itoa] at e
      split at e
      · obtain ⟨c, r, hd, _⟩ := digits_head n.natAbs n.natAbs (Nat.le_refl _)
        rw [hd] at e
        simp at e
      · obtain ⟨c, r, hd, hc⟩ := digits_head n.toNat n.toNat (Nat.le_refl _)
        rw [hd] at e
        injection e with e _
        subst e
        exact absurd hc (by decide)
    · decide
  · decide
theorem val_agree {t : Tok} (h : KdT t) : vlT t = valT t := by
  rw [KdT] at h
  have hvl : ∀ b : Bool, ((readV t.2.1).2.2.2 = 0 ↔ b = true) → vlT t = b := fun b hb => by
    rw [vlT]
    cases b with
    | true => simpa using hb.2 rfl
    | false => simpa using fun e => absurd (hb.1 e) (by decide)
  cases hl : t.2.1.data.toList with
  | nil =>
    rw [hl, tokAt] at h
    simp only [Prod.mk.injEq] at h
    exact absurd h.2.2 (by decide)
  | cons c q =>
    have h0 := h
    rw [hl, tokAt] at h
    by_cases c1 : letB c = true
    · rw [if_pos c1] at h
      simp only [Prod.mk.injEq] at h
      have hk : t.1 = 1 := h.1.symm
      have hc := letB_num c1
      refine hvl _ ?_
      rw [valT, hk, hl]
      by_cases e1 : c :: q = [116, 114, 117, 101]
      · have : readV t.2.1 = (2, 1, [], 0) := by rw [readV, if_pos (by rw [hl]; exact e1)]
        rw [this, e1]; simp
      · by_cases e2 : c :: q = [102, 97, 108, 115, 101]
        · have : readV t.2.1 = (2, 0, [], 0) := by rw [readV, if_neg (by rw [hl]; exact e1), if_pos (by rw [hl]; exact e2)]
          rw [this, e2]; simp
        · have hn := noval (s := t.2.1) (c := c) (r := q) hl (fun e => by subst e; exact absurd hc.1 (by decide)) (by omega) (by rw [hl]; exact e1) (by rw [hl]; exact e2)
          constructor
          · intro e; exact absurd e hn
          · intro e
            simp only [Bool.or_eq_true, Bool.and_eq_true, decide_eq_true_eq, beq_iff_eq] at e
            rcases e with (e | e) | ⟨_, e | e⟩
            · exact absurd e (by decide)
            · exact absurd e (by decide)
            · exact absurd e e1
            · exact absurd e e2
    rw [if_neg c1] at h
    by_cases c2 : digB c = true
    · rw [if_pos c2] at h
      have hk : t.1 = 2 := (congrArg Prod.fst h).symm
      have hnt : numTok (c :: q) = ((c :: q).length, 0) := congrArg Prod.snd h
      refine hvl _ ?_
      have hvt : valT t = true := by rw [valT, hk]; rfl
      rw [hvt]
      refine ⟨fun _ => rfl, fun _ => ?_⟩
      rw [numTok] at hnt
      split at hnt
      · simp at hnt
      · rename_i hno
        split at hnt
        · simp at hnt
        · rename_i hmx
          have hg : goN digB (c :: q) = (c :: q).length := congrArg Prod.fst hnt
          have hall := goN_all digB (c :: q)
          rw [hg, List.take_length] at hall
          rw [hg, List.take_length] at hmx
          have hdec := dec_val q.length (c :: q) rfl hall (fun r e => by
            injection e with e1 e2
            subst e1 e2
            cases q with
            | nil => rfl
            | cons d q' => exact absurd (.inr ⟨by rw [hg]; simp, by simp⟩) hno)
          have hrd := read_shown 1 (val10 (c :: q) : Int) [] t.2.1 (by omega) (by simp [chk]) (by rw [hl, shown, if_pos rfl, Lib.itoa, if_neg (by omega), Int.toNat_natCast, hdec])
          rw [hrd]
    rw [if_neg c2] at h
    by_cases c3 : c = 39
    · rw [if_pos c3] at h
      have hk : t.1 = 3 := (congrArg Prod.fst h).symm
      have hqt : quoTok q = ((c :: q).length, 0) := congrArg Prod.snd h
      refine hvl _ ?_
      have hvt : valT t = true := by rw [valT, hk]; rfl
      rw [hvt]
      refine ⟨fun _ => rfl, fun _ => ?_⟩
      rw [quoTok] at hqt
      cases hq : qscan q with
      | none => rw [hq] at hqt; simp at hqt
      | some k =>
        rw [hq] at hqt
        simp only at hqt
        split at hqt
        · rename_i hE
          simp only [Prod.mk.injEq, List.length_cons] at hqt
          have hkq : k = q.length := by omega
          rw [hkq, List.take_length, qE] at hE
          cases hr : rd q with
          | none => rw [hr] at hE; simp at hE
          | some x =>
            rw [hr] at hE
            simp only at hE
            split at hE
            · simp at hE
            · rename_i hp
              split at hE
              · simp at hE
              · rename_i hl40
                have hp' : plainB x = true := by simpa using hp
                have hrd := read_shown 3 0 x t.2.1 in0 (by simp [chk, hp']; omega) (by rw [hl, shown, if_neg (by decide), if_neg (by decide), c3, rd_some _ q x (Nat.le_refl _) hr])
                rw [hrd]
        · simp only [Prod.mk.injEq] at hqt
          rename_i hE
          exact absurd hqt.2 hE
    rw [if_neg c3] at h
    have hk : t.1 = 4 := (congrArg Prod.fst h).symm
    refine hvl _ ?_
    have hvt : valT t = false := by rw [valT, hk]; rfl
    rw [hvt]
    refine ⟨fun e => absurd e ?_, fun e => absurd e (by decide)⟩
    have hsg : sgN signsL (c :: q) = (c :: q).length := congrArg (fun z => z.2.1) h
    by_cases h45 : c = 45
    · subst h45
      have : sgN signsL (45 :: q) = 1 := by simp [signsL, sgN, Lib.hasPrefix, List.isPrefixOf]
      rw [this] at hsg
      have hq0 : q = [] := by
        cases q with
        | nil => rfl
        | cons d q' => simp at hsg
      subst hq0
      exact noval_minus hl
    · refine noval hl c3 ?_ ?_ ?_
      · rintro (e | e)
        · exact h45 (UInt8.toNat_inj.1 (by rw [e]; rfl))
        · exact c2 (dig_let e).2
      · rw [hl]; intro e; injection e with e _; subst e; exact c1 (by decide)
      · rw [hl]; intro e; injection e with e _; subst e; exact c1 (by decide)
theorem name_kind {t : Tok} (h : KdT t) (hn : nmT t = true) : t.1 = 1 := by
  have hn' : nameT t.2.1.data.toList = true := hn
  simp only [nameT, lettersB, Bool.and_eq_true, decide_eq_true_eq] at hn'
  obtain ⟨⟨⟨h1, _⟩, h2⟩, _⟩ := hn'
  rw [KdT] at h
  cases hl : t.2.1.data.toList with
  | nil => exact absurd hl h1
  | cons c q =>
    rw [hl, List.all_cons, Bool.and_eq_true] at h2
    rw [hl, tokAt, if_pos h2.1] at h
    exact (congrArg Prod.fst h).symm
end Go.Proofs.YtnpinbpjfngknaaGreatDoor
namespace Go.Proofs.YtnpinbpjfngknaaGreatDoor
set_option linter.unusedVariables false

section
variable (ts : List Tok) (en : Nat)
theorem need_yes {r : List Tok} {t : Tok} (hr : (t :: r) <:+ ts) (hk : ∀ t ∈ ts, KdT t) {g : List UInt8} (hg : g ∈ keysL) (e : t.2.1.data.toList = g) : needT ts en (S0 ts (t :: r)) g = S0 ts r := by
  have h1 : isT ts (S0 ts (t :: r)) g = true := by rw [is_at ts hr hk hg]; simpa [hdIs] using e
  rw [needT, if_pos h1, S0_adv ts hr]
theorem need_no {r : List Tok} (hr : r <:+ ts) (hk : ∀ t ∈ ts, KdT t) {g : List UInt8} (hg : g ∈ keysL) (e : nxT (sgT [g]) r = none) : (needT ts en (S0 ts r) g).bad = posAt ts en (ts.length - r.length) := by
  have h1 : isT ts (S0 ts r) g = false := by
    rw [is_at ts hr hk hg]
    cases r with
    | nil => rfl
    | cons t q =>
      rw [nxT] at e
      split at e
      · simp at e
      · rename_i h
        simp only [sgT, List.any_cons, List.any_nil, Bool.or_false] at h
        rw [hdIs]
        cases hh : t.2.1.data.toList == g with
        | false => rfl
        | true =>
          have : t.2.1.data.toList = g := by simpa using hh
          rw [this] at h
          exact absurd (by simp) h
  rw [needT, if_neg (by rw [h1]; decide), failT, if_pos (S0_neg ts _)]
  rfl
theorem args_bad {sub : St → Ex × St} (hb : ∀ st, 0 ≤ st.bad → (sub st).2 = st) : ∀ (k : Nat) (l : List Ex) (st : St), 0 ≤ st.bad → (pArgs ts en sub k l st).2 = st
  | 0, l, st, h => rfl
  | k + 1, l, st, h => by
    rw [pArgs]
    have e : (if l = [] then st else needT ts en st [44]) = st := by
      split
      · rfl
      · exact bad_need ts en h [44]
    rw [e, hb st h]
    exact args_bad hb k _ st h
/-- Parts in brackets: what both have, and the bracket that shuts. -/
def SimA (U : Option (List Ex) × List Tok) (P : List Ex × St) : Prop := match U.1 with
  | some l => P.1 = l ∧ needT ts en P.2 [41] = S0 ts U.2
  | none => (needT ts en P.2 [41]).bad = posAt ts en (ts.length - U.2.length)
theorem args_sim (hk : ∀ t ∈ ts, KdT t) {subU : List Tok → Option Ex × List Tok} {subP : St → Ex × St} (hf : Suf subU) (hb : ∀ st, 0 ≤ st.bad → (subP st).2 = st) : ∀ (k : Nat) (acc : List Ex) (r : List Tok), acc ≠ [] → r <:+ ts → (∀ q, q <:+ ts → q.length < r.length → Sim ts en (subU q) (subP (S0 ts q))) → SimA ts en (uBr subU k acc r) (pArgs ts en subP k acc (S0 ts r))
  | 0, acc, r, ha, hr, _ => by
    rw [uBr]
    cases hn : nxT (sgT [[41]]) r with
    | none => exact need_no ts en hr hk (by decide) hn
    | some q =>
      obtain ⟨t, r1⟩ := q
      obtain ⟨h1, h2⟩ := nxT_len hn
      subst h1
      exact ⟨rfl, need_yes ts en hr hk (by decide) (by simpa using sg_mem h2)⟩
  | k + 1, acc, r, ha, hr, hI => by
    have hal : acc.length ≠ 0 := fun e => ha (List.length_eq_zero_iff.1 e)
    rw [uBr, if_neg hal, pArgs, if_neg ha]
    cases hn : nxT (sgT [[44]]) r with
    | none =>
      have h1 := need_no ts en hr hk (g := [44]) (by decide) hn
      have h2 : 0 ≤ (needT ts en (S0 ts r) [44]).bad := by rw [h1]; exact pos_nn ts en _
      show (needT ts en (pArgs ts en subP k _ (subP (needT ts en (S0 ts r) [44])).2).2 [41]).bad = _
      rw [hb _ h2, args_bad ts en hb _ _ _ h2, bad_need ts en h2]
      exact h1
    | some q =>
      obtain ⟨t, r1⟩ := q
      obtain ⟨h1, h2⟩ := nxT_len hn
      subst h1
      rw [need_yes ts en hr hk (by decide) (by simpa using sg_mem h2)]
      have hs1 : r1 <:+ ts := (List.suffix_cons t r1).trans hr
      have h4 := hI r1 hs1 (by simp)
      have h5 := hf r1
      simp only
      cases h3 : subU r1 with
      | mk o r2 =>
        rw [h3] at h4 h5
        cases o with
        | none =>
          have h6 : (subP (S0 ts r1)).2.bad = posAt ts en (ts.length - r2.length) := h4
          have h7 : 0 ≤ (subP (S0 ts r1)).2.bad := by rw [h6]; exact pos_nn ts en _
          show (needT ts en (pArgs ts en subP k _ (subP (S0 ts r1)).2).2 [41]).bad = _
          rw [args_bad ts en hb _ _ _ h7, bad_need ts en h7]
          exact h6
        | some e =>
          have h6 : subP (S0 ts r1) = (e, S0 ts r2) := h4
          have h7 : r2.length ≤ r1.length := h5.length_le
          rw [h6]
          simp only
          exact args_sim hk hf hb k (acc ++ [e]) r2 (by simp) (h5.trans hs1) (fun q hq hl => hI q hq (by rw [List.length_cons]; omega))
/-- The brackets of a call, or about one expression. -/
theorem call_sim (hk : ∀ t ∈ ts, KdT t) {subU : List Tok → Option Ex × List Tok} {subP : St → Ex × St} (hf : Suf subU) (hb : ∀ st, 0 ≤ st.bad → (subP st).2 = st) (k : Nat) (r : List Tok) (hr : r <:+ ts) (hI : ∀ q, q <:+ ts → q.length < r.length → Sim ts en (subU q) (subP (S0 ts q))) : SimA ts en (uBr subU (k + 1) [] r) (pArgs ts en subP (k + 1) [] (needT ts en (S0 ts r) [40])) := by
  rw [uBr, pArgs, if_pos rfl]
  simp only [List.length_nil, if_true]
  cases hn : nxT (sgT [[40]]) r with
  | none =>
    have h1 := need_no ts en hr hk (g := [40]) (by decide) hn
    have h2 : 0 ≤ (needT ts en (S0 ts r) [40]).bad := by rw [h1]; exact pos_nn ts en _
    show (needT ts en (pArgs ts en subP k _ (subP (needT ts en (S0 ts r) [40])).2).2 [41]).bad = _
    rw [hb _ h2, args_bad ts en hb _ _ _ h2, bad_need ts en h2]
    exact h1
  | some q =>
    obtain ⟨t, r1⟩ := q
    obtain ⟨h1, h2⟩ := nxT_len hn
    subst h1
    rw [need_yes ts en hr hk (by decide) (by simpa using sg_mem h2)]
    have hs1 : r1 <:+ ts := (List.suffix_cons t r1).trans hr
    have h4 := hI r1 hs1 (by simp)
    have h5 := hf r1
    simp only [List.nil_append]
    cases h3 : subU r1 with
    | mk o r2 =>
      rw [h3] at h4 h5
      cases o with
      | none =>
        have h6 : (subP (S0 ts r1)).2.bad = posAt ts en (ts.length - r2.length) := h4
        have h7 : 0 ≤ (subP (S0 ts r1)).2.bad := by rw [h6]; exact pos_nn ts en _
        show (needT ts en (pArgs ts en subP k _ (subP (S0 ts r1)).2).2 [41]).bad = _
        rw [args_bad ts en hb _ _ _ h7, bad_need ts en h7]
        exact h6
      | some e =>
        have h6 : subP (S0 ts r1) = (e, S0 ts r2) := h4
        have h7 : r2.length ≤ r1.length := h5.length_le
        rw [h6]
        exact args_sim ts en hk hf hb k [e] r2 (by simp) (h5.trans hs1) (fun q hq hl => hI q hq (by rw [List.length_cons]; omega))
/-- What has no sign of its own. -/
theorem one_sim (hk : ∀ t ∈ ts, KdT t) {subU : List Tok → Option Ex × List Tok} {subP : St → Ex × St} (hf : Suf subU) (hb : ∀ st, 0 ≤ st.bad → (subP st).2 = st) (r : List Tok) (hr : r <:+ ts) (hI : ∀ q, q <:+ ts → q.length < r.length → Sim ts en (subU q) (subP (S0 ts q))) : Sim ts en (uOne subU r) (pOne ts en subP readV (S0 ts r)) := by
  rw [pOne, is_at ts hr hk (by decide), is_at ts hr hk (by decide), is_at ts hr hk (by decide), show (S0 ts r).i = ts.length - r.length from rfl, (suf_at ts hr).1]
  cases hr0 : r with
  | nil =>
    subst hr0
    have hu : uOne subU [] = (none, []) := rfl
    rw [hu]
    simp only [List.head?_nil, hdIs, Bool.false_eq_true, if_false]
    show (pCol ts en (S0 ts [])).2.bad = _
    rw [pCol, takeT, if_pos (S0_neg ts _), show (S0 ts []).i = ts.length - ([] : List Tok).length from rfl, (suf_at ts hr).1]
    simp only [List.head?_nil]
    rw [failT, if_pos (S0_neg ts _)]
    rfl
  | cons t q =>
    subst hr0
    have hkt := hk t (hr.subset (by simp))
    have hq : q <:+ ts := (List.suffix_cons t q).trans hr
    simp only [List.head?_cons]
    by_cases e1 : t.2.1.data.toList = [40]
    · rw [if_pos (show hdIs [40] (t :: q) = true by simpa [hdIs] using e1), S0_adv ts hr]
      have n1 : nxT (sgT lenIf) (t :: q) = none := by simp [nxT, sgT, e1]
      have n2 : nxT vlT (t :: q) = none := by
        have := noval (s := t.2.1) (c := 40) (r := []) e1 (by decide) (by decide) (by rw [e1]; decide) (by rw [e1]; decide)
        rw [nxT, if_neg (by simpa [vlT] using this)]
      have n3 : nxT nmT (t :: q) = none := by rw [nxT, if_neg (by rw [nmT, e1]; decide)]
      rw [uOne_br n1 n2 n3]
      have h4 := hI q hq (by simp)
      have h5 := hf q
      rw [uBr, nxT, if_pos (by simp [sgT, e1])]
      simp only [List.nil_append]
      cases h3 : subU q with
      | mk o r2 =>
        rw [h3] at h4 h5
        cases o with
        | none =>
          have h6 : (subP (S0 ts q)).2.bad = posAt ts en (ts.length - r2.length) := h4
          have h7 : 0 ≤ (subP (S0 ts q)).2.bad := by rw [h6]; exact pos_nn ts en _
          show (needT ts en (subP (S0 ts q)).2 [41]).bad = _
          rw [bad_need ts en h7]
          exact h6
        | some e =>
          have h6 : subP (S0 ts q) = (e, S0 ts r2) := h4
          have hs2 : r2 <:+ ts := h5.trans hq
          rw [h6]
          simp only
          rw [uBr]
          cases hn : nxT (sgT [[41]]) r2 with
          | none => exact need_no ts en hs2 hk (by decide) hn
          | some z =>
            obtain ⟨c, r3⟩ := z
            obtain ⟨h8, h9⟩ := nxT_len hn
            subst h8
            show (e, needT ts en (S0 ts (c :: r3)) [41]) = (e, S0 ts r3)
            rw [need_yes ts en hs2 hk (by decide) (by simpa using sg_mem h9)]
    rw [if_neg (show ¬ hdIs [40] (t :: q) = true by simpa [hdIs] using e1)]
    have call : ∀ (op : List UInt8) (k : Nat), t.2.1.data.toList = op → nxT (sgT lenIf) (t :: q) = some (t, q) → manyT t = k + 1 → Sim ts en (uOne subU (t :: q)) (pCall ts en subP op (k + 1) (posAt ts en (ts.length - (t :: q).length)) (S0 ts q)) := fun op k e hn hm => by
      rw [uOne_call hn, hm, pCall]
      have h := call_sim ts en hk hf hb k q hq (fun z hz hl => hI z hz (by rw [List.length_cons]; omega))
      have hp : posAt ts en (ts.length - (t :: q).length) = (t.2.2 : Int) := pos_at ts en hr
      rw [hp]
      cases h3 : uBr subU (k + 1) [] q with
      | mk o r2 =>
        rw [h3] at h
        cases o with
        | none => exact h
        | some l =>
          obtain ⟨g1, g2⟩ := h
          show (op1 op (t.2.2 : Int) _, _) = (_, S0 ts r2)
          rw [g1, g2, op1, ← e]
    by_cases e2 : t.2.1.data.toList = [108, 101, 110]
    · rw [if_pos (show hdIs [108, 101, 110] (t :: q) = true by simpa [hdIs] using e2), S0_adv ts hr]
      exact call _ 0 e2 (by simp [nxT, sgT, e2]) (by rw [manyT, if_pos e2])
    rw [if_neg (show ¬ hdIs [108, 101, 110] (t :: q) = true by simpa [hdIs] using e2)]
    by_cases e3 : t.2.1.data.toList = [105, 102]
    · rw [if_pos (show hdIs [105, 102] (t :: q) = true by simpa [hdIs] using e3), S0_adv ts hr]
      exact call _ 2 e3 (by simp [nxT, sgT, e3]) (by rw [manyT, if_neg e2])
    rw [if_neg (show ¬ hdIs [105, 102] (t :: q) = true by simpa [hdIs] using e3)]
    have n1 : nxT (sgT lenIf) (t :: q) = none := by
      rw [nxT, if_neg]
      intro h
      have := sg_mem h
      simp only [List.mem_cons, List.not_mem_nil, or_false] at this
      rcases this with h | h
      · exact e2 h
      · exact e3 h
    have hp : posAt ts en (ts.length - (t :: q).length) = (t.2.2 : Int) := pos_at ts en hr
    by_cases hv : vlT t = true
    · have n2 : nxT vlT (t :: q) = some (t, q) := by rw [nxT, if_pos hv]
      rw [uOne_val n1 n2, if_pos ⟨S0_neg ts _, by rw [← val_agree hkt]; exact hv⟩]
      show (_, _) = (valE t, S0 ts q)
      rw [S0_adv ts hr, valE, ← hp]
    have n2 : nxT vlT (t :: q) = none := by rw [nxT, if_neg hv]
    rw [if_neg (fun h => hv (by rw [val_agree hkt]; exact h.2))]
    rw [pCol, takeT, if_pos (S0_neg ts _), show (S0 ts (t :: q)).i = ts.length - (t :: q).length from rfl, (suf_at ts hr).1]
    simp only [List.head?_cons]
    by_cases hn : nmT t = true
    · have n3 : nxT nmT (t :: q) = some (t, q) := by rw [nxT, if_pos hn]
      rw [uOne_col n1 n2 n3, if_pos ⟨name_kind hkt hn, hn⟩]
      show (_, _) = (colE1 t, S0 ts q)
      rw [S0_adv ts hr, colE1, ← hp]
    · have n3 : nxT nmT (t :: q) = none := by rw [nxT, if_neg hn]
      rw [uOne_br n1 n2 n3, if_neg (fun h => hn h.2), uBr, nxT, if_neg (by
        intro h
        have := sg_mem h
        simp only [List.length_nil, if_true, List.mem_singleton] at this
        exact e1 this)]
      show (failT ts en (S0 ts (t :: q))).bad = _
      rw [failT, if_pos (S0_neg ts _)]
      rfl
end
end Go.Proofs.YtnpinbpjfngknaaGreatDoor
namespace Go.Proofs.YtnpinbpjfngknaaGreatDoor
set_option linter.unusedVariables false
section
variable (ts : List Tok) (en : Nat)
/-- Parts and signs. -/
theorem sev_sim (hk : ∀ t ∈ ts, KdT t) {subU : List Tok → Option Ex × List Tok} {subP : St → Ex × St} (hf : Suf subU) (lv : Nat) (hlv : lv ≠ 2) (hkey : ∀ g ∈ sgl lv, g ∈ keysL) (r : List Tok) (hr : r <:+ ts) (hI : ∀ q, q <:+ ts → q.length ≤ r.length → Sim ts en (subU q) (subP (S0 ts q))) : Sim ts en (uSev subU (sgl lv) r) (pLoop ts en subP lv (ts.length + 1) (subP (S0 ts r)).1 (subP (S0 ts r)).2) := by
  have h4 := hI r hr (Nat.le_refl _)
  have h5 := hf r
  rw [uSev]
  cases h3 : subU r with
  | mk o r2 =>
    rw [h3] at h4 h5
    cases o with
    | none =>
      have h6 : (subP (S0 ts r)).2.bad = posAt ts en (ts.length - r2.length) := h4
      rw [bad_loop ts en (by rw [h6]; exact pos_nn ts en _)]
      exact h6
    | some e =>
      have h6 : subP (S0 ts r) = (e, S0 ts r2) := h4
      rw [h6]
      have h7 : r2.length ≤ r.length := h5.length_le
      have h8 : r2.length ≤ ts.length := (h5.trans hr).length_le
      exact loop_sim ts en hk hf lv hlv hkey (r2.length + 1) (ts.length + 1) e r2 (h5.trans hr) (by omega) (by omega) (fun q hq hl => hI q hq (by omega))
/-- A comparison, at most one. -/
theorem cmp_sim (hk : ∀ t ∈ ts, KdT t) {subU : List Tok → Option Ex × List Tok} {subP : St → Ex × St} (hf : Suf subU) (r : List Tok) (hr : r <:+ ts) (hI : ∀ q, q <:+ ts → q.length ≤ r.length → Sim ts en (subU q) (subP (S0 ts q))) : Sim ts en (uCmp subU r) (pLoop ts en subP 2 (ts.length + 1) (subP (S0 ts r)).1 (subP (S0 ts r)).2) := by
  have h4 := hI r hr (Nat.le_refl _)
  have h5 := hf r
  rw [uCmp]
  cases h3 : subU r with
  | mk o r2 =>
    rw [h3] at h4 h5
    cases o with
    | none =>
      have h6 : (subP (S0 ts r)).2.bad = posAt ts en (ts.length - r2.length) := h4
      rw [bad_loop ts en (by rw [h6]; exact pos_nn ts en _)]
      exact h6
    | some e =>
      have h6 : subP (S0 ts r) = (e, S0 ts r2) := h4
      rw [h6]
      have h7 : r2.length ≤ r.length := h5.length_le
      have hs2 : r2 <:+ ts := h5.trans hr
      show Sim ts en _ (pLoop ts en subP 2 (ts.length + 1) e (S0 ts r2))
      rw [pLoop, first_at ts hs2 hk _ (by decide)]
      show Sim ts en (match nxT (sgT cmpL) r2 with | none => (some e, r2) | some (t, r2) => match subU r2 with | (none, r3) => (none, r3) | (some b, r3) => (some (betT e t b), r3)) _
      cases hn : nxT (sgT cmpL) r2 with
      | none =>
        have hn' : nxT (sgT (sgl 2)) r2 = none := hn
        rw [hn']
        exact rfl
      | some q =>
        obtain ⟨t, r3⟩ := q
        have hn' : nxT (sgT (sgl 2)) r2 = some (t, r3) := hn
        rw [hn']
        have hr1 := (nxT_len hn).1
        subst hr1
        have hs3 : r3 <:+ ts := (List.suffix_cons t r3).trans hs2
        simp only [Option.map_some, if_true]
        rw [S0_adv ts hs2]
        simp only [List.length_cons] at h7
        have h8 := hI r3 hs3 (by omega)
        cases h9 : subU r3 with
        | mk o r4 =>
          rw [h9] at h8
          cases o with
          | none =>
            have h10 : (subP (S0 ts r3)).2.bad = posAt ts en (ts.length - r4.length) := h8
            exact h10
          | some b =>
            have h10 : subP (S0 ts r3) = (b, S0 ts r4) := h8
            rw [h10]
            show (_, _) = (betT e t b, S0 ts r4)
            rw [bet_op ts en hs2]
/-- The program's level that answers to the document's. -/
def lvM (l : Nat) : Nat := if l ≤ 2 then l else l + 1
theorem pE_bad (rv : ByteArray → Int × Int × List UInt8 × Int) (f lv : Nat) (st : St) (h : 0 ≤ st.bad) : (pE ts en rv f lv st).2 = st := by
  cases f with
  | zero => rfl
  | succ f => rw [pE, if_pos h]
/-- A sign ahead. -/
theorem ahead_sim (hk : ∀ t ∈ ts, KdT t) {subU other : List Tok → Option Ex × List Tok} {subP : St → Ex × St} {oth : Ex × St} (op g : List UInt8) (hg : g ∈ keysL) (r : List Tok) (hr : r <:+ ts) (hI : ∀ q, q <:+ ts → q.length < r.length → Sim ts en (subU q) (subP (S0 ts q))) (ho : Sim ts en (other r) oth) : Sim ts en (uAhead op [g] subU other r) (if isT ts (S0 ts r) g = true then (op1 op (posAt ts en (S0 ts r).i) [(subP (adv (S0 ts r))).1], (subP (adv (S0 ts r))).2) else oth) := by
  rw [is_at ts hr hk hg, uAhead]
  cases hn : nxT (sgT [g]) r with
  | none =>
    have : hdIs g r = false := by
      cases r with
      | nil => rfl
      | cons t q =>
        rw [nxT] at hn
        split at hn
        · exact absurd hn (by simp)
        · rename_i h
          rw [hdIs]
          simp only [sgT, List.any_cons, List.any_nil, Bool.or_false, beq_iff_eq] at h
          simpa using fun e => h e.symm
    rw [this, if_neg (by decide)]
    exact ho
  | some z =>
    obtain ⟨t, q⟩ := z
    obtain ⟨h1, h2⟩ := nxT_len hn
    subst h1
    have hm : hdIs g (t :: q) = true := by
      rw [hdIs]
      simp only [sgT, List.any_cons, List.any_nil, Bool.or_false, beq_iff_eq] at h2
      simpa using h2.symm
    rw [hm, if_pos rfl, S0_adv ts hr, pos_at ts en hr]
    have hs1 : q <:+ ts := (List.suffix_cons t q).trans hr
    have h4 := hI q hs1 (by simp)
    simp only
    cases h3 : subU q with
    | mk o r2 =>
      rw [h3] at h4
      cases o with
      | none =>
        have h6 : (subP (S0 ts q)).2.bad = posAt ts en (ts.length - r2.length) := h4
        exact h6
      | some e =>
        have h6 : subP (S0 ts q) = (e, S0 ts r2) := h4
        rw [h6]
        exact rfl
theorem all_sim (hk : ∀ t ∈ ts, KdT t) : ∀ (g : Nat) (r : List Tok) (l f : Nat), l ≤ 5 → r <:+ ts → r.length * 6 + (6 - l) ≤ g → r.length * 8 + (8 - lvM l) ≤ f → Sim ts en (uE f (lvM l) r) (pE ts en readV g l (S0 ts r))
  | 0, r, l, f, hl, hr, hg, hf => by omega
  | g + 1, r, l, 0, hl, hr, hg, hf => by
    rw [lvM] at hf
    split at hf <;> omega
  | g + 1, r, l, f + 1, hl, hr, hg, hf => by
    have hne : ¬ 0 ≤ (S0 ts r).bad := by have := S0_neg ts r; omega
    have nx : l < 5 → ∀ q, q <:+ ts → q.length ≤ r.length → Sim ts en (uE (if l = 2 then f - 1 else f) (lvM (l + 1)) q) (pE ts en readV g (l + 1) (S0 ts q)) := fun h5 q hq hl1 => by
      refine all_sim hk g q (l + 1) _ (by omega) hq (by omega) ?_
      by_cases h2 : l = 2
      · subst h2
        rw [if_pos rfl]
        simp only [lvM] at hf ⊢
        simp at hf ⊢
        omega
      · rw [if_neg h2]
        simp only [lvM] at hf ⊢
        split at hf <;> split <;> omega
    match l, hl with
    | 0, _ =>
      rw [pE, if_neg hne, if_neg (fun h => by omega), if_neg (by decide)]
      exact sev_sim ts en hk (uE_suf f 1) 0 (by decide) (by decide) r hr (nx (by decide))
    | 1, _ =>
      rw [pE, if_neg hne, if_neg (fun h => by omega), if_neg (by decide)]
      exact sev_sim ts en hk (uE_suf f 2) 1 (by decide) (by decide) r hr (nx (by decide))
    | 2, _ =>
      rw [pE, if_neg hne]
      have h := ahead_sim ts en hk (subU := uE f 2) (other := uE f 3) (subP := pE ts en readV g 2) (oth := pLoop ts en (pE ts en readV g 3) 2 (ts.length + 1) (pE ts en readV g 3 (S0 ts r)).1 (pE ts en readV g 3 (S0 ts r)).2) [110, 111, 116] [110, 111, 116] (by decide) r hr
        (fun q hq hl1 => all_sim hk g q 2 f (by decide) hq (by omega) (by simp only [lvM] at hf ⊢; simp at hf ⊢; omega))
        (by
          cases f with
          | zero => simp [lvM] at hf
          | succ f => exact cmp_sim ts en hk (uE_suf f 4) r hr (nx (by decide)))
      cases hi : isT ts (S0 ts r) [110, 111, 116] with
      | true =>
        rw [hi, if_pos rfl] at h
        rw [if_pos ⟨rfl, rfl⟩]
        exact h
      | false =>
        rw [hi, if_neg (by decide)] at h
        rw [if_neg (fun h => by simp at h), if_neg (by decide)]
        exact h
    | 3, _ =>
      rw [pE, if_neg hne, if_neg (fun h => by omega), if_neg (by decide)]
      exact sev_sim ts en hk (uE_suf f 5) 3 (by decide) (by decide) r hr (nx (by decide))
    | 4, _ =>
      rw [pE, if_neg hne, if_neg (fun h => by omega), if_neg (by decide)]
      exact sev_sim ts en hk (uE_suf f 6) 4 (by decide) (by decide) r hr (nx (by decide))
    | 5, _ =>
      rw [pE, if_neg hne, if_neg (fun h => by omega), if_pos rfl]
      refine ahead_sim ts en hk (subU := uE f 6) (other := uE f 7) (subP := pE ts en readV g 5) [110, 101, 103] [45] (by decide) r hr
        (fun q hq hl1 => all_sim hk g q 5 f (by decide) hq (by omega) (by simp only [lvM] at hf ⊢; simp at hf ⊢; omega)) ?_
      cases f with
      | zero => simp [lvM] at hf
      | succ f =>
        refine one_sim ts en hk (uE_suf f 0) (pE_bad ts en readV g 0) r hr (fun q hq hl1 => all_sim hk g q 0 f (by decide) hq (by omega) (by simp only [lvM] at hf ⊢; simp at hf ⊢; omega))
end
end Go.Proofs.YtnpinbpjfngknaaGreatDoor
namespace Go.Proofs.YtnpinbpjfngknaaGreatDoor
set_option linter.unusedVariables false
/-- What the document's Parse says of a text: the expression, the fault, and where; g is how far its reading may go. -/
def endD (ts : List Tok) (en : Nat) (st : St) : St := if st.i < ts.length then failT ts en st else st
def parseD (g : Nat) (l : List UInt8) : Ex × Int × Int :=
  if (lexAll l).2.1 ≠ 0 then (ex0, (lexAll l).2.1, ((lexAll l).2.2 : Int))
  else
    if 0 ≤ (endD (lexAll l).1 l.length (pE (lexAll l).1 l.length readV g 0 ⟨0, -1⟩).2).bad then (ex0, 2, (endD (lexAll l).1 l.length (pE (lexAll l).1 l.length readV g 0 ⟨0, -1⟩).2).bad)
    else if tgB (pE (lexAll l).1 l.length readV g 0 ⟨0, -1⟩).1 = true then (ex0, 4, 0) else ((pE (lexAll l).1 l.length readV g 0 ⟨0, -1⟩).1, 0, 0)
theorem lex_kd {l : List UInt8} (h : (lexAll l).2.1 = 0) : ∀ t ∈ (lexAll l).1, KdT t := fun t ht => by
  have hl : lexAll l = ((lexAll l).1, 0, (lexAll l).2.2) := by rw [← h]
  obtain ⟨_, _, _, hgd⟩ := lexAll_ok hl
  have := (hgd t ht).again [] rfl
  rwa [List.append_nil] at this
theorem place_pos {ts r : List Tok} (en : Nat) (h : r <:+ ts) : posAt ts en (ts.length - r.length) = (placeT r en : Int) := by
  rw [posAt, (suf_at ts h).1]
  cases r <;> rfl
theorem parse_agree (g : Nat) (l : List UInt8) (hg : (lexAll l).1.length * 6 + 6 ≤ g) : parseD g l = ((parseP l).1, (parseP l).2.1, ((parseP l).2.2 : Int)) := by
  rw [parseD, parseP]
  by_cases h0 : (lexAll l).2.1 ≠ 0
  · rw [if_pos h0, if_pos h0]
  rw [if_neg h0, if_neg h0]
  have hk := lex_kd (l := l) (by simpa using h0)
  generalize (lexAll l).1 = ts at hk hg
  have h := all_sim ts l.length hk g ts 0 (ts.length * 8 + 8) (by decide) List.suffix_rfl (by omega) (by rw [lvM, if_pos (by decide)]; omega)
  have e0 : S0 ts ts = ⟨0, -1⟩ := by rw [S0, Nat.sub_self]
  have h5 := uE_suf (ts.length * 8 + 8) 0 ts
  rw [e0, show lvM 0 = 0 from rfl, show uE (ts.length * 8 + 8) 0 ts = readE ts from rfl] at h
  rw [show uE (ts.length * 8 + 8) 0 ts = readE ts from rfl] at h5
  cases h3 : readE ts with
  | mk o r =>
    rw [h3] at h h5
    cases o with
    | none =>
      have h6 : (pE ts l.length readV g 0 ⟨0, -1⟩).2.bad = posAt ts l.length (ts.length - r.length) := h
      have h7 : 0 ≤ (pE ts l.length readV g 0 ⟨0, -1⟩).2.bad := by rw [h6]; exact pos_nn ts _ _
      have h8 : endD ts l.length (pE ts l.length readV g 0 ⟨0, -1⟩).2 = (pE ts l.length readV g 0 ⟨0, -1⟩).2 := by
        rw [endD]
        split
        · rw [failT, if_neg (by omega)]
        · rfl
      rw [h8, if_pos h7, h6, place_pos _ h5]
    | some x =>
      have h6 : pE ts l.length readV g 0 ⟨0, -1⟩ = (x, S0 ts r) := h
      rw [h6]
      simp only
      cases r with
      | nil =>
        have h8 : endD ts l.length (S0 ts []) = S0 ts [] := by
          rw [endD, if_neg (by simp [S0])]
        rw [h8, if_neg (by have := S0_neg ts []; omega)]
        simp only
        split <;> rfl
      | cons t q =>
        have h9 : (t :: q).length ≤ ts.length := h5.length_le
        have h8 : (endD ts l.length (S0 ts (t :: q))).bad = (placeT (t :: q) l.length : Int) := by
          rw [endD, if_pos (by simp [S0] at h9 ⊢; omega), failT, if_pos (S0_neg ts _)]
          exact place_pos _ h5
        rw [h8, if_pos (by omega)]
end Go.Proofs.YtnpinbpjfngknaaGreatDoor
