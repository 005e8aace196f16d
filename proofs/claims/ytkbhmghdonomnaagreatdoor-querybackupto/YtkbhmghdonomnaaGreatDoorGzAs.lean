/-
  TreeLy, TreeLz, TreeMk, TreeSn, QwA, in one text.
-/
import Derived.Test.YtkbhmghdonomnaaGreatDoorGzAr
import Derived.Test.YtkbhmghdonomnaaGreatDoorGzAn
import Derived.Test.YtkbhmghdonomnaaGreatDoorGzAq
import Derived.Test.YtkbhmghdonomnaaGreatDoorGzAh
namespace Go.Proofs.YtkbhmghdonomnaaGreatDoor
set_option linter.unusedVariables false

theorem tk_quote {l r : List UInt8} (hl : l.length ≤ 40) (hp : plainB l = true) (hr : endB r) : tokAt (39 :: (esc l ++ [39]) ++ r) = (3, (39 :: (esc l ++ [39])).length, 0) := by
  have hq : qscan (esc l ++ [39] ++ r) = some ((esc l).length + 1) := by
    rw [List.append_assoc]
    exact qscan_esc l r (end_q hr)
  have hE : qE ((esc l ++ [39] ++ r).take ((esc l).length + 1)) = 0 := by
    rw [show (esc l).length + 1 = (esc l ++ [39]).length by simp, List.take_left, qE, (rd_app _ (esc l) (Nat.le_refl _)).1, unq_esc]
    simp only
    rw [if_neg (by rw [hp]; decide), if_neg (by omega)]
  rw [List.cons_append, tokAt, if_neg (by decide), if_neg (by decide), if_pos rfl, quoTok, hq]
  simp only
  rw [if_pos hE]
  simp
/-- A word, with its kind; or blanks. -/
abbrev Item := Option Int × List UInt8
def itT (is : List Item) : List UInt8 := is.flatMap (·.2)
def itK (is : List Item) : List (List UInt8) := is.flatMap fun i => match i.1 with
  | none => []
  | some _ => [i.2]
theorem itT_app (a b : List Item) : itT (a ++ b) = itT a ++ itT b := by simp [itT]
theorem itK_app (a b : List Item) : itK (a ++ b) = itK a ++ itK b := by simp [itK]
/-- Each word stays one ahead of what follows. -/
def Okp : List Item → Prop
  | [] => True
  | (none, bs) :: is => bs.all blB = true ∧ Okp is
  | (some k, t) :: is => tokAt (t ++ itT is) = (k, t.length, 0) ∧ t ≠ [] ∧ Okp is
theorem lexS_blanks (f : Nat) (l : List UInt8) (acc : List Tok) : ∀ (bs : List UInt8) (a : Nat), bs.all blB = true → lexS f a (bs ++ l) acc = lexS f (a + bs.length) l acc
  | [], a, _ => rfl
  | c :: bs, a, h => by
    rw [List.all_cons, Bool.and_eq_true] at h
    rw [List.cons_append, lexS_blank f a c _ acc h.1, lexS_blanks f l acc bs (a + 1) h.2, List.length_cons, show a + 1 + bs.length = a + (bs.length + 1) from by omega]
theorem lex_items : ∀ (is : List Item) (f a : Nat) (acc : List Tok), Okp is → (itK is).length < f → ∃ ts, lexS f a (itT is) acc = (acc ++ ts, 0, 0) ∧ Tx ts = itK is
  | [], f, a, acc, _, hf => by
    obtain ⟨g, rfl⟩ : ∃ g, f = g + 1 := ⟨f - 1, by simp [itK] at hf; omega⟩
    exact ⟨[], by rw [List.append_nil]; exact lexS_nil g a acc, rfl⟩
  | (none, bs) :: is, f, a, acc, h, hf => by
    rw [Okp] at h
    obtain ⟨ts, h1, h2⟩ := lex_items is f (a + bs.length) acc h.2 (by simpa [itK] using hf)
    refine ⟨ts, ?_, by rw [h2]; simp [itK]⟩
    have e : itT ((none, bs) :: is) = bs ++ itT is := by simp [itT]
    rw [e, lexS_blanks f _ acc bs a h.1, h1]
  | (some k, t) :: is, f, a, acc, h, hf => by
    rw [Okp] at h
    obtain ⟨h1, h2, h3⟩ := h
    have hk : itK ((some k, t) :: is) = t :: itK is := by simp [itK]
    rw [hk, List.length_cons] at hf
    obtain ⟨g, rfl⟩ : ∃ g, f = g + 1 := ⟨f - 1, by omega⟩
    obtain ⟨ts, e1, e2⟩ := lex_items is g (a + t.length) (acc ++ [(k, ⟨t.toArray⟩, a)]) h3 (by omega)
    refine ⟨(k, ⟨t.toArray⟩, a) :: ts, ?_, by rw [hk]; simp only [Tx, List.map_cons] at e2 ⊢; rw [e2]⟩
    have e : itT ((some k, t) :: is) = t ++ itT is := by simp [itT]
    have hne : t ++ itT is ≠ [] := by simp [h2]
    have hhd : hdB blB (t ++ itT is) = false := by
      cases t with
      | nil => exact absurd rfl h2
      | cons c t =>
        cases hb : blB c with
        | false => exact hb
        | true =>
          rw [List.cons_append] at h1
          exact absurd (by rw [h1]) (tok_blank (l := t ++ itT is) hb)
    rw [e, lexS_no _ _ _ _ hhd, lexA_tok g a _ acc hne h1, List.drop_left, List.take_left, e1]
    simp
def itI (sep : List Item) : List (List Item) → List Item
  | [] => []
  | [t] => t
  | t :: u :: ts => t ++ sep ++ itI sep (u :: ts)
def opK (op : List UInt8) : Int := if op = [111, 114] ∨ op = [97, 110, 100] then 1 else 4
def valK (t : Int) : Int := if t = 1 then 2 else if t = 2 then 1 else 3
mutual
/-- The words and blanks of an expression's text. -/
def itP : Ex → List Item
  | .node op nm vt vn vs _ l =>
    if op.data.toList = [118, 97, 108] then [(some (valK vt), prS vt vn vs.data.toList)]
    else if op.data.toList = [99, 111, 108] then [(some 1, nm.data.toList)]
    else if op.data.toList = [108, 101, 110] ∨ op.data.toList = [105, 102] then (some 1, op.data.toList) :: (some 4, [40]) :: (itI [(some 4, [44]), (none, [32])] (itsP l) ++ [(some 4, [41])])
    else if op.data.toList = [110, 111, 116] then (some 4, [40]) :: (some 1, [110, 111, 116]) :: (none, [32]) :: ((itsP l).headD [] ++ [(some 4, [41])])
    else if op.data.toList = [110, 101, 103] then (some 4, [40]) :: (some 4, [45]) :: (none, [32]) :: ((itsP l).headD [] ++ [(some 4, [41])])
    else (some 4, [40]) :: (itI [(none, [32]), (some (opK op.data.toList), op.data.toList), (none, [32])] (itsP l) ++ [(some 4, [41])])
def itsP : List Ex → List (List Item)
  | [] => []
  | x :: xs => itP x :: itsP xs
end
theorem itsP_map : ∀ l : List Ex, itsP l = l.map itP
  | [] => by rw [itsP]; rfl
  | x :: xs => by rw [itsP, itsP_map xs]; rfl
theorem itI_text (sep : List Item) (bt : List UInt8) (hs : itT sep = bt) : ∀ ts : List (List Item), itT (itI sep ts) = inter bt (ts.map itT)
  | [] => rfl
  | [t] => rfl
  | t :: u :: ts => by
    have ih := itI_text sep bt hs (u :: ts)
    simp only [itI, List.map_cons, inter, itT_app, hs] at ih ⊢
    rw [ih]
theorem itI_words (sep : List Item) (k : List UInt8) (hs : itK sep = [k]) : ∀ ts : List (List Item), itK (itI sep ts) = tkI k (ts.map itK)
  | [] => rfl
  | [t] => rfl
  | t :: u :: ts => by
    have ih := itI_words sep k hs (u :: ts)
    simp only [itI, List.map_cons, tkI, itK_app, hs] at ih ⊢
    rw [ih]
    simp
theorem it_text : ∀ x : Ex, itT (itP x) = txP x ∧ itK (itP x) = tkP x := by
  refine Ex.ind fun op nm vt vn vs pos l ih => ?_
  have hm1 : (l.map itP).map itT = l.map txP := by
    rw [List.map_map]; exact List.map_congr_left fun y hy => (ih y hy).1
  have hm2 : (l.map itP).map itK = l.map tkP := by
    rw [List.map_map]; exact List.map_congr_left fun y hy => (ih y hy).2
  have hd1 : itT ((l.map itP).headD []) = (l.map txP).headD [] := by
    cases l with
    | nil => rfl
    | cons y ys => exact (ih y (by simp)).1
  have hd2 : itK ((l.map itP).headD []) = (l.map tkP).headD [] := by
    cases l with
    | nil => rfl
    | cons y ys => exact (ih y (by simp)).2
  rw [itP, txP, tkP, itsP_map, txsP_map, tksP_map]
  have c1 : ∀ (i : Item) (is : List Item), itT (i :: is) = i.2 ++ itT is := fun i is => by simp [itT]
  have c2 : ∀ (k : Int) (t : List UInt8) (is : List Item), itK ((some k, t) :: is) = t :: itK is := fun k t is => by simp [itK]
  have c3 : ∀ (t : List UInt8) (is : List Item), itK ((none, t) :: is) = itK is := fun t is => by simp [itK]
  have n1 : itT [] = [] := rfl
  have n2 : itK [] = [] := rfl
  split
  · simp only [c1, c2, n1, n2, List.append_nil, and_self]
  split
  · simp only [c1, c2, n1, n2, List.append_nil, and_self]
  split
  · constructor
    · simp only [c1, itT_app, itI_text [(some 4, [44]), (none, [32])] [44, 32] rfl, hm1, argsT, n1]
      simp
    · simp only [c2, itK_app, itI_words [(some 4, [44]), (none, [32])] [44] rfl, hm2, n2]
  split
  · constructor
    · simp only [c1, itT_app, hd1, aheadT, n1]
      simp
    · simp only [c2, c3, itK_app, hd2, n2]
  split
  · constructor
    · simp only [c1, itT_app, hd1, aheadT, n1]
      simp
    · simp only [c2, c3, itK_app, hd2, n2]
  · constructor
    · simp only [c1, itT_app, itI_text [(none, [32]), (some (opK op.data.toList), op.data.toList), (none, [32])] (32 :: (op.data.toList ++ [32])) (by simp [itT]), hm1, argsT, n1]
      simp
    · simp only [c2, itK_app, itI_words [(none, [32]), (some (opK op.data.toList), op.data.toList), (none, [32])] op.data.toList (by simp [itK]), hm2, n2]
theorem end41 (r : List UInt8) : endB (41 :: r) := .inr ⟨_, _, rfl, .inl rfl⟩
theorem end44 (r : List UInt8) : endB (44 :: r) := .inr ⟨_, _, rfl, .inr (.inl rfl)⟩
theorem end32 (r : List UInt8) : endB (32 :: r) := .inr ⟨_, _, rfl, .inr (.inr rfl)⟩
theorem tok_op {op : List UInt8} (h : op ∈ bin14) (r : List UInt8) : tokAt (op ++ 32 :: r) = (opK op, op.length, 0) ∧ op ≠ [] := by
  have hs : ∀ g ∈ signsL, sgN signsL (g ++ 32 :: r) = g.length := fun g hg => sign_again g hg (32 :: r) (by simp [sepB, blB])
  simp only [bin14, List.mem_cons, List.not_mem_nil, or_false] at h
  rcases h with rfl | rfl | rfl | rfl | rfl | rfl | rfl | rfl | rfl | rfl | rfl | rfl | rfl
  · exact ⟨tk_word (c := 111) (t := [114]) (by decide) (by decide) (end32 r), by decide⟩
  · exact ⟨tk_word (c := 97) (t := [110, 100]) (by decide) (by decide) (end32 r), by decide⟩
  all_goals
    refine ⟨?_, by decide⟩
    have h1 := hs _ (by first | exact (by decide : ([61] : List UInt8) ∈ signsL) | exact (by decide : ([60, 62] : List UInt8) ∈ signsL) | exact (by decide : ([60] : List UInt8) ∈ signsL))
    simp [tokAt, letB, digB, signsL, sgN, Lib.hasPrefix, List.isPrefixOf, opK]
theorem tok_val {t n : Int} {l r : List UInt8} (hn : inI n) (h : ckV t n l = 0) (hr : endB r) : tokAt (prS t n l ++ r) = (valK t, (prS t n l).length, 0) ∧ prS t n l ≠ [] := by
  obtain ⟨hc, h0⟩ := ckV_ok h
  rw [prS, if_pos hc]
  refine ⟨?_, by obtain ⟨c, q, e, _⟩ := shown_hd h; rw [e]; simp⟩
  rcases chk_type hc with ⟨rfl, _⟩ | ⟨rfl, _, hb⟩ | ⟨rfl, rfl, hl, hp⟩
  · rw [shown, if_pos rfl, Lib.itoa, if_neg (by have := h0 rfl; omega)]
    exact tk_num (by have := hn.2; omega) hr
  · rw [shown, if_neg (by decide), if_pos rfl]
    split
    · exact tk_word (c := 116) (t := [114, 117, 101]) (by decide) (by decide) hr
    · exact tk_word (c := 102) (t := [97, 108, 115, 101]) (by decide) (by decide) hr
  · rw [shown, if_neg (by decide), if_neg (by decide)]
    exact tk_quote hl hp hr
theorem tok_name {l r : List UInt8} (h : nameT l = true) (hr : endB r) : tokAt (l ++ r) = (1, l.length, 0) ∧ l ≠ [] := by
  simp only [nameT, lettersB, Bool.and_eq_true, decide_eq_true_eq] at h
  obtain ⟨⟨⟨h1, _⟩, h2⟩, _⟩ := h
  refine ⟨?_, h1⟩
  cases l with
  | nil => exact absurd rfl h1
  | cons c q =>
    rw [List.all_cons, Bool.and_eq_true] at h2
    refine tk_word h2.1 ?_ hr
    rw [List.all_eq_true] at h2 ⊢
    intro x hx
    simp [ldB, h2.2 x hx]
end Go.Proofs.YtkbhmghdonomnaaGreatDoor
namespace Go.Proofs.YtkbhmghdonomnaaGreatDoor
set_option linter.unusedVariables false

theorem okp_P : ∀ (x : Ex) (d : Nat), (∀ q ∈ x.pre d, nodeE q.1 = 0) → (∀ q ∈ x.pre d, inI q.1.vn) → ∀ rest : List Item, Okp rest → endB (itT rest) → Okp (itP x ++ rest) := by
  refine Ex.ind fun op nm vt vn vs pos l ih d hpre hin rest hr he => ?_
  have hself := hpre (.node op nm vt vn vs pos l, d) (by rw [Ex.pre]; exact List.mem_cons_self ..)
  have hvn : inI vn := hin (.node op nm vt vn vs pos l, d) (by rw [Ex.pre]; exact List.mem_cons_self ..)
  have hsub : ∀ y ∈ l, ∀ q ∈ y.pre (d + 1), q ∈ (Ex.node op nm vt vn vs pos l).pre d := fun y hy q hq => by
    rw [Ex.pre]; exact List.mem_cons_of_mem _ (pres_mem hy q hq)
  have hI := fun y hy => ih y hy (d + 1) (fun q hq => hpre q (hsub y hy q hq)) (fun q hq => hin q (hsub y hy q hq))
  obtain ⟨ha1, ha2, _⟩ := node_ok hself
  have ha2' : (l.length : Int) = (apL op.data.toList opsL).1 := ha2
  have ha1' : (apL op.data.toList opsL).2 = true := ha1
  obtain ⟨hcol, hncol, hnval, hval⟩ := node_all hself
  clear ha1 ha2 hpre hin hsub ih hself
  have ct : ∀ (i : Item) (is : List Item), itT (i :: is) = i.2 ++ itT is := fun i is => by simp [itT]
  have par : ∀ (c : UInt8) (is : List Item), (c = 40 ∨ c = 41 ∨ c = 44) → Okp is → Okp ((some 4, [c]) :: is) := fun c is hc h => by
    rw [Okp]
    exact ⟨sgn_par c (itT is) hc, by simp, h⟩
  have bl : ∀ is : List Item, Okp is → Okp ((none, [32]) :: is) := fun is h => by
    rw [Okp]
    exact ⟨by decide, h⟩
  rw [itP, itsP_map]
  by_cases h1 : op.data.toList = [118, 97, 108]
  · rw [if_pos h1, List.singleton_append, Okp]
    obtain ⟨a, b⟩ := tok_val hvn (hval h1) he
    exact ⟨a, b, hr⟩
  rw [if_neg h1]
  by_cases h2 : op.data.toList = [99, 111, 108]
  · rw [if_pos h2, List.singleton_append, Okp]
    obtain ⟨a, b⟩ := tok_name (hcol h2) he
    exact ⟨a, b, hr⟩
  rw [if_neg h2]
  have hcl : Okp ((some 4, [41]) :: rest) := par 41 rest (.inr (.inl rfl)) hr
  have hcle : endB (itT ((some 4, [41]) :: rest)) := by rw [ct]; exact end41 _
  rcases op_kinds ha1' ha2' h1 h2 with ⟨ho, hl⟩ | ⟨ho, hl⟩ | ⟨ho, hl⟩ | ⟨ho, hl⟩ | ⟨ho, hl, o1, o2, o3, o4⟩
  · obtain ⟨y, rfl⟩ := head_of hl
    rw [if_pos (.inl ho)]
    simp only [List.map_cons, List.map_nil, itI, List.cons_append, List.append_assoc, List.nil_append]
    have h3 := hI y (by simp) _ hcl hcle
    have h4 := par 40 _ (.inl rfl) h3
    rw [Okp]
    refine ⟨?_, by rw [ho]; decide, h4⟩
    rw [ho, ct]
    have hw : tokAt ([108, 101, 110] ++ 40 :: itT (itP y ++ (some 4, [41]) :: rest)) = (1, 3, 0) := by
      simp [tokAt, letB, goN, ldB, digB]
    exact hw
  · obtain ⟨y, z, u, rfl⟩ : ∃ y z u, l = [y, z, u] := by
      match l, hl with
      | [y, z, u], _ => exact ⟨y, z, u, rfl⟩
    rw [if_pos (.inr ho)]
    simp only [List.map_cons, List.map_nil, itI, List.cons_append, List.append_assoc, List.nil_append]
    have h3 := hI u (by simp) _ hcl hcle
    have h4 := par 44 _ (.inr (.inr rfl)) (bl _ h3)
    have h5 := hI z (by simp) _ h4 (by rw [ct]; exact end44 _)
    have h6 := par 44 _ (.inr (.inr rfl)) (bl _ h5)
    have h7 := hI y (by simp) _ h6 (by rw [ct]; exact end44 _)
    have h8 := par 40 _ (.inl rfl) h7
    rw [Okp]
    refine ⟨?_, by rw [ho]; decide, h8⟩
    rw [ho, ct]
    generalize itT _ = W
    show tokAt ([105, 102] ++ 40 :: W) = (1, 2, 0)
    simp [tokAt, letB, goN, ldB, digB]
  · obtain ⟨y, rfl⟩ := head_of hl
    rw [if_neg (by rw [ho]; decide), if_pos ho]
    simp only [List.map_cons, List.map_nil, List.headD_cons, List.cons_append, List.append_assoc, List.nil_append]
    have h3 := bl _ (hI y (by simp) _ hcl hcle)
    refine par 40 _ (.inl rfl) ?_
    rw [Okp]
    exact ⟨tk_word (c := 110) (t := [111, 116]) (by decide) (by decide) (by rw [ct]; exact end32 _), by decide, h3⟩
  · obtain ⟨y, rfl⟩ := head_of hl
    rw [if_neg (by rw [ho]; decide), if_neg (by rw [ho]; decide), if_pos ho]
    simp only [List.map_cons, List.map_nil, List.headD_cons, List.cons_append, List.append_assoc, List.nil_append]
    have h3 := bl _ (hI y (by simp) _ hcl hcle)
    refine par 40 _ (.inl rfl) ?_
    rw [Okp, ct]
    exact ⟨tok_minus _, by decide, h3⟩
  · obtain ⟨y, z, rfl⟩ : ∃ y z, l = [y, z] := by
      match l, hl with
      | [y, z], _ => exact ⟨y, z, rfl⟩
    rw [if_neg (fun h => h.elim o1 o2), if_neg o3, if_neg o4]
    simp only [List.map_cons, List.map_nil, itI, List.cons_append, List.append_assoc, List.nil_append]
    have h3 := bl _ (hI z (by simp) _ hcl hcle)
    have h4 : Okp ((some (opK op.data.toList), op.data.toList) :: (none, [32]) :: (itP z ++ (some 4, [41]) :: rest)) := by
      rw [Okp, ct]
      obtain ⟨a, b⟩ := tok_op ho (itT (itP z ++ (some 4, [41]) :: rest))
      exact ⟨a, b, h3⟩
    have h5 := hI y (by simp) _ (bl _ h4) (by rw [ct]; exact end32 _)
    exact par 40 _ (.inl rfl) h5
theorem itK_len : ∀ is : List Item, Okp is → (itK is).length ≤ (itT is).length
  | [], _ => by simp [itK]
  | (none, bs) :: is, h => by
    rw [Okp] at h
    have := itK_len is h.2
    simp only [itK, itT, List.flatMap_cons, List.length_append, List.nil_append] at this ⊢
    omega
  | (some k, t) :: is, h => by
    rw [Okp] at h
    have := itK_len is h.2.2
    have h2 : 1 ≤ t.length := by
      cases t with
      | nil => exact absurd rfl h.2.1
      | cons c q => simp
    simp only [itK, itT, List.flatMap_cons, List.length_append, List.length_singleton] at this ⊢
    omega
end Go.Proofs.YtkbhmghdonomnaaGreatDoor
namespace Go.Proofs.YtkbhmghdonomnaaGreatDoor
set_option linter.unusedVariables false

theorem sameL_all {b : Bool} : ∀ {l m : List Ex}, sameL b l m = true → l.length = m.length ∧ ∀ i (h : i < l.length) (h2 : i < m.length), sameE b l[i] m[i] = true
  | [], [], _ => ⟨rfl, fun i h => absurd h (by simp)⟩
  | [], _ :: _, h => by simp [sameL] at h
  | _ :: _, [], h => by simp [sameL] at h
  | x :: xs, y :: ys, h => by
    rw [sameL, Bool.and_eq_true] at h
    obtain ⟨h1, h2⟩ := sameL_all h.2
    refine ⟨by simp [h1], fun i hi hj => ?_⟩
    cases i with
    | zero => exact h.1
    | succ i => exact h2 i (by simpa using hi) (by simpa using hj)
theorem sizes_same {b : Bool} : ∀ {l m : List Ex}, (∀ y ∈ l, ∀ z, sameE b y z = true → y.size = z.size ∧ y.deep = z.deep) → sameL b l m = true → Ex.sizes l = Ex.sizes m ∧ Ex.deeps l = Ex.deeps m
  | [], [], _, _ => ⟨rfl, rfl⟩
  | [], _ :: _, _, h => by simp [sameL] at h
  | _ :: _, [], _, h => by simp [sameL] at h
  | x :: xs, y :: ys, hI, h => by
    rw [sameL, Bool.and_eq_true] at h
    obtain ⟨h1, h2⟩ := hI x (by simp) y h.1
    obtain ⟨h3, h4⟩ := sizes_same (fun z hz => hI z (by simp [hz])) h.2
    rw [Ex.sizes, Ex.sizes, Ex.deeps, Ex.deeps, h1, h2, h3, h4]
    exact ⟨rfl, rfl⟩
theorem same_size {b : Bool} : ∀ (x y : Ex), sameE b x y = true → x.size = y.size ∧ x.deep = y.deep := by
  refine Ex.ind fun op nm vt vn vs pos l ih y h => ?_
  obtain ⟨op2, nm2, vt2, vn2, vs2, pos2, l2⟩ := y
  rw [sameE] at h
  simp only [Bool.and_eq_true] at h
  obtain ⟨h1, h2⟩ := sizes_same (fun z hz => ih z hz) h.2.2.2.2
  rw [Ex.size, Ex.size, Ex.deep, Ex.deep, h1, h2]
  exact ⟨rfl, rfl⟩
theorem same_tg {b : Bool} {x y : Ex} (h : sameE b x y = true) : tgB x = tgB y := by
  obtain ⟨h1, h2⟩ := same_size x y h
  rw [tg_small, tg_small, Ex.small, Ex.small, h1, h2]
end Go.Proofs.YtkbhmghdonomnaaGreatDoor
namespace Go.Proofs.YtkbhmghdonomnaaGreatDoor
set_option linter.unusedVariables false

/-- Each node is right, and its number is a machine's. -/
def OkN (x : Ex) : Prop := ∀ d, ∀ q ∈ x.pre d, nodeE q.1 = 0 ∧ inI q.1.vn
theorem in0 : inI 0 := by unfold inI; omega
/-- A word as there is one in a text. -/
def GdT (t : Tok) : Prop := ∃ k, tokAt t.2.1.data.toList = (k, t.2.1.data.toList.length, 0)
theorem gd_suf {ts r : List Tok} (h : ∀ t ∈ ts, GdT t) (hs : r <:+ ts) : ∀ t ∈ r, GdT t := fun t ht => h t (hs.subset ht)
theorem sg_mem {gs : List (List UInt8)} {t : Tok} (h : sgT gs t = true) : t.2.1.data.toList ∈ gs := by
  rw [sgT, List.any_eq_true] at h
  obtain ⟨g, hg, e⟩ := h
  have e : g = t.2.1.data.toList := by simpa using e
  rw [← e]; exact hg
end Go.Proofs.YtkbhmghdonomnaaGreatDoor
namespace Go.Proofs.YtkbhmghdonomnaaGreatDoor
set_option linter.unusedVariables false
set_option linter.unusedSimpArgs false

/-- How many bytes words have. -/
def btT : List Tok → Nat
  | [] => 0
  | t :: ts => t.2.1.data.toList.length + btT ts
def sumT : List Ex → Nat
  | [] => 0
  | x :: xs => (txP x).length + sumT xs
theorem sumT_app : ∀ l m : List Ex, sumT (l ++ m) = sumT l + sumT m
  | [], m => by simp [sumT]
  | x :: xs, m => by rw [List.cons_append, sumT, sumT, sumT_app xs m]; omega
theorem interB_len (bt : List UInt8) : ∀ l : List Ex, (inter bt (txsP l)).length ≤ sumT l + bt.length * l.length
  | [] => by simp [txsP, inter]
  | [x] => by simp [txsP, inter, sumT]
  | x :: y :: l => by
    have ih := interB_len bt (y :: l)
    rw [txsP, txsP, inter, sumT, List.length_append, List.length_append, List.length_cons]
    rw [txsP] at ih
    rw [Nat.mul_add, Nat.mul_one]
    omega
/-- What is read is written in no more than four times the bytes of its words, less three. -/
def LenB (sub : List Tok → Option Ex × List Tok) : Prop := ∀ ts y, (sub ts).1 = some y → (txP y).length + 3 + 4 * btT (sub ts).2 ≤ 4 * btT ts
theorem bin_tx {op : List UInt8} (h : op ∈ bin14) : op ≠ [118, 97, 108] ∧ op ≠ [99, 111, 108] ∧ ¬ (op = [108, 101, 110] ∨ op = [105, 102]) ∧ op ≠ [110, 111, 116] ∧ op ≠ [110, 101, 103] ∧ 1 ≤ op.length := by
  simp only [bin14, List.mem_cons, List.not_mem_nil, or_false] at h
  rcases h with rfl | rfl | rfl | rfl | rfl | rfl | rfl | rfl | rfl | rfl | rfl | rfl | rfl <;> decide
theorem bet_len {a b : Ex} {t : Tok} (ht : t.2.1.data.toList ∈ bin14) : (txP (betT a t b)).length = (txP a).length + (txP b).length + t.2.1.data.toList.length + 4 := by
  obtain ⟨h1, h2, h3, h4, h5, _⟩ := bin_tx ht
  rw [betT, txP, if_neg h1, if_neg h2, if_neg h3, if_neg h4, if_neg h5, txsP, txsP, txsP, argsT, inter, inter]
  simp only [List.length_cons, List.length_append, List.length_nil]
  omega
theorem uLoop_lenB {sub : List Tok → Option Ex × List Tok} (hs : LenB sub) (gs : List (List UInt8)) (hgs : ∀ g ∈ gs, g ∈ bin14) : ∀ (k : Nat) (e : Ex) (ts : List Tok) (y : Ex) (M : Nat), (uLoop sub gs k e ts).1 = some y → (txP e).length + 3 + 4 * btT ts ≤ M → (txP y).length + 3 + 4 * btT (uLoop sub gs k e ts).2 ≤ M
  | 0, e, ts, y, M, h, hM => by rw [uLoop] at h ⊢; simp only [Option.some.injEq] at h; subst h; exact hM
  | k + 1, e, ts, y, M, h, hM => by
    rw [uLoop] at h ⊢
    cases hn : nxT (sgT gs) ts with
    | none => rw [hn] at h; simp only [Option.some.injEq] at h; subst h; exact hM
    | some q =>
      obtain ⟨t, r⟩ := q
      rw [hn] at h
      obtain ⟨h1, hst⟩ := nxT_len hn
      subst h1
      simp only at h ⊢
      have h2 := hs r
      cases h3 : sub r with
      | mk o r2 =>
        rw [h3] at h h2
        cases o with
        | none => exact absurd h (by simp)
        | some b =>
          have hm := hgs _ (sg_mem hst)
          have h4 := h2 b rfl
          simp only at h h4 ⊢
          rw [btT] at hM
          have h5 := (bin_tx hm).2.2.2.2.2
          exact uLoop_lenB hs gs hgs k (betT e t b) r2 y M h (by rw [bet_len hm]; omega)
theorem uSev_lenB {sub : List Tok → Option Ex × List Tok} (hs : LenB sub) (gs : List (List UInt8)) (hgs : ∀ g ∈ gs, g ∈ bin14) : LenB (uSev sub gs) := by
  intro ts y h
  have h2 := hs ts
  rw [uSev] at h ⊢
  cases h3 : sub ts with
  | mk o r =>
    rw [h3] at h h2
    cases o with
    | none => exact absurd h (by simp)
    | some e => exact uLoop_lenB hs gs hgs (r.length + 1) e r y _ h (h2 e rfl)
theorem op1_len {op : List UInt8} {pos : Int} {e : Ex} (hop : op = [110, 111, 116] ∨ op = [110, 101, 103]) : (txP (op1 op pos [e])).length = (if op = [110, 111, 116] then 3 else 1) + (txP e).length + 3 := by
  have e0 : (⟨op.toArray⟩ : ByteArray).data.toList = op := rfl
  rw [op1, txP, e0]
  rcases hop with rfl | rfl
  · simp [txsP, aheadT]; omega
  · simp [txsP, aheadT]; omega
theorem uAhead_lenB {sub other : List Tok → Option Ex × List Tok} (hs : LenB sub) (ho : LenB other) (op : List UInt8) (gs : List (List UInt8)) (hop : (op = [110, 111, 116] ∧ gs = [[110, 111, 116]]) ∨ (op = [110, 101, 103] ∧ gs = [[45]])) : LenB (uAhead op gs sub other) := by
  intro ts y h
  rw [uAhead] at h ⊢
  cases hn : nxT (sgT gs) ts with
  | none => rw [hn] at h; exact ho ts y h
  | some q =>
    obtain ⟨t, r⟩ := q
    rw [hn] at h
    obtain ⟨h1, hst⟩ := nxT_len hn
    subst h1
    have hm := sg_mem hst
    have h2 := hs r
    simp only at h ⊢
    cases h3 : sub r with
    | mk o r2 =>
      rw [h3] at h h2
      cases o with
      | none => exact absurd h (by simp)
      | some e =>
        simp only [Option.some.injEq] at h
        subst h
        have h4 := h2 e rfl
        simp only at h4 ⊢
        rw [op1_len (hop.imp (·.1) (·.1)), btT]
        rcases hop with ⟨rfl, rfl⟩ | ⟨rfl, rfl⟩
        · rw [List.mem_singleton.1 hm, if_pos rfl]
          simp only [List.length_cons, List.length_nil]
          omega
        · rw [List.mem_singleton.1 hm, if_neg (by decide)]
          simp only [List.length_cons, List.length_nil]
          omega
theorem cmp_bin : ∀ g ∈ cmpL, g ∈ bin14 := by decide
theorem uCmp_lenB {sub : List Tok → Option Ex × List Tok} (hs : LenB sub) : LenB (uCmp sub) := by
  intro ts y h
  have h2 := hs ts
  rw [uCmp] at h ⊢
  cases h3 : sub ts with
  | mk o r =>
    rw [h3] at h h2
    cases o with
    | none => exact absurd h (by simp)
    | some e =>
      have h4 := h2 e rfl
      simp only at h h4 ⊢
      cases hn : nxT (sgT cmpL) r with
      | none => rw [hn] at h; simp only [Option.some.injEq] at h; subst h; exact h4
      | some q =>
        obtain ⟨t, r2⟩ := q
        rw [hn] at h
        obtain ⟨h1, hst⟩ := nxT_len hn
        subst h1
        have h5 := hs r2
        simp only at h ⊢
        cases h7 : sub r2 with
        | mk o r3 =>
          rw [h7] at h h5
          cases o with
          | none => exact absurd h (by simp)
          | some b =>
            simp only [Option.some.injEq] at h
            subst h
            have hm := cmp_bin _ (sg_mem hst)
            have h8 := (bin_tx hm).2.2.2.2.2
            have h9 := h5 b rfl
            rw [btT] at h4
            simp only at h9 ⊢
            rw [bet_len hm]
            omega
theorem uBr_lenB {sub : List Tok → Option Ex × List Tok} (hs : LenB sub) : ∀ (k : Nat) (acc : List Ex) (ts : List Tok) (l : List Ex), (uBr sub k acc ts).1 = some l → sumT l + 7 * k + 4 + 4 * btT (uBr sub k acc ts).2 ≤ sumT acc + 4 * btT ts
  | 0, acc, ts, l, h => by
    rw [uBr] at h ⊢
    cases hn : nxT (sgT [[41]]) ts with
    | none => rw [hn] at h; exact absurd h (by simp)
    | some q =>
      obtain ⟨t, r⟩ := q
      rw [hn] at h
      obtain ⟨h1, hst⟩ := nxT_len hn
      subst h1
      have hm := List.mem_singleton.1 (sg_mem hst)
      simp only [Option.some.injEq] at h
      subst h
      simp only
      rw [btT, hm]
      simp only [List.length_cons, List.length_nil]
      omega
  | k + 1, acc, ts, l, h => by
    rw [uBr] at h ⊢
    cases hn : nxT (sgT [if acc.length = 0 then [40] else [44]]) ts with
    | none => rw [hn] at h; exact absurd h (by simp)
    | some q =>
      obtain ⟨t, r⟩ := q
      rw [hn] at h
      obtain ⟨h1, hst⟩ := nxT_len hn
      subst h1
      have hm : t.2.1.data.toList.length = 1 := by
        rw [List.mem_singleton.1 (sg_mem hst)]
        split <;> rfl
      have h2 := hs r
      simp only at h ⊢
      cases h3 : sub r with
      | mk o r2 =>
        rw [h3] at h h2
        cases o with
        | none => exact absurd h (by simp)
        | some e =>
          have h4 := h2 e rfl
          simp only at h h4 ⊢
          have h5 := uBr_lenB hs k (acc ++ [e]) r2 l h
          rw [sumT_app, sumT, sumT] at h5
          rw [btT, hm]
          omega
theorem val_len {t : Tok} (h : vlT t = true) : (txP (valE t)).length = t.2.1.data.toList.length ∧ 1 ≤ t.2.1.data.toList.length := by
  obtain ⟨T, n, l, e, hr⟩ : ∃ T n l e, readV t.2.1 = (T, n, l, e) := ⟨_, _, _, _, rfl⟩
  have he : e = 0 := by rw [vlT, hr] at h; simpa using h
  subst he
  obtain ⟨hc, hsh, _⟩ := shown_read T n l t.2.1 hr
  have e1 : txP (valE t) = t.2.1.data.toList := by
    rw [valE, hr, txP]
    have e0 : (⟨#[118, 97, 108]⟩ : ByteArray).data.toList = [118, 97, 108] := rfl
    have e2 : (⟨l.toArray⟩ : ByteArray).data.toList = l := rfl
    rw [e0, if_pos rfl, e2, prS, if_pos hc, hsh]
  refine ⟨by rw [e1], ?_⟩
  rw [← hsh, shown]
  split
  · rw [Lib.itoa]
    split
    · simp
    · obtain ⟨c, q, hd, _⟩ := digits_head n.toNat n.toNat (Nat.le_refl _)
      rw [hd]
      simp
  · split
    · split <;> simp
    · simp
theorem name_pos {l : List UInt8} (h : nameT l = true) : 1 ≤ l.length := by
  cases l with
  | nil => exact absurd h (by decide)
  | cons c l => simp
theorem uOne_lenB {sub : List Tok → Option Ex × List Tok} (hs : LenB sub) : LenB (uOne sub) := by
  intro ts y h
  cases hn : nxT (sgT lenIf) ts with
  | some q =>
    obtain ⟨t, r⟩ := q
    rw [uOne_call hn] at h ⊢
    obtain ⟨h1, hst⟩ := nxT_len hn
    have h2 := uBr_lenB hs (manyT t) [] r
    have h5 := uBr_len (sub := sub) (manyT t) [] r
    cases h3 : (uBr sub (manyT t) [] r).1 with
    | none => rw [h3] at h; exact absurd h (by simp)
    | some l =>
      rw [h3] at h
      simp only [Option.map_some, Option.some.injEq] at h
      have h6 := h5 l h3
      have h7 := h2 l h3
      have hm := sg_mem hst
      have hm' : t.2.1.data.toList = [108, 101, 110] ∨ t.2.1.data.toList = [105, 102] := by simpa using hm
      have hlen := interB_len [44, 32] l
      have hf : 2 ≤ t.2.1.data.toList.length := by rcases hm' with e | e <;> rw [e] <;> decide
      simp only [List.length_cons, List.length_nil] at hlen h6
      rw [← h, h1, btT, txP, if_neg (by rcases hm' with e | e <;> rw [e] <;> decide), if_neg (by rcases hm' with e | e <;> rw [e] <;> decide), if_pos hm', argsT]
      simp only [List.length_append, List.length_cons, List.length_nil]
      rw [sumT] at h7
      omega
  | none =>
    cases hv : nxT vlT ts with
    | some q =>
      obtain ⟨t, r⟩ := q
      rw [uOne_val hn hv] at h ⊢
      simp only [Option.some.injEq] at h
      obtain ⟨h1, h2⟩ := nxT_len hv
      obtain ⟨h3, h4⟩ := val_len h2
      rw [← h, h1, btT, h3]
      simp only
      omega
    | none =>
      cases hc : nxT nmT ts with
      | some q =>
        obtain ⟨t, r⟩ := q
        rw [uOne_col hn hv hc] at h ⊢
        simp only [Option.some.injEq] at h
        obtain ⟨h1, h2⟩ := nxT_len hc
        have h4 := name_pos h2
        have e1 : txP (colE1 t) = t.2.1.data.toList := by
          rw [colE1, txP]
          have e0 : (⟨#[99, 111, 108]⟩ : ByteArray).data.toList = [99, 111, 108] := rfl
          rw [e0, if_neg (by decide), if_pos rfl]
        rw [← h, h1, btT, e1]
        simp only
        omega
      | none =>
        rw [uOne_br hn hv hc] at h ⊢
        have h2 := uBr_lenB hs 1 [] ts
        have h5 := uBr_len (sub := sub) 1 [] ts
        cases h3 : (uBr sub 1 [] ts).1 with
        | none => rw [h3] at h; exact absurd h (by simp)
        | some l =>
          rw [h3] at h
          have h4 := h2 l h3
          have h6 := h5 l h3
          match l, h6 with
          | [x], _ =>
            simp only [Option.bind_some, List.head?_cons, Option.some.injEq] at h
            subst h
            rw [sumT, sumT, sumT] at h4
            simp only
            omega
theorem uE_lenB : ∀ (f lv : Nat), LenB (uE f lv)
  | 0, lv => fun ts y h => by rw [uE] at h; exact absurd h (by simp)
  | f + 1, lv => by
    have ih := fun lv => uE_lenB f lv
    intro ts
    unfold uE
    split
    · exact uSev_lenB (ih 1) _ (by decide) ts
    · exact uSev_lenB (ih 2) _ (by decide) ts
    · exact uAhead_lenB (ih 2) (ih 3) _ _ (.inl ⟨rfl, rfl⟩) ts
    · exact uCmp_lenB (ih 4) ts
    · exact uSev_lenB (ih 5) _ (by decide) ts
    · exact uSev_lenB (ih 6) _ (by decide) ts
    · exact uAhead_lenB (ih 6) (ih 7) _ _ (.inr ⟨rfl, rfl⟩) ts
    · exact uOne_lenB (ih 0) ts
theorem readE_lenB {ts : List Tok} {x : Ex} (h : (readE ts).1 = some x) : (txP x).length + 3 + 4 * btT (readE ts).2 ≤ 4 * btT ts := uE_lenB _ _ ts x h
end Go.Proofs.YtkbhmghdonomnaaGreatDoor
