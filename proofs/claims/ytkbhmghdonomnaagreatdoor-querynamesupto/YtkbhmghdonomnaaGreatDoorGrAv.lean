/-
  TreeLz, KdPf, TreeSg, RefNd, TreeMk, in one text.
-/
import Derived.Test.YtkbhmghdonomnaaGreatDoorGrAu
import Derived.Test.YtkbhmghdonomnaaGreatDoorGrAm
import Derived.Test.YtkbhmghdonomnaaGreatDoorGrAd
import Derived.WalkSmall
import Derived.Test.YtkbhmghdonomnaaGreatDoorQTreeSz
import Derived.Test.YtkbhmghdonomnaaGreatDoorGrAn
namespace Go.Proofs.YtkbhmghdonomnaaGreatDoor
set_option linter.unusedVariables false

theorem okp_P : ∀ (x : Ex) (d : Nat), (∀ q ∈ x.pre d, nodeE q.1 = 0) → (∀ q ∈ x.pre d, inI q.1.vn) → ∀ rest : List Item, Okp rest → endB (itT rest) → Okp (itP x ++ rest) := by
  refine Ex.ind fun op nm vt vn vs pos l ih d hpre hin rest hr he => ?_
  have hself := hpre (.node op nm vt vn vs pos l, d) (by rw [Ex.pre]; exact List.mem_cons_self ..)
  have hvn : inI vn := hin (.node op nm vt vn vs pos l, d) (by rw [Ex.pre]; exact List.mem_cons_self ..)
  have hsub : ∀ y ∈ l, ∀ q ∈ y.pre (d + 1), q ∈ (Ex.node op nm vt vn vs pos l).pre d := fun y hy q hq => by
    rw [Ex.pre]; exact List.mem_cons_of_mem _ (pres_mem hy q hq)
  have hI := fun y hy => ih y hy (d + 1) (fun q hq => hpre q (hsub y hy q hq)) (fun q hq => hin q (hsub y hy q hq))
  obtain ⟨ha1, ha2, _⟩ := node_ok hself
  have ha2' : (l.length : Int) = (apL op.data.toList opsL).1 := ha2
  have ha1' : (apL op.data.toList opsL).2 = true := ha1
  obtain ⟨hcol, hncol, hnval, hval⟩ := node_all hself
  clear ha1 ha2 hpre hin hsub ih hself
  have ct : ∀ (i : Item) (is : List Item), itT (i :: is) = i.2 ++ itT is := fun i is => by simp [itT]
  have par : ∀ (c : UInt8) (is : List Item), (c = 40 ∨ c = 41 ∨ c = 44) → Okp is → Okp ((some 4, [c]) :: is) := fun c is hc h => by
    rw [Okp]
    exact ⟨sgn_par c (itT is) hc, by simp, h⟩
  have bl : ∀ is : List Item, Okp is → Okp ((none, [32]) :: is) := fun is h => by
    rw [Okp]
    exact ⟨by decide, h⟩
  rw [itP, itsP_map]
  by_cases h1 : op.data.toList = [118, 97, 108]
  · rw [if_pos h1, List.singleton_append, Okp]
    obtain ⟨a, b⟩ := tok_val hvn (hval h1) he
    exact ⟨a, b, hr⟩
  rw [if_neg h1]
  by_cases h2 : op.data.toList = [99, 111, 108]
  · rw [if_pos h2, List.singleton_append, Okp]
    obtain ⟨a, b⟩ := tok_name (hcol h2) he
    exact ⟨a, b, hr⟩
  rw [if_neg h2]
  have hcl : Okp ((some 4, [41]) :: rest) := par 41 rest (.inr (.inl rfl)) hr
  have hcle : endB (itT ((some 4, [41]) :: rest)) := by rw [ct]; exact end41 _
  rcases op_kinds ha1' ha2' h1 h2 with ⟨ho, hl⟩ | ⟨ho, hl⟩ | ⟨ho, hl⟩ | ⟨ho, hl⟩ | ⟨ho, hl, o1, o2, o3, o4⟩
  · obtain ⟨y, rfl⟩ := head_of hl
    rw [if_pos (.inl ho)]
    simp only [List.map_cons, List.map_nil, itI, List.cons_append, List.append_assoc, List.nil_append]
    have h3 := hI y (by simp) _ hcl hcle
    have h4 := par 40 _ (.inl rfl) h3
    rw [Okp]
    refine ⟨?_, by rw [ho]; decide, h4⟩
    rw [ho, ct]
    have hw : tokAt ([108, 101, 110] ++ 40 :: itT (itP y ++ (some 4, [41]) :: rest)) = (1, 3, 0) := by
      simp [tokAt, letB, goN, ldB, digB]
    exact hw
  · obtain ⟨y, z, u, rfl⟩ : ∃ y z u, l = [y, z, u] := by
      match l, hl with
      | [y, z, u], _ => exact ⟨y, z, u, rfl⟩
    rw [if_pos (.inr ho)]
    simp only [List.map_cons, List.map_nil, itI, List.cons_append, List.append_assoc, List.nil_append]
    have h3 := hI u (by simp) _ hcl hcle
    have h4 := par 44 _ (.inr (.inr rfl)) (bl _ h3)
    have h5 := hI z (by simp) _ h4 (by rw [ct]; exact end44 _)
    have h6 := par 44 _ (.inr (.inr rfl)) (bl _ h5)
    have h7 := hI y (by simp) _ h6 (by rw [ct]; exact end44 _)
    have h8 := par 40 _ (.inl rfl) h7
    rw [Okp]
    refine ⟨?_, by rw [ho]; decide, h8⟩
    rw [ho, ct]
    generalize itT _ = W
    show tokAt ([105, 102] ++ 40 :: W) = (1, 2, 0)
    simp [tokAt, letB, goN, ldB, digB]
  · obtain ⟨y, rfl⟩ := head_of hl
    rw [if_neg (by rw [ho]; decide), if_pos ho]
    simp only [List.map_cons, List.map_nil, List.headD_cons, List.cons_append, List.append_assoc, List.nil_append]
    have h3 := bl _ (hI y (by simp) _ hcl hcle)
    refine par 40 _ (.inl rfl) ?_
    rw [Okp]
    exact ⟨tk_word (c := 110) (t := [111, 116]) (by decide) (by decide) (by rw [ct]; exact end32 _), by decide, h3⟩
  · obtain ⟨y, rfl⟩ := head_of hl
    rw [if_neg (by rw [ho]; decide), if_neg (by rw [ho]; decide), if_pos ho]
    simp only [List.map_cons, List.map_nil, List.headD_cons, List.cons_append, List.append_assoc, List.nil_append]
    have h3 := bl _ (hI y (by simp) _ hcl hcle)
    refine par 40 _ (.inl rfl) ?_
    rw [Okp, ct]
    exact ⟨tok_minus _, by decide, h3⟩
  · obtain ⟨y, z, rfl⟩ : ∃ y z, l = [y, z] := by
      match l, hl with
      | [y, z], _ => exact ⟨y, z, rfl⟩
    rw [if_neg (fun h => h.elim o1 o2), if_neg o3, if_neg o4]
    simp only [List.map_cons, List.map_nil, itI, List.cons_append, List.append_assoc, List.nil_append]
    have h3 := bl _ (hI z (by simp) _ hcl hcle)
    have h4 : Okp ((some (opK op.data.toList), op.data.toList) :: (none, [32]) :: (itP z ++ (some 4, [41]) :: rest)) := by
      rw [Okp, ct]
      obtain ⟨a, b⟩ := tok_op ho (itT (itP z ++ (some 4, [41]) :: rest))
      exact ⟨a, b, h3⟩
    have h5 := hI y (by simp) _ (bl _ h4) (by rw [ct]; exact end32 _)
    exact par 40 _ (.inl rfl) h5
theorem itK_len : ∀ is : List Item, Okp is → (itK is).length ≤ (itT is).length
  | [], _ => by simp [itK]
  | (none, bs) :: is, h => by
    rw [Okp] at h
    have := itK_len is h.2
    simp only [itK, itT, List.flatMap_cons, List.length_append, List.nil_append] at this ⊢
    omega
  | (some k, t) :: is, h => by
    rw [Okp] at h
    have := itK_len is h.2.2
    have h2 : 1 ≤ t.length := by
      cases t with
      | nil => exact absurd rfl h.2.1
      | cons c q => simp
    simp only [itK, itT, List.flatMap_cons, List.length_append, List.length_singleton] at this ⊢
    omega
/-- The text of an expression that is right falls into its words. -/
theorem lex_tx {x : Ex} (hn : ∀ q ∈ x.pre 1, nodeE q.1 = 0) (hi : ∀ q ∈ x.pre 1, inI q.1.vn) (hl : (txP x).length ≤ 400) : ∃ ts, lexAll (txP x) = (ts, 0, 0) ∧ Tx ts = tkP x := by
  obtain ⟨e1, e2⟩ := it_text x
  have hok : Okp (itP x) := by
    have := okp_P x 1 hn hi [] (by rw [Okp]; trivial) (.inl rfl)
    rwa [List.append_nil] at this
  have hk := itK_len _ hok
  obtain ⟨ts, h1, h2⟩ := lex_items (itP x) ((txP x).length + 1) 0 [] hok (by rw [e1] at hk; omega)
  refine ⟨ts, ?_, by rw [h2, e2]⟩
  rw [lexAll, if_neg (by omega), ← e1]
  rw [e1] at h1 ⊢
  rw [h1, List.nil_append]
end Go.Proofs.YtkbhmghdonomnaaGreatDoor
namespace Go.Proofs.YtkbhmghdonomnaaGreatDoor
open Go.RowKit Go.BigFrame
set_option linter.unusedVariables false

theorem apL_mem {x : List UInt8} : ∀ {l : List (List UInt8 × Int)}, (apL x l).2 = true → (x, (apL x l).1) ∈ l
  | [], h => by simp [apL] at h
  | o :: os, h => by
    rw [apL] at h ⊢
    split
    · rename_i he; subst he; exact List.mem_cons_self ..
    · rename_i he; rw [if_neg he] at h; exact List.mem_cons_of_mem _ (apL_mem h)
def ruleFits (o : List UInt8 × Int) : Bool := decide (o.2 < 1) || (match kdFind o.1 kdRules with | some r => decide ((kdCnt r : Int) = o.2) | none => false)
theorem rules_fit : ∀ o ∈ opsL, ruleFits o = true := by decide
theorem rule_of_op {x : List UInt8} (h : (apL x opsL).2 = true) (h1 : 1 ≤ (apL x opsL).1) : ∃ r, kdFind x kdRules = some r ∧ (kdCnt r : Int) = (apL x opsL).1 := by
  have hf := rules_fit _ (apL_mem h)
  rw [ruleFits] at hf
  simp only at hf
  have h2 : decide ((apL x opsL).1 < 1) = false := by simp; omega
  rw [h2, Bool.false_or] at hf
  split at hf
  · rename_i r hr
    exact ⟨r, hr, of_decide_eq_true hf⟩
  · exact absurd hf (by simp)
theorem rule_types : ∀ r ∈ kdRules, r.2.2.2.2 = -1 ∨ isTy r.2.2.2.2 = true := by decide
theorem ruleP_ty {x : List UInt8} {ts : List Int} (h : (ruleP x ts).2 = 0) : isTy (ruleP x ts).1 = true := by
  cases hf : kdFind x kdRules with
  | none => rw [ruleP_none hf] at h; exact absurd h (by decide)
  | some r =>
    cases ha : ts.all isTy with
    | false => rw [ruleP_bad hf ha] at h; exact absurd h (by decide)
    | true =>
      by_cases hl : ts.length = kdCnt r
      · rw [ruleP_rest hf ha hl] at h ⊢
        split at h
        · rename_i hk
          rw [if_pos hk]
          have hm := (kdFind_mem hf).1
          rw [kdMeant]
          rcases rule_types r hm with h1 | h1
          · rw [if_pos h1]
            obtain ⟨n, hn⟩ : ∃ n, ts.length = n + 1 := ⟨ts.length - 1, by have := (kdCnt_ok r hm).1; omega⟩
            rw [last_at hn]
            exact List.all_eq_true.1 ha _ (List.getElem_mem _)
          · split
            · rename_i h2; rw [h2] at h1; exact absurd h1 (by decide)
            · exact h1
        · exact absurd h (by decide)
      · rw [ruleP_len hf ha hl] at h; exact absurd h (by decide)
theorem ruleP_err {x : List UInt8} {ts : List Int} {r : KRule} (hf : kdFind x kdRules = some r) (ha : ts.all isTy = true) (hl : ts.length = kdCnt r) : (ruleP x ts).2 = 0 ∨ ruleP x ts = (0, 8) := by
  rw [ruleP_rest hf ha hl]
  split
  · exact .inl rfl
  · exact .inr rfl
theorem tyP_ty {zs : List (ByteArray × Int)} {y : Ex} (hn : nodeE y = 0) (hs : schE zs = 0) (h : (tyP zs y).2.1 = 0) : isTy (tyP zs y).1 = true := by
  cases y with
  | node op nm vt vn vs pos l =>
    by_cases h1 : op.data.toList = [118, 97, 108]
    · have hv : ckV vt vn vs.data.toList = 0 := (node_ok hn).2.2 (by show (op.toList == [118, 97, 108]) = true; rw [Lib.toList_data]; simpa using h1)
      rw [tyP, if_pos h1]
      rw [ckV] at hv
      split at hv
      · rename_i h2; exact absurd hv h2
      · rename_i h2
        have h3 : chk vt vn vs.data.toList = 0 := by simpa using h2
        rw [chk] at h3
        split at h3
        · exact absurd h3 (by decide)
        · rename_i h4
          rw [isTy]
          simp at h4 ⊢
          omega
    · by_cases h2 : op.data.toList = [99, 111, 108]
      · rw [tyP, if_neg h1, if_pos h2] at h ⊢
        split at h
        · exact absurd (show (5 : Int) = 0 from h) (by decide)
        · rename_i h3
          rw [if_neg h3]
          rcases findN_cases nm.data.toList zs with ⟨hh, _⟩ | ⟨k, hk, hkl, _⟩
          · exact absurd hh h3
          · have := (schE_zero hs).2.2 k hkl
            rw [hk]
            simp [hkl, isTy]
            omega
      · rw [tyP_op h1 h2] at h ⊢
        split at h
        · rename_i h3; exact absurd h h3
        · rename_i h3
          rw [if_neg h3]
          split at h
          · rename_i h4; exact absurd h h4
          · rename_i h4
            rw [if_neg h4]
            exact ruleP_ty (by simpa using h4)
/-- An operation with parts is no value and no column. -/
theorem op_parts {x : Ex} (h : ckP x = 0) (hl : x.args.length ≠ 0) : x.op.data.toList ≠ [118, 97, 108] ∧ x.op.data.toList ≠ [99, 111, 108] ∧ ∃ r, kdFind x.op.data.toList kdRules = some r ∧ kdCnt r = x.args.length := by
  have hn := (ckP_zero h).2 (x, 1) (by rw [pre_eq]; exact List.mem_cons_self ..)
  obtain ⟨h1, h2, _⟩ := node_ok hn
  simp only at h1 h2
  refine ⟨fun e => ?_, fun e => ?_, ?_⟩
  · rw [e] at h2; have : (apL [118, 97, 108] opsL).1 = 0 := by decide
    omega
  · rw [e] at h2; have : (apL [99, 111, 108] opsL).1 = 0 := by decide
    omega
  · obtain ⟨r, hr, hc⟩ := rule_of_op h1 (by omega)
    exact ⟨r, hr, by omega⟩
end Go.Proofs.YtkbhmghdonomnaaGreatDoor
namespace Go.Proofs.YtkbhmghdonomnaaGreatDoor
open Go.RowKit
set_option linter.unusedVariables false

/-- Does an operation stand among the signs of the levels? -/
def inSigns (l : List UInt8) : Bool := (sgl 0 ++ sgl 1 ++ sgl 2 ++ sgl 3 ++ sgl 4).any (· == l)
/-- How many parts an operation has; below 0: it is none. -/
def arityT (l : List UInt8) : Int :=
  if l = [99, 111, 108] ∨ l = [118, 97, 108] then 0
  else if l = [110, 111, 116] ∨ l = [110, 101, 103] ∨ l = [108, 101, 110] then 1
  else if l = [105, 102] then 3
  else if inSigns l = true then 2 else -1
/-- Up to a level. -/
def upTo (lv : Nat) : List (List UInt8) := (List.range lv).flatMap sgl
theorem upTo_succ (lv : Nat) : upTo (lv + 1) = upTo lv ++ sgl lv := by simp [upTo, List.range_succ]
theorem upTo_all (l : List UInt8) : (upTo 5).any (· == l) = inSigns l := by
  rw [inSigns]
  rfl
end Go.Proofs.YtkbhmghdonomnaaGreatDoor
namespace Go.Proofs.YtkbhmghdonomnaaGreatDoor
open Go.RowKit Go.BigFrame
set_option linter.unusedVariables false

/-- The program's list of operations, and the document's Arity. -/
theorem arity_ops (x : List UInt8) : (apL x opsL).2 = decide (0 ≤ arityT x) ∧ (0 ≤ arityT x → (apL x opsL).1 = arityT x) := by
  by_cases h : x ∈ opsL.map (·.1)
  · have all : ∀ y ∈ opsL.map (·.1), (apL y opsL).2 = decide (0 ≤ arityT y) ∧ (0 ≤ arityT y → (apL y opsL).1 = arityT y) := by
      intro y hy
      simp only [opsL, List.map_cons, List.map_nil, List.mem_cons, List.not_mem_nil, or_false] at hy
      rcases hy with rfl | rfl | rfl | rfl | rfl | rfl | rfl | rfl | rfl | rfl | rfl | rfl | rfl | rfl | rfl | rfl | rfl | rfl | rfl <;> exact ⟨by decide, by decide⟩
    exact all x h
  · have hn : (apL x opsL).2 = false := by
      cases hf : (apL x opsL).2 with
      | false => rfl
      | true => exact absurd (List.mem_map.2 ⟨_, apL_mem hf, rfl⟩) h
    have ha : arityT x < 0 := by
      simp only [opsL, List.map_cons, List.map_nil, List.mem_cons, List.not_mem_nil, or_false, not_or] at h
      obtain ⟨n1, n2, n3, n4, n5, n6, n7, n8, n9, n10, n11, n12, n13, n14, n15, n16, n17, n18, n19⟩ := h
      unfold arityT
      rw [if_neg (by simp [n1, n2]), if_neg (by simp [n5, n17, n18]), if_neg n19]
      have hs : inSigns x = false := by
        unfold inSigns
        rw [Bool.eq_false_iff]
        intro ha
        rw [List.any_eq_true] at ha
        obtain ⟨y, hy, he⟩ := ha
        have he2 : y = x := by simpa using he
        subst he2
        simp [sgl] at hy
        rcases hy with h | h | h | h | h | h | h | h | h | h | h | h | h <;> simp_all
      rw [hs]
      decide
    exact ⟨by rw [hn]; symm; exact decide_eq_false (by omega), fun hh => by omega⟩
theorem size_pre : ∀ (x : Ex) (d : Nat), (x.pre d).length = x.size := by
  refine Ex.ind fun op nm vt vn vs pos l ih d => ?_
  rw [Ex.pre, Ex.size, List.length_cons]
  have : ∀ l : List Ex, (∀ y ∈ l, ∀ d, (y.pre d).length = y.size) → (Ex.pres (d + 1) l).length = Ex.sizes l := fun l => by
    induction l with
    | nil => intro _; rw [Ex.pres, Ex.sizes]; rfl
    | cons y ys ihl =>
      intro h
      rw [Ex.pres, Ex.sizes, List.length_append, h y (by simp), ihl fun z hz => h z (by simp [hz])]
  rw [this l ih]
  omega
theorem deep_pre : ∀ (x : Ex) (d m : Nat), (∀ q ∈ x.pre d, q.2 ≤ m) ↔ d + x.deep ≤ m + 1 := by
  refine Ex.ind fun op nm vt vn vs pos l ih d m => ?_
  have key : ∀ l : List Ex, (∀ y ∈ l, ∀ d m, (∀ q ∈ y.pre d, q.2 ≤ m) ↔ d + y.deep ≤ m + 1) → ((∀ q ∈ Ex.pres (d + 1) l, q.2 ≤ m) ↔ (l = [] ∨ d + 1 + Ex.deeps l ≤ m + 1)) := fun l => by
    induction l with
    | nil => intro _; rw [Ex.pres]; simp
    | cons y ys ihl =>
      intro h
      have i2 := ihl fun z hz => h z (by simp [hz])
      have hy := h y (by simp) (d + 1) m
      rw [Ex.pres, Ex.deeps]
      simp only [List.mem_append]
      constructor
      · intro hq
        have a1 := hy.1 fun q hq2 => hq q (.inl hq2)
        have a2 := i2.1 fun q hq2 => hq q (.inr hq2)
        right
        rcases a2 with rfl | a2
        · rw [Ex.deeps]; omega
        · omega
      · intro hq q hq2
        have hq3 : d + 1 + max y.deep (Ex.deeps ys) ≤ m + 1 := by simpa using hq
        rcases hq2 with hq2 | hq2
        · exact hy.2 (by omega) q hq2
        · exact i2.2 (.inr (by omega)) q hq2
  rw [Ex.pre, Ex.deep]
  have k := key l ih
  constructor
  · intro h
    have h0 := h _ (List.mem_cons_self ..)
    simp only at h0
    have h1 := k.1 fun q hq => h q (List.mem_cons_of_mem _ hq)
    rcases h1 with rfl | h1
    · rw [Ex.deeps]; omega
    · omega
  · intro h q hq
    rcases List.mem_cons.1 hq with rfl | hq
    · simp only; omega
    · exact k.2 (.inr (by omega)) q hq
/-- Too great, as the document says it. -/
theorem tg_small (x : Ex) : tgB x = !x.small := by
  have h := fold_tg (x.pre 1) 0
  rw [tgB, Ex.small]
  congr 1
  rw [Bool.eq_iff_iff, h, Bool.and_eq_true, decide_eq_true_eq, decide_eq_true_eq, size_pre, deep_pre]
  have hp : 1 ≤ x.size := by rw [← size_pre x 1, pre_eq]; simp
  constructor
  · rintro ⟨h1, h2⟩
    refine ⟨?_, by omega⟩
    rcases h1 with h1 | h1
    · have := congrArg List.length h1
      rw [size_pre] at this
      simp at this
      omega
    · omega
  · rintro ⟨h1, h2⟩
    exact ⟨.inr (by omega), by omega⟩
end Go.Proofs.YtkbhmghdonomnaaGreatDoor
namespace Go.Proofs.YtkbhmghdonomnaaGreatDoor
set_option linter.unusedVariables false

theorem sameL_all {b : Bool} : ∀ {l m : List Ex}, sameL b l m = true → l.length = m.length ∧ ∀ i (h : i < l.length) (h2 : i < m.length), sameE b l[i] m[i] = true
  | [], [], _ => ⟨rfl, fun i h => absurd h (by simp)⟩
  | [], _ :: _, h => by simp [sameL] at h
  | _ :: _, [], h => by simp [sameL] at h
  | x :: xs, y :: ys, h => by
    rw [sameL, Bool.and_eq_true] at h
    obtain ⟨h1, h2⟩ := sameL_all h.2
    refine ⟨by simp [h1], fun i hi hj => ?_⟩
    cases i with
    | zero => exact h.1
    | succ i => exact h2 i (by simpa using hi) (by simpa using hj)
theorem sizes_same {b : Bool} : ∀ {l m : List Ex}, (∀ y ∈ l, ∀ z, sameE b y z = true → y.size = z.size ∧ y.deep = z.deep) → sameL b l m = true → Ex.sizes l = Ex.sizes m ∧ Ex.deeps l = Ex.deeps m
  | [], [], _, _ => ⟨rfl, rfl⟩
  | [], _ :: _, _, h => by simp [sameL] at h
  | _ :: _, [], _, h => by simp [sameL] at h
  | x :: xs, y :: ys, hI, h => by
    rw [sameL, Bool.and_eq_true] at h
    obtain ⟨h1, h2⟩ := hI x (by simp) y h.1
    obtain ⟨h3, h4⟩ := sizes_same (fun z hz => hI z (by simp [hz])) h.2
    rw [Ex.sizes, Ex.sizes, Ex.deeps, Ex.deeps, h1, h2, h3, h4]
    exact ⟨rfl, rfl⟩
theorem same_size {b : Bool} : ∀ (x y : Ex), sameE b x y = true → x.size = y.size ∧ x.deep = y.deep := by
  refine Ex.ind fun op nm vt vn vs pos l ih y h => ?_
  obtain ⟨op2, nm2, vt2, vn2, vs2, pos2, l2⟩ := y
  rw [sameE] at h
  simp only [Bool.and_eq_true] at h
  obtain ⟨h1, h2⟩ := sizes_same (fun z hz => ih z hz) h.2.2.2.2
  rw [Ex.size, Ex.size, Ex.deep, Ex.deep, h1, h2]
  exact ⟨rfl, rfl⟩
theorem same_tg {b : Bool} {x y : Ex} (h : sameE b x y = true) : tgB x = tgB y := by
  obtain ⟨h1, h2⟩ := same_size x y h
  rw [tg_small, tg_small, Ex.small, Ex.small, h1, h2]
theorem cnd_nil {ts : List Tok} (hm : nxT (sgT [[45]]) ts = none) (hn : nxT (sgT [[110, 111, 116]]) ts = none) (L : Nat) : Cnd ts [] L := by
  rw [Cnd]
  split
  · exact hn
  split
  · exact hm
  · rfl
/-- Parse reads an expression's text as it was. -/
theorem parse_tx {x : Ex} (hck : ckP x = 0) (hi : ∀ q ∈ x.pre 1, inI q.1.vn) (hl : (txP x).length ≤ 400) : ∃ e, parseP (txP x) = (e, 0, 0) ∧ sameE false e x = true := by
  obtain ⟨htg, hn⟩ := ckP_zero hck
  obtain ⟨ts, h1, h2⟩ := lex_tx hn hi hl
  obtain ⟨hh, hr⟩ := rt7 x 1 hn hi
  obtain ⟨e, hs, he⟩ := hr ts [] h2
  obtain ⟨hm, hnn⟩ := hh.none (r := []) h2
  rw [List.append_nil] at he hm hnn
  have hlen : ts.length = (tkP x).length := by rw [← h2, Tx, List.length_map]
  have hread : readE ts = (some e, []) := by
    rw [readE]
    have := uE_lift 7 (ts.length * 8 + 1) 0 (by omega) (he _ (by omega)) (fun k _ _ => cnd_nil hm hnn k)
    rwa [show ts.length * 8 + 1 + 7 = ts.length * 8 + 8 from by omega] at this
  refine ⟨e, ?_, hs⟩
  rw [parseP, h1]
  simp only
  rw [if_neg (by decide), hread]
  simp only
  rw [if_neg (by rw [same_tg hs, htg]; decide)]
end Go.Proofs.YtkbhmghdonomnaaGreatDoor
