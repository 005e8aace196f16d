/-
  What is not needed does not matter: plain facts on what expressions of two others come to.
-/
import Derived.Test.YtomakklbfjkdpabDoorEvP
namespace Go.Proofs.YtomakklbfjkdpabDoor
open Go.RowKit
set_option linter.unusedVariables false

theorem ckP_iff {x : Ex} : ckP x = 0 ↔ (x.pre 1).length ≤ 200 ∧ (∀ q ∈ x.pre 1, q.2 ≤ 30) ∧ ∀ q ∈ x.pre 1, nodeE q.1 = 0 := by
  constructor
  · intro h
    obtain ⟨h1, h2⟩ := ckP_zero h
    have ht : (foldP ftg 0 (x.pre 1)).2 = true := by rw [tgB] at h1; simpa using h1
    obtain ⟨g1, g2⟩ := (fold_tg _ 0).1 ht
    refine ⟨?_, g2, h2⟩
    rcases g1 with g1 | g1
    · rw [g1]; simp
    · omega
  · rintro ⟨h1, h2, h3⟩
    have ht : tgB x = false := by
      rw [tgB, (fold_tg (x.pre 1) 0).2 ⟨.inr (by omega), h2⟩]; rfl
    rw [ckP, ht, if_neg (by simp)]
    exact fold_ck' (x.pre 1) 0 rfl h3
/-- An operation, as the law writes it. -/
def mkN (op : ByteArray) (l : List Ex) : Ex := .node op ⟨#[]⟩ 0 0 ⟨#[]⟩ 0 l
def yesX : Ex := .node ⟨#[118, 97, 108]⟩ ⟨#[]⟩ 2 1 ⟨#[]⟩ 0 []
def noX : Ex := .node ⟨#[118, 97, 108]⟩ ⟨#[]⟩ 2 0 ⟨#[]⟩ 0 []
theorem mem_pres {d : Nat} {q : Ex × Nat} : ∀ {l : List Ex}, q ∈ Ex.pres d l → ∃ y ∈ l, q ∈ y.pre d
  | [], h => by rw [Ex.pres] at h; cases h
  | x :: xs, h => by
    rw [Ex.pres] at h
    rcases List.mem_append.1 h with h | h
    · exact ⟨x, by simp, h⟩
    · obtain ⟨y, hy, h⟩ := mem_pres h
      exact ⟨y, by simp [hy], h⟩
/-- A part that fits below one node more. -/
def fitP (y : Ex) : Prop := (∀ q ∈ y.pre 2, q.2 ≤ 30) ∧ ∀ q ∈ y.pre 2, nodeE q.1 = 0
theorem fit_of {op : ByteArray} {l : List Ex} (h : ckP (mkN op l) = 0) : (Ex.pres 2 l).length ≤ 199 ∧ ∀ y ∈ l, fitP y := by
  obtain ⟨h1, h2, h3⟩ := ckP_iff.1 h
  rw [mkN, Ex.pre] at h1 h2 h3
  refine ⟨by simpa using h1, fun y hy => ⟨fun q hq => h2 q (List.mem_cons_of_mem _ (pres_mem hy q hq)), fun q hq => h3 q (List.mem_cons_of_mem _ (pres_mem hy q hq))⟩⟩
theorem ck_make {op : ByteArray} {l : List Ex} (hn : nodeE (mkN op l) = 0) (hl : (Ex.pres 2 l).length ≤ 199) (hf : ∀ y ∈ l, fitP y) : ckP (mkN op l) = 0 := by
  refine ckP_iff.2 ⟨?_, ?_, ?_⟩
  · rw [mkN, Ex.pre, List.length_cons]; exact Nat.succ_le_succ hl
  · intro q hq
    rw [mkN, Ex.pre] at hq
    rcases List.mem_cons.1 hq with rfl | hq
    · show 1 ≤ 30
      decide
    · obtain ⟨y, hy, hq⟩ := mem_pres hq
      exact (hf y hy).1 q hq
  · intro q hq
    have hself := hn
    rw [mkN, Ex.pre] at hq
    rcases List.mem_cons.1 hq with rfl | hq
    · exact hself
    · obtain ⟨y, hy, hq⟩ := mem_pres hq
      exact (hf y hy).2 q hq
theorem fit_yes : fitP yesX := by
  constructor
  · intro q hq
    rw [yesX, Ex.pre, Ex.pres] at hq
    obtain rfl := List.mem_singleton.1 hq
    decide
  · intro q hq
    rw [yesX, Ex.pre, Ex.pres] at hq
    obtain rfl := List.mem_singleton.1 hq
    kernel_rfl
theorem fit_no : fitP noX := by
  constructor
  · intro q hq
    rw [noX, Ex.pre, Ex.pres] at hq
    obtain rfl := List.mem_singleton.1 hq
    decide
  · intro q hq
    rw [noX, Ex.pre, Ex.pres] at hq
    obtain rfl := List.mem_singleton.1 hq
    kernel_rfl
theorem len_yes : (yesX.pre 2).length = 1 := rfl
theorem len_no : (noX.pre 2).length = 1 := rfl
theorem pres_two (a b : Ex) : (Ex.pres 2 [a, b]).length = (a.pre 2).length + (b.pre 2).length := by
  rw [Ex.pres, Ex.pres, Ex.pres]; simp
theorem pres_three (a b c : Ex) : (Ex.pres 2 [a, b, c]).length = (a.pre 2).length + (b.pre 2).length + (c.pre 2).length := by
  rw [Ex.pres, Ex.pres, Ex.pres, Ex.pres]; simp; omega
/-- What Check lets through of `if`, it lets through of the others. -/
theorem ck_sides {a b : Ex} (h : ckP (mkN ⟨#[105, 102]⟩ [yesX, a, b]) = 0) :
    ckP (mkN ⟨#[105, 102]⟩ [noX, a, b]) = 0 ∧ ckP (mkN ⟨#[60]⟩ [a, b]) = 0 ∧ ckP (mkN ⟨#[62, 61]⟩ [a, b]) = 0 ∧ ckP (mkN ⟨#[97, 110, 100]⟩ [noX, a]) = 0 ∧ ckP (mkN ⟨#[111, 114]⟩ [yesX, a]) = 0 ∧ ckP (mkN ⟨#[97, 110, 100]⟩ [yesX, a]) = 0 := by
  obtain ⟨hl, hf⟩ := fit_of h
  have fa := hf a (by simp)
  have fb := hf b (by simp)
  rw [pres_three, len_yes] at hl
  have two : ∀ {x y : Ex}, fitP x → fitP y → ∀ z ∈ [x, y], fitP z := fun hx hy z hz => by
    rcases List.mem_cons.1 hz with rfl | hz
    · exact hx
    · obtain rfl := List.mem_singleton.1 hz
      exact hy
  have three : ∀ {x y u : Ex}, fitP x → fitP y → fitP u → ∀ z ∈ [x, y, u], fitP z := fun hx hy hu z hz => by
    rcases List.mem_cons.1 hz with rfl | hz
    · exact hx
    · exact two hy hu z hz
  refine ⟨ck_make (by kernel_rfl) (by rw [pres_three, len_no]; omega) (three fit_no fa fb), ck_make (by kernel_rfl) (by rw [pres_two]; omega) (two fa fb), ck_make (by kernel_rfl) (by rw [pres_two]; omega) (two fa fb), ck_make (by kernel_rfl) (by rw [pres_two, len_no]; omega) (two fit_no fa), ck_make (by kernel_rfl) (by rw [pres_two, len_yes]; omega) (two fit_yes fa), ck_make (by kernel_rfl) (by rw [pres_two, len_yes]; omega) (two fit_yes fa)⟩
theorem tysP_all {zs : List (ByteArray × Int)} : ∀ {l : List Ex}, (∀ y ∈ l, (tyP zs y).2.1 = 0) → tysP zs l = (l.map (fun y => (tyP zs y).1), 0, 0)
  | [], _ => by rw [tysP]; rfl
  | x :: xs, h => by
    rw [tysP, if_neg (fun hh => hh (h x (by simp))), tysP_all fun y hy => h y (by simp [hy]), if_neg (by simp)]
    rfl
theorem ty_make {zs : List (ByteArray × Int)} {op : ByteArray} {l : List Ex} {T : Int} (h1 : op.data.toList ≠ [118, 97, 108]) (h2 : op.data.toList ≠ [99, 111, 108]) (hl : ∀ y ∈ l, (tyP zs y).2.1 = 0) (hr : ruleP op.data.toList (l.map fun y => (tyP zs y).1) = (T, 0)) : tyP zs (mkN op l) = (T, 0, 0) := by
  rw [mkN, tyP_op h1 h2, tysP_all hl, if_neg (by simp)]
  simp only
  rw [hr, if_neg (by simp)]
theorem of_make {zs : List (ByteArray × Int)} {x : Ex} {T : Int} (hc : ckP x = 0) (hs : schE zs = 0) (ht : tyP zs x = (T, 0, 0)) : ofP zs x = (T, 0, 0) := by
  rw [ofP, if_neg (fun hh => hh hc), if_neg (fun hh => hh hs), ht]
theorem of_in {zs : List (ByteArray × Int)} {x : Ex} {T p : Int} (h : ofP zs x = (T, 0, p)) : ckP x = 0 ∧ schE zs = 0 ∧ tyP zs x = (T, 0, p) := by
  rw [ofP] at h
  by_cases hc : ckP x = 0
  · rw [if_neg (fun hh => hh hc)] at h
    by_cases hs : schE zs = 0
    · rw [if_neg (fun hh => hh hs)] at h
      exact ⟨hc, hs, h⟩
    · rw [if_pos hs] at h
      simp only [Prod.mk.injEq] at h
      exact absurd h.2.1 hs
  · rw [if_pos hc] at h
    simp only [Prod.mk.injEq] at h
    exact absurd h.2.1 hc
theorem rule_same {T : Int} (h : isTy T = true) : ruleP [105, 102] [2, T, T] = (T, 0) ∧ ruleP [60] [T, T] = (2, 0) ∧ ruleP [62, 61] [T, T] = (2, 0) := by
  have : T = 1 ∨ T = 2 ∨ T = 3 := by
    unfold isTy at h
    simp at h
    exact h
  rcases this with rfl | rfl | rfl <;> decide
theorem of_ty {zs : List (ByteArray × Int)} {a : Ex} {T p : Int} (ha : ofP zs a = (T, 0, p)) : isTy T = true := by
  obtain ⟨ca, hs, ta⟩ := of_in ha
  have := tyP_ty (y := a) ((ckP_iff.1 ca).2.2 (a, 1) (by rw [pre_eq]; exact List.mem_cons_self ..)) hs (by rw [ta])
  rwa [ta] at this
/-- The six expressions have the types that they should. -/
theorem of_sides {zs : List (ByteArray × Int)} {a b : Ex} {T p q : Int} (ha : ofP zs a = (T, 0, p)) (h : ckP (mkN ⟨#[105, 102]⟩ [yesX, a, b]) = 0) :
    (ofP zs b = (T, 0, q) → ofP zs (mkN ⟨#[105, 102]⟩ [yesX, a, b]) = (T, 0, 0) ∧ ofP zs (mkN ⟨#[105, 102]⟩ [noX, a, b]) = (T, 0, 0) ∧ ofP zs (mkN ⟨#[60]⟩ [a, b]) = (2, 0, 0) ∧ ofP zs (mkN ⟨#[62, 61]⟩ [a, b]) = (2, 0, 0)) ∧
    (T = 2 → ofP zs (mkN ⟨#[97, 110, 100]⟩ [noX, a]) = (2, 0, 0) ∧ ofP zs (mkN ⟨#[111, 114]⟩ [yesX, a]) = (2, 0, 0) ∧ ofP zs (mkN ⟨#[97, 110, 100]⟩ [yesX, a]) = (2, 0, 0)) := by
  obtain ⟨c1, c2, c3, c4, c5, c6⟩ := ck_sides h
  obtain ⟨ca, hs, ta⟩ := of_in ha
  have hT : isTy T = true := by
    have := tyP_ty (y := a) ((ckP_iff.1 ca).2.2 (a, 1) (by rw [pre_eq]; exact List.mem_cons_self ..)) hs (by rw [ta])
    rwa [ta] at this
  have ty2 : ∀ {x y : Ex} {s t u v : Int}, tyP zs x = (s, 0, u) → tyP zs y = (t, 0, v) → ∀ z ∈ [x, y], (tyP zs z).2.1 = 0 := fun hx hy z hz => by
    rcases List.mem_cons.1 hz with rfl | hz
    · rw [hx]
    · obtain rfl := List.mem_singleton.1 hz
      rw [hy]
  have ty3 : ∀ {x y w : Ex} {s t r u v k : Int}, tyP zs x = (s, 0, u) → tyP zs y = (t, 0, v) → tyP zs w = (r, 0, k) → ∀ z ∈ [x, y, w], (tyP zs z).2.1 = 0 := fun hx hy hw z hz => by
    rcases List.mem_cons.1 hz with rfl | hz
    · rw [hx]
    · exact ty2 hy hw z hz
  have tY : tyP zs yesX = (2, 0, 0) := by rw [yesX, tyP, if_pos rfl]
  have tN : tyP zs noX = (2, 0, 0) := by rw [noX, tyP, if_pos rfl]
  refine ⟨fun hb => ?_, fun h2 => ?_⟩
  · obtain ⟨_, _, tb⟩ := of_in hb
    obtain ⟨r1, r2, r3⟩ := rule_same hT
    refine ⟨of_make h hs (ty_make (by decide) (by decide) (ty3 tY ta tb) ?_), of_make c1 hs (ty_make (by decide) (by decide) (ty3 tN ta tb) ?_), of_make c2 hs (ty_make (by decide) (by decide) (ty2 ta tb) ?_), of_make c3 hs (ty_make (by decide) (by decide) (ty2 ta tb) ?_)⟩
    · simp only [List.map_cons, List.map_nil, tY, ta, tb]; exact r1
    · simp only [List.map_cons, List.map_nil, tN, ta, tb]; exact r1
    · simp only [List.map_cons, List.map_nil, ta, tb]; exact r2
    · simp only [List.map_cons, List.map_nil, ta, tb]; exact r3
  · subst h2
    refine ⟨of_make c4 hs (ty_make (by decide) (by decide) (ty2 tN ta) ?_), of_make c5 hs (ty_make (by decide) (by decide) (ty2 tY ta) ?_), of_make c6 hs (ty_make (by decide) (by decide) (ty2 tY ta) ?_)⟩
    · simp only [List.map_cons, List.map_nil, tN, ta]; decide
    · simp only [List.map_cons, List.map_nil, tY, ta]; decide
    · simp only [List.map_cons, List.map_nil, tY, ta]; decide
theorem cm_make {zs : List (ByteArray × Int)} {rs : List V3} {op : ByteArray} {l : List Ex} (h1 : op.data.toList ≠ [118, 97, 108]) (h2 : op.data.toList ≠ [99, 111, 108]) : cmP zs rs (mkN op l) = combP op.data.toList (l.map (cmP zs rs)) := by
  rw [mkN, cmP_op h1 h2]
theorem cm_yes (zs : List (ByteArray × Int)) (rs : List V3) : cmP zs rs yesX = ((2, 1, ⟨#[]⟩), 0) := by rw [yesX, cmP, if_pos rfl]
theorem cm_no (zs : List (ByteArray × Int)) (rs : List V3) : cmP zs rs noX = ((2, 0, ⟨#[]⟩), 0) := by rw [noX, cmP, if_pos rfl]
theorem cm_if (zs : List (ByteArray × Int)) (rs : List V3) (a b : Ex) : cmP zs rs (mkN ⟨#[105, 102]⟩ [yesX, a, b]) = cmP zs rs a ∧ cmP zs rs (mkN ⟨#[105, 102]⟩ [noX, a, b]) = cmP zs rs b := by
  constructor
  · rw [cm_make (by decide) (by decide)]
    simp only [List.map_cons, List.map_nil, cm_yes]
    rfl
  · rw [cm_make (by decide) (by decide)]
    simp only [List.map_cons, List.map_nil, cm_no]
    rfl
theorem cm_and_no (zs : List (ByteArray × Int)) (rs : List V3) (a : Ex) : cmP zs rs (mkN ⟨#[97, 110, 100]⟩ [noX, a]) = ((2, 0, ⟨#[]⟩), 0) ∧ cmP zs rs (mkN ⟨#[111, 114]⟩ [yesX, a]) = ((2, 1, ⟨#[]⟩), 0) := by
  constructor
  · rw [cm_make (by decide) (by decide)]
    simp only [List.map_cons, List.map_nil, cm_no]
    rfl
  · rw [cm_make (by decide) (by decide)]
    simp only [List.map_cons, List.map_nil, cm_yes]
    rfl
theorem bytes_nil {s : ByteArray} (h : s.data.toList = []) : s = ⟨#[]⟩ := by
  obtain ⟨⟨l⟩⟩ := s
  simp at h
  subst h
  rfl
theorem cm_and_yes {zs : List (ByteArray × Int)} {rs : List V3} {a : Ex} (h : comes 2 (cmP zs rs a)) : cmP zs rs (mkN ⟨#[97, 110, 100]⟩ [yesX, a]) = cmP zs rs a := by
  rw [cm_make (by decide) (by decide)]
  simp only [List.map_cons, List.map_nil, cm_yes]
  rcases h with ⟨h0, h1, h2, h3⟩ | h
  · obtain ⟨t, n, s, e, hcm⟩ : ∃ t n s e, cmP zs rs a = ((t, n, s), e) := ⟨_, _, _, _, rfl⟩
    rw [hcm] at h0 h1 h2 h3 ⊢
    simp only at h0 h1 h2 h3
    subst h0 h1
    obtain ⟨hn, hs⟩ := chk_two h2
    obtain rfl := bytes_nil hs
    rcases hn with rfl | rfl <;> decide
  · rw [h]; decide
theorem cm_less {zs : List (ByteArray × Int)} {rs : List V3} {a b : Ex} {T : Int} (hT : isTy T = true) (ha : comes T (cmP zs rs a)) (hb : comes T (cmP zs rs b)) :
    ∃ p q : V3 × Int, cmP zs rs (mkN ⟨#[60]⟩ [a, b]) = p ∧ cmP zs rs (mkN ⟨#[62, 61]⟩ [a, b]) = q ∧ ((p.2 = 0 ∧ q.2 = 0 ∧ (cmP zs rs a).2 = 0 ∧ (cmP zs rs b).2 = 0 ∧ ((p.1.2.1 = 0 ∧ q.1.2.1 = 1) ∨ (p.1.2.1 = 1 ∧ q.1.2.1 = 0))) ∨ (p.2 = 9 ∧ q.2 = 9 ∧ ((cmP zs rs a).2 = 9 ∨ (cmP zs rs b).2 = 9))) := by
  refine ⟨_, _, rfl, rfl, ?_⟩
  rw [cm_make (by decide) (by decide), cm_make (by decide) (by decide)]
  simp only [List.map_cons, List.map_nil]
  rcases ha with ⟨a0, a1, a2, a3⟩ | ha
  · rcases hb with ⟨b0, b1, b2, b3⟩ | hb
    · left
      have hc : ∀ op, op = [60] ∨ op = [62, 61] → combP op [cmP zs rs a, cmP zs rs b] = cmpV op (cmP zs rs a).1 (cmP zs rs b).1 := fun op hop => by
        rw [combP, if_neg (fun hh => hh a0), if_neg (by rcases hop with rfl | rfl <;> simp), if_neg (by rcases hop with rfl | rfl <;> decide), if_neg (by simp [firstE, b0])]
        have hv : vlE ((cmP zs rs a).1 :: [cmP zs rs b].map (·.1)) = 0 := vlE_zero.2 fun v hv => by
          simp at hv
          rcases hv with rfl | rfl
          · exact a2
          · exact b2
        obtain ⟨_, r2, r3⟩ := rule_same hT
        rw [doP, if_neg (fun hh => hh hv)]
        rcases hop with rfl | rfl
        · rw [if_neg (by simp [a1, b1, r2])]; rfl
        · rw [if_neg (by simp [a1, b1, r3])]; rfl
      rw [hc [60] (.inl rfl), hc [62, 61] (.inr rfl)]
      have he : cmpE (cmP zs rs a).1.1 (cmP zs rs a).1.2.1 (cmP zs rs a).1.2.2.data.toList (cmP zs rs b).1.1 (cmP zs rs b).1.2.1 (cmP zs rs b).1.2.2.data.toList = 0 := by
        rw [cmpE, if_neg (fun hh => hh a2), if_neg (fun hh => hh b2), if_neg (fun hh => hh (a1.trans b1.symm))]
      rw [cmpV, if_neg (fun hh => hh he), cmpV, if_neg (fun hh => hh he)]
      refine ⟨rfl, rfl, a0, b0, ?_⟩
      generalize cmpN (cmP zs rs a).1.1 (cmP zs rs a).1.2.1 (cmP zs rs a).1.2.2.data.toList (cmP zs rs b).1.1 (cmP zs rs b).1.2.1 (cmP zs rs b).1.2.2.data.toList = o
      have e1 : holdsP [60] o = decide (o < 0) := rfl
      have e2 : holdsP [62, 61] o = decide (0 ≤ o) := rfl
      rw [e1, e2]
      by_cases h : o < 0
      · right
        simp [truP, h]
      · left
        simp [truP, h]
    · right
      rw [hb]
      have hc : ∀ op, op = [60] ∨ op = [62, 61] → combP op [cmP zs rs a, (noV, 9)] = (noV, 9) := fun op hop => by
        rw [combP, if_neg (fun hh => hh a0), if_neg (by rcases hop with rfl | rfl <;> simp), if_neg (by rcases hop with rfl | rfl <;> decide), if_pos (by simp [firstE])]
        rfl
      rw [hc [60] (.inl rfl), hc [62, 61] (.inr rfl)]
      exact ⟨rfl, rfl, .inr rfl⟩
  · right
    rw [ha]
    exact ⟨rfl, rfl, .inl rfl⟩
end Go.Proofs.YtomakklbfjkdpabDoor
