/-
  Arith, EvV, KdPf, EvP, Reckon, in one text.
-/
import Derived.RowKit
import Derived.Test.YticdcnbeemkapaaGreatDoorGrAk
import Derived.Test.YticdcnbeemkapaaGreatDoorQKdRuleC
import Derived.Test.YticdcnbeemkapaaGreatDoorGrAa
import Derived.Test.YticdcnbeemkapaaGreatDoorQKdTy
import Derived.Test.YticdcnbeemkapaaGreatDoorProg
import Derived.WalkKit
import Derived.Lib.Strings
namespace Go.Proofs.YticdcnbeemkapaaGreatDoor
open Go.RowKit

theorem wrap_in (n : Int) (h : -9223372036854775808 ≤ n ∧ n ≤ 9223372036854775807) : wrap64 n = n := by unfold wrap64; omega
theorem wrap_bd (n : Int) : -9223372036854775808 ≤ wrap64 n ∧ wrap64 n ≤ 9223372036854775807 := by unfold wrap64; omega
theorem wrap_mod (n : Int) : ∃ k : Int, wrap64 n = n + k * 18446744073709551616 := by
  unfold wrap64
  exact ⟨-((n + 9223372036854775808) / 18446744073709551616), by omega⟩

theorem tdiv_near (p b : Int) (hb : b ≠ 0) : -(b.natAbs : Int) < p - p.tdiv b * b ∧ p - p.tdiv b * b < b.natAbs := by
  have h1 := Int.mul_tdiv_add_tmod p b
  have h2 : p - p.tdiv b * b = p.tmod b := by rw [Int.mul_comm]; omega
  rw [h2]
  have h3 : (p.tmod b).natAbs < b.natAbs := by
    rw [Int.natAbs_tmod]
    exact Nat.mod_lt _ (by omega)
  omega

theorem tdiv_bd (p b : Int) (hp : -9223372036854775808 ≤ p ∧ p ≤ 9223372036854775807) (h : ¬ (p = -9223372036854775808 ∧ b = -1)) :
    -9223372036854775808 ≤ p.tdiv b ∧ p.tdiv b ≤ 9223372036854775807 := by
  have h3 : (p.tdiv b).natAbs = p.natAbs / b.natAbs := Int.natAbs_tdiv p b
  have h4 : p.natAbs / b.natAbs ≤ p.natAbs := Nat.div_le_self _ _
  by_cases hm : p = -9223372036854775808
  · have hb : b ≠ -1 := fun e => h ⟨hm, e⟩
    by_cases h1 : b = 1
    · subst h1; rw [Int.tdiv_one]; exact hp
    · have h5 : p.natAbs / b.natAbs ≤ p.natAbs / 2 ∨ b = 0 := by
        by_cases h0 : b = 0
        · exact Or.inr h0
        · exact Or.inl (Nat.div_le_div_left (by omega) (by omega))
      rcases h5 with h5 | h5
      · have : p.natAbs = 9223372036854775808 := by omega
        omega
      · subst h5; rw [Int.tdiv_zero]; omega
  · omega

theorem mul_back (a b : Int) (ha : -9223372036854775808 ≤ a ∧ a ≤ 9223372036854775807) (hb : b ≠ 0)
    (h : -9223372036854775808 ≤ a * b ∧ a * b ≤ 9223372036854775807) : wrap64 ((wrap64 (a * b)).tdiv b) = a := by
  rw [wrap_in _ h, Int.mul_tdiv_cancel _ hb, wrap_in _ ha]

theorem mul_min (a b : Int) (h : -9223372036854775808 ≤ a * b ∧ a * b ≤ 9223372036854775807) : ¬ (a = -9223372036854775808 ∧ b = -1) := by
  rintro ⟨rfl, rfl⟩; omega

theorem mul_over (a b : Int) (ha : -9223372036854775808 ≤ a ∧ a ≤ 9223372036854775807) (hb : -9223372036854775808 ≤ b ∧ b ≤ 9223372036854775807) (h0 : b ≠ 0)
    (h : ¬ (-9223372036854775808 ≤ a * b ∧ a * b ≤ 9223372036854775807)) (hm : ¬ (a = -9223372036854775808 ∧ b = -1)) : wrap64 ((wrap64 (a * b)).tdiv b) ≠ a := by
  intro e
  by_cases hb1 : b = -1
  · subst hb1; omega
  · have hw := wrap_bd (a * b)
    rw [wrap_in _ (tdiv_bd _ b hw (fun x => hb1 x.2))] at e
    obtain ⟨k, hk⟩ := wrap_mod (a * b)
    have hn := tdiv_near (wrap64 (a * b)) b h0
    rw [e] at hn
    have : k = 0 := by omega
    subst this
    omega
end Go.Proofs.YticdcnbeemkapaaGreatDoor
namespace Go.Proofs.YticdcnbeemkapaaGreatDoor
open Go.RowKit
set_option linter.unusedVariables false
--BEGIN
def truP (b : Bool) : V3 := (2, if b = true then 1 else 0, ⟨#[]⟩)
def overP (n : Int) : Int × Int := if -9223372036854775808 ≤ n ∧ n ≤ 9223372036854775807 then (n, 0) else (0, 9)
/-- What Reckon comes to: of the five operations. -/
def rkP (op : List UInt8) (a b : Int) : Int × Int :=
  if op = [43] then overP (a + b) else if op = [45] then overP (a - b) else if op = [42] then overP (a * b) else if op = [47] then (if b = 0 ∨ (a = -9223372036854775808 ∧ b = -1) then (0, 9) else (a.tdiv b, 0)) else if b = 0 then (0, 9) else (a.tmod b, 0)
def rkV (op : List UInt8) (a b : Int) : V3 × Int := if (rkP op a b).2 ≠ 0 then (noV, (rkP op a b).2) else ((1, (rkP op a b).1, ⟨#[]⟩), 0)
/-- Whether a comparison is so of two that stand in that order. -/
def holdsP (op : List UInt8) (o : Int) : Bool :=
  if op = [61] then o == 0 else if op = [60, 62] then o != 0 else if op = [60] then decide (o < 0) else if op = [60, 61] then decide (o ≤ 0) else if op = [62] then decide (0 < o) else decide (0 ≤ o)
def isY (v : V3) : Bool := v.2.1 == 1
def cmpV (op : List UInt8) (a b : V3) : V3 × Int :=
  if cmpE a.1 a.2.1 a.2.2.data.toList b.1 b.2.1 b.2.2.data.toList ≠ 0 then (noV, cmpE a.1 a.2.1 a.2.2.data.toList b.1 b.2.1 b.2.2.data.toList)
  else (truP (holdsP op (cmpN a.1 a.2.1 a.2.2.data.toList b.1 b.2.1 b.2.2.data.toList)), 0)
def ops5 : List (List UInt8) := [[43], [45], [42], [47], [37]]
/-- An operation of values that its rule lets through. -/
def appP (op : List UInt8) (vs : List V3) : V3 × Int :=
  if op = [111, 114] then (truP (isY (vs[0]?.getD noV) || isY (vs[1]?.getD noV)), 0)
  else if op = [97, 110, 100] then (truP (isY (vs[0]?.getD noV) && isY (vs[1]?.getD noV)), 0)
  else if op = [110, 111, 116] then (truP (!isY (vs[0]?.getD noV)), 0)
  else if ops5.contains op = true then rkV op (vs[0]?.getD noV).2.1 (vs[1]?.getD noV).2.1
  else if op = [110, 101, 103] then rkV [45] 0 (vs[0]?.getD noV).2.1
  else if op = [108, 101, 110] then ((1, ((vs[0]?.getD noV).2.2.size : Int), ⟨#[]⟩), 0)
  else if op = [105, 102] then (if isY (vs[0]?.getD noV) = true then vs[1]?.getD noV else vs[2]?.getD noV, 0)
  else cmpV op (vs[0]?.getD noV) (vs[1]?.getD noV)
/-- What is wrong with the first value that is wrong. -/
def vlE : List V3 → Int
  | [] => 0
  | r :: rs => if chk r.1 r.2.1 r.2.2.data.toList ≠ 0 then chk r.1 r.2.1 r.2.2.data.toList else vlE rs
/-- Do of any operation and any values. -/
def doP (op : List UInt8) (vs : List V3) : V3 × Int :=
  if vlE vs ≠ 0 then (noV, vlE vs) else if (ruleP op (vs.map (·.1))).2 ≠ 0 then (noV, (ruleP op (vs.map (·.1))).2) else appP op vs
/-- What follows of what the parts come to. -/
def firstE : List (V3 × Int) → Int
  | [] => 0
  | r :: rs => if r.2 ≠ 0 then r.2 else firstE rs
def combP (op : List UInt8) : List (V3 × Int) → V3 × Int
  | [] => (noV, 0)
  | f :: rest => if f.2 ≠ 0 then (noV, f.2)
    else if ((decide (op = [97, 110, 100]) && !isY f.1) || (decide (op = [111, 114]) && isY f.1)) = true then (f.1, 0)
    else if op = [105, 102] then (if isY f.1 = true then rest[0]?.getD (noV, 0) else rest[1]?.getD (noV, 0))
    else if firstE rest ≠ 0 then (noV, firstE rest) else doP op (f.1 :: rest.map (·.1))
/-- What comes: a value of the type, or a number goes over. -/
def comes (t : Int) (r : V3 × Int) : Prop := (r.2 = 0 ∧ okV t r.1) ∨ r = (noV, 9)
theorem vlE_zero : ∀ {vs : List V3}, vlE vs = 0 ↔ ∀ v ∈ vs, chk v.1 v.2.1 v.2.2.data.toList = 0
  | [] => by simp [vlE]
  | v :: vs => by
    rw [vlE]
    by_cases h : chk v.1 v.2.1 v.2.2.data.toList = 0
    · rw [if_neg (fun hh => hh h), vlE_zero]; simp [h]
    · rw [if_pos h]; simp [h]
theorem okV_tru (b : Bool) : okV 2 (truP b) := by
  cases b
  · exact ⟨rfl, by decide, by unfold inB truP; decide⟩
  · exact ⟨rfl, by decide, by unfold inB truP; decide⟩
theorem okV_int {n : Int} (h : inB n) : okV 1 (1, n, ⟨#[]⟩) := ⟨rfl, by simp [chk], h⟩
theorem over_bd (n : Int) : ((overP n).2 = 0 ∧ inB (overP n).1 ∧ (overP n).1 = n) ∨ overP n = (0, 9) := by
  unfold overP
  split
  · rename_i h; exact .inl ⟨rfl, h, rfl⟩
  · exact .inr rfl
theorem rkP_bd (op : List UInt8) (a b : Int) (ha : inB a) (hb : inB b) : ((rkP op a b).2 = 0 ∧ inB (rkP op a b).1) ∨ rkP op a b = (0, 9) := by
  unfold rkP
  split
  · rcases over_bd (a + b) with h | h
    · exact .inl ⟨h.1, h.2.1⟩
    · exact .inr h
  · split
    · rcases over_bd (a - b) with h | h
      · exact .inl ⟨h.1, h.2.1⟩
      · exact .inr h
    · split
      · rcases over_bd (a * b) with h | h
        · exact .inl ⟨h.1, h.2.1⟩
        · exact .inr h
      · split
        · split
          · exact .inr rfl
          · rename_i h
            exact .inl ⟨rfl, tdiv_bd a b ha (fun hh => h (.inr hh))⟩
        · split
          · exact .inr rfl
          · rename_i h
            refine .inl ⟨rfl, ?_⟩
            have h1 : (a.tmod b).natAbs ≤ a.natAbs := by rw [Int.natAbs_tmod]; exact Nat.mod_le _ _
            have h2 : 0 ≤ a → 0 ≤ a.tmod b := fun h => Int.tmod_nonneg b h
            have h3 : a ≤ 0 → a.tmod b ≤ 0 := fun h => by
              have := Int.tmod_nonneg b (show 0 ≤ -a by omega)
              rw [Int.neg_tmod] at this
              omega
            unfold inB at ha hb ⊢
            simp only
            omega
theorem rkV_comes (op : List UInt8) (a b : Int) (ha : inB a) (hb : inB b) : comes 1 (rkV op a b) := by
  unfold rkV
  rcases rkP_bd op a b ha hb with ⟨h, h2⟩ | h
  · rw [if_neg (fun hh => hh h)]
    exact .inl ⟨rfl, okV_int h2⟩
  · rw [h, if_pos (by decide)]
    exact .inr rfl
theorem cmpV_comes (op : List UInt8) (a b : V3) (ha : chk a.1 a.2.1 a.2.2.data.toList = 0) (hb : chk b.1 b.2.1 b.2.2.data.toList = 0) (ht : a.1 = b.1) : comes 2 (cmpV op a b) ∧ (cmpV op a b).2 = 0 := by
  unfold cmpV
  have h : cmpE a.1 a.2.1 a.2.2.data.toList b.1 b.2.1 b.2.2.data.toList = 0 := by
    rw [cmpE, if_neg (fun hh => hh ha), if_neg (fun hh => hh hb), if_neg (fun hh => hh ht)]
  rw [if_neg (fun hh => hh h)]
  exact ⟨.inl ⟨rfl, okV_tru _⟩, rfl⟩
theorem ruleP_in {op : List UInt8} {ts : List Int} {T : Int} (hr : ruleP op ts = (T, 0)) : ∃ r, kdFind op kdRules = some r ∧ ts.length = kdCnt r ∧ kdAll (ts.getLast?.getD 0) ts [r.2.1, r.2.2.1, r.2.2.2.1] = true ∧ kdMeant (ts.getLast?.getD 0) r.2.2.2.2 = T := by
  unfold ruleP at hr
  split at hr
  · simp at hr
  · rename_i r hf
    split at hr
    · simp at hr
    · split at hr
      · simp at hr
      · rename_i hlen
        split at hr
        · rename_i hall
          exact ⟨r, hf, by simpa using hlen, hall, by simpa using hr⟩
        · simp at hr
/-- Of values that are right, and that the rule lets through, an operation comes to its type. -/
theorem app_comes {op : List UInt8} {vs : List V3} {T : Int} (hv : ∀ v ∈ vs, chk v.1 v.2.1 v.2.2.data.toList = 0) (hb : ∀ v ∈ vs, inB v.2.1) (hr : ruleP op (vs.map (·.1)) = (T, 0)) : comes T (appP op vs) := by
  obtain ⟨r, hf, hlen, hall, hT⟩ := ruleP_in hr
  rw [List.length_map] at hlen
  obtain ⟨hm, he⟩ := kdFind_mem hf
  subst he
  simp only [kdRules, List.mem_cons, List.not_mem_nil, or_false] at hm
  have len1 : ∀ {l : List V3}, l.length = 1 → ∃ a, l = [a] := fun {l} h => by
    match l, h with
    | [a], _ => exact ⟨a, rfl⟩
  have len2 : ∀ {l : List V3}, l.length = 2 → ∃ a b, l = [a, b] := fun {l} h => by
    match l, h with
    | [a, b], _ => exact ⟨a, b, rfl⟩
  have len3 : ∀ {l : List V3}, l.length = 3 → ∃ a b c, l = [a, b, c] := fun {l} h => by
    match l, h with
    | [a, b, c], _ => exact ⟨a, b, c, rfl⟩
  rcases hm with rfl | rfl | rfl | rfl | rfl | rfl | rfl | rfl | rfl | rfl | rfl | rfl | rfl | rfl | rfl | rfl | rfl
  · obtain rfl : T = 2 := hT.symm
    exact .inl ⟨rfl, okV_tru _⟩
  · obtain rfl : T = 2 := hT.symm
    exact .inl ⟨rfl, okV_tru _⟩
  · obtain rfl : T = 2 := hT.symm
    exact .inl ⟨rfl, okV_tru _⟩
  · obtain ⟨a, b, rfl⟩ := len2 hlen
    obtain rfl : T = 2 := hT.symm
    exact (cmpV_comes _ a b (hv a (by simp)) (hv b (by simp)) (by simpa [kdAll, kdMeant] using hall)).1
  · obtain ⟨a, b, rfl⟩ := len2 hlen
    obtain rfl : T = 2 := hT.symm
    exact (cmpV_comes _ a b (hv a (by simp)) (hv b (by simp)) (by simpa [kdAll, kdMeant] using hall)).1
  · obtain ⟨a, b, rfl⟩ := len2 hlen
    obtain rfl : T = 2 := hT.symm
    exact (cmpV_comes _ a b (hv a (by simp)) (hv b (by simp)) (by simpa [kdAll, kdMeant] using hall)).1
  · obtain ⟨a, b, rfl⟩ := len2 hlen
    obtain rfl : T = 2 := hT.symm
    exact (cmpV_comes _ a b (hv a (by simp)) (hv b (by simp)) (by simpa [kdAll, kdMeant] using hall)).1
  · obtain ⟨a, b, rfl⟩ := len2 hlen
    obtain rfl : T = 2 := hT.symm
    exact (cmpV_comes _ a b (hv a (by simp)) (hv b (by simp)) (by simpa [kdAll, kdMeant] using hall)).1
  · obtain ⟨a, b, rfl⟩ := len2 hlen
    obtain rfl : T = 2 := hT.symm
    exact (cmpV_comes _ a b (hv a (by simp)) (hv b (by simp)) (by simpa [kdAll, kdMeant] using hall)).1
  · obtain ⟨a, b, rfl⟩ := len2 hlen
    obtain rfl : T = 1 := hT.symm
    exact rkV_comes _ a.2.1 b.2.1 (hb a (by simp)) (hb b (by simp))
  · obtain ⟨a, b, rfl⟩ := len2 hlen
    obtain rfl : T = 1 := hT.symm
    exact rkV_comes _ a.2.1 b.2.1 (hb a (by simp)) (hb b (by simp))
  · obtain ⟨a, b, rfl⟩ := len2 hlen
    obtain rfl : T = 1 := hT.symm
    exact rkV_comes _ a.2.1 b.2.1 (hb a (by simp)) (hb b (by simp))
  · obtain ⟨a, b, rfl⟩ := len2 hlen
    obtain rfl : T = 1 := hT.symm
    exact rkV_comes _ a.2.1 b.2.1 (hb a (by simp)) (hb b (by simp))
  · obtain ⟨a, b, rfl⟩ := len2 hlen
    obtain rfl : T = 1 := hT.symm
    exact rkV_comes _ a.2.1 b.2.1 (hb a (by simp)) (hb b (by simp))
  · obtain ⟨a, rfl⟩ := len1 hlen
    obtain rfl : T = 1 := hT.symm
    exact rkV_comes [45] 0 a.2.1 (by unfold inB; omega) (hb a (by simp))
  · obtain ⟨a, rfl⟩ := len1 hlen
    obtain rfl : T = 1 := hT.symm
    have h40 := chk_size (hv a (by simp))
    refine .inl ⟨rfl, okV_int ?_⟩
    simp at h40
    unfold inB
    simp
    omega
  · obtain ⟨a, b, c, rfl⟩ := len3 hlen
    simp [kdAll, kdMeant] at hall hT
    refine .inl ⟨rfl, ?_⟩
    show okV T (if isY a = true then b else c)
    split
    · exact ⟨by rw [← hT]; exact hall.2, hv b (by simp), hb b (by simp)⟩
    · exact ⟨hT, hv c (by simp), hb c (by simp)⟩
theorem firstE_zero : ∀ {cs : List (V3 × Int)}, firstE cs = 0 ↔ ∀ r ∈ cs, r.2 = 0
  | [] => by simp [firstE]
  | r :: rs => by
    rw [firstE]
    by_cases h : r.2 = 0
    · rw [if_neg (fun hh => hh h), firstE_zero]; simp [h]
    · rw [if_pos h]; simp [h]
theorem firstE_nine : ∀ {cs : List (V3 × Int)}, (∀ r ∈ cs, r.2 = 0 ∨ r.2 = 9) → firstE cs = 0 ∨ firstE cs = 9
  | [], _ => .inl rfl
  | r :: rs, h => by
    rw [firstE]
    split
    · rename_i h0
      exact .inr ((h r (by simp)).resolve_left h0)
    · exact firstE_nine fun q hq => h q (by simp [hq])
theorem comes_err {t : Int} {r : V3 × Int} (h : comes t r) : r.2 = 0 ∨ r.2 = 9 := by
  rcases h with h | h
  · exact .inl h.1
  · exact .inr (by rw [h])
theorem comb_comes {α : Type} {op : List UInt8} {l : List α} {f : α → Int} {g : α → V3 × Int} {T : Int} (h : ∀ y ∈ l, comes (f y) (g y)) (hr : ruleP op (l.map f) = (T, 0)) : comes T (combP op (l.map g)) := by
  obtain ⟨r, hf, hlen, hall, hT⟩ := ruleP_in hr
  rw [List.length_map] at hlen
  match l, h, hr, hlen, hall, hT with
  | [], h, hr, hlen, hall, hT =>
    have := (kdCnt_ok r (kdFind_mem hf).1).1
    simp at hlen
    omega
  | y :: ys, h, hr, hlen, hall, hT =>
    rw [List.map_cons, combP]
    rcases h y (by simp) with ⟨h0, hok⟩ | h9
    · rw [if_neg (fun hh => hh h0)]
      split
      · rename_i hs
        have hop : op = [97, 110, 100] ∨ op = [111, 114] := by
          rcases Bool.or_eq_true_iff.1 hs with h | h
          · exact .inl (of_decide_eq_true (Bool.and_eq_true_iff.1 h).1)
          · exact .inr (of_decide_eq_true (Bool.and_eq_true_iff.1 h).1)
        have hr2 : r.2.1 = 2 ∧ r.2.2.2.2 = 2 := by
          rcases hop with rfl | rfl
          · obtain rfl := Option.some.inj (hf.symm.trans (show kdFind [97, 110, 100] kdRules = some ([97, 110, 100], 2, 2, 0, 2) from rfl))
            exact ⟨rfl, rfl⟩
          · obtain rfl := Option.some.inj (hf.symm.trans (show kdFind [111, 114] kdRules = some ([111, 114], 2, 2, 0, 2) from rfl))
            exact ⟨rfl, rfl⟩
        rw [hr2.2] at hT
        rw [hr2.1, List.map_cons, kdAll] at hall
        have hy : f y = 2 := by
          have := of_decide_eq_true (Bool.and_eq_true_iff.1 hall).1
          rw [this]; rfl
        obtain rfl : T = 2 := hT.symm
        rw [hy] at hok
        exact .inl ⟨rfl, hok⟩
      · split
        · rename_i hif
          subst hif
          obtain rfl := Option.some.inj (hf.symm.trans (show kdFind [105, 102] kdRules = some ([105, 102], 2, -1, -1, -1) from rfl))
          have hl2 : ys.length = 2 := by
            have : (y :: ys).length = 3 := hlen
            simpa using this
          match ys, hl2, h, hall, hT with
          | [b, c], _, h, hall, hT =>
            simp [kdAll, kdMeant] at hall hT
            show comes T (if isY (g y).1 = true then g b else g c)
            split
            · have := h b (by simp)
              rw [hall.2, hT] at this
              exact this
            · have := h c (by simp)
              rw [hT] at this
              exact this
        · split
          · rename_i hfe
            have := firstE_nine (cs := ys.map g) fun q hq => by
              obtain ⟨z, hz, rfl⟩ := List.mem_map.1 hq
              exact comes_err (h z (by simp [hz]))
            rw [this.resolve_left hfe]
            exact .inr rfl
          · rename_i hfe
            have hz := firstE_zero.1 (show firstE (ys.map g) = 0 from by simpa using hfe)
            have hall2 : ∀ z ∈ y :: ys, okV (f z) (g z).1 := fun z hz2 => by
              rcases h z hz2 with hgz | hgz
              · exact hgz.2
              · exfalso
                rcases List.mem_cons.1 hz2 with rfl | hz3
                · rw [hgz] at h0; exact absurd h0 (by decide)
                · have := hz (g z) (List.mem_map.2 ⟨z, hz3, rfl⟩)
                  rw [hgz] at this; exact absurd this (by decide)
            have hmap : ((g y).1 :: (ys.map g).map (·.1)) = (y :: ys).map (fun z => (g z).1) := by simp
            have htys : ((y :: ys).map (fun z => (g z).1)).map (·.1) = (y :: ys).map f := by
              rw [List.map_map]
              exact List.map_congr_left fun z hz => (hall2 z hz).1
            have hvl : vlE ((y :: ys).map (fun z => (g z).1)) = 0 := vlE_zero.2 fun v hv => by
              obtain ⟨z, hz, rfl⟩ := List.mem_map.1 hv
              exact (hall2 z hz).2.1
            rw [hmap, doP, if_neg (fun hh => hh hvl), htys, hr, if_neg (by simp)]
            exact app_comes (fun v hv => vlE_zero.1 hvl v hv) (fun v hv => by
              obtain ⟨z, hz, rfl⟩ := List.mem_map.1 hv
              exact (hall2 z hz).2.2) (by rw [htys]; exact hr)
    · rw [h9, if_pos (by decide)]
      exact .inr rfl
/-- A row that is right over columns. -/
def RowR (zs : List (ByteArray × Int)) (rs : List V3) : Prop := rs.length = zs.length ∧ ∀ k (h : k < zs.length) (h2 : k < rs.length), okV zs[k].2 rs[k]
--END
end Go.Proofs.YticdcnbeemkapaaGreatDoor
namespace Go.Proofs.YticdcnbeemkapaaGreatDoor
open Go.RowKit Go.BigFrame
set_option linter.unusedVariables false

theorem apL_mem {x : List UInt8} : ∀ {l : List (List UInt8 × Int)}, (apL x l).2 = true → (x, (apL x l).1) ∈ l
  | [], h => by simp [apL] at h
  | o :: os, h => by
    rw [apL] at h ⊢
    split
    · rename_i he; subst he; exact List.mem_cons_self ..
    · rename_i he; rw [if_neg he] at h; exact List.mem_cons_of_mem _ (apL_mem h)
def ruleFits (o : List UInt8 × Int) : Bool := decide (o.2 < 1) || (match kdFind o.1 kdRules with | some r => decide ((kdCnt r : Int) = o.2) | none => false)
theorem rules_fit : ∀ o ∈ opsL, ruleFits o = true := by decide
theorem rule_of_op {x : List UInt8} (h : (apL x opsL).2 = true) (h1 : 1 ≤ (apL x opsL).1) : ∃ r, kdFind x kdRules = some r ∧ (kdCnt r : Int) = (apL x opsL).1 := by
  have hf := rules_fit _ (apL_mem h)
  rw [ruleFits] at hf
  simp only at hf
  have h2 : decide ((apL x opsL).1 < 1) = false := by simp; omega
  rw [h2, Bool.false_or] at hf
  split at hf
  · rename_i r hr
    exact ⟨r, hr, of_decide_eq_true hf⟩
  · exact absurd hf (by simp)
theorem rule_types : ∀ r ∈ kdRules, r.2.2.2.2 = -1 ∨ isTy r.2.2.2.2 = true := by decide
theorem ruleP_ty {x : List UInt8} {ts : List Int} (h : (ruleP x ts).2 = 0) : isTy (ruleP x ts).1 = true := by
  cases hf : kdFind x kdRules with
  | none => rw [ruleP_none hf] at h; exact absurd h (by decide)
  | some r =>
    cases ha : ts.all isTy with
    | false => rw [ruleP_bad hf ha] at h; exact absurd h (by decide)
    | true =>
      by_cases hl : ts.length = kdCnt r
      · rw [ruleP_rest hf ha hl] at h ⊢
        split at h
        · rename_i hk
          rw [if_pos hk]
          have hm := (kdFind_mem hf).1
          rw [kdMeant]
          rcases rule_types r hm with h1 | h1
          · rw [if_pos h1]
            obtain ⟨n, hn⟩ : ∃ n, ts.length = n + 1 := ⟨ts.length - 1, by have := (kdCnt_ok r hm).1; omega⟩
            rw [last_at hn]
            exact List.all_eq_true.1 ha _ (List.getElem_mem _)
          · split
            · rename_i h2; rw [h2] at h1; exact absurd h1 (by decide)
            · exact h1
        · exact absurd h (by decide)
      · rw [ruleP_len hf ha hl] at h; exact absurd h (by decide)
theorem ruleP_err {x : List UInt8} {ts : List Int} {r : KRule} (hf : kdFind x kdRules = some r) (ha : ts.all isTy = true) (hl : ts.length = kdCnt r) : (ruleP x ts).2 = 0 ∨ ruleP x ts = (0, 8) := by
  rw [ruleP_rest hf ha hl]
  split
  · exact .inl rfl
  · exact .inr rfl
theorem tyP_ty {zs : List (ByteArray × Int)} {y : Ex} (hn : nodeE y = 0) (hs : schE zs = 0) (h : (tyP zs y).2.1 = 0) : isTy (tyP zs y).1 = true := by
  cases y with
  | node op nm vt vn vs pos l =>
    by_cases h1 : op.data.toList = [118, 97, 108]
    · have hv : ckV vt vn vs.data.toList = 0 := (node_ok hn).2.2 (by show (op.toList == [118, 97, 108]) = true; rw [Lib.toList_data]; simpa using h1)
      rw [tyP, if_pos h1]
      rw [ckV] at hv
      split at hv
      · rename_i h2; exact absurd hv h2
      · rename_i h2
        have h3 : chk vt vn vs.data.toList = 0 := by simpa using h2
        rw [chk] at h3
        split at h3
        · exact absurd h3 (by decide)
        · rename_i h4
          rw [isTy]
          simp at h4 ⊢
          omega
    · by_cases h2 : op.data.toList = [99, 111, 108]
      · rw [tyP, if_neg h1, if_pos h2] at h ⊢
        split at h
        · exact absurd (show (5 : Int) = 0 from h) (by decide)
        · rename_i h3
          rw [if_neg h3]
          rcases findN_cases nm.data.toList zs with ⟨hh, _⟩ | ⟨k, hk, hkl, _⟩
          · exact absurd hh h3
          · have := (schE_zero hs).2.2 k hkl
            rw [hk]
            simp [hkl, isTy]
            omega
      · rw [tyP_op h1 h2] at h ⊢
        split at h
        · rename_i h3; exact absurd h h3
        · rename_i h3
          rw [if_neg h3]
          split at h
          · rename_i h4; exact absurd h h4
          · rename_i h4
            rw [if_neg h4]
            exact ruleP_ty (by simpa using h4)
/-- An operation with parts is no value and no column. -/
theorem op_parts {x : Ex} (h : ckP x = 0) (hl : x.args.length ≠ 0) : x.op.data.toList ≠ [118, 97, 108] ∧ x.op.data.toList ≠ [99, 111, 108] ∧ ∃ r, kdFind x.op.data.toList kdRules = some r ∧ kdCnt r = x.args.length := by
  have hn := (ckP_zero h).2 (x, 1) (by rw [pre_eq]; exact List.mem_cons_self ..)
  obtain ⟨h1, h2, _⟩ := node_ok hn
  simp only at h1 h2
  refine ⟨fun e => ?_, fun e => ?_, ?_⟩
  · rw [e] at h2; have : (apL [118, 97, 108] opsL).1 = 0 := by decide
    omega
  · rw [e] at h2; have : (apL [99, 111, 108] opsL).1 = 0 := by decide
    omega
  · obtain ⟨r, hr, hc⟩ := rule_of_op h1 (by omega)
    exact ⟨r, hr, by omega⟩
end Go.Proofs.YticdcnbeemkapaaGreatDoor
namespace Go.Proofs.YticdcnbeemkapaaGreatDoor
open Go.RowKit
set_option linter.unusedVariables false
--BEGIN
mutual
/-- What an expression that is right comes to, of a row that is right. -/
def cmP (zs : List (ByteArray × Int)) (rs : List V3) : Ex → V3 × Int
  | .node op nm vt vn vs _ l => if op.data.toList = [118, 97, 108] then ((vt, vn, vs), 0) else if op.data.toList = [99, 111, 108] then (rs[(findN nm.data.toList zs).toNat]?.getD noV, 0) else combP op.data.toList (cmsP zs rs l)
def cmsP (zs : List (ByteArray × Int)) (rs : List V3) : List Ex → List (V3 × Int)
  | [] => []
  | x :: xs => cmP zs rs x :: cmsP zs rs xs
end
theorem cmsP_map (zs : List (ByteArray × Int)) (rs : List V3) : ∀ l : List Ex, cmsP zs rs l = l.map (cmP zs rs)
  | [] => by rw [cmsP]; rfl
  | x :: xs => by rw [cmsP, cmsP_map zs rs xs]; rfl
theorem cmP_op {zs : List (ByteArray × Int)} {rs : List V3} {op nm vs : ByteArray} {vt vn pos : Int} {l : List Ex} (h1 : op.data.toList ≠ [118, 97, 108]) (h2 : op.data.toList ≠ [99, 111, 108]) : cmP zs rs (.node op nm vt vn vs pos l) = combP op.data.toList (l.map (cmP zs rs)) := by
  rw [cmP, if_neg h1, if_neg h2, cmsP_map]
theorem tysP_ok {zs : List (ByteArray × Int)} : ∀ {l : List Ex}, (tysP zs l).2.1 = 0 → (tysP zs l).1 = l.map (fun y => (tyP zs y).1) ∧ ∀ y ∈ l, (tyP zs y).2.1 = 0
  | [], _ => by rw [tysP]; simp
  | x :: xs, h => by
    rw [tysP] at h ⊢
    by_cases h1 : (tyP zs x).2.1 = 0
    · rw [if_neg (fun hh => hh h1)] at h ⊢
      by_cases h2 : (tysP zs xs).2.1 = 0
      · rw [if_neg (fun hh => hh h2)]
        obtain ⟨i1, i2⟩ := tysP_ok h2
        refine ⟨by rw [i1]; rfl, fun y hy => ?_⟩
        rcases List.mem_cons.1 hy with rfl | hy
        · exact h1
        · exact i2 y hy
      · rw [if_pos h2] at h
        exact absurd h h2
    · rw [if_pos h1] at h
      exact absurd h h1
/-- What has a type comes to it, or a number goes over. -/
theorem cm_comes {zs : List (ByteArray × Int)} {rs : List V3} (hrow : RowR zs rs) : ∀ (x : Ex) (d : Nat), (∀ q ∈ x.pre d, nodeE q.1 = 0) → (∀ q ∈ x.pre d, inB q.1.vn) → (tyP zs x).2.1 = 0 → comes (tyP zs x).1 (cmP zs rs x) := by
  refine Ex.ind fun op nm vt vn vs pos l ih d hpre hin ht => ?_
  have hself : ((.node op nm vt vn vs pos l : Ex), d) ∈ (Ex.node op nm vt vn vs pos l).pre d := by rw [Ex.pre]; exact List.mem_cons_self ..
  by_cases h1 : op.data.toList = [118, 97, 108]
  · rw [tyP, if_pos h1, cmP, if_pos h1]
    have hn := (node_ok (hpre _ hself)).2.2 (by simp [Ex.op, Lib.toList_data, h1])
    have hi := hin _ hself
    simp only [Ex.vt, Ex.vn, Ex.vs] at hn hi
    unfold ckV at hn
    by_cases hc : chk vt vn vs.data.toList = 0
    · exact .inl ⟨rfl, rfl, hc, hi⟩
    · rw [if_pos hc] at hn
      exact absurd hn hc
  · by_cases h2 : op.data.toList = [99, 111, 108]
    · rw [tyP, if_neg h1, if_pos h2] at ht ⊢
      rw [cmP, if_neg h1, if_pos h2]
      rcases findN_cases nm.data.toList zs with ⟨h, _⟩ | ⟨k, hk, hlt, _⟩
      · rw [if_pos h] at ht
        exact absurd ht (by simp)
      · rw [if_neg (by omega), hk]
        have hl := hrow.1
        have := hrow.2 k hlt (by omega)
        refine .inl ⟨rfl, ?_⟩
        rw [Int.toNat_natCast, List.getElem?_eq_getElem hlt, List.getElem?_eq_getElem (by omega)]
        exact this
    · rw [tyP_op h1 h2] at ht ⊢
      rw [cmP_op h1 h2]
      by_cases ht0 : (tysP zs l).2.1 = 0
      · rw [if_neg (fun hh => hh ht0)] at ht ⊢
        obtain ⟨hm, hall⟩ := tysP_ok ht0
        by_cases hr0 : (ruleP op.data.toList (tysP zs l).1).2 = 0
        · rw [if_neg (fun hh => hh hr0)]
          rw [hm] at hr0 ⊢
          refine comb_comes (f := fun y => (tyP zs y).1) (fun y hy => ?_) (Prod.ext rfl hr0)
          have hsub : ∀ q ∈ y.pre (d + 1), q ∈ (Ex.node op nm vt vn vs pos l).pre d := fun q hq => by
            rw [Ex.pre]; exact List.mem_cons_of_mem _ (pres_mem hy q hq)
          exact ih y hy (d + 1) (fun q hq => hpre q (hsub q hq)) (fun q hq => hin q (hsub q hq)) (hall y hy)
        · rw [if_pos hr0] at ht
          exact absurd ht hr0
      · rw [if_pos ht0] at ht
        exact absurd ht ht0
--END
end Go.Proofs.YticdcnbeemkapaaGreatDoor
namespace Go.Proofs.YticdcnbeemkapaaGreatDoor
open Go.RowKit
set_option linter.unusedVariables false

theorem ret2 {k : IntKind} {a b : Int} {x : Value} (h : a = b) : Ending.returned (.tuple #[.int k a, x]) = .returned (.tuple #[.int k b, x]) := by rw [h]
theorem add_ok (a b : Int) (w : World) (ha : -9223372036854775808 ≤ a ∧ a ≤ 9223372036854775807) (hb : -9223372036854775808 ≤ b ∧ b ≤ 9223372036854775807)
    (hn : -9223372036854775808 ≤ a + b ∧ a + b ≤ 9223372036854775807) :
    Calls Tryz.prog 139 #[.int .i64 a, .int .i64 b] w fun e w' => e = .returned (.tuple #[.int .i64 (a + b), .nilIface]) ∧ w' = w := by
  go_enter Tryz.func139, Tryz.ntmps139
  go_wp2
  all_goals first | (exfalso; omega) | (go_ret2; exact ⟨rfl, rfl⟩)
theorem add_over (a b : Int) (w : World) (ha : -9223372036854775808 ≤ a ∧ a ≤ 9223372036854775807) (hb : -9223372036854775808 ≤ b ∧ b ≤ 9223372036854775807)
    (hn : ¬ (-9223372036854775808 ≤ a + b ∧ a + b ≤ 9223372036854775807)) :
    Calls Tryz.prog 139 #[.int .i64 a, .int .i64 b] w fun e w' => e = .returned (.tuple #[.int .i64 0, .iface 42 (.int .i64 9)]) ∧ w' = w := by
  have hw : (b < 0 ∧ a < wrap64 (a + b)) ∨ (0 < b ∧ wrap64 (a + b) < a) := by unfold wrap64; omega
  rcases hw with ⟨h1, h2⟩ | ⟨h1, h2⟩
  all_goals
    go_enter Tryz.func139, Tryz.ntmps139
    go_wp2
    all_goals first | (exfalso; omega) | (go_ret2; exact ⟨rfl, rfl⟩)
theorem sub_ok (a b : Int) (w : World) (ha : -9223372036854775808 ≤ a ∧ a ≤ 9223372036854775807) (hb : -9223372036854775808 ≤ b ∧ b ≤ 9223372036854775807)
    (hn : -9223372036854775808 ≤ a - b ∧ a - b ≤ 9223372036854775807) :
    Calls Tryz.prog 140 #[.int .i64 a, .int .i64 b] w fun e w' => e = .returned (.tuple #[.int .i64 (a - b), .nilIface]) ∧ w' = w := by
  go_enter Tryz.func140, Tryz.ntmps140
  go_wp2
  all_goals first | (exfalso; omega) | (go_ret2; exact ⟨rfl, rfl⟩)
theorem sub_over (a b : Int) (w : World) (ha : -9223372036854775808 ≤ a ∧ a ≤ 9223372036854775807) (hb : -9223372036854775808 ≤ b ∧ b ≤ 9223372036854775807)
    (hn : ¬ (-9223372036854775808 ≤ a - b ∧ a - b ≤ 9223372036854775807)) :
    Calls Tryz.prog 140 #[.int .i64 a, .int .i64 b] w fun e w' => e = .returned (.tuple #[.int .i64 0, .iface 42 (.int .i64 9)]) ∧ w' = w := by
  have hw : (b < 0 ∧ wrap64 (a - b) < a) ∨ (0 < b ∧ a < wrap64 (a - b)) := by unfold wrap64; omega
  rcases hw with ⟨h1, h2⟩ | ⟨h1, h2⟩
  all_goals
    go_enter Tryz.func140, Tryz.ntmps140
    go_wp2
    all_goals first | (exfalso; omega) | (go_ret2; exact ⟨rfl, rfl⟩)
theorem div_ok (a b : Int) (w : World) (ha : -9223372036854775808 ≤ a ∧ a ≤ 9223372036854775807) (hb : -9223372036854775808 ≤ b ∧ b ≤ 9223372036854775807)
    (h0 : b ≠ 0) (hm : ¬ (a = -9223372036854775808 ∧ b = -1)) :
    Calls Tryz.prog 142 #[.int .i64 a, .int .i64 b] w fun e w' => e = .returned (.tuple #[.int .i64 (a.tdiv b), .nilIface]) ∧ w' = w := by
  have hq : wrap64 (a.tdiv b) = a.tdiv b := wrap_in _ (tdiv_bd a b ha hm)
  have e0 : (b == 0) = false := by simpa using h0
  by_cases h1 : a = -9223372036854775808
  · subst h1
    have e1 : (b == -1) = false := by simpa using hm
    have hq2 := hq
    rw [Int.neg_tdiv] at hq2
    go_enter Tryz.func142, Tryz.ntmps142
    go_wp2
    go_ret2; exact ⟨rfl, rfl⟩
  · have e1 : (a == -9223372036854775808) = false := by simpa using h1
    go_enter Tryz.func142, Tryz.ntmps142
    go_wp2
    go_ret2; exact ⟨ret2 hq, rfl⟩
theorem div_over (a b : Int) (w : World) (ha : -9223372036854775808 ≤ a ∧ a ≤ 9223372036854775807) (hb : -9223372036854775808 ≤ b ∧ b ≤ 9223372036854775807)
    (h0 : b = 0 ∨ (a = -9223372036854775808 ∧ b = -1)) :
    Calls Tryz.prog 142 #[.int .i64 a, .int .i64 b] w fun e w' => e = .returned (.tuple #[.int .i64 0, .iface 42 (.int .i64 9)]) ∧ w' = w := by
  rcases h0 with rfl | ⟨rfl, rfl⟩
  all_goals
    go_enter Tryz.func142, Tryz.ntmps142
    go_wp2
    go_ret2; exact ⟨rfl, rfl⟩
theorem mul_okC (a b : Int) (w : World) (ha : -9223372036854775808 ≤ a ∧ a ≤ 9223372036854775807) (hb : -9223372036854775808 ≤ b ∧ b ≤ 9223372036854775807)
    (hn : -9223372036854775808 ≤ a * b ∧ a * b ≤ 9223372036854775807) :
    Calls Tryz.prog 141 #[.int .i64 a, .int .i64 b] w fun e w' => e = .returned (.tuple #[.int .i64 (a * b), .nilIface]) ∧ w' = w := by
  by_cases h0 : b = 0
  · subst h0
    go_enter Tryz.func141, Tryz.ntmps141
    go_wp2
    go_ret2; exact ⟨by simp, rfl⟩
  · have e0 : (b == 0) = false := by simpa using h0
    have h1 := mul_back a b ha h0 hn
    have h2 := wrap_in _ hn
    have h3 := mul_min a b hn
    rw [h2] at h1
    by_cases hm : a = -9223372036854775808
    · subst hm
      have e1 : (b == -1) = false := by simpa using h3
      go_enter Tryz.func141, Tryz.ntmps141
      go_wp2
      go_ret2; exact ⟨rfl, rfl⟩
    · have e1 : (a == -9223372036854775808) = false := by simpa using hm
      go_enter Tryz.func141, Tryz.ntmps141
      go_wp2
      go_ret2; exact ⟨rfl, rfl⟩
theorem mul_overC (a b : Int) (w : World) (ha : -9223372036854775808 ≤ a ∧ a ≤ 9223372036854775807) (hb : -9223372036854775808 ≤ b ∧ b ≤ 9223372036854775807)
    (hn : ¬ (-9223372036854775808 ≤ a * b ∧ a * b ≤ 9223372036854775807)) :
    Calls Tryz.prog 141 #[.int .i64 a, .int .i64 b] w fun e w' => e = .returned (.tuple #[.int .i64 0, .iface 42 (.int .i64 9)]) ∧ w' = w := by
  have h0 : b ≠ 0 := by rintro rfl; omega
  have e0 : (b == 0) = false := by simpa using h0
  by_cases hm : a = -9223372036854775808 ∧ b = -1
  · obtain ⟨rfl, rfl⟩ := hm
    clear hn
    go_enter Tryz.func141, Tryz.ntmps141
    go_wp2
    all_goals first | (go_ret2; exact ⟨rfl, rfl⟩)
  · have h1 := mul_over a b ha hb h0 hn hm
    clear hn hm
    go_enter Tryz.func141, Tryz.ntmps141
    go_wp2
    all_goals first | contradiction | (go_ret2; exact ⟨rfl, rfl⟩)
theorem rem_ok (a b : Int) (w : World) (ha : -9223372036854775808 ≤ a ∧ a ≤ 9223372036854775807) (hb : -9223372036854775808 ≤ b ∧ b ≤ 9223372036854775807)
    (h0 : b ≠ 0) :
    Calls Tryz.prog 143 #[.int .i64 a, .int .i64 b] w fun e w' => e = .returned (.tuple #[.int .i64 (a.tmod b), .nilIface]) ∧ w' = w := by
  have e0 : (b == 0) = false := by simpa using h0
  go_enter Tryz.func143, Tryz.ntmps143
  go_wp2
  go_ret2; exact ⟨rfl, rfl⟩
theorem rem_over (a : Int) (w : World) (ha : -9223372036854775808 ≤ a ∧ a ≤ 9223372036854775807) :
    Calls Tryz.prog 143 #[.int .i64 a, .int .i64 0] w fun e w' => e = .returned (.tuple #[.int .i64 0, .iface 42 (.int .i64 9)]) ∧ w' = w := by
  go_enter Tryz.func143, Tryz.ntmps143
  go_wp2
  go_ret2; exact ⟨rfl, rfl⟩
theorem rk_remx (a : Int) (w : World) (ha : -9223372036854775808 ≤ a ∧ a ≤ 9223372036854775807) :
    Calls Tryz.prog 116 #[.string { data := #[37] }, .int .i64 a, .int .i64 0] w fun e w' => e = .returned (.tuple #[.int .i64 0, .iface 42 (.int .i64 9)]) ∧ w' = w := by
  go_enter Tryz.func116, Tryz.ntmps116
  go_wp2_with (first | (go_at_call 143; refine (rem_over a _ ha).mono ?_; rintro e w' ⟨rfl, rfl⟩))
  go_ret2; exact ⟨rfl, rfl⟩
theorem rk_add (a b : Int) (w : World) (ha : -9223372036854775808 ≤ a ∧ a ≤ 9223372036854775807) (hb : -9223372036854775808 ≤ b ∧ b ≤ 9223372036854775807)
    (hn : -9223372036854775808 ≤ a + b ∧ a + b ≤ 9223372036854775807) :
    Calls Tryz.prog 116 #[.string { data := #[43] }, .int .i64 a, .int .i64 b] w fun e w' => e = .returned (.tuple #[.int .i64 (a + b), .nilIface]) ∧ w' = w := by
  go_enter Tryz.func116, Tryz.ntmps116
  go_wp2_with (first | (go_at_call 139; refine (add_ok a b _ ha hb hn).mono ?_; rintro e w' ⟨rfl, rfl⟩))
  go_ret2; exact ⟨rfl, rfl⟩
theorem rk_addx (a b : Int) (w : World) (ha : -9223372036854775808 ≤ a ∧ a ≤ 9223372036854775807) (hb : -9223372036854775808 ≤ b ∧ b ≤ 9223372036854775807)
    (hn : ¬ (-9223372036854775808 ≤ a + b ∧ a + b ≤ 9223372036854775807)) :
    Calls Tryz.prog 116 #[.string { data := #[43] }, .int .i64 a, .int .i64 b] w fun e w' => e = .returned (.tuple #[.int .i64 0, .iface 42 (.int .i64 9)]) ∧ w' = w := by
  go_enter Tryz.func116, Tryz.ntmps116
  go_wp2_with (first | (go_at_call 139; refine (add_over a b _ ha hb hn).mono ?_; rintro e w' ⟨rfl, rfl⟩))
  go_ret2; exact ⟨rfl, rfl⟩
theorem rk_sub (a b : Int) (w : World) (ha : -9223372036854775808 ≤ a ∧ a ≤ 9223372036854775807) (hb : -9223372036854775808 ≤ b ∧ b ≤ 9223372036854775807)
    (hn : -9223372036854775808 ≤ a - b ∧ a - b ≤ 9223372036854775807) :
    Calls Tryz.prog 116 #[.string { data := #[45] }, .int .i64 a, .int .i64 b] w fun e w' => e = .returned (.tuple #[.int .i64 (a - b), .nilIface]) ∧ w' = w := by
  go_enter Tryz.func116, Tryz.ntmps116
  go_wp2_with (first | (go_at_call 140; refine (sub_ok a b _ ha hb hn).mono ?_; rintro e w' ⟨rfl, rfl⟩))
  go_ret2; exact ⟨rfl, rfl⟩
theorem rk_mul (a b : Int) (w : World) (ha : -9223372036854775808 ≤ a ∧ a ≤ 9223372036854775807) (hb : -9223372036854775808 ≤ b ∧ b ≤ 9223372036854775807)
    (hn : -9223372036854775808 ≤ a * b ∧ a * b ≤ 9223372036854775807) :
    Calls Tryz.prog 116 #[.string { data := #[42] }, .int .i64 a, .int .i64 b] w fun e w' => e = .returned (.tuple #[.int .i64 (a * b), .nilIface]) ∧ w' = w := by
  go_enter Tryz.func116, Tryz.ntmps116
  go_wp2_with (first | (go_at_call 141; refine (mul_okC a b _ ha hb hn).mono ?_; rintro e w' ⟨rfl, rfl⟩))
  go_ret2; exact ⟨rfl, rfl⟩
theorem rk_mulx (a b : Int) (w : World) (ha : -9223372036854775808 ≤ a ∧ a ≤ 9223372036854775807) (hb : -9223372036854775808 ≤ b ∧ b ≤ 9223372036854775807)
    (hn : ¬ (-9223372036854775808 ≤ a * b ∧ a * b ≤ 9223372036854775807)) :
    Calls Tryz.prog 116 #[.string { data := #[42] }, .int .i64 a, .int .i64 b] w fun e w' => e = .returned (.tuple #[.int .i64 0, .iface 42 (.int .i64 9)]) ∧ w' = w := by
  go_enter Tryz.func116, Tryz.ntmps116
  go_wp2_with (first | (go_at_call 141; refine (mul_overC a b _ ha hb hn).mono ?_; rintro e w' ⟨rfl, rfl⟩))
  go_ret2; exact ⟨rfl, rfl⟩
theorem rk_div (a b : Int) (w : World) (ha : -9223372036854775808 ≤ a ∧ a ≤ 9223372036854775807) (hb : -9223372036854775808 ≤ b ∧ b ≤ 9223372036854775807)
    (h0 : b ≠ 0) (hm : ¬ (a = -9223372036854775808 ∧ b = -1)) :
    Calls Tryz.prog 116 #[.string { data := #[47] }, .int .i64 a, .int .i64 b] w fun e w' => e = .returned (.tuple #[.int .i64 (a.tdiv b), .nilIface]) ∧ w' = w := by
  go_enter Tryz.func116, Tryz.ntmps116
  go_wp2_with (first | (go_at_call 142; refine (div_ok a b _ ha hb h0 hm).mono ?_; rintro e w' ⟨rfl, rfl⟩))
  go_ret2; exact ⟨rfl, rfl⟩
theorem rk_divx (a b : Int) (w : World) (ha : -9223372036854775808 ≤ a ∧ a ≤ 9223372036854775807) (hb : -9223372036854775808 ≤ b ∧ b ≤ 9223372036854775807)
    (h0 : b = 0 ∨ (a = -9223372036854775808 ∧ b = -1)) :
    Calls Tryz.prog 116 #[.string { data := #[47] }, .int .i64 a, .int .i64 b] w fun e w' => e = .returned (.tuple #[.int .i64 0, .iface 42 (.int .i64 9)]) ∧ w' = w := by
  go_enter Tryz.func116, Tryz.ntmps116
  go_wp2_with (first | (go_at_call 142; refine (div_over a b _ ha hb h0).mono ?_; rintro e w' ⟨rfl, rfl⟩))
  go_ret2; exact ⟨rfl, rfl⟩
theorem rk_rem (a b : Int) (w : World) (ha : -9223372036854775808 ≤ a ∧ a ≤ 9223372036854775807) (hb : -9223372036854775808 ≤ b ∧ b ≤ 9223372036854775807)
    (h0 : b ≠ 0) :
    Calls Tryz.prog 116 #[.string { data := #[37] }, .int .i64 a, .int .i64 b] w fun e w' => e = .returned (.tuple #[.int .i64 (a.tmod b), .nilIface]) ∧ w' = w := by
  go_enter Tryz.func116, Tryz.ntmps116
  go_wp2_with (first | (go_at_call 143; refine (rem_ok a b _ ha hb h0).mono ?_; rintro e w' ⟨rfl, rfl⟩))
  go_ret2; exact ⟨rfl, rfl⟩
theorem rk_subx (a b : Int) (w : World) (ha : -9223372036854775808 ≤ a ∧ a ≤ 9223372036854775807) (hb : -9223372036854775808 ≤ b ∧ b ≤ 9223372036854775807)
    (hn : ¬ (-9223372036854775808 ≤ a - b ∧ a - b ≤ 9223372036854775807)) :
    Calls Tryz.prog 116 #[.string { data := #[45] }, .int .i64 a, .int .i64 b] w fun e w' => e = .returned (.tuple #[.int .i64 0, .iface 42 (.int .i64 9)]) ∧ w' = w := by
  go_enter Tryz.func116, Tryz.ntmps116
  go_wp2_with (first | (go_at_call 140; refine (sub_over a b _ ha hb hn).mono ?_; rintro e w' ⟨rfl, rfl⟩))
  go_ret2; exact ⟨rfl, rfl⟩
theorem rk_other (op : ByteArray) (a b : Int) (w : World)
    (h1 : op.data.toList ≠ [43]) (h2 : op.data.toList ≠ [45]) (h3 : op.data.toList ≠ [42]) (h4 : op.data.toList ≠ [47]) (h5 : op.data.toList ≠ [37]) :
    Calls Tryz.prog 116 #[.string op, .int .i64 a, .int .i64 b] w fun e w' => e = .returned (.tuple #[.int .i64 0, .iface 42 (.int .i64 1)]) ∧ w' = w := by
  have q1 : (op.toList == [43]) = false := by rw [Lib.toList_data]; simpa using h1
  have q2 : (op.toList == [45]) = false := by rw [Lib.toList_data]; simpa using h2
  have q3 : (op.toList == [42]) = false := by rw [Lib.toList_data]; simpa using h3
  have q4 : (op.toList == [47]) = false := by rw [Lib.toList_data]; simpa using h4
  have q5 : (op.toList == [37]) = false := by rw [Lib.toList_data]; simpa using h5
  clear h1 h2 h3 h4 h5
  go_enter Tryz.func116, Tryz.ntmps116
  go_wp2
  go_ret2; exact ⟨rfl, rfl⟩
/-- Either way: a number within bounds, and an error or none. -/
theorem rk_addany (a b : Int) (w : World) (ha : -9223372036854775808 ≤ a ∧ a ≤ 9223372036854775807) (hb : -9223372036854775808 ≤ b ∧ b ≤ 9223372036854775807) :
    Calls Tryz.prog 116 #[.string { data := #[43] }, .int .i64 a, .int .i64 b] w fun e w' => ∃ (n : Int) (x : Value), e = .returned (.tuple #[.int .i64 n, x]) ∧ w' = w ∧ -9223372036854775808 ≤ n ∧ n ≤ 9223372036854775807 := by
  by_cases hn : -9223372036854775808 ≤ a + b ∧ a + b ≤ 9223372036854775807
  · exact (rk_add a b w ha hb hn).mono fun e w' h => ⟨_, _, h.1, h.2, hn.1, hn.2⟩
  · exact (rk_addx a b w ha hb hn).mono fun e w' h => ⟨_, _, h.1, h.2, by omega, by omega⟩
theorem rk_mulany (a b : Int) (w : World) (ha : -9223372036854775808 ≤ a ∧ a ≤ 9223372036854775807) (hb : -9223372036854775808 ≤ b ∧ b ≤ 9223372036854775807) :
    Calls Tryz.prog 116 #[.string { data := #[42] }, .int .i64 a, .int .i64 b] w fun e w' => ∃ (n : Int) (x : Value), e = .returned (.tuple #[.int .i64 n, x]) ∧ w' = w ∧ -9223372036854775808 ≤ n ∧ n ≤ 9223372036854775807 := by
  by_cases hn : -9223372036854775808 ≤ a * b ∧ a * b ≤ 9223372036854775807
  · exact (rk_mul a b w ha hb hn).mono fun e w' h => ⟨_, _, h.1, h.2, hn.1, hn.2⟩
  · exact (rk_mulx a b w ha hb hn).mono fun e w' h => ⟨_, _, h.1, h.2, by omega, by omega⟩
end Go.Proofs.YticdcnbeemkapaaGreatDoor
