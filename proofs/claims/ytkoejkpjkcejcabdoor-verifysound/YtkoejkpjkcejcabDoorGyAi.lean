/-
  Arith, EvV, KdOps, CdO, VfP, in one text.
-/
import Derived.RowKit
import Derived.Test.YtkoejkpjkcejcabDoorGyAa
import Derived.Test.YtkoejkpjkcejcabDoorYKdRuleC
import Derived.Test.YtkoejkpjkcejcabDoorGyAg
import Derived.Deep.QuietTactic
import Derived.BigQuiet
import Derived.WalkSmall
import Derived.Test.YtkoejkpjkcejcabDoorYKdP
namespace Go.Proofs.YtkoejkpjkcejcabDoor
open Go.RowKit

theorem wrap_in (n : Int) (h : -9223372036854775808 ≤ n ∧ n ≤ 9223372036854775807) : wrap64 n = n := by unfold wrap64; omega
theorem wrap_bd (n : Int) : -9223372036854775808 ≤ wrap64 n ∧ wrap64 n ≤ 9223372036854775807 := by unfold wrap64; omega
theorem wrap_mod (n : Int) : ∃ k : Int, wrap64 n = n + k * 18446744073709551616 := by
  unfold wrap64
  exact ⟨-((n + 9223372036854775808) / 18446744073709551616), by omega⟩

theorem tdiv_near (p b : Int) (hb : b ≠ 0) : -(b.natAbs : Int) < p - p.tdiv b * b ∧ p - p.tdiv b * b < b.natAbs := by
  have h1 := Int.mul_tdiv_add_tmod p b
  have h2 : p - p.tdiv b * b = p.tmod b := by rw [Int.mul_comm]; omega
  rw [h2]
  have h3 : (p.tmod b).natAbs < b.natAbs := by
    rw [Int.natAbs_tmod]
    exact Nat.mod_lt _ (by omega)
  omega

theorem tdiv_bd (p b : Int) (hp : -9223372036854775808 ≤ p ∧ p ≤ 9223372036854775807) (h : ¬ (p = -9223372036854775808 ∧ b = -1)) :
    -9223372036854775808 ≤ p.tdiv b ∧ p.tdiv b ≤ 9223372036854775807 := by
  have h3 : (p.tdiv b).natAbs = p.natAbs / b.natAbs := Int.natAbs_tdiv p b
  have h4 : p.natAbs / b.natAbs ≤ p.natAbs := Nat.div_le_self _ _
  by_cases hm : p = -9223372036854775808
  · have hb : b ≠ -1 := fun e => h ⟨hm, e⟩
    by_cases h1 : b = 1
    · subst h1; rw [Int.tdiv_one]; exact hp
    · have h5 : p.natAbs / b.natAbs ≤ p.natAbs / 2 ∨ b = 0 := by
        by_cases h0 : b = 0
        · exact Or.inr h0
        · exact Or.inl (Nat.div_le_div_left (by omega) (by omega))
      rcases h5 with h5 | h5
      · have : p.natAbs = 9223372036854775808 := by omega
        omega
      · subst h5; rw [Int.tdiv_zero]; omega
  · omega

theorem mul_back (a b : Int) (ha : -9223372036854775808 ≤ a ∧ a ≤ 9223372036854775807) (hb : b ≠ 0)
    (h : -9223372036854775808 ≤ a * b ∧ a * b ≤ 9223372036854775807) : wrap64 ((wrap64 (a * b)).tdiv b) = a := by
  rw [wrap_in _ h, Int.mul_tdiv_cancel _ hb, wrap_in _ ha]

theorem mul_min (a b : Int) (h : -9223372036854775808 ≤ a * b ∧ a * b ≤ 9223372036854775807) : ¬ (a = -9223372036854775808 ∧ b = -1) := by
  rintro ⟨rfl, rfl⟩; omega

theorem mul_over (a b : Int) (ha : -9223372036854775808 ≤ a ∧ a ≤ 9223372036854775807) (hb : -9223372036854775808 ≤ b ∧ b ≤ 9223372036854775807) (h0 : b ≠ 0)
    (h : ¬ (-9223372036854775808 ≤ a * b ∧ a * b ≤ 9223372036854775807)) (hm : ¬ (a = -9223372036854775808 ∧ b = -1)) : wrap64 ((wrap64 (a * b)).tdiv b) ≠ a := by
  intro e
  by_cases hb1 : b = -1
  · subst hb1; omega
  · have hw := wrap_bd (a * b)
    rw [wrap_in _ (tdiv_bd _ b hw (fun x => hb1 x.2))] at e
    obtain ⟨k, hk⟩ := wrap_mod (a * b)
    have hn := tdiv_near (wrap64 (a * b)) b h0
    rw [e] at hn
    have : k = 0 := by omega
    subst this
    omega
end Go.Proofs.YtkoejkpjkcejcabDoor
namespace Go.Proofs.YtkoejkpjkcejcabDoor
open Go.RowKit
set_option linter.unusedVariables false
--BEGIN
def truP (b : Bool) : V3 := (2, if b = true then 1 else 0, ⟨#[]⟩)
def overP (n : Int) : Int × Int := if -9223372036854775808 ≤ n ∧ n ≤ 9223372036854775807 then (n, 0) else (0, 9)
/-- What Reckon comes to: of the five operations. -/
def rkP (op : List UInt8) (a b : Int) : Int × Int :=
  if op = [43] then overP (a + b) else if op = [45] then overP (a - b) else if op = [42] then overP (a * b) else if op = [47] then (if b = 0 ∨ (a = -9223372036854775808 ∧ b = -1) then (0, 9) else (a.tdiv b, 0)) else if b = 0 then (0, 9) else (a.tmod b, 0)
def rkV (op : List UInt8) (a b : Int) : V3 × Int := if (rkP op a b).2 ≠ 0 then (noV, (rkP op a b).2) else ((1, (rkP op a b).1, ⟨#[]⟩), 0)
/-- Whether a comparison is so of two that stand in that order. -/
def holdsP (op : List UInt8) (o : Int) : Bool :=
  if op = [61] then o == 0 else if op = [60, 62] then o != 0 else if op = [60] then decide (o < 0) else if op = [60, 61] then decide (o ≤ 0) else if op = [62] then decide (0 < o) else decide (0 ≤ o)
def isY (v : V3) : Bool := v.2.1 == 1
def cmpV (op : List UInt8) (a b : V3) : V3 × Int :=
  if cmpE a.1 a.2.1 a.2.2.data.toList b.1 b.2.1 b.2.2.data.toList ≠ 0 then (noV, cmpE a.1 a.2.1 a.2.2.data.toList b.1 b.2.1 b.2.2.data.toList)
  else (truP (holdsP op (cmpN a.1 a.2.1 a.2.2.data.toList b.1 b.2.1 b.2.2.data.toList)), 0)
def ops5 : List (List UInt8) := [[43], [45], [42], [47], [37]]
/-- An operation of values that its rule lets through. -/
def appP (op : List UInt8) (vs : List V3) : V3 × Int :=
  if op = [111, 114] then (truP (isY (vs[0]?.getD noV) || isY (vs[1]?.getD noV)), 0)
  else if op = [97, 110, 100] then (truP (isY (vs[0]?.getD noV) && isY (vs[1]?.getD noV)), 0)
  else if op = [110, 111, 116] then (truP (!isY (vs[0]?.getD noV)), 0)
  else if ops5.contains op = true then rkV op (vs[0]?.getD noV).2.1 (vs[1]?.getD noV).2.1
  else if op = [110, 101, 103] then rkV [45] 0 (vs[0]?.getD noV).2.1
  else if op = [108, 101, 110] then ((1, ((vs[0]?.getD noV).2.2.size : Int), ⟨#[]⟩), 0)
  else if op = [105, 102] then (if isY (vs[0]?.getD noV) = true then vs[1]?.getD noV else vs[2]?.getD noV, 0)
  else cmpV op (vs[0]?.getD noV) (vs[1]?.getD noV)
/-- What is wrong with the first value that is wrong. -/
def vlE : List V3 → Int
  | [] => 0
  | r :: rs => if chk r.1 r.2.1 r.2.2.data.toList ≠ 0 then chk r.1 r.2.1 r.2.2.data.toList else vlE rs
/-- Do of any operation and any values. -/
def doP (op : List UInt8) (vs : List V3) : V3 × Int :=
  if vlE vs ≠ 0 then (noV, vlE vs) else if (ruleP op (vs.map (·.1))).2 ≠ 0 then (noV, (ruleP op (vs.map (·.1))).2) else appP op vs
/-- What follows of what the parts come to. -/
def firstE : List (V3 × Int) → Int
  | [] => 0
  | r :: rs => if r.2 ≠ 0 then r.2 else firstE rs
def combP (op : List UInt8) : List (V3 × Int) → V3 × Int
  | [] => (noV, 0)
  | f :: rest => if f.2 ≠ 0 then (noV, f.2)
    else if ((decide (op = [97, 110, 100]) && !isY f.1) || (decide (op = [111, 114]) && isY f.1)) = true then (f.1, 0)
    else if op = [105, 102] then (if isY f.1 = true then rest[0]?.getD (noV, 0) else rest[1]?.getD (noV, 0))
    else if firstE rest ≠ 0 then (noV, firstE rest) else doP op (f.1 :: rest.map (·.1))
/-- What comes: a value of the type, or a number goes over. -/
def comes (t : Int) (r : V3 × Int) : Prop := (r.2 = 0 ∧ okV t r.1) ∨ r = (noV, 9)
theorem vlE_zero : ∀ {vs : List V3}, vlE vs = 0 ↔ ∀ v ∈ vs, chk v.1 v.2.1 v.2.2.data.toList = 0
  | [] => by simp [vlE]
  | v :: vs => by
    rw [vlE]
    by_cases h : chk v.1 v.2.1 v.2.2.data.toList = 0
    · rw [if_neg (fun hh => hh h), vlE_zero]; simp [h]
    · rw [if_pos h]; simp [h]
theorem okV_tru (b : Bool) : okV 2 (truP b) := by
  cases b
  · exact ⟨rfl, by decide, by unfold inB truP; decide⟩
  · exact ⟨rfl, by decide, by unfold inB truP; decide⟩
theorem okV_int {n : Int} (h : inB n) : okV 1 (1, n, ⟨#[]⟩) := ⟨rfl, by simp [chk], h⟩
theorem over_bd (n : Int) : ((overP n).2 = 0 ∧ inB (overP n).1 ∧ (overP n).1 = n) ∨ overP n = (0, 9) := by
  unfold overP
  split
  · rename_i h; exact .inl ⟨rfl, h, rfl⟩
  · exact .inr rfl
theorem rkP_bd (op : List UInt8) (a b : Int) (ha : inB a) (hb : inB b) : ((rkP op a b).2 = 0 ∧ inB (rkP op a b).1) ∨ rkP op a b = (0, 9) := by
  unfold rkP
  split
  · rcases over_bd (a + b) with h | h
    · exact .inl ⟨h.1, h.2.1⟩
    · exact .inr h
  · split
    · rcases over_bd (a - b) with h | h
      · exact .inl ⟨h.1, h.2.1⟩
      · exact .inr h
    · split
      · rcases over_bd (a * b) with h | h
        · exact .inl ⟨h.1, h.2.1⟩
        · exact .inr h
      · split
        · split
          · exact .inr rfl
          · rename_i h
            exact .inl ⟨rfl, tdiv_bd a b ha (fun hh => h (.inr hh))⟩
        · split
          · exact .inr rfl
          · rename_i h
            refine .inl ⟨rfl, ?_⟩
            have h1 : (a.tmod b).natAbs ≤ a.natAbs := by rw [Int.natAbs_tmod]; exact Nat.mod_le _ _
            have h2 : 0 ≤ a → 0 ≤ a.tmod b := fun h => Int.tmod_nonneg b h
            have h3 : a ≤ 0 → a.tmod b ≤ 0 := fun h => by
              have := Int.tmod_nonneg b (show 0 ≤ -a by omega)
              rw [Int.neg_tmod] at this
              omega
            unfold inB at ha hb ⊢
            simp only
            omega
theorem rkV_comes (op : List UInt8) (a b : Int) (ha : inB a) (hb : inB b) : comes 1 (rkV op a b) := by
  unfold rkV
  rcases rkP_bd op a b ha hb with ⟨h, h2⟩ | h
  · rw [if_neg (fun hh => hh h)]
    exact .inl ⟨rfl, okV_int h2⟩
  · rw [h, if_pos (by decide)]
    exact .inr rfl
theorem cmpV_comes (op : List UInt8) (a b : V3) (ha : chk a.1 a.2.1 a.2.2.data.toList = 0) (hb : chk b.1 b.2.1 b.2.2.data.toList = 0) (ht : a.1 = b.1) : comes 2 (cmpV op a b) ∧ (cmpV op a b).2 = 0 := by
  unfold cmpV
  have h : cmpE a.1 a.2.1 a.2.2.data.toList b.1 b.2.1 b.2.2.data.toList = 0 := by
    rw [cmpE, if_neg (fun hh => hh ha), if_neg (fun hh => hh hb), if_neg (fun hh => hh ht)]
  rw [if_neg (fun hh => hh h)]
  exact ⟨.inl ⟨rfl, okV_tru _⟩, rfl⟩
theorem ruleP_in {op : List UInt8} {ts : List Int} {T : Int} (hr : ruleP op ts = (T, 0)) : ∃ r, kdFind op kdRules = some r ∧ ts.length = kdCnt r ∧ kdAll (ts.getLast?.getD 0) ts [r.2.1, r.2.2.1, r.2.2.2.1] = true ∧ kdMeant (ts.getLast?.getD 0) r.2.2.2.2 = T := by
  unfold ruleP at hr
  split at hr
  · simp at hr
  · rename_i r hf
    split at hr
    · simp at hr
    · split at hr
      · simp at hr
      · rename_i hlen
        split at hr
        · rename_i hall
          exact ⟨r, hf, by simpa using hlen, hall, by simpa using hr⟩
        · simp at hr
/-- Of values that are right, and that the rule lets through, an operation comes to its type. -/
theorem app_comes {op : List UInt8} {vs : List V3} {T : Int} (hv : ∀ v ∈ vs, chk v.1 v.2.1 v.2.2.data.toList = 0) (hb : ∀ v ∈ vs, inB v.2.1) (hr : ruleP op (vs.map (·.1)) = (T, 0)) : comes T (appP op vs) := by
  obtain ⟨r, hf, hlen, hall, hT⟩ := ruleP_in hr
  rw [List.length_map] at hlen
  obtain ⟨hm, he⟩ := kdFind_mem hf
  subst he
  simp only [kdRules, List.mem_cons, List.not_mem_nil, or_false] at hm
  have len1 : ∀ {l : List V3}, l.length = 1 → ∃ a, l = [a] := fun {l} h => by
    match l, h with
    | [a], _ => exact ⟨a, rfl⟩
  have len2 : ∀ {l : List V3}, l.length = 2 → ∃ a b, l = [a, b] := fun {l} h => by
    match l, h with
    | [a, b], _ => exact ⟨a, b, rfl⟩
  have len3 : ∀ {l : List V3}, l.length = 3 → ∃ a b c, l = [a, b, c] := fun {l} h => by
    match l, h with
    | [a, b, c], _ => exact ⟨a, b, c, rfl⟩
  rcases hm with rfl | rfl | rfl | rfl | rfl | rfl | rfl | rfl | rfl | rfl | rfl | rfl | rfl | rfl | rfl | rfl | rfl
  · obtain rfl : T = 2 := hT.symm
    exact .inl ⟨rfl, okV_tru _⟩
  · obtain rfl : T = 2 := hT.symm
    exact .inl ⟨rfl, okV_tru _⟩
  · obtain rfl : T = 2 := hT.symm
    exact .inl ⟨rfl, okV_tru _⟩
  · obtain ⟨a, b, rfl⟩ := len2 hlen
    obtain rfl : T = 2 := hT.symm
    exact (cmpV_comes _ a b (hv a (by simp)) (hv b (by simp)) (by simpa [kdAll, kdMeant] using hall)).1
  · obtain ⟨a, b, rfl⟩ := len2 hlen
    obtain rfl : T = 2 := hT.symm
    exact (cmpV_comes _ a b (hv a (by simp)) (hv b (by simp)) (by simpa [kdAll, kdMeant] using hall)).1
  · obtain ⟨a, b, rfl⟩ := len2 hlen
    obtain rfl : T = 2 := hT.symm
    exact (cmpV_comes _ a b (hv a (by simp)) (hv b (by simp)) (by simpa [kdAll, kdMeant] using hall)).1
  · obtain ⟨a, b, rfl⟩ := len2 hlen
    obtain rfl : T = 2 := hT.symm
    exact (cmpV_comes _ a b (hv a (by simp)) (hv b (by simp)) (by simpa [kdAll, kdMeant] using hall)).1
  · obtain ⟨a, b, rfl⟩ := len2 hlen
    obtain rfl : T = 2 := hT.symm
    exact (cmpV_comes _ a b (hv a (by simp)) (hv b (by simp)) (by simpa [kdAll, kdMeant] using hall)).1
  · obtain ⟨a, b, rfl⟩ := len2 hlen
    obtain rfl : T = 2 := hT.symm
    exact (cmpV_comes _ a b (hv a (by simp)) (hv b (by simp)) (by simpa [kdAll, kdMeant] using hall)).1
  · obtain ⟨a, b, rfl⟩ := len2 hlen
    obtain rfl : T = 1 := hT.symm
    exact rkV_comes _ a.2.1 b.2.1 (hb a (by simp)) (hb b (by simp))
  · obtain ⟨a, b, rfl⟩ := len2 hlen
    obtain rfl : T = 1 := hT.symm
    exact rkV_comes _ a.2.1 b.2.1 (hb a (by simp)) (hb b (by simp))
  · obtain ⟨a, b, rfl⟩ := len2 hlen
    obtain rfl : T = 1 := hT.symm
    exact rkV_comes _ a.2.1 b.2.1 (hb a (by simp)) (hb b (by simp))
  · obtain ⟨a, b, rfl⟩ := len2 hlen
    obtain rfl : T = 1 := hT.symm
    exact rkV_comes _ a.2.1 b.2.1 (hb a (by simp)) (hb b (by simp))
  · obtain ⟨a, b, rfl⟩ := len2 hlen
    obtain rfl : T = 1 := hT.symm
    exact rkV_comes _ a.2.1 b.2.1 (hb a (by simp)) (hb b (by simp))
  · obtain ⟨a, rfl⟩ := len1 hlen
    obtain rfl : T = 1 := hT.symm
    exact rkV_comes [45] 0 a.2.1 (by unfold inB; omega) (hb a (by simp))
  · obtain ⟨a, rfl⟩ := len1 hlen
    obtain rfl : T = 1 := hT.symm
    have h40 := chk_size (hv a (by simp))
    refine .inl ⟨rfl, okV_int ?_⟩
    simp at h40
    unfold inB
    simp
    omega
  · obtain ⟨a, b, c, rfl⟩ := len3 hlen
    simp [kdAll, kdMeant] at hall hT
    refine .inl ⟨rfl, ?_⟩
    show okV T (if isY a = true then b else c)
    split
    · exact ⟨by rw [← hT]; exact hall.2, hv b (by simp), hb b (by simp)⟩
    · exact ⟨hT, hv c (by simp), hb c (by simp)⟩
theorem firstE_zero : ∀ {cs : List (V3 × Int)}, firstE cs = 0 ↔ ∀ r ∈ cs, r.2 = 0
  | [] => by simp [firstE]
  | r :: rs => by
    rw [firstE]
    by_cases h : r.2 = 0
    · rw [if_neg (fun hh => hh h), firstE_zero]; simp [h]
    · rw [if_pos h]; simp [h]
theorem firstE_nine : ∀ {cs : List (V3 × Int)}, (∀ r ∈ cs, r.2 = 0 ∨ r.2 = 9) → firstE cs = 0 ∨ firstE cs = 9
  | [], _ => .inl rfl
  | r :: rs, h => by
    rw [firstE]
    split
    · rename_i h0
      exact .inr ((h r (by simp)).resolve_left h0)
    · exact firstE_nine fun q hq => h q (by simp [hq])
theorem comes_err {t : Int} {r : V3 × Int} (h : comes t r) : r.2 = 0 ∨ r.2 = 9 := by
  rcases h with h | h
  · exact .inl h.1
  · exact .inr (by rw [h])
theorem comb_comes {α : Type} {op : List UInt8} {l : List α} {f : α → Int} {g : α → V3 × Int} {T : Int} (h : ∀ y ∈ l, comes (f y) (g y)) (hr : ruleP op (l.map f) = (T, 0)) : comes T (combP op (l.map g)) := by
  obtain ⟨r, hf, hlen, hall, hT⟩ := ruleP_in hr
  rw [List.length_map] at hlen
  match l, h, hr, hlen, hall, hT with
  | [], h, hr, hlen, hall, hT =>
    have := (kdCnt_ok r (kdFind_mem hf).1).1
    simp at hlen
    omega
  | y :: ys, h, hr, hlen, hall, hT =>
    rw [List.map_cons, combP]
    rcases h y (by simp) with ⟨h0, hok⟩ | h9
    · rw [if_neg (fun hh => hh h0)]
      split
      · rename_i hs
        have hop : op = [97, 110, 100] ∨ op = [111, 114] := by
          rcases Bool.or_eq_true_iff.1 hs with h | h
          · exact .inl (of_decide_eq_true (Bool.and_eq_true_iff.1 h).1)
          · exact .inr (of_decide_eq_true (Bool.and_eq_true_iff.1 h).1)
        have hr2 : r.2.1 = 2 ∧ r.2.2.2.2 = 2 := by
          rcases hop with rfl | rfl
          · obtain rfl := Option.some.inj (hf.symm.trans (show kdFind [97, 110, 100] kdRules = some ([97, 110, 100], 2, 2, 0, 2) from rfl))
            exact ⟨rfl, rfl⟩
          · obtain rfl := Option.some.inj (hf.symm.trans (show kdFind [111, 114] kdRules = some ([111, 114], 2, 2, 0, 2) from rfl))
            exact ⟨rfl, rfl⟩
        rw [hr2.2] at hT
        rw [hr2.1, List.map_cons, kdAll] at hall
        have hy : f y = 2 := by
          have := of_decide_eq_true (Bool.and_eq_true_iff.1 hall).1
          rw [this]; rfl
        obtain rfl : T = 2 := hT.symm
        rw [hy] at hok
        exact .inl ⟨rfl, hok⟩
      · split
        · rename_i hif
          subst hif
          obtain rfl := Option.some.inj (hf.symm.trans (show kdFind [105, 102] kdRules = some ([105, 102], 2, -1, -1, -1) from rfl))
          have hl2 : ys.length = 2 := by
            have : (y :: ys).length = 3 := hlen
            simpa using this
          match ys, hl2, h, hall, hT with
          | [b, c], _, h, hall, hT =>
            simp [kdAll, kdMeant] at hall hT
            show comes T (if isY (g y).1 = true then g b else g c)
            split
            · have := h b (by simp)
              rw [hall.2, hT] at this
              exact this
            · have := h c (by simp)
              rw [hT] at this
              exact this
        · split
          · rename_i hfe
            have := firstE_nine (cs := ys.map g) fun q hq => by
              obtain ⟨z, hz, rfl⟩ := List.mem_map.1 hq
              exact comes_err (h z (by simp [hz]))
            rw [this.resolve_left hfe]
            exact .inr rfl
          · rename_i hfe
            have hz := firstE_zero.1 (show firstE (ys.map g) = 0 from by simpa using hfe)
            have hall2 : ∀ z ∈ y :: ys, okV (f z) (g z).1 := fun z hz2 => by
              rcases h z hz2 with hgz | hgz
              · exact hgz.2
              · exfalso
                rcases List.mem_cons.1 hz2 with rfl | hz3
                · rw [hgz] at h0; exact absurd h0 (by decide)
                · have := hz (g z) (List.mem_map.2 ⟨z, hz3, rfl⟩)
                  rw [hgz] at this; exact absurd this (by decide)
            have hmap : ((g y).1 :: (ys.map g).map (·.1)) = (y :: ys).map (fun z => (g z).1) := by simp
            have htys : ((y :: ys).map (fun z => (g z).1)).map (·.1) = (y :: ys).map f := by
              rw [List.map_map]
              exact List.map_congr_left fun z hz => (hall2 z hz).1
            have hvl : vlE ((y :: ys).map (fun z => (g z).1)) = 0 := vlE_zero.2 fun v hv => by
              obtain ⟨z, hz, rfl⟩ := List.mem_map.1 hv
              exact (hall2 z hz).2.1
            rw [hmap, doP, if_neg (fun hh => hh hvl), htys, hr, if_neg (by simp)]
            exact app_comes (fun v hv => vlE_zero.1 hvl v hv) (fun v hv => by
              obtain ⟨z, hz, rfl⟩ := List.mem_map.1 hv
              exact (hall2 z hz).2.2) (by rw [htys]; exact hr)
    · rw [h9, if_pos (by decide)]
      exact .inr rfl
/-- A row that is right over columns. -/
def RowR (zs : List (ByteArray × Int)) (rs : List V3) : Prop := rs.length = zs.length ∧ ∀ k (h : k < zs.length) (h2 : k < rs.length), okV zs[k].2 rs[k]
--END
end Go.Proofs.YtkoejkpjkcejcabDoor
namespace Go.Proofs.YtkoejkpjkcejcabDoor
open Go.RowKit Go.BigFrame
set_option linter.unusedVariables false

def opsS : List ByteArray := kdRules.map fun r => ⟨r.1.toArray⟩
/-- Texts one behind the other. -/
def StrsAt (w : World) (p : Option Addr) (ss : List ByteArray) : Prop := ∃ b off, p = some ⟨b, off, none⟩ ∧ b < w.heap.size ∧ ∀ j (h : j < ss.length), w.cell? ⟨b, off + j, none⟩ = some (.string ss[j])
theorem StrsAt.on {w w' : World} {p : Option Addr} {ss : List ByteArray} (h : StrsAt w p ss) (hb : Below w.heap.size w w') : StrsAt w' p ss := by
  obtain ⟨b, off, e, hl, h⟩ := h
  exact ⟨b, off, e, by have := hb.size; omega, fun j hj => by rw [hb.cell (p := ⟨b, _, none⟩) hl]; exact h j hj⟩
theorem info_strO : (Tryd.prog.info? 9).map (fun i => (i.zero, i.size, i.bytes)) = some (some (.string ⟨#[]⟩), 1, 16) := by kernel_rfl
theorem ownStrs {W : World} {B : Nat} {q : Option Addr} {c n : Nat} {ss : List ByteArray} (hn : ss.length = n) (h0 : 0 < n) (h : W.ownsRow B 9 1 (.slice q n c) n (ss.map .string)) : StrsAt W q ss := by
  rcases h.2 with ⟨e1, _⟩ | ⟨g, cap, cur, e1, hb, hg, hm, hx, hs, ht⟩
  · injection e1 with e1 e2; omega
  · injection e1 with e1 e2 e3
    subst e1
    refine ⟨g, 0, rfl, (Array.getElem?_eq_some_iff.1 hg).1, fun j hj => ?_⟩
    have h1 := h.cells (g := g) rfl j (.string ss[j]) (by rw [List.getElem?_map, List.getElem?_eq_getElem hj]; rfl)
    rw [Go.WideShapes.add_plain] at h1
    simpa using h1
theorem opsS_take {k : Nat} (hk : k < 17) {S : ByteArray} (h : (kdRules[k]'hk).1 = S.data.toList) : opsS.take k ++ [S] = opsS.take (k + 1) := by
  have hl : k < opsS.length := hk
  rw [List.take_add_one, List.getElem?_eq_getElem hl]
  have : opsS[k] = S := by
    have h1 : opsS[k] = (⟨(kdRules[k]'hk).1.toArray⟩ : ByteArray) := List.getElem_map (l := kdRules) (fun r : KRule => (⟨r.1.toArray⟩ : ByteArray))
    rw [h1, h]
  rw [this]
  rfl
set_option maxHeartbeats 2000000 in
set_option maxRecDepth 20000 in
theorem kindOps_any (w : World) (henv : REnv w) :
    Calls Tryd.prog 41 #[] w fun e w' => (∃ q c, e = .returned (.slice q 17 c) ∧ Aside (StrsAt w' q opsS)) ∧ Below w.heap.size w w' := by
  obtain ⟨i0, hi, hz0, hz1, hzz⟩ := info_parts info_strO
  obtain ⟨tt, fr, hgl⟩ := henv
  go_enter Tryd.func41, Tryd.ntmps41
  go_wp2_with (refine wpList_load_row rfl 119 _ rfl 0 rfl tt _ fr _ hgl Tryd.underlying119 rfl (by kernel_rfl) ?_)
  have hat := rule_at
  generalize Value.agg rulesC = AR at hat ⊢
  clear hgl
  go_loopg [1, 3, 5] 17 (fun gg s1 _ s5 wr => ∃ (kk : Nat) (acc : List ByteArray) (q : Option Addr) (cp : Nat), kk ≤ 17 ∧ 17 - kk ≤ gg ∧ s5 = .int .i64 kk ∧ s1 = .slice q kk cp ∧ Aside (wr.ownsRow w.heap.size 9 1 (.slice q kk cp) kk (acc.map .string)) ∧ Aside (Below w.heap.size w wr) ∧ Hid (acc = opsS.take kk))
  case atStart => exact ⟨0, [], none, 0, Nat.zero_le _, by omega, rfl, rfl, (show Aside _ from ⟨rfl, .inl ⟨rfl, rfl⟩⟩), (show Aside _ from Below.refl _ _), (show Hid _ from rfl)⟩
  case round =>
    obtain ⟨kk, acc, q, cp, hkk, hg, rfl, rfl, OW, BW, HE⟩ := hrel
    have hzr : w.heap.size ≤ wr.heap.size := BW.out.size
    by_cases hlt : kk < 17
    · have hltz : (kk : Int) < 17 := by omega
      obtain ⟨S, a0, a1, a2, ty, hix, hkr, _⟩ := hat kk hlt
      have HT : Hid (acc ++ [S] = opsS.take (kk + 1)) := by
        show _ = _
        rw [HE.out]; exact opsS_take hlt (by rw [hkr])
      have hix2 := fun W => hix W
      have OW4 := OW.out.alloc (.cells #[.string S, .int .i64 a0, .int .i64 a1, .int .i64 a2, .int .i64 ty] 105)
      have BW4 : Aside (Below w.heap.size w (wr.alloc (.cells #[.string S, .int .i64 a0, .int .i64 a1, .int .i64 a2, .int .i64 ty] 105))) := BW.out.alloc hzr _
      clear HE hkr OW
      go_wp2_with (at_builtin; refine wpList_append_own _ rfl _ _ 45 rfl w.heap.size 9 i0 (.string ⟨#[]⟩) 1 16 Tryd.underlying45 hi hz0 hz1 hzz rfl (by decide) _ _ _ rfl (OW4.alloc _) ⟨wr.heap.size + 1, 0, none⟩ 1 1 [.string S] rfl rfl ?c1 ?c2 ?c3 ?c4 ?c5 ?_)
      case c1 =>
        intro i u hu
        rw [Go.WideShapes.add_plain, World.cell?_alloc_at _ _ _ _ (by simp)]
        simpa using hu
      case c2 =>
        intro u hu
        simp at hu
        subst hu; rfl
      case c3 => simp [maxLen]; omega
      case c4 => omega
      case c5 => simp; omega
      · intro v' w5 hown' hgrow _
        have hlo3 : ∀ j, (Value.slice q kk cp).ownBlock = some j → w.heap.size ≤ j := fun j hj => (OW4.lt j hj).1
        have bg : Below w.heap.size (wr.alloc (.cells #[.string S, .int .i64 a0, .int .i64 a1, .int .i64 a2, .int .i64 ty] 105)) w5 := ((Below.refl _ _).alloc (by simp; omega) _).grown hgrow (by simp; omega) hlo3
        have BW6 : Aside (Below w.heap.size w w5) := BW4.out.trans bg
        obtain ⟨q5, c5, rfl⟩ := lown_slice hown'
        have ow6 : w5.ownsRow w.heap.size 9 1 (.slice q5 (kk + 1) c5) (kk + 1) ((acc ++ [S]).map .string) := by rw [List.map_append]; exact hown'
        clear hown' hgrow OW4 bg BW4
        go_wp2
        go_roundg (17 - (kk + 1))
        case measure => omega
        case rel => exact ⟨kk + 1, acc ++ [S], q5, c5, by omega, by omega, by go_num, rfl, (show Aside _ from ow6), BW6, HT⟩
    · have hltz : ¬ (kk : Int) < 17 := by omega
      obtain rfl : kk = 17 := by omega
      have hacc : acc = opsS := by rw [HE.out]; rfl
      subst hacc
      have hst : Aside (StrsAt wr q opsS) := ownStrs rfl (by decide) OW.out
      clear HE OW hat
      go_wp2
      go_ret
      exact ⟨⟨q, ⟨cp, rfl⟩, hst⟩, BW.out⟩
theorem refOps_any (w : World) : Calls Tryd.prog 40 #[] w fun e w' => (∃ q c, e = .returned (.slice q 17 c) ∧ Aside (StrsAt w' q opsS)) ∧ Below w.heap.size w w' := by
  go_enter Tryd.func40, Tryd.ntmps40
  go_wp2
  go_ret
  refine ⟨⟨_, _, rfl, (show Aside _ from ⟨w.heap.size, 0, rfl, by simp, fun j hj => ?_⟩)⟩, (Below.refl _ w).alloc (Nat.le_refl _) _⟩
  rw [World.cell?_alloc_at _ _ _ _ rfl]
  have h17 : j < 17 := hj
  have : j = 0 ∨ j = 1 ∨ j = 2 ∨ j = 3 ∨ j = 4 ∨ j = 5 ∨ j = 6 ∨ j = 7 ∨ j = 8 ∨ j = 9 ∨ j = 10 ∨ j = 11 ∨ j = 12 ∨ j = 13 ∨ j = 14 ∨ j = 15 ∨ j = 16 := by omega
  rcases this with rfl | rfl | rfl | rfl | rfl | rfl | rfl | rfl | rfl | rfl | rfl | rfl | rfl | rfl | rfl | rfl | rfl <;> rfl
end Go.Proofs.YtkoejkpjkcejcabDoor
namespace Go.Proofs.YtkoejkpjkcejcabDoor
open Go.RowKit
set_option linter.unusedVariables false

/-- The operation of a number that is one here. -/
def opN (n : Int) : List UInt8 := if 2 ≤ n ∧ n < 16 then ((kdRules[n.toNat]?).map (·.1)).getD [] else []
def opE (n : Int) : Int := if 2 ≤ n ∧ n < 16 then 0 else 1
theorem opN_len (n : Int) : (opN n).length ≤ 8 := by
  unfold opN
  split
  · rename_i h
    obtain ⟨k, rfl⟩ : ∃ k : Nat, n = k := ⟨n.toNat, by omega⟩
    have : k = 2 ∨ k = 3 ∨ k = 4 ∨ k = 5 ∨ k = 6 ∨ k = 7 ∨ k = 8 ∨ k = 9 ∨ k = 10 ∨ k = 11 ∨ k = 12 ∨ k = 13 ∨ k = 14 ∨ k = 15 := by omega
    rcases this with rfl | rfl | rfl | rfl | rfl | rfl | rfl | rfl | rfl | rfl | rfl | rfl | rfl | rfl <;> decide
  · decide
theorem opN_none {n : Int} (h : ¬ (2 ≤ n ∧ n < 16)) : opN n = [] ∧ opE n = 1 := ⟨if_neg h, if_neg h⟩
theorem opN_some {k : Nat} (h : 2 ≤ k ∧ k < 16) (hk : k < opsS.length) : (⟨(opN k).toArray⟩ : ByteArray) = opsS[k] ∧ opE k = 0 := by
  have hz : 2 ≤ (k : Int) ∧ (k : Int) < 16 := by omega
  refine ⟨?_, if_pos hz⟩
  have h17 : k < kdRules.length := by have : kdRules.length = 17 := rfl; omega
  rw [opN, if_pos hz, Int.toNat_natCast, List.getElem?_eq_getElem h17]
  exact (List.getElem_map (l := kdRules) (fun r : KRule => (⟨r.1.toArray⟩ : ByteArray))).symm
def jmpB (l : List UInt8) : Bool := l == [111, 114] || l == [97, 110, 100] || l == [105, 102]
theorem jmp_ops {k : Nat} (hk : k < opsS.length) : jmpB opsS[k].data.toList = (k == 0 || k == 1 || k == 16) := by
  have h17 : k < 17 := hk
  have : k = 0 ∨ k = 1 ∨ k = 2 ∨ k = 3 ∨ k = 4 ∨ k = 5 ∨ k = 6 ∨ k = 7 ∨ k = 8 ∨ k = 9 ∨ k = 10 ∨ k = 11 ∨ k = 12 ∨ k = 13 ∨ k = 14 ∨ k = 15 ∨ k = 16 := by omega
  rcases this with rfl | rfl | rfl | rfl | rfl | rfl | rfl | rfl | rfl | rfl | rfl | rfl | rfl | rfl | rfl | rfl | rfl <;> rfl
theorem byJumps_any (S : ByteArray) (w : World) :
    Calls Tryd.prog 42 #[.string S] w fun e w' => e = .returned (.bool (jmpB S.data.toList)) ∧ w' = w := by
  rw [← Lib.toList_data]
  generalize hL : S.toList = L
  have e1 : jmpB L = (L == [111, 114] || L == [97, 110, 100] || L == [105, 102]) := rfl
  rw [e1]
  clear e1
  go_enter Tryd.func42, Tryd.ntmps42
  go_wp2
  all_goals
    go_ret
    simp_all
set_option maxHeartbeats 2000000 in
theorem codeOp_any (n : Int) (w : World) (henv : REnv w) :
    Calls Tryd.prog 16 #[.int .i64 n] w fun e w' => e = .returned (.tuple #[.string ⟨(opN n).toArray⟩, errV (opE n)]) ∧ Below w.heap.size w w' := by
  by_cases h0 : 0 ≤ n ∧ n < 17
  · obtain ⟨k, rfl⟩ : ∃ k : Nat, n = k := ⟨n.toNat, by omega⟩
    have hk : k < opsS.length := by have : opsS.length = 17 := rfl; omega
    have H1 : Hid (jmpB opsS[k].data.toList = (k == 0 || k == 1 || k == 16)) := jmp_ops hk
    obtain ⟨R, hR⟩ : ∃ R, Value.tuple #[.string ⟨(opN k).toArray⟩, errV (opE k)] = R := ⟨_, rfl⟩
    have HR : Hid (Value.tuple #[.string ⟨(opN k).toArray⟩, errV (opE k)] = R) := hR
    rw [hR]
    clear hR
    have z0 : ¬ (k : Int) < 0 := by omega
    have z1 : ¬ (17 : Int) ≤ (k : Int) := by omega
    have z2 : (0 : Int) ≤ (k : Int) := by omega
    go_enter Tryd.func16, Tryd.ntmps16
    go_wp2_with fail
    refine (kindOps_any w henv).mono ?_
    rintro e w1 ⟨⟨q, c, rfl, hst⟩, b1⟩
    obtain ⟨b, off, rfl, hbl, hcell⟩ := hst.out
    have c1 := hcell k hk
    go_wp2_with fail
    refine (byJumps_any opsS[k] _).mono ?_
    rintro e w2 ⟨rfl, rfl⟩
    by_cases hj : 2 ≤ k ∧ k < 16
    · have ej : jmpB opsS[k].data.toList = false := by rw [H1.out]; simp; omega
      rw [ej]
      obtain ⟨f1, f2⟩ := opN_some hj hk
      have HR2 : Hid (Value.tuple #[.string opsS[k], errV 0] = R) := by
        show _ = _
        rw [← HR.out, f1, f2]
      go_wp2
      go_ret2
      exact ⟨by rw [← HR2.out]; rfl, b1⟩
    · have ej : jmpB opsS[k].data.toList = true := by rw [H1.out]; simp; omega
      rw [ej]
      obtain ⟨f1, f2⟩ := opN_none (n := k) (by omega)
      have HR2 : Hid (Value.tuple #[.string ⟨#[]⟩, errV 1] = R) := by
        show _ = _
        rw [← HR.out, f1, f2]
      go_wp2
      go_ret2
      exact ⟨by rw [← HR2.out]; rfl, b1⟩
  · obtain ⟨f1, f2⟩ := opN_none (n := n) (by omega)
    rw [f1, f2]
    have HR2 : Hid (Value.tuple #[.string ⟨(#[] : Array UInt8)⟩, errV 1] = Value.tuple #[.string ⟨([] : List UInt8).toArray⟩, errV 1]) := rfl
    by_cases hn : n < 0
    · go_enter Tryd.func16, Tryd.ntmps16
      go_wp2_with fail
      refine (kindOps_any w henv).mono ?_
      rintro e w1 ⟨⟨q, c, rfl, hst⟩, b1⟩
      go_wp2
      go_ret2
      exact ⟨rfl, b1⟩
    · have hn2 : (17 : Int) ≤ n := by omega
      go_enter Tryd.func16, Tryd.ntmps16
      go_wp2_with fail
      refine (kindOps_any w henv).mono ?_
      rintro e w1 ⟨⟨q, c, rfl, hst⟩, b1⟩
      go_wp2
      go_ret2
      exact ⟨rfl, b1⟩
/-- An instruction: what, its number, the value. -/
abbrev I5 := Int × Int × Int × Int × ByteArray
def okI (i : I5) : Prop := (-9223372036854775808 ≤ i.2.1 ∧ i.2.1 ≤ 9223372036854775807) ∧ (-9223372036854775808 ≤ i.2.2.2.1 ∧ i.2.2.2.1 ≤ 9223372036854775807) ∧ i.2.2.2.2.size ≤ maxLen
/-- Instructions one behind the other. -/
def InsAt (w : World) (p : Option Addr) (is : List I5) : Prop := is.length = 0 ∨ ∃ b off, p = some ⟨b, off, none⟩ ∧ b < w.heap.size ∧ ∀ j (h : j < is.length), w.cell? ⟨b, off + j * 5, none⟩ = some (.int .i64 is[j].1) ∧ w.cell? ⟨b, off + j * 5 + 1, none⟩ = some (.int .i64 is[j].2.1) ∧ w.cell? ⟨b, off + j * 5 + 2, none⟩ = some (.int .i64 is[j].2.2.1) ∧ w.cell? ⟨b, off + j * 5 + 3, none⟩ = some (.int .i64 is[j].2.2.2.1) ∧ w.cell? ⟨b, off + j * 5 + 4, none⟩ = some (.string is[j].2.2.2.2)
theorem InsAt.on {w w' : World} {p : Option Addr} {is : List I5} (h : InsAt w p is) (hb : Below w.heap.size w w') : InsAt w' p is := by
  rcases h with h | ⟨b, off, e, hl, h⟩
  · exact .inl h
  · refine .inr ⟨b, off, e, by have := hb.size; omega, fun j hj => ?_⟩
    obtain ⟨h1, h2, h3, h4, h5⟩ := h j hj
    exact ⟨by rw [hb.cell (p := ⟨b, _, none⟩) hl]; exact h1, by rw [hb.cell (p := ⟨b, _, none⟩) hl]; exact h2, by rw [hb.cell (p := ⟨b, _, none⟩) hl]; exact h3, by rw [hb.cell (p := ⟨b, _, none⟩) hl]; exact h4, by rw [hb.cell (p := ⟨b, _, none⟩) hl]; exact h5⟩
end Go.Proofs.YtkoejkpjkcejcabDoor
namespace Go.Proofs.YtkoejkpjkcejcabDoor
open Go.RowKit
set_option linter.unusedVariables false

/-- What is known of a place: nothing, or the types on the stack, the last one on top. -/
abbrev Pl := Option (List Int)
/-- What is wrong with an instruction by itself. -/
def argE (i : I5) (nc bh : Int) : Int :=
  if i.1 = 1 then chk i.2.2.1 i.2.2.2.1 i.2.2.2.2.data.toList
  else if i.1 = 2 then (if 0 ≤ i.2.1 ∧ i.2.1 < nc then 0 else 1)
  else if i.1 = 3 then opE i.2.1
  else if i.1 = 4 ∨ i.1 = 5 then (if 0 ≤ i.2.1 ∧ i.2.1 ≤ bh then 0 else 1)
  else if i.1 = 6 ∨ i.1 = 7 then 0 else 1
/-- How many an operation has. -/
def cntN (op : List UInt8) : Nat := match kdFind op kdRules with
  | none => 0
  | some r => kdCnt r
/-- How many an instruction takes, or looks at. -/
def needN (i : I5) : Nat := if i.1 = 3 then cntN (opN i.2.1) else if i.1 = 5 ∨ i.1 = 6 ∨ i.1 = 7 then 1 else 0
/-- What comes onto the stack for those. -/
def layP (i : I5) (off : List Int) (zs : List (ByteArray × Int)) : List Int × Int :=
  if i.1 = 1 then ([i.2.2.1], 0)
  else if i.1 = 2 then ([(zs[i.2.1.toNat]?.getD default).2], 0)
  else if i.1 = 3 then ([(ruleP (opN i.2.1) off).1], (ruleP (opN i.2.1) off).2)
  else if i.1 = 5 then (if off.headD 0 ≠ 2 then ([], 8) else ([], 0))
  else if i.1 = 6 then ([off.headD 0, off.headD 0], 0)
  else ([], 0)
/-- What lies on the stack behind an instruction, and what is wrong. -/
def aftP (st : List Int) (i : I5) (zs : List (ByteArray × Int)) : List Int × Int :=
  if st.length < needN i then ([], 6)
  else if (layP i (st.drop (st.length - needN i)) zs).2 ≠ 0 then ([], (layP i (st.drop (st.length - needN i)) zs).2)
  else if 64 < st.length - needN i + (layP i (st.drop (st.length - needN i)) zs).1.length then ([], 4)
  else (st.take (st.length - needN i) ++ (layP i (st.drop (st.length - needN i)) zs).1, 0)
/-- The places to which an instruction may go. -/
def leadP (i : I5) (next : Nat) : List Nat :=
  if i.1 = 4 then [next + i.2.1.toNat] else if i.1 = 5 then [next, next + i.2.1.toNat] else [next]
/-- The places to which it goes get to know what lies there; none: something else is known. -/
def goP (st : List Int) : List Nat → List Pl → Option (List Pl)
  | [], ks => some ks
  | t :: ts, ks => if (ks[t]?.getD none).isSome = true ∧ (ks[t]?.getD none).getD [] ≠ st then none else goP st ts (ks.set t (some st))
def stepP (zs : List (ByteArray × Int)) (ks : List Pl) (k : Nat) (i : I5) : List Pl × Int :=
  if (ks[k]?.getD none).isSome = false then (ks, 5)
  else if argE i zs.length ((ks.length : Int) - 1 - ((k : Int) + 1)) ≠ 0 then (ks, argE i zs.length ((ks.length : Int) - 1 - ((k : Int) + 1)))
  else if (aftP ((ks[k]?.getD none).getD []) i zs).2 ≠ 0 then (ks, (aftP ((ks[k]?.getD none).getD []) i zs).2)
  else match goP (aftP ((ks[k]?.getD none).getD []) i zs).1 (leadP i (k + 1)) ks with
    | none => (ks, 3)
    | some l => (l, 0)
/-- From a place on: what is known in the end; the number of the first that is wrong, and how. -/
def loopP (zs : List (ByteArray × Int)) : List Pl → Nat → List I5 → List Pl × Nat × Int
  | ks, k, [] => (ks, k, 0)
  | ks, k, i :: is => if (stepP zs ks k i).2 ≠ 0 then (ks, k, (stepP zs ks k i).2) else loopP zs (stepP zs ks k i).1 (k + 1) is
def endP (r : List Pl × Nat × Int) : List Pl × Nat × Int :=
  if r.2.2 ≠ 0 then ([], r.2.1, r.2.2) else if ((r.1[r.2.1]?.getD none).getD []).length ≠ 1 then ([], r.2.1, 3) else (r.1, 0, 0)
/-- What is known of any instructions over any columns; the number of the first that is wrong, and how. -/
def verP (is : List I5) (zs : List (ByteArray × Int)) : List Pl × Nat × Int :=
  if 1200 < is.length then ([], 0, 4) else if schE zs ≠ 0 then ([], 0, schE zs) else endP (loopP zs (some [] :: List.replicate is.length none) 0 is)
def typP (is : List I5) (r : List Pl × Nat × Int) : Int := if r.2.2 ≠ 0 then 0 else ((r.1[is.length]?.getD none).getD []).headD 0
def mostP (r : List Pl × Nat × Int) : Int := if r.2.2 ≠ 0 then 0 else r.1.foldl (fun m p => max m ((p.getD []).length : Int)) 0

theorem goP_len {st : List Int} : ∀ {ts : List Nat} {ks l : List Pl}, goP st ts ks = some l → l.length = ks.length
  | [], ks, l, h => by rw [goP] at h; rw [Option.some.inj h]
  | t :: ts, ks, l, h => by
    rw [goP] at h
    split at h
    · exact absurd h (by simp)
    · rw [goP_len h, List.length_set]
theorem stepP_len {zs : List (ByteArray × Int)} {ks : List Pl} {k : Nat} {i : I5} : (stepP zs ks k i).1.length = ks.length := by
  unfold stepP
  split
  · rfl
  split
  · rfl
  split
  · rfl
  split
  · rfl
  · rename_i h; exact goP_len h
theorem goP_more {st : List Int} : ∀ {ts : List Nat} {ks l : List Pl} (m : List Pl), (∀ t ∈ ts, t < ks.length) → goP st ts ks = some l → goP st ts (ks ++ m) = some (l ++ m)
  | [], ks, l, m, _, h => by rw [goP] at h ⊢; rw [Option.some.inj h]
  | t :: ts, ks, l, m, ht, h => by
    have hlt := ht t (List.mem_cons_self ..)
    rw [goP] at h ⊢
    rw [List.getElem?_append_left hlt, List.set_append_left _ _ hlt]
    split at h
    · exact absurd h (by simp)
    · rename_i hn
      rw [if_neg hn]
      exact goP_more m (fun x hx => by rw [List.length_set]; exact ht x (List.mem_cons_of_mem _ hx)) h
theorem argE_more {i : I5} {nc bh bh2 : Int} (h : bh ≤ bh2) (h0 : argE i nc bh = 0) : argE i nc bh2 = 0 := by
  unfold argE at h0 ⊢
  split
  · rename_i h1; rwa [if_pos h1] at h0
  rename_i h1; rw [if_neg h1] at h0
  split
  · rename_i h2; rwa [if_pos h2] at h0
  rename_i h2; rw [if_neg h2] at h0
  split
  · rename_i h3; rwa [if_pos h3] at h0
  rename_i h3; rw [if_neg h3] at h0
  split
  · rename_i h4; rw [if_pos h4] at h0
    split at h0
    · rw [if_pos (by omega)]
    · exact absurd h0 (by decide)
  rename_i h4; rwa [if_neg h4] at h0
theorem lead_lt {i : I5} {nc : Int} {n k : Nat} (hk : k + 1 < n) (h : argE i nc ((n : Int) - 1 - ((k : Int) + 1)) = 0) : ∀ t ∈ leadP i (k + 1), t < n := by
  intro t ht
  unfold leadP at ht
  unfold argE at h
  split at ht
  · rename_i h4
    rw [if_neg (by omega), if_neg (by omega), if_neg (by omega), if_pos (.inl h4)] at h
    simp only [List.mem_singleton] at ht
    split at h
    · omega
    · exact absurd h (by decide)
  split at ht
  · rename_i _ h5
    rw [if_neg (by omega), if_neg (by omega), if_neg (by omega), if_pos (.inr h5)] at h
    simp only [List.mem_cons, List.not_mem_nil, or_false] at ht
    split at h
    · omega
    · exact absurd h (by decide)
  · simp only [List.mem_singleton] at ht
    omega
theorem stepP_more {zs : List (ByteArray × Int)} {ks l : List Pl} {k : Nat} {i : I5} (m : List Pl) (hk : k + 1 < ks.length) (h : stepP zs ks k i = (l, 0)) : stepP zs (ks ++ m) k i = (l ++ m, 0) := by
  unfold stepP at h ⊢
  rw [List.getElem?_append_left (by omega : k < ks.length)]
  split at h
  · exact absurd (congrArg Prod.snd h) (by simp)
  rename_i h1
  rw [if_neg h1]
  split at h
  · rename_i h2; exact absurd (congrArg Prod.snd h) h2
  rename_i h2
  have h2' : argE i zs.length ((ks.length : Int) - 1 - ((k : Int) + 1)) = 0 := Classical.not_not.1 h2
  have h3' : argE i zs.length (((ks ++ m).length : Int) - 1 - ((k : Int) + 1)) = 0 := argE_more (by rw [List.length_append]; omega) h2'
  rw [if_neg (by rw [h3']; simp)]
  split at h
  · rename_i h3; exact absurd (congrArg Prod.snd h) h3
  rename_i h3
  rw [if_neg h3]
  split at h
  · exact absurd (congrArg Prod.snd h) (by simp)
  · rename_i l2 h4
    obtain ⟨rfl, _⟩ := Prod.mk.inj h
    rw [goP_more m (lead_lt hk h2') h4]
theorem loopP_more {zs : List (ByteArray × Int)} (m : List Pl) (js : List I5) : ∀ {is : List I5} {ks l : List Pl} {k n : Nat}, k + is.length < ks.length → loopP zs ks k is = (l, n, 0) → loopP zs (ks ++ m) k (is ++ js) = loopP zs (l ++ m) (k + is.length) js ∧ n = k + is.length ∧ l.length = ks.length
  | [], ks, l, k, n, _, h => by
    rw [loopP] at h
    obtain ⟨rfl, h2⟩ := Prod.mk.inj h
    obtain ⟨rfl, _⟩ := Prod.mk.inj h2
    exact ⟨rfl, rfl, rfl⟩
  | i :: is, ks, l, k, n, hk, h => by
    rw [List.length_cons] at hk
    rw [loopP] at h
    split at h
    · rename_i h1
      exact absurd (congrArg (fun r => r.2.2) h) h1
    · rename_i h1
      have e1 : stepP zs ks k i = ((stepP zs ks k i).1, 0) := Prod.ext rfl (Classical.not_not.1 h1)
      have e2 := stepP_more m (by omega) e1
      have hlen := stepP_len (zs := zs) (ks := ks) (k := k) (i := i)
      obtain ⟨r1, r2, r3⟩ := loopP_more m js (by rw [hlen]; omega) h
      rw [List.cons_append, loopP, e2, if_neg (by simp)]
      exact ⟨by rw [r1, List.length_cons]; congr 1; omega, by rw [r2, List.length_cons]; omega, by rw [r3, hlen]⟩
/-- Of sound instructions: what is known in the end. -/
theorem sound_loop {is : List I5} {zs : List (ByteArray × Int)} (h : (verP is zs).2.2 = 0) : is.length ≤ 1200 ∧ schE zs = 0 ∧ ∃ l t, loopP zs (some [] :: List.replicate is.length none) 0 is = (l, is.length, 0) ∧ l.length = is.length + 1 ∧ l[is.length]? = some (some [t]) ∧ verP is zs = (l, 0, 0) := by
  unfold verP at h ⊢
  split at h
  · exact absurd h (by decide)
  rename_i h1
  split at h
  · rename_i h2; exact absurd h h2
  rename_i h2
  rw [if_neg h1, if_neg h2]
  refine ⟨by omega, Classical.not_not.1 h2, ?_⟩
  obtain ⟨⟨l, n, e⟩, hr⟩ : ∃ r, loopP zs (some [] :: List.replicate is.length none) 0 is = r := ⟨_, rfl⟩
  rw [hr] at h ⊢
  unfold endP at h ⊢
  split at h
  · rename_i h3; exact absurd h h3
  rename_i h3
  rw [if_neg h3]
  obtain rfl : e = 0 := Classical.not_not.1 h3
  obtain ⟨-, hn, hl⟩ := loopP_more [] [] (by simp) hr
  rw [Nat.zero_add] at hn
  subst hn
  split at h
  · exact absurd h (by simp)
  rename_i h4
  rw [if_neg h4]
  have hl2 : l.length = is.length + 1 := by rw [hl]; simp
  have hlt : is.length < l.length := by omega
  have h4' := Classical.not_not.1 h4
  simp only at h4'
  rw [List.getElem?_eq_getElem hlt, Option.getD_some] at h4'
  cases hq : l[is.length] with
  | none => rw [hq] at h4'; simp at h4'
  | some s =>
    rw [hq] at h4'
    simp only [Option.getD_some] at h4'
    match s, h4' with
    | [t], _ => exact ⟨l, t, rfl, hl2, by rw [List.getElem?_eq_getElem hlt, hq], rfl⟩
theorem rep_more (n m : Nat) : (some [] :: List.replicate (n + m) none : List Pl) = (some [] :: List.replicate n none) ++ List.replicate m none := by
  rw [← List.replicate_append_replicate]; rfl
theorem typ_sound {is : List I5} {zs : List (ByteArray × Int)} {l : List Pl} {t : Int} (h1 : l[is.length]? = some (some [t])) (h2 : verP is zs = (l, 0, 0)) : typP is (verP is zs) = t := by
  rw [h2, typP, if_neg (by simp), h1]; rfl
theorem step_keep {zs : List (ByteArray × Int)} {ks : List Pl} {k : Nat} {t : Int} (i : I5) (hi : i.1 = 6) (h : ks[k]? = some (some [t])) (h2 : ks[k + 1]? = some none) : stepP zs ks k i = (ks.set (k + 1) (some [t, t]), 0) := by
  have hn : needN i = 1 := by rw [needN, if_neg (by omega), if_pos (by omega)]
  have hL : layP i [t] zs = ([t, t], 0) := by
    rw [layP, if_neg (by omega), if_neg (by omega), if_neg (by omega), if_neg (by omega), if_pos hi]; rfl
  have hA : aftP [t] i zs = ([t, t], 0) := by
    rw [aftP, hn, if_neg (by simp)]
    simp [hL]
  have hE : ∀ a b, argE i a b = 0 := fun a b => by
    rw [argE, if_neg (by omega), if_neg (by omega), if_neg (by omega), if_neg (by omega), if_pos (by omega)]
  have hg : leadP i (k + 1) = [k + 1] := by rw [leadP, if_neg (by omega), if_neg (by omega)]
  rw [stepP, h, if_neg (by simp), hE, if_neg (by simp)]
  simp only [Option.getD_some]
  rw [hA, if_neg (by simp)]
  simp only
  rw [hg, goP, h2, if_neg (by simp), goP]
theorem step_drop {zs : List (ByteArray × Int)} {ks : List Pl} {k : Nat} {t u : Int} (i : I5) (hi : i.1 = 7) (h : ks[k]? = some (some [t, u])) (h2 : ks[k + 1]? = some none) : stepP zs ks k i = (ks.set (k + 1) (some [t]), 0) := by
  have hn : needN i = 1 := by rw [needN, if_neg (by omega), if_pos (by omega)]
  have hL : layP i [u] zs = ([], 0) := by
    rw [layP, if_neg (by omega), if_neg (by omega), if_neg (by omega), if_neg (by omega), if_neg (by omega)]
  have hA : aftP [t, u] i zs = ([t], 0) := by
    rw [aftP, hn, if_neg (by simp)]
    simp [hL]
  have hE : ∀ a b, argE i a b = 0 := fun a b => by
    rw [argE, if_neg (by omega), if_neg (by omega), if_neg (by omega), if_neg (by omega), if_pos (by omega)]
  have hg : leadP i (k + 1) = [k + 1] := by rw [leadP, if_neg (by omega), if_neg (by omega)]
  rw [stepP, h, if_neg (by simp), hE, if_neg (by simp)]
  simp only [Option.getD_some]
  rw [hA, if_neg (by simp)]
  simp only
  rw [hg, goP, h2, if_neg (by simp), goP]
/-- With a Keep behind it is wrong; with a Keep and a Drop it is what it was. -/
theorem cut_keep {is : List I5} {zs : List (ByteArray × Int)} (h : (verP is zs).2.2 = 0) (hl : is.length ≤ 1190) (i : I5) (hi : i.1 = 6) : (verP (is ++ [i]) zs).2 = (is.length + 1, 3) := by
  obtain ⟨h1, h2, l, t, h3, h4, h5, h6⟩ := sound_loop h
  have hlt : is.length < l.length := by omega
  rw [verP, List.length_append, List.length_singleton, if_neg (by omega), if_neg (by simp [h2]), rep_more, (loopP_more (List.replicate 1 none) [i] (by simp) h3).1]
  have g1 : (l ++ List.replicate 1 none)[is.length]? = some (some [t]) := by rw [List.getElem?_append_left hlt, h5]
  have g2 : (l ++ List.replicate 1 none)[is.length + 1]? = some none := by rw [List.getElem?_append_right (by omega), h4]; simp
  rw [Nat.zero_add, loopP, step_keep i hi g1 g2, if_neg (by simp), loopP, endP, if_neg (by simp)]
  simp only
  rw [List.getElem?_set_self (by simp; omega)]
  rfl
theorem cut_drop {is : List I5} {zs : List (ByteArray × Int)} (h : (verP is zs).2.2 = 0) (hl : is.length ≤ 1190) (i j : I5) (hi : i.1 = 6) (hj : j.1 = 7) : (verP (is ++ [i, j]) zs).2.2 = 0 ∧ typP (is ++ [i, j]) (verP (is ++ [i, j]) zs) = typP is (verP is zs) := by
  obtain ⟨h1, h2, l, t, h3, h4, h5, h6⟩ := sound_loop h
  have hlt : is.length < l.length := by omega
  have g1 : (l ++ List.replicate 2 none)[is.length]? = some (some [t]) := by rw [List.getElem?_append_left hlt, h5]
  have g2 : (l ++ List.replicate 2 none)[is.length + 1]? = some none := by rw [List.getElem?_append_right (by omega), h4]; simp
  have k1 : ((l ++ List.replicate 2 none).set (is.length + 1) (some [t, t]))[is.length + 1]? = some (some [t, t]) := List.getElem?_set_self (by simp; omega)
  have k2 : ((l ++ List.replicate 2 none).set (is.length + 1) (some [t, t]))[is.length + 1 + 1]? = some none := by
    rw [List.getElem?_set_ne (by omega), List.getElem?_append_right (by omega), h4, show is.length + 1 + 1 - (is.length + 1) = 1 by omega]; rfl
  have hv : verP (is ++ [i, j]) zs = (((l ++ List.replicate 2 none).set (is.length + 1) (some [t, t])).set (is.length + 1 + 1) (some [t]), 0, 0) := by
    rw [verP, List.length_append, if_neg (by simp; omega), if_neg (by simp [h2])]
    rw [show [i, j].length = 2 from rfl, rep_more, (loopP_more (List.replicate 2 none) [i, j] (by simp) h3).1]
    rw [Nat.zero_add, loopP, step_keep i hi g1 g2, if_neg (by simp), loopP, step_drop j hj k1 k2, if_neg (by simp), loopP, endP, if_neg (by simp)]
    simp only
    rw [List.getElem?_set_self (by simp; omega)]
    rfl
  rw [typ_sound h5 h6]
  refine ⟨by rw [hv], ?_⟩
  rw [hv, typP, if_neg (by simp)]
  simp only
  rw [show (is ++ [i, j]).length = is.length + 1 + 1 by simp, List.getElem?_set_self (by simp; omega)]
  rfl
theorem ver_nil {zs : List (ByteArray × Int)} (h : schE zs = 0) : (verP [] zs).2 = (0, 3) := by
  rw [verP, if_neg (by simp), if_neg (by simp [h])]; rfl
end Go.Proofs.YtkoejkpjkcejcabDoor
