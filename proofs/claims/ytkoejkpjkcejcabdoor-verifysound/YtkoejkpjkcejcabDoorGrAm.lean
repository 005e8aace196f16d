/-
  Arith, EvV, in one text.
-/
import Derived.RowKit
import Derived.Test.YtkoejkpjkcejcabDoorGrAg
import Derived.Test.YtkoejkpjkcejcabDoorQKdRuleC
import Derived.Test.YtkoejkpjkcejcabDoorGrAb
namespace Go.Proofs.YtkoejkpjkcejcabDoor
open Go.RowKit

theorem wrap_in (n : Int) (h : -9223372036854775808 ≤ n ∧ n ≤ 9223372036854775807) : wrap64 n = n := by unfold wrap64; omega
theorem wrap_bd (n : Int) : -9223372036854775808 ≤ wrap64 n ∧ wrap64 n ≤ 9223372036854775807 := by unfold wrap64; omega
theorem wrap_mod (n : Int) : ∃ k : Int, wrap64 n = n + k * 18446744073709551616 := by
  unfold wrap64
  exact ⟨-((n + 9223372036854775808) / 18446744073709551616), by omega⟩

theorem tdiv_near (p b : Int) (hb : b ≠ 0) : -(b.natAbs : Int) < p - p.tdiv b * b ∧ p - p.tdiv b * b < b.natAbs := by
  have h1 := Int.mul_tdiv_add_tmod p b
  have h2 : p - p.tdiv b * b = p.tmod b := by rw [Int.mul_comm]; omega
  rw [h2]
  have h3 : (p.tmod b).natAbs < b.natAbs := by
    rw [Int.natAbs_tmod]
    exact Nat.mod_lt _ (by omega)
  omega

theorem tdiv_bd (p b : Int) (hp : -9223372036854775808 ≤ p ∧ p ≤ 9223372036854775807) (h : ¬ (p = -9223372036854775808 ∧ b = -1)) :
    -9223372036854775808 ≤ p.tdiv b ∧ p.tdiv b ≤ 9223372036854775807 := by
  have h3 : (p.tdiv b).natAbs = p.natAbs / b.natAbs := Int.natAbs_tdiv p b
  have h4 : p.natAbs / b.natAbs ≤ p.natAbs := Nat.div_le_self _ _
  by_cases hm : p = -9223372036854775808
  · have hb : b ≠ -1 := fun e => h ⟨hm, e⟩
    by_cases h1 : b = 1
    · subst h1; rw [Int.tdiv_one]; exact hp
    · have h5 : p.natAbs / b.natAbs ≤ p.natAbs / 2 ∨ b = 0 := by
        by_cases h0 : b = 0
        · exact Or.inr h0
        · exact Or.inl (Nat.div_le_div_left (by omega) (by omega))
      rcases h5 with h5 | h5
      · have : p.natAbs = 9223372036854775808 := by omega
        omega
      · subst h5; rw [Int.tdiv_zero]; omega
  · omega

theorem mul_back (a b : Int) (ha : -9223372036854775808 ≤ a ∧ a ≤ 9223372036854775807) (hb : b ≠ 0)
    (h : -9223372036854775808 ≤ a * b ∧ a * b ≤ 9223372036854775807) : wrap64 ((wrap64 (a * b)).tdiv b) = a := by
  rw [wrap_in _ h, Int.mul_tdiv_cancel _ hb, wrap_in _ ha]

theorem mul_min (a b : Int) (h : -9223372036854775808 ≤ a * b ∧ a * b ≤ 9223372036854775807) : ¬ (a = -9223372036854775808 ∧ b = -1) := by
  rintro ⟨rfl, rfl⟩; omega

theorem mul_over (a b : Int) (ha : -9223372036854775808 ≤ a ∧ a ≤ 9223372036854775807) (hb : -9223372036854775808 ≤ b ∧ b ≤ 9223372036854775807) (h0 : b ≠ 0)
    (h : ¬ (-9223372036854775808 ≤ a * b ∧ a * b ≤ 9223372036854775807)) (hm : ¬ (a = -9223372036854775808 ∧ b = -1)) : wrap64 ((wrap64 (a * b)).tdiv b) ≠ a := by
  intro e
  by_cases hb1 : b = -1
  · subst hb1; omega
  · have hw := wrap_bd (a * b)
    rw [wrap_in _ (tdiv_bd _ b hw (fun x => hb1 x.2))] at e
    obtain ⟨k, hk⟩ := wrap_mod (a * b)
    have hn := tdiv_near (wrap64 (a * b)) b h0
    rw [e] at hn
    have : k = 0 := by omega
    subst this
    omega
end Go.Proofs.YtkoejkpjkcejcabDoor
namespace Go.Proofs.YtkoejkpjkcejcabDoor
open Go.RowKit
set_option linter.unusedVariables false
--BEGIN
def truP (b : Bool) : V3 := (2, if b = true then 1 else 0, ⟨#[]⟩)
def overP (n : Int) : Int × Int := if -9223372036854775808 ≤ n ∧ n ≤ 9223372036854775807 then (n, 0) else (0, 9)
/-- What Reckon comes to: of the five operations. -/
def rkP (op : List UInt8) (a b : Int) : Int × Int :=
  if op = [43] then overP (a + b) else if op = [45] then overP (a - b) else if op = [42] then overP (a * b) else if op = [47] then (if b = 0 ∨ (a = -9223372036854775808 ∧ b = -1) then (0, 9) else (a.tdiv b, 0)) else if b = 0 then (0, 9) else (a.tmod b, 0)
def rkV (op : List UInt8) (a b : Int) : V3 × Int := if (rkP op a b).2 ≠ 0 then (noV, (rkP op a b).2) else ((1, (rkP op a b).1, ⟨#[]⟩), 0)
/-- Whether a comparison is so of two that stand in that order. -/
def holdsP (op : List UInt8) (o : Int) : Bool :=
  if op = [61] then o == 0 else if op = [60, 62] then o != 0 else if op = [60] then decide (o < 0) else if op = [60, 61] then decide (o ≤ 0) else if op = [62] then decide (0 < o) else decide (0 ≤ o)
def isY (v : V3) : Bool := v.2.1 == 1
def cmpV (op : List UInt8) (a b : V3) : V3 × Int :=
  if cmpE a.1 a.2.1 a.2.2.data.toList b.1 b.2.1 b.2.2.data.toList ≠ 0 then (noV, cmpE a.1 a.2.1 a.2.2.data.toList b.1 b.2.1 b.2.2.data.toList)
  else (truP (holdsP op (cmpN a.1 a.2.1 a.2.2.data.toList b.1 b.2.1 b.2.2.data.toList)), 0)
def ops5 : List (List UInt8) := [[43], [45], [42], [47], [37]]
/-- An operation of values that its rule lets through. -/
def appP (op : List UInt8) (vs : List V3) : V3 × Int :=
  if op = [111, 114] then (truP (isY (vs[0]?.getD noV) || isY (vs[1]?.getD noV)), 0)
  else if op = [97, 110, 100] then (truP (isY (vs[0]?.getD noV) && isY (vs[1]?.getD noV)), 0)
  else if op = [110, 111, 116] then (truP (!isY (vs[0]?.getD noV)), 0)
  else if ops5.contains op = true then rkV op (vs[0]?.getD noV).2.1 (vs[1]?.getD noV).2.1
  else if op = [110, 101, 103] then rkV [45] 0 (vs[0]?.getD noV).2.1
  else if op = [108, 101, 110] then ((1, ((vs[0]?.getD noV).2.2.size : Int), ⟨#[]⟩), 0)
  else if op = [105, 102] then (if isY (vs[0]?.getD noV) = true then vs[1]?.getD noV else vs[2]?.getD noV, 0)
  else cmpV op (vs[0]?.getD noV) (vs[1]?.getD noV)
/-- What is wrong with the first value that is wrong. -/
def vlE : List V3 → Int
  | [] => 0
  | r :: rs => if chk r.1 r.2.1 r.2.2.data.toList ≠ 0 then chk r.1 r.2.1 r.2.2.data.toList else vlE rs
/-- Do of any operation and any values. -/
def doP (op : List UInt8) (vs : List V3) : V3 × Int :=
  if vlE vs ≠ 0 then (noV, vlE vs) else if (ruleP op (vs.map (·.1))).2 ≠ 0 then (noV, (ruleP op (vs.map (·.1))).2) else appP op vs
/-- What follows of what the parts come to. -/
def firstE : List (V3 × Int) → Int
  | [] => 0
  | r :: rs => if r.2 ≠ 0 then r.2 else firstE rs
def combP (op : List UInt8) : List (V3 × Int) → V3 × Int
  | [] => (noV, 0)
  | f :: rest => if f.2 ≠ 0 then (noV, f.2)
    else if ((decide (op = [97, 110, 100]) && !isY f.1) || (decide (op = [111, 114]) && isY f.1)) = true then (f.1, 0)
    else if op = [105, 102] then (if isY f.1 = true then rest[0]?.getD (noV, 0) else rest[1]?.getD (noV, 0))
    else if firstE rest ≠ 0 then (noV, firstE rest) else doP op (f.1 :: rest.map (·.1))
/-- What comes: a value of the type, or a number goes over. -/
def comes (t : Int) (r : V3 × Int) : Prop := (r.2 = 0 ∧ okV t r.1) ∨ r = (noV, 9)
theorem vlE_zero : ∀ {vs : List V3}, vlE vs = 0 ↔ ∀ v ∈ vs, chk v.1 v.2.1 v.2.2.data.toList = 0
  | [] => by simp [vlE]
  | v :: vs => by
    rw [vlE]
    by_cases h : chk v.1 v.2.1 v.2.2.data.toList = 0
    · rw [if_neg (fun hh => hh h), vlE_zero]; simp [h]
    · rw [if_pos h]; simp [h]
theorem okV_tru (b : Bool) : okV 2 (truP b) := by
  cases b
  · exact ⟨rfl, by decide, by unfold inB truP; decide⟩
  · exact ⟨rfl, by decide, by unfold inB truP; decide⟩
theorem okV_int {n : Int} (h : inB n) : okV 1 (1, n, ⟨#[]⟩) := ⟨rfl, by simp [chk], h⟩
theorem over_bd (n : Int) : ((overP n).2 = 0 ∧ inB (overP n).1 ∧ (overP n).1 = n) ∨ overP n = (0, 9) := by
  unfold overP
  split
  · rename_i h; exact .inl ⟨rfl, h, rfl⟩
  · exact .inr rfl
theorem rkP_bd (op : List UInt8) (a b : Int) (ha : inB a) (hb : inB b) : ((rkP op a b).2 = 0 ∧ inB (rkP op a b).1) ∨ rkP op a b = (0, 9) := by
  unfold rkP
  split
  · rcases over_bd (a + b) with h | h
    · exact .inl ⟨h.1, h.2.1⟩
    · exact .inr h
  · split
    · rcases over_bd (a - b) with h | h
      · exact .inl ⟨h.1, h.2.1⟩
      · exact .inr h
    · split
      · rcases over_bd (a * b) with h | h
        · exact .inl ⟨h.1, h.2.1⟩
        · exact .inr h
      · split
        · split
          · exact .inr rfl
          · rename_i h
            exact .inl ⟨rfl, tdiv_bd a b ha (fun hh => h (.inr hh))⟩
        · split
          · exact .inr rfl
          · rename_i h
            refine .inl ⟨rfl, ?_⟩
            have h1 : (a.tmod b).natAbs ≤ a.natAbs := by rw [Int.natAbs_tmod]; exact Nat.mod_le _ _
            have h2 : 0 ≤ a → 0 ≤ a.tmod b := fun h => Int.tmod_nonneg b h
            have h3 : a ≤ 0 → a.tmod b ≤ 0 := fun h => by
              have := Int.tmod_nonneg b (show 0 ≤ -a by omega)
              rw [Int.neg_tmod] at this
              omega
            unfold inB at ha hb ⊢
            simp only
            omega
theorem rkV_comes (op : List UInt8) (a b : Int) (ha : inB a) (hb : inB b) : comes 1 (rkV op a b) := by
  unfold rkV
  rcases rkP_bd op a b ha hb with ⟨h, h2⟩ | h
  · rw [if_neg (fun hh => hh h)]
    exact .inl ⟨rfl, okV_int h2⟩
  · rw [h, if_pos (by decide)]
    exact .inr rfl
theorem cmpV_comes (op : List UInt8) (a b : V3) (ha : chk a.1 a.2.1 a.2.2.data.toList = 0) (hb : chk b.1 b.2.1 b.2.2.data.toList = 0) (ht : a.1 = b.1) : comes 2 (cmpV op a b) ∧ (cmpV op a b).2 = 0 := by
  unfold cmpV
  have h : cmpE a.1 a.2.1 a.2.2.data.toList b.1 b.2.1 b.2.2.data.toList = 0 := by
    rw [cmpE, if_neg (fun hh => hh ha), if_neg (fun hh => hh hb), if_neg (fun hh => hh ht)]
  rw [if_neg (fun hh => hh h)]
  exact ⟨.inl ⟨rfl, okV_tru _⟩, rfl⟩
theorem ruleP_in {op : List UInt8} {ts : List Int} {T : Int} (hr : ruleP op ts = (T, 0)) : ∃ r, kdFind op kdRules = some r ∧ ts.length = kdCnt r ∧ kdAll (ts.getLast?.getD 0) ts [r.2.1, r.2.2.1, r.2.2.2.1] = true ∧ kdMeant (ts.getLast?.getD 0) r.2.2.2.2 = T := by
  unfold ruleP at hr
  split at hr
  · simp at hr
  · rename_i r hf
    split at hr
    · simp at hr
    · split at hr
      · simp at hr
      · rename_i hlen
        split at hr
        · rename_i hall
          exact ⟨r, hf, by simpa using hlen, hall, by simpa using hr⟩
        · simp at hr
/-- Of values that are right, and that the rule lets through, an operation comes to its type. -/
theorem app_comes {op : List UInt8} {vs : List V3} {T : Int} (hv : ∀ v ∈ vs, chk v.1 v.2.1 v.2.2.data.toList = 0) (hb : ∀ v ∈ vs, inB v.2.1) (hr : ruleP op (vs.map (·.1)) = (T, 0)) : comes T (appP op vs) := by
  obtain ⟨r, hf, hlen, hall, hT⟩ := ruleP_in hr
  rw [List.length_map] at hlen
  obtain ⟨hm, he⟩ := kdFind_mem hf
  subst he
  simp only [kdRules, List.mem_cons, List.not_mem_nil, or_false] at hm
  have len1 : ∀ {l : List V3}, l.length = 1 → ∃ a, l = [a] := fun {l} h => by
    match l, h with
    | [a], _ => exact ⟨a, rfl⟩
  have len2 : ∀ {l : List V3}, l.length = 2 → ∃ a b, l = [a, b] := fun {l} h => by
    match l, h with
    | [a, b], _ => exact ⟨a, b, rfl⟩
  have len3 : ∀ {l : List V3}, l.length = 3 → ∃ a b c, l = [a, b, c] := fun {l} h => by
    match l, h with
    | [a, b, c], _ => exact ⟨a, b, c, rfl⟩
  rcases hm with rfl | rfl | rfl | rfl | rfl | rfl | rfl | rfl | rfl | rfl | rfl | rfl | rfl | rfl | rfl | rfl | rfl
  · obtain rfl : T = 2 := hT.symm
    exact .inl ⟨rfl, okV_tru _⟩
  · obtain rfl : T = 2 := hT.symm
    exact .inl ⟨rfl, okV_tru _⟩
  · obtain rfl : T = 2 := hT.symm
    exact .inl ⟨rfl, okV_tru _⟩
  · obtain ⟨a, b, rfl⟩ := len2 hlen
    obtain rfl : T = 2 := hT.symm
    exact (cmpV_comes _ a b (hv a (by simp)) (hv b (by simp)) (by simpa [kdAll, kdMeant] using hall)).1
  · obtain ⟨a, b, rfl⟩ := len2 hlen
    obtain rfl : T = 2 := hT.symm
    exact (cmpV_comes _ a b (hv a (by simp)) (hv b (by simp)) (by simpa [kdAll, kdMeant] using hall)).1
  · obtain ⟨a, b, rfl⟩ := len2 hlen
    obtain rfl : T = 2 := hT.symm
    exact (cmpV_comes _ a b (hv a (by simp)) (hv b (by simp)) (by simpa [kdAll, kdMeant] using hall)).1
  · obtain ⟨a, b, rfl⟩ := len2 hlen
    obtain rfl : T = 2 := hT.symm
    exact (cmpV_comes _ a b (hv a (by simp)) (hv b (by simp)) (by simpa [kdAll, kdMeant] using hall)).1
  · obtain ⟨a, b, rfl⟩ := len2 hlen
    obtain rfl : T = 2 := hT.symm
    exact (cmpV_comes _ a b (hv a (by simp)) (hv b (by simp)) (by simpa [kdAll, kdMeant] using hall)).1
  · obtain ⟨a, b, rfl⟩ := len2 hlen
    obtain rfl : T = 2 := hT.symm
    exact (cmpV_comes _ a b (hv a (by simp)) (hv b (by simp)) (by simpa [kdAll, kdMeant] using hall)).1
  · obtain ⟨a, b, rfl⟩ := len2 hlen
    obtain rfl : T = 1 := hT.symm
    exact rkV_comes _ a.2.1 b.2.1 (hb a (by simp)) (hb b (by simp))
  · obtain ⟨a, b, rfl⟩ := len2 hlen
    obtain rfl : T = 1 := hT.symm
    exact rkV_comes _ a.2.1 b.2.1 (hb a (by simp)) (hb b (by simp))
  · obtain ⟨a, b, rfl⟩ := len2 hlen
    obtain rfl : T = 1 := hT.symm
    exact rkV_comes _ a.2.1 b.2.1 (hb a (by simp)) (hb b (by simp))
  · obtain ⟨a, b, rfl⟩ := len2 hlen
    obtain rfl : T = 1 := hT.symm
    exact rkV_comes _ a.2.1 b.2.1 (hb a (by simp)) (hb b (by simp))
  · obtain ⟨a, b, rfl⟩ := len2 hlen
    obtain rfl : T = 1 := hT.symm
    exact rkV_comes _ a.2.1 b.2.1 (hb a (by simp)) (hb b (by simp))
  · obtain ⟨a, rfl⟩ := len1 hlen
    obtain rfl : T = 1 := hT.symm
    exact rkV_comes [45] 0 a.2.1 (by unfold inB; omega) (hb a (by simp))
  · obtain ⟨a, rfl⟩ := len1 hlen
    obtain rfl : T = 1 := hT.symm
    have h40 := chk_size (hv a (by simp))
    refine .inl ⟨rfl, okV_int ?_⟩
    simp at h40
    unfold inB
    simp
    omega
  · obtain ⟨a, b, c, rfl⟩ := len3 hlen
    simp [kdAll, kdMeant] at hall hT
    refine .inl ⟨rfl, ?_⟩
    show okV T (if isY a = true then b else c)
    split
    · exact ⟨by rw [← hT]; exact hall.2, hv b (by simp), hb b (by simp)⟩
    · exact ⟨hT, hv c (by simp), hb c (by simp)⟩
theorem firstE_zero : ∀ {cs : List (V3 × Int)}, firstE cs = 0 ↔ ∀ r ∈ cs, r.2 = 0
  | [] => by simp [firstE]
  | r :: rs => by
    rw [firstE]
    by_cases h : r.2 = 0
    · rw [if_neg (fun hh => hh h), firstE_zero]; simp [h]
    · rw [if_pos h]; simp [h]
theorem firstE_nine : ∀ {cs : List (V3 × Int)}, (∀ r ∈ cs, r.2 = 0 ∨ r.2 = 9) → firstE cs = 0 ∨ firstE cs = 9
  | [], _ => .inl rfl
  | r :: rs, h => by
    rw [firstE]
    split
    · rename_i h0
      exact .inr ((h r (by simp)).resolve_left h0)
    · exact firstE_nine fun q hq => h q (by simp [hq])
theorem comes_err {t : Int} {r : V3 × Int} (h : comes t r) : r.2 = 0 ∨ r.2 = 9 := by
  rcases h with h | h
  · exact .inl h.1
  · exact .inr (by rw [h])
theorem comb_comes {α : Type} {op : List UInt8} {l : List α} {f : α → Int} {g : α → V3 × Int} {T : Int} (h : ∀ y ∈ l, comes (f y) (g y)) (hr : ruleP op (l.map f) = (T, 0)) : comes T (combP op (l.map g)) := by
  obtain ⟨r, hf, hlen, hall, hT⟩ := ruleP_in hr
  rw [List.length_map] at hlen
  match l, h, hr, hlen, hall, hT with
  | [], h, hr, hlen, hall, hT =>
    have := (kdCnt_ok r (kdFind_mem hf).1).1
    simp at hlen
    omega
  | y :: ys, h, hr, hlen, hall, hT =>
    rw [List.map_cons, combP]
    rcases h y (by simp) with ⟨h0, hok⟩ | h9
    · rw [if_neg (fun hh => hh h0)]
      split
      · rename_i hs
        have hop : op = [97, 110, 100] ∨ op = [111, 114] := by
          rcases Bool.or_eq_true_iff.1 hs with h | h
          · exact .inl (of_decide_eq_true (Bool.and_eq_true_iff.1 h).1)
          · exact .inr (of_decide_eq_true (Bool.and_eq_true_iff.1 h).1)
        have hr2 : r.2.1 = 2 ∧ r.2.2.2.2 = 2 := by
          rcases hop with rfl | rfl
          · obtain rfl := Option.some.inj (hf.symm.trans (show kdFind [97, 110, 100] kdRules = some ([97, 110, 100], 2, 2, 0, 2) from rfl))
            exact ⟨rfl, rfl⟩
          · obtain rfl := Option.some.inj (hf.symm.trans (show kdFind [111, 114] kdRules = some ([111, 114], 2, 2, 0, 2) from rfl))
            exact ⟨rfl, rfl⟩
        rw [hr2.2] at hT
        rw [hr2.1, List.map_cons, kdAll] at hall
        have hy : f y = 2 := by
          have := of_decide_eq_true (Bool.and_eq_true_iff.1 hall).1
          rw [this]; rfl
        obtain rfl : T = 2 := hT.symm
        rw [hy] at hok
        exact .inl ⟨rfl, hok⟩
      · split
        · rename_i hif
          subst hif
          obtain rfl := Option.some.inj (hf.symm.trans (show kdFind [105, 102] kdRules = some ([105, 102], 2, -1, -1, -1) from rfl))
          have hl2 : ys.length = 2 := by
            have : (y :: ys).length = 3 := hlen
            simpa using this
          match ys, hl2, h, hall, hT with
          | [b, c], _, h, hall, hT =>
            simp [kdAll, kdMeant] at hall hT
            show comes T (if isY (g y).1 = true then g b else g c)
            split
            · have := h b (by simp)
              rw [hall.2, hT] at this
              exact this
            · have := h c (by simp)
              rw [hT] at this
              exact this
        · split
          · rename_i hfe
            have := firstE_nine (cs := ys.map g) fun q hq => by
              obtain ⟨z, hz, rfl⟩ := List.mem_map.1 hq
              exact comes_err (h z (by simp [hz]))
            rw [this.resolve_left hfe]
            exact .inr rfl
          · rename_i hfe
            have hz := firstE_zero.1 (show firstE (ys.map g) = 0 from by simpa using hfe)
            have hall2 : ∀ z ∈ y :: ys, okV (f z) (g z).1 := fun z hz2 => by
              rcases h z hz2 with hgz | hgz
              · exact hgz.2
              · exfalso
                rcases List.mem_cons.1 hz2 with rfl | hz3
                · rw [hgz] at h0; exact absurd h0 (by decide)
                · have := hz (g z) (List.mem_map.2 ⟨z, hz3, rfl⟩)
                  rw [hgz] at this; exact absurd this (by decide)
            have hmap : ((g y).1 :: (ys.map g).map (·.1)) = (y :: ys).map (fun z => (g z).1) := by simp
            have htys : ((y :: ys).map (fun z => (g z).1)).map (·.1) = (y :: ys).map f := by
              rw [List.map_map]
              exact List.map_congr_left fun z hz => (hall2 z hz).1
            have hvl : vlE ((y :: ys).map (fun z => (g z).1)) = 0 := vlE_zero.2 fun v hv => by
              obtain ⟨z, hz, rfl⟩ := List.mem_map.1 hv
              exact (hall2 z hz).2.1
            rw [hmap, doP, if_neg (fun hh => hh hvl), htys, hr, if_neg (by simp)]
            exact app_comes (fun v hv => vlE_zero.1 hvl v hv) (fun v hv => by
              obtain ⟨z, hz, rfl⟩ := List.mem_map.1 hv
              exact (hall2 z hz).2.2) (by rw [htys]; exact hr)
    · rw [h9, if_pos (by decide)]
      exact .inr rfl
/-- A row that is right over columns. -/
def RowR (zs : List (ByteArray × Int)) (rs : List V3) : Prop := rs.length = zs.length ∧ ∀ k (h : k < zs.length) (h2 : k < rs.length), okV zs[k].2 rs[k]
--END
end Go.Proofs.YtkoejkpjkcejcabDoor
