/-
  Either way round: plain facts on Do of two values.
-/
import Derived.Test.YtomakklbfjkdpabDoorEvP
namespace Go.Proofs.YtomakklbfjkdpabDoor
open Go.RowKit
set_option linter.unusedVariables false
--BEGIN
theorem chk_ty {t n : Int} {l : List UInt8} (h : chk t n l = 0) : t = 1 ∨ t = 2 ∨ t = 3 := by
  unfold chk at h
  by_cases ht : t = 1 ∨ t = 2 ∨ t = 3
  · exact ht
  · rw [if_pos (.inl ht)] at h
    omega
theorem cmpI_turn (x y : Int) : cmpI x y = -cmpI y x := by
  unfold cmpI
  split <;> split <;> first | omega | (split <;> omega)
theorem lt_turn (x y : List UInt8) : cmpS x y = -cmpS y x := by
  unfold cmpS
  by_cases h1 : x < y
  · have h2 : ¬ y < x := List.lt_asymm h1
    simp [h1, h2]
  · by_cases h2 : y < x
    · simp [h1, h2]
    · simp [h1, h2]
theorem cmpV_turn (op op' : List UInt8) (h : ∀ o, holdsP op o = holdsP op' (-o)) (a b : V3) (ha : chk a.1 a.2.1 a.2.2.data.toList = 0) (hb : chk b.1 b.2.1 b.2.2.data.toList = 0) (ht : a.1 = b.1) : cmpV op a b = cmpV op' b a := by
  have h1 : cmpE a.1 a.2.1 a.2.2.data.toList b.1 b.2.1 b.2.2.data.toList = 0 := by
    rw [cmpE, if_neg (fun hh => hh ha), if_neg (fun hh => hh hb), if_neg (fun hh => hh ht)]
  have h2 : cmpE b.1 b.2.1 b.2.2.data.toList a.1 a.2.1 a.2.2.data.toList = 0 := by
    rw [cmpE, if_neg (fun hh => hh hb), if_neg (fun hh => hh ha), if_neg (fun hh => hh ht.symm)]
  have h3 : cmpN a.1 a.2.1 a.2.2.data.toList b.1 b.2.1 b.2.2.data.toList = -cmpN b.1 b.2.1 b.2.2.data.toList a.1 a.2.1 a.2.2.data.toList := by
    have n1 : cmpN a.1 a.2.1 a.2.2.data.toList b.1 b.2.1 b.2.2.data.toList = if a.1 = 3 then cmpS a.2.2.data.toList b.2.2.data.toList else cmpI a.2.1 b.2.1 := by unfold cmpN; rw [if_neg (fun hh => hh h1)]
    have n2 : cmpN b.1 b.2.1 b.2.2.data.toList a.1 a.2.1 a.2.2.data.toList = if b.1 = 3 then cmpS b.2.2.data.toList a.2.2.data.toList else cmpI b.2.1 a.2.1 := by unfold cmpN; rw [if_neg (fun hh => hh h2)]
    rw [n1, n2, ht]
    split
    · exact lt_turn _ _
    · exact cmpI_turn _ _
  rw [cmpV, cmpV, if_neg (fun hh => hh h1), if_neg (fun hh => hh h2), h3, h, Int.neg_neg]
def swOps : List (List UInt8 × List UInt8) := [([43], [43]), ([42], [42]), ([61], [61]), ([60, 62], [60, 62]), ([60], [62]), ([60, 61], [62, 61])]
theorem do_turn_of {op op' : List UInt8} (hrule : ∀ t u, (t = 1 ∨ t = 2 ∨ t = 3) → (u = 1 ∨ u = 2 ∨ u = 3) → (ruleP op [t, u]).2 = (ruleP op' [u, t]).2 ∧ ((ruleP op [t, u]).2 = 0 → t = u))
    (happ : ∀ a b : V3, chk a.1 a.2.1 a.2.2.data.toList = 0 → chk b.1 b.2.1 b.2.2.data.toList = 0 → a.1 = b.1 → appP op [a, b] = appP op' [b, a]) (a b : V3) :
    (doP op [a, b]).1 = (doP op' [b, a]).1 ∧ ((doP op [a, b]).2 = 0 ↔ (doP op' [b, a]).2 = 0) := by
  by_cases hv : vlE [a, b] = 0
  · have hva := vlE_zero.1 hv
    have ha := hva a (by simp)
    have hb := hva b (by simp)
    have hv' : vlE [b, a] = 0 := vlE_zero.2 fun v h => by
      rcases List.mem_cons.1 h with rfl | h
      · exact hb
      · rcases List.mem_cons.1 h with rfl | h
        · exact ha
        · cases h
    obtain ⟨hr1, hr2⟩ := hrule a.1 b.1 (chk_ty ha) (chk_ty hb)
    have d1 : doP op [a, b] = if (ruleP op [a.1, b.1]).2 ≠ 0 then (noV, (ruleP op [a.1, b.1]).2) else appP op [a, b] := by
      unfold doP
      rw [if_neg (fun hh => hh hv)]
      rfl
    have d2 : doP op' [b, a] = if (ruleP op' [b.1, a.1]).2 ≠ 0 then (noV, (ruleP op' [b.1, a.1]).2) else appP op' [b, a] := by
      unfold doP
      rw [if_neg (fun hh => hh hv')]
      rfl
    rw [← hr1] at d2
    by_cases hz : (ruleP op [a.1, b.1]).2 = 0
    · rw [if_neg (fun hh => hh hz)] at d1 d2
      rw [d1, d2, happ a b ha hb (hr2 hz)]
      exact ⟨rfl, Iff.rfl⟩
    · rw [if_pos hz] at d1 d2
      rw [d1, d2]
      exact ⟨rfl, Iff.rfl⟩
  · have hv' : vlE [b, a] ≠ 0 := fun h => hv (vlE_zero.2 fun v hm => by
      have hva := vlE_zero.1 h
      rcases List.mem_cons.1 hm with rfl | hm
      · exact hva _ (by simp)
      · rcases List.mem_cons.1 hm with rfl | hm
        · exact hva _ (by simp)
        · cases hm)
    have d1 : doP op [a, b] = (noV, vlE [a, b]) := by unfold doP; rw [if_pos hv]
    have d2 : doP op' [b, a] = (noV, vlE [b, a]) := by unfold doP; rw [if_pos hv']
    rw [d1, d2]
    exact ⟨rfl, by simp [hv, hv']⟩
theorem rule_turn : ∀ p ∈ swOps, ∀ t ∈ [(1 : Int), 2, 3], ∀ u ∈ [(1 : Int), 2, 3], (ruleP p.1 [t, u]).2 = (ruleP p.2 [u, t]).2 ∧ ((ruleP p.1 [t, u]).2 = 0 → t = u) := by decide
theorem do_turn {op op' : List UInt8} (h : (op, op') ∈ swOps) (a b : V3) : (doP op [a, b]).1 = (doP op' [b, a]).1 ∧ ((doP op [a, b]).2 = 0 ↔ (doP op' [b, a]).2 = 0) := by
  refine do_turn_of (fun t u ht hu => rule_turn _ h t (by rcases ht with rfl | rfl | rfl <;> simp) u (by rcases hu with rfl | rfl | rfl <;> simp)) (fun a b ha hb hab => ?_) a b
  simp only [swOps, List.mem_cons, List.not_mem_nil, or_false, Prod.mk.injEq] at h
  rcases h with ⟨rfl, rfl⟩ | ⟨rfl, rfl⟩ | ⟨rfl, rfl⟩ | ⟨rfl, rfl⟩ | ⟨rfl, rfl⟩ | ⟨rfl, rfl⟩
  · show rkV [43] a.2.1 b.2.1 = rkV [43] b.2.1 a.2.1
    simp [rkV, rkP, Int.add_comm]
  · show rkV [42] a.2.1 b.2.1 = rkV [42] b.2.1 a.2.1
    simp [rkV, rkP, Int.mul_comm]
  · exact cmpV_turn [61] [61] (fun o => by
      show (o == 0) = (-o == 0)
      rw [Bool.eq_iff_iff]
      simp) a b ha hb hab
  · exact cmpV_turn [60, 62] [60, 62] (fun o => by
      show (o != 0) = (-o != 0)
      rw [Bool.eq_iff_iff]
      simp) a b ha hb hab
  · exact cmpV_turn [60] [62] (fun o => by simp [holdsP]) a b ha hb hab
  · exact cmpV_turn [60, 61] [62, 61] (fun o => by simp [holdsP]) a b ha hb hab
--END
end Go.Proofs.YtomakklbfjkdpabDoor
