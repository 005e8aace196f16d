/-
  RefDa, CdRo, TreeSg, in one text.
-/
import Derived.Test.YtfhlhdddhgkinaaGreatDoorQRefDf
import Derived.Test.YtfhlhdddhgkinaaGreatDoorQRefDc
import Derived.Test.YtfhlhdddhgkinaaGreatDoorGrAi
import Derived.Test.YtfhlhdddhgkinaaGreatDoorGrAc
import Derived.WalkSmall
namespace Go.Proofs.YtfhlhdddhgkinaaGreatDoor
open Go.RowKit
set_option linter.unusedVariables false

theorem refDo_any (op : ByteArray) (p : Option Addr) (c N : Nat) (vs : List V3) (w : World) (hN : vs.length = N) (hvs : ValsAt w p vs) (hv : ∀ v ∈ vs, chk v.1 v.2.1 v.2.2.data.toList = 0) (hb : ∀ v ∈ vs, v.2.2.size ≤ maxLen ∧ inB v.2.1) (T : Int) (hr : ruleP op.data.toList (vs.map (·.1)) = (T, 0)) (t k : Int) (s : ByteArray) (e : Int) (hR : appP op.data.toList vs = ((t, k, s), e)) :
    Calls Tryz.prog 45 #[.string op, .slice p N c] w fun e' w' => e' = .returned (.tuple #[.agg #[.int .i64 t, .int .i64 k, .string s], .int .i64 e]) ∧ Below w.heap.size w w' := by
  obtain ⟨r, hf, hlen, hall, hT⟩ := ruleP_in hr
  rw [List.length_map] at hlen
  obtain ⟨hm, he⟩ := kdFind_mem hf
  have h1 := (kdCnt_ok r hm).1
  rcases hvs with h | ⟨b, off, rfl, hbl, hc⟩
  · omega
  obtain ⟨⟨l⟩⟩ := op
  simp only at he
  subst he
  clear hr hf h1
  have h2 : ∀ v : V3, chk v.1 v.2.1 v.2.2.data.toList = 0 → v.1 = 2 → v.2.1 = 0 ∨ v.2.1 = 1 := fun v h e => by
    rw [e] at h
    exact (chk_two h).1
  simp only [kdRules, List.mem_cons, List.not_mem_nil, or_false] at hm
  have len1 : ∀ {l : List V3}, l.length = 1 → ∃ a, l = [a] := fun {l} h => by
    match l, h with
    | [a], _ => exact ⟨a, rfl⟩
  have len2 : ∀ {l : List V3}, l.length = 2 → ∃ a b, l = [a, b] := fun {l} h => by
    match l, h with
    | [a, b], _ => exact ⟨a, b, rfl⟩
  have len3 : ∀ {l : List V3}, l.length = 3 → ∃ a b c, l = [a, b, c] := fun {l} h => by
    match l, h with
    | [a, b, c], _ => exact ⟨a, b, c, rfl⟩
  have five : ∀ (op : ByteArray) (x y : V3), vs = [x, y] → ops5.contains op.data.toList = true → rkV op.data.toList x.2.1 y.2.1 = ((t, k, s), e) → Calls Tryz.prog 45 #[.string op, .slice (some ⟨b, off, none⟩) N c] w fun e' w' => e' = .returned (.tuple #[.agg #[.int .i64 t, .int .i64 k, .string s], .int .i64 e]) ∧ Below w.heap.size w w' := fun op x y hxy ho hR2 => by
    subst hxy
    exact rd_five op b off c N (by rw [← hN]; exact Nat.le_refl _) _ _ _ _ _ _ w hbl (one_of hc (j := 0) (by simp) off (by omega)) (one_of hc (j := 1) (by simp) (off + 3) (by omega)) (hb x (by simp)).2 (hb y (by simp)).2 ho t k s e hR2
  have cmps : ∀ (op : ByteArray) (x y : V3), vs = [x, y] → (op = ⟨#[61]⟩ ∨ op = ⟨#[60, 62]⟩ ∨ op = ⟨#[60]⟩ ∨ op = ⟨#[60, 61]⟩ ∨ op = ⟨#[62]⟩ ∨ op = ⟨#[62, 61]⟩) → x.1 = y.1 → cmpV op.data.toList x y = ((t, k, s), e) → Calls Tryz.prog 45 #[.string op, .slice (some ⟨b, off, none⟩) N c] w fun e' w' => e' = .returned (.tuple #[.agg #[.int .i64 t, .int .i64 k, .string s], .int .i64 e]) ∧ Below w.heap.size w w' := fun op x y hxy ho htt hR2 => by
    subst hxy
    have hE : cmpE x.1 x.2.1 x.2.2.data.toList y.1 y.2.1 y.2.2.data.toList = 0 := by
      rw [cmpE, if_neg (by simpa using hv x (by simp)), if_neg (by simpa using hv y (by simp)), if_neg (by simpa using htt)]
    rw [cmpV, if_neg (by simpa using hE)] at hR2
    simp only [truP, Prod.mk.injEq] at hR2
    obtain ⟨⟨rfl, hk, rfl⟩, rfl⟩ := hR2
    exact rd_cmp op b off c N (by rw [← hN]; exact Nat.le_refl _) _ _ _ _ _ _ w hbl (one_of hc (j := 0) (by simp) off (by omega)) (one_of hc (j := 1) (by simp) (off + 3) (by omega)) ho hE k hk
  rcases hm with rfl | rfl | rfl | rfl | rfl | rfl | rfl | rfl | rfl | rfl | rfl | rfl | rfl | rfl | rfl | rfl | rfl
  · obtain ⟨x, y, rfl⟩ := len2 hlen
    replace hR : (truP (isY x || isY y), (0 : Int)) = ((t, k, s), e) := hR
    simp only [truP, Prod.mk.injEq] at hR
    obtain ⟨⟨rfl, hk, rfl⟩, rfl⟩ := hR
    exact rd_or b off c N (by rw [← hN]; exact Nat.le_refl _) _ _ _ _ _ _ w hbl (one_of hc (j := 0) (by simp) off (by omega)) (one_of hc (j := 1) (by simp) (off + 3) (by omega)) k hk
  · obtain ⟨x, y, rfl⟩ := len2 hlen
    replace hR : (truP (isY x && isY y), (0 : Int)) = ((t, k, s), e) := hR
    simp only [truP, Prod.mk.injEq] at hR
    obtain ⟨⟨rfl, hk, rfl⟩, rfl⟩ := hR
    exact rd_and b off c N (by rw [← hN]; exact Nat.le_refl _) _ _ _ _ _ _ w hbl (one_of hc (j := 0) (by simp) off (by omega)) (one_of hc (j := 1) (by simp) (off + 3) (by omega)) k hk
  · obtain ⟨x, rfl⟩ := len1 hlen
    replace hR : (truP (!isY x), (0 : Int)) = ((t, k, s), e) := hR
    simp only [truP, Prod.mk.injEq] at hR
    obtain ⟨⟨rfl, hk, rfl⟩, rfl⟩ := hR
    exact rd_not b off c N (by rw [← hN]; exact Nat.le_refl _) _ _ _ w hbl (one_of hc (j := 0) (by simp) off (by omega)) (h2 x (hv x (by simp)) (by simpa [kdAll, kdMeant] using hall)) k hk
  · obtain ⟨x, y, h⟩ := len2 hlen
    exact cmps ⟨#[61]⟩ x y h (by simp) (by subst h; simpa [kdAll, kdMeant] using hall) (by subst h; exact hR)
  · obtain ⟨x, y, h⟩ := len2 hlen
    exact cmps ⟨#[60, 62]⟩ x y h (by simp) (by subst h; simpa [kdAll, kdMeant] using hall) (by subst h; exact hR)
  · obtain ⟨x, y, h⟩ := len2 hlen
    exact cmps ⟨#[60]⟩ x y h (by simp) (by subst h; simpa [kdAll, kdMeant] using hall) (by subst h; exact hR)
  · obtain ⟨x, y, h⟩ := len2 hlen
    exact cmps ⟨#[60, 61]⟩ x y h (by simp) (by subst h; simpa [kdAll, kdMeant] using hall) (by subst h; exact hR)
  · obtain ⟨x, y, h⟩ := len2 hlen
    exact cmps ⟨#[62]⟩ x y h (by simp) (by subst h; simpa [kdAll, kdMeant] using hall) (by subst h; exact hR)
  · obtain ⟨x, y, h⟩ := len2 hlen
    exact cmps ⟨#[62, 61]⟩ x y h (by simp) (by subst h; simpa [kdAll, kdMeant] using hall) (by subst h; exact hR)
  · obtain ⟨x, y, h⟩ := len2 hlen
    exact five ⟨#[43]⟩ x y h (by decide) (by subst h; exact hR)
  · obtain ⟨x, y, h⟩ := len2 hlen
    exact five ⟨#[45]⟩ x y h (by decide) (by subst h; exact hR)
  · obtain ⟨x, y, h⟩ := len2 hlen
    exact five ⟨#[42]⟩ x y h (by decide) (by subst h; exact hR)
  · obtain ⟨x, y, h⟩ := len2 hlen
    exact five ⟨#[47]⟩ x y h (by decide) (by subst h; exact hR)
  · obtain ⟨x, y, h⟩ := len2 hlen
    exact five ⟨#[37]⟩ x y h (by decide) (by subst h; exact hR)
  · obtain ⟨x, rfl⟩ := len1 hlen
    exact rd_neg b off c N (by rw [← hN]; exact Nat.le_refl _) _ _ _ w hbl (one_of hc (j := 0) (by simp) off (by omega)) (hb x (by simp)).2 t k s e hR
  · obtain ⟨x, rfl⟩ := len1 hlen
    replace hR : (((1 : Int), (x.2.2.size : Int), (⟨#[]⟩ : ByteArray)), (0 : Int)) = ((t, k, s), e) := hR
    simp only [Prod.mk.injEq] at hR
    obtain ⟨⟨rfl, rfl, rfl⟩, rfl⟩ := hR
    exact rd_len b off c N (by rw [← hN]; exact Nat.le_refl _) _ _ _ w hbl (one_of hc (j := 0) (by simp) off (by omega))
  · obtain ⟨x, y, z, rfl⟩ := len3 hlen
    replace hR : (if isY x = true then y else z, (0 : Int)) = ((t, k, s), e) := hR
    have cI := rd_if b off c N (by rw [← hN]; exact Nat.le_refl _) _ _ _ _ _ _ _ _ _ w hbl (one_of hc (j := 0) (by simp) off (by omega)) (one_of hc (j := 1) (by simp) (off + 3) (by omega)) (one_of hc (j := 2) (by simp) (off + 6) (by omega)) (h2 x (hv x (by simp)) (by simp [kdAll, kdMeant] at hall; exact hall.1))
    refine cI.mono fun e' w' h => ⟨?_, h.2⟩
    rw [h.1]
    obtain ⟨hyz, rfl⟩ := Prod.mk.inj hR
    unfold isY at hyz
    simp only [List.getElem_cons_zero, List.getElem_cons_succ]
    split at hyz
    · rename_i hbb
      subst hyz
      rw [if_pos hbb]
    · rename_i hbb
      subst hyz
      rw [if_neg hbb]
theorem do_app {op : List UInt8} {vs : List V3} (hv : ∀ v ∈ vs, chk v.1 v.2.1 v.2.2.data.toList = 0) (hr : (ruleP op (vs.map (·.1))).2 = 0) : doP op vs = appP op vs := by
  rw [doP, if_neg (by simpa using vlE_zero.2 hv), if_neg (by simpa using hr)]
end Go.Proofs.YtfhlhdddhgkinaaGreatDoor
namespace Go.Proofs.YtfhlhdddhgkinaaGreatDoor
open Go.RowKit
set_option linter.unusedVariables false

set_option maxHeartbeats 2000000 in
theorem refOp_any (n : Int) (w : World) :
    Calls Tryz.prog 41 #[.int .i64 n] w fun e w' => e = .returned (.tuple #[.string ⟨(opN n).toArray⟩, .bool (opE n == 0)]) ∧ Below w.heap.size w w' := by
  by_cases h0 : 2 ≤ n ∧ n < 16
  · obtain ⟨k, rfl⟩ : ∃ k : Nat, n = k := ⟨n.toNat, by omega⟩
    have hk : k < opsS.length := by have : opsS.length = 17 := rfl; omega
    have z0 : ¬ (k : Int) < 2 := by omega
    have z1 : ¬ (16 : Int) ≤ (k : Int) := by omega
    have z2 : (0 : Int) ≤ (k : Int) := by omega
    have z3 : (k : Int) < 17 := by omega
    obtain ⟨f1, f2⟩ := opN_some (k := k) (by omega) hk
    rw [f1, f2]
    go_enter Tryz.func41, Tryz.ntmps41
    go_wp2_with fail
    refine (refOps_any w).mono ?_
    rintro e w1 ⟨⟨q, c, rfl, hst⟩, b1⟩
    obtain ⟨b, off, rfl, hbl, hcell⟩ := hst.out
    have c1 := hcell k hk
    go_wp2
    go_ret2
    exact ⟨rfl, b1⟩
  · obtain ⟨f1, f2⟩ := opN_none (n := n) (by omega)
    rw [f1, f2]
    by_cases hn : n < 2
    · go_enter Tryz.func41, Tryz.ntmps41
      go_wp2_with fail
      refine (refOps_any w).mono ?_
      rintro e w1 ⟨⟨q, c, rfl, hst⟩, b1⟩
      go_wp2
      go_ret2
      exact ⟨rfl, b1⟩
    · have hn2 : (16 : Int) ≤ n := by omega
      go_enter Tryz.func41, Tryz.ntmps41
      go_wp2_with fail
      refine (refOps_any w).mono ?_
      rintro e w1 ⟨⟨q, c, rfl, hst⟩, b1⟩
      go_wp2
      go_ret2
      exact ⟨rfl, b1⟩
end Go.Proofs.YtfhlhdddhgkinaaGreatDoor
namespace Go.Proofs.YtfhlhdddhgkinaaGreatDoor
open Go.RowKit
set_option linter.unusedVariables false

theorem signs_0 (w : World) : Calls Tryz.prog 74 #[.int .i64 0] w fun e w' => e = .returned (.slice (some ⟨w.heap.size, 0, none⟩) 1 1) ∧ w' = w.alloc (.cells #[.string ⟨#[111, 114]⟩] 9) := by
  go_enter Tryz.func74, Tryz.ntmps74
  go_wp2
  go_ret
  exact ⟨rfl, rfl⟩
theorem signs_1 (w : World) : Calls Tryz.prog 74 #[.int .i64 1] w fun e w' => e = .returned (.slice (some ⟨w.heap.size, 0, none⟩) 1 1) ∧ w' = w.alloc (.cells #[.string ⟨#[97, 110, 100]⟩] 9) := by
  go_enter Tryz.func74, Tryz.ntmps74
  go_wp2
  go_ret
  exact ⟨rfl, rfl⟩
theorem signs_2 (w : World) : Calls Tryz.prog 74 #[.int .i64 2] w fun e w' => e = .returned (.slice (some ⟨w.heap.size, 0, none⟩) 6 6) ∧ w' = w.alloc (.cells #[.string ⟨#[61]⟩, .string ⟨#[60, 62]⟩, .string ⟨#[60]⟩, .string ⟨#[60, 61]⟩, .string ⟨#[62]⟩, .string ⟨#[62, 61]⟩] 9) := by
  go_enter Tryz.func74, Tryz.ntmps74
  go_wp2
  go_ret
  exact ⟨rfl, rfl⟩
theorem signs_3 (w : World) : Calls Tryz.prog 74 #[.int .i64 3] w fun e w' => e = .returned (.slice (some ⟨w.heap.size, 0, none⟩) 2 2) ∧ w' = w.alloc (.cells #[.string ⟨#[43]⟩, .string ⟨#[45]⟩] 9) := by
  go_enter Tryz.func74, Tryz.ntmps74
  go_wp2
  go_ret
  exact ⟨rfl, rfl⟩
theorem signs_4 (w : World) : Calls Tryz.prog 74 #[.int .i64 4] w fun e w' => e = .returned (.slice (some ⟨w.heap.size, 0, none⟩) 3 3) ∧ w' = w.alloc (.cells #[.string ⟨#[42]⟩, .string ⟨#[47]⟩, .string ⟨#[37]⟩] 9) := by
  go_enter Tryz.func74, Tryz.ntmps74
  go_wp2
  go_ret
  exact ⟨rfl, rfl⟩
/-- Does an operation stand among the signs of the levels? -/
def inSigns (l : List UInt8) : Bool := (sgl 0 ++ sgl 1 ++ sgl 2 ++ sgl 3 ++ sgl 4).any (· == l)
/-- How many parts an operation has; below 0: it is none. -/
def arityT (l : List UInt8) : Int :=
  if l = [99, 111, 108] ∨ l = [118, 97, 108] then 0
  else if l = [110, 111, 116] ∨ l = [110, 101, 103] ∨ l = [108, 101, 110] then 1
  else if l = [105, 102] then 3
  else if inSigns l = true then 2 else -1
/-- The same for every level, the texts in memory. -/
theorem signs_any (lv : Nat) (h : lv < 5) (w : World) : ∃ S : List ByteArray, S.map (·.data.toList) = sgl lv ∧ S.length ≤ 6 ∧ Calls Tryz.prog 74 #[.int .i64 (lv : Int)] w fun e w' => e = .returned (.slice (some ⟨w.heap.size, 0, none⟩) S.length S.length) ∧ (∀ j (hj : j < S.length), w'.cell? ⟨w.heap.size, j, none⟩ = some (.string S[j])) ∧ w.heap.size < w'.heap.size ∧ Below w.heap.size w w' := by
  have h : lv = 0 ∨ lv = 1 ∨ lv = 2 ∨ lv = 3 ∨ lv = 4 := by omega
  have fin : ∀ (S : List ByteArray) (F : Nat), (Calls Tryz.prog 74 #[.int .i64 (F : Int)] w fun e w' => e = .returned (.slice (some ⟨w.heap.size, 0, none⟩) S.length S.length) ∧ w' = w.alloc (.cells (S.map Value.string).toArray 9)) → Calls Tryz.prog 74 #[.int .i64 (F : Int)] w fun e w' => e = .returned (.slice (some ⟨w.heap.size, 0, none⟩) S.length S.length) ∧ (∀ j (hj : j < S.length), w'.cell? ⟨w.heap.size, j, none⟩ = some (.string S[j])) ∧ w.heap.size < w'.heap.size ∧ Below w.heap.size w w' := fun S F c => c.mono fun e w' hh => by
    obtain ⟨he, rfl⟩ := hh
    refine ⟨he, fun j hj => ?_, by simp, (Below.refl _ _).alloc (Nat.le_refl _) _⟩
    rw [World.cell?_alloc_at _ _ _ _ rfl]
    simp [hj]
  rcases h with rfl | rfl | rfl | rfl | rfl
  · exact ⟨[⟨#[111, 114]⟩], rfl, by decide, fin [⟨#[111, 114]⟩] 0 (signs_0 w)⟩
  · exact ⟨[⟨#[97, 110, 100]⟩], rfl, by decide, fin [⟨#[97, 110, 100]⟩] 1 (signs_1 w)⟩
  · exact ⟨[⟨#[61]⟩, ⟨#[60, 62]⟩, ⟨#[60]⟩, ⟨#[60, 61]⟩, ⟨#[62]⟩, ⟨#[62, 61]⟩], rfl, by decide, fin [⟨#[61]⟩, ⟨#[60, 62]⟩, ⟨#[60]⟩, ⟨#[60, 61]⟩, ⟨#[62]⟩, ⟨#[62, 61]⟩] 2 (signs_2 w)⟩
  · exact ⟨[⟨#[43]⟩, ⟨#[45]⟩], rfl, by decide, fin [⟨#[43]⟩, ⟨#[45]⟩] 3 (signs_3 w)⟩
  · exact ⟨[⟨#[42]⟩, ⟨#[47]⟩, ⟨#[37]⟩], rfl, by decide, fin [⟨#[42]⟩, ⟨#[47]⟩, ⟨#[37]⟩] 4 (signs_4 w)⟩
/-- Up to a level. -/
def upTo (lv : Nat) : List (List UInt8) := (List.range lv).flatMap sgl
theorem upTo_succ (lv : Nat) : upTo (lv + 1) = upTo lv ++ sgl lv := by simp [upTo, List.range_succ]
theorem upTo_all (l : List UInt8) : (upTo 5).any (· == l) = inSigns l := by
  rw [inSigns]
  rfl
set_option maxHeartbeats 8000000 in
set_option maxRecDepth 20000 in
theorem arity_late (s : ByteArray) (w : World) (h1 : s.data.toList ≠ [99, 111, 108]) (h2 : s.data.toList ≠ [118, 97, 108]) (h3 : s.data.toList ≠ [110, 111, 116]) (h4 : s.data.toList ≠ [110, 101, 103]) (h5 : s.data.toList ≠ [108, 101, 110]) (h6 : s.data.toList ≠ [105, 102]) :
    Calls Tryz.prog 42 #[.string s] w fun e w' => e = .returned (.int .i64 (if inSigns s.data.toList = true then 2 else -1)) ∧ Below w.heap.size w w' := by
  have q1 : (s.toList == [99, 111, 108]) = false := by rw [Lib.toList_data]; simpa using h1
  have q2 : (s.toList == [118, 97, 108]) = false := by rw [Lib.toList_data]; simpa using h2
  have q3 : (s.toList == [110, 111, 116]) = false := by rw [Lib.toList_data]; simpa using h3
  have q4 : (s.toList == [110, 101, 103]) = false := by rw [Lib.toList_data]; simpa using h4
  have q5 : (s.toList == [108, 101, 110]) = false := by rw [Lib.toList_data]; simpa using h5
  have q6 : (s.toList == [105, 102]) = false := by rw [Lib.toList_data]; simpa using h6
  clear h1 h2 h3 h4 h5 h6
  obtain ⟨Z, hZ⟩ : ∃ Z : Int, (if inSigns s.data.toList = true then 2 else -1) = Z := ⟨_, rfl⟩
  have HZ : Hid ((if inSigns s.data.toList = true then 2 else -1) = Z) := hZ
  rw [hZ]
  clear hZ
  go_enter Tryz.func42, Tryz.ntmps42
  go_wp2
  go_loopg [3, 4, 5] 5 (fun gg s3 _ _ wr => ∃ lv : Nat, lv ≤ 5 ∧ 5 - lv ≤ gg ∧ s3 = .int .i64 lv ∧ Aside (Below w.heap.size w wr) ∧ Hid ((upTo lv).any (· == s.data.toList) = false))
  case atStart => exact ⟨0, Nat.zero_le _, by omega, rfl, Below.refl _ _, rfl⟩
  case round =>
    obtain ⟨lv, hlv, hg, rfl, BW, HU⟩ := hrel
    by_cases hlt : lv < 5
    · have hltz : (lv : Int) < 5 := by omega
      obtain ⟨S, hS, hSl, cS⟩ := signs_any lv hlt wr
      have HSg : Hid (S.map (·.data.toList) = sgl lv) := hS
      clear hS
      go_wp2_with fail
      refine cS.mono ?_
      rintro e w1 ⟨rfl, hc, hgl, b1⟩
      have B1 := BW.out.trans (b1.mono BW.out.size)
      have HC : Hid (∀ j (hj : j < S.length), w1.cell? ⟨wr.heap.size, j, none⟩ = some (.string S[j])) := hc
      clear cS hc
      go_wp2
      go_loopg [5] S.length (fun gg s5 wx => ∃ kk : Nat, kk ≤ S.length ∧ S.length - kk ≤ gg ∧ s5 = .int .i64 kk ∧ wx = w1 ∧ Hid (((S.take kk).map (·.data.toList)).any (· == s.data.toList) = false))
      case atStart => exact ⟨0, Nat.zero_le _, by omega, rfl, rfl, rfl⟩
      case round =>
        obtain ⟨kk, hkk, hgk, rfl, rfl, HK⟩ := hrel
        by_cases hk : kk < S.length
        · have hkz : (kk : Int) < (S.length : Int) := by omega
          have k0 : (0 : Int) ≤ (kk : Int) := by omega
          have c0 := HC.out kk hk
          cases hb : S[kk].data.toList == s.data.toList
          · have hbt : (S[kk].toList == s.toList) = false := by rw [Lib.toList_data, Lib.toList_data]; exact hb
            have HK2 : Hid (((S.take (kk + 1)).map (·.data.toList)).any (· == s.data.toList) = false) := by
              show _ = _
              rw [List.take_succ_eq_append_getElem hk, List.map_append, List.any_append, HK.out]
              simp only [List.map_cons, List.map_nil, List.any_cons, List.any_nil, Bool.or_false, Bool.false_or]
              exact hb
            generalize S[kk] = y at c0 hbt
            clear hb HK
            go_wp2
            go_roundg (S.length - (kk + 1))
            case measure => omega
            case rel => exact ⟨kk + 1, by omega, by omega, by go_num, rfl, HK2⟩
          · have hbt : (S[kk].toList == s.toList) = true := by rw [Lib.toList_data, Lib.toList_data]; exact hb
            have hin : inSigns s.data.toList = true := by
              rw [← upTo_all, List.any_eq_true]
              refine ⟨S[kk].data.toList, ?_, hb⟩
              rw [upTo, List.mem_flatMap]
              exact ⟨lv, List.mem_range.2 hlt, by rw [← HSg.out]; exact List.mem_map.2 ⟨S[kk], List.getElem_mem hk, rfl⟩⟩
            have hz : 2 = Z := by have := HZ.out; rwa [if_pos hin] at this
            subst hz
            generalize S[kk] = y at c0 hbt
            clear hb HK hin
            go_wp2
            go_ret
            exact ⟨rfl, B1⟩
        · have hkz : ¬ (kk : Int) < (S.length : Int) := by omega
          have HU2 : Hid ((upTo (lv + 1)).any (· == s.data.toList) = false) := by
            show _ = _
            have h := HK.out
            rw [List.take_of_length_le (by omega), HSg.out] at h
            rw [upTo_succ, List.any_append, HU.out, h]; rfl
          clear HK
          go_wp2
          go_roundg (5 - (lv + 1))
          case measure => omega
          case rel => exact ⟨lv + 1, by omega, by omega, by go_num, B1, HU2⟩
    · have hltz : ¬ (lv : Int) < 5 := by omega
      have hlv5 : lv = 5 := by omega
      have hz : -1 = Z := by
        have h := HU.out
        rw [hlv5, upTo_all] at h
        have := HZ.out
        rwa [if_neg (by rw [h]; decide)] at this
      subst hz
      clear HU hlv5
      go_wp2
      go_ret
      exact ⟨rfl, BW.out⟩
set_option maxHeartbeats 1000000 in
theorem refArity_any (s : ByteArray) (w : World) :
    Calls Tryz.prog 42 #[.string s] w fun e w' => e = .returned (.int .i64 (arityT s.data.toList)) ∧ Below w.heap.size w w' := by
  by_cases h1 : s.data.toList = [99, 111, 108]
  · obtain rfl : s = ⟨#[99, 111, 108]⟩ := by have := congrArg List.toArray h1; cases s; simpa using this
    go_enter Tryz.func42, Tryz.ntmps42
    go_wp2
    go_ret
    exact ⟨rfl, Below.refl _ _⟩
  · by_cases h2 : s.data.toList = [118, 97, 108]
    · obtain rfl : s = ⟨#[118, 97, 108]⟩ := by have := congrArg List.toArray h2; cases s; simpa using this
      go_enter Tryz.func42, Tryz.ntmps42
      go_wp2
      go_ret
      exact ⟨rfl, Below.refl _ _⟩
    · by_cases h3 : s.data.toList = [110, 111, 116]
      · obtain rfl : s = ⟨#[110, 111, 116]⟩ := by have := congrArg List.toArray h3; cases s; simpa using this
        go_enter Tryz.func42, Tryz.ntmps42
        go_wp2
        go_ret
        exact ⟨rfl, Below.refl _ _⟩
      · by_cases h4 : s.data.toList = [110, 101, 103]
        · obtain rfl : s = ⟨#[110, 101, 103]⟩ := by have := congrArg List.toArray h4; cases s; simpa using this
          go_enter Tryz.func42, Tryz.ntmps42
          go_wp2
          go_ret
          exact ⟨rfl, Below.refl _ _⟩
        · by_cases h5 : s.data.toList = [108, 101, 110]
          · obtain rfl : s = ⟨#[108, 101, 110]⟩ := by have := congrArg List.toArray h5; cases s; simpa using this
            go_enter Tryz.func42, Tryz.ntmps42
            go_wp2
            go_ret
            exact ⟨rfl, Below.refl _ _⟩
          · by_cases h6 : s.data.toList = [105, 102]
            · obtain rfl : s = ⟨#[105, 102]⟩ := by have := congrArg List.toArray h6; cases s; simpa using this
              go_enter Tryz.func42, Tryz.ntmps42
              go_wp2
              go_ret
              exact ⟨rfl, Below.refl _ _⟩
            · have hA : arityT s.data.toList = if inSigns s.data.toList = true then 2 else -1 := by
                rw [arityT, if_neg (by simp [h1, h2]), if_neg (by simp [h3, h4, h5]), if_neg h6]
              rw [hA]
              exact arity_late s w h1 h2 h3 h4 h5 h6
end Go.Proofs.YtfhlhdddhgkinaaGreatDoor
