/-
  AggAny, plain: which rows each of the four Accs knows, round by round.
-/
import Derived.Test.YtfonalmgdjboeaaDoorGrAh
namespace Go.Proofs.YtfonalmgdjboeaaDoor
open Go.RowKit
set_option linter.unusedVariables false

/-- The rows that are right. -/
def gdL (ps0 : List Pt) (l : List (List V3)) : List (List V3) := l.filter fun r => decide (adE ps0 r = 0)
theorem gdL_snoc (ps0 : List Pt) (l : List (List V3)) (r : List V3) : gdL ps0 (l ++ [r]) = gdR ps0 (gdL ps0 l) r := by
  unfold gdL gdR
  rw [List.filter_append]
  by_cases h : adE ps0 r = 0
  · rw [if_pos h]; simp [h]
  · rw [if_neg h]; simp [h]
theorem gdL_len (ps0 : List Pt) (l : List (List V3)) : (gdL ps0 l).length ≤ l.length := List.length_filter_le _ _
/-- Which rows each knows. -/
structure AnyR (ps0 : List Pt) (rr : List (List V3)) (cn kk : Nat) (R : Nat → List (List V3)) : Prop where
  r0 : R 0 = gdL ps0 (rr.take kk)
  r1 : R 1 = gdL ps0 (rr.reverse.take kk)
  r2 : R 2 = gdL ps0 ((rr.take kk).take cn)
  r3 : R 3 = gdL ps0 ((rr.take kk).drop cn)
theorem AnyR.zero (ps0 : List Pt) (rr : List (List V3)) (cn : Nat) : AnyR ps0 rr cn 0 (fun _ => []) := ⟨by simp [gdL], by simp [gdL], by simp [gdL], by simp [gdL]⟩
theorem take_more {rr : List (List V3)} {kk : Nat} (h : kk < rr.length) : rr.take (kk + 1) = rr.take kk ++ [rr[kk]] := List.take_succ_eq_append_getElem h
theorem rev_more {rr : List (List V3)} {kk j : Nat} (h : kk < rr.length) (hj : j < rr.length) (e : rr.length - 1 - kk = j) : rr.reverse.take (kk + 1) = rr.reverse.take kk ++ [rr[j]] := by
  rw [List.take_succ_eq_append_getElem (by simpa using h), List.getElem_reverse]
  subst e
  rfl
theorem AnyR.step2 {ps0 : List Pt} {rr : List (List V3)} {cn kk j : Nat} {R : Nat → List (List V3)} (h : AnyR ps0 rr cn kk R) (hk : kk < rr.length) (hj : j < rr.length) (e : rr.length - 1 - kk = j) (hc : kk < cn) :
    AnyR ps0 rr cn (kk + 1) (updR (updR (updR R 0 (gdR ps0 (R 0) rr[kk])) 1 (gdR ps0 (R 1) rr[j])) 2 (gdR ps0 (R 2) rr[kk])) := by
  have hl : (rr.take kk).length = kk := by rw [List.length_take]; omega
  refine ⟨?_, ?_, ?_, ?_⟩
  · show gdR ps0 (R 0) rr[kk] = _
    rw [h.r0, take_more hk, gdL_snoc]
  · show gdR ps0 (R 1) rr[j] = _
    rw [h.r1, rev_more hk hj e, gdL_snoc]
  · show gdR ps0 (R 2) rr[kk] = _
    have e2 : (rr.take kk ++ [rr[kk]]).take cn = rr.take kk ++ [rr[kk]] := List.take_of_length_le (by rw [List.length_append, hl, List.length_singleton]; omega)
    have e3 : (rr.take kk).take cn = rr.take kk := List.take_of_length_le (by omega)
    rw [h.r2, take_more hk, e2, e3, gdL_snoc]
  · show R 3 = _
    rw [h.r3, take_more hk, List.drop_eq_nil_of_le (by omega), List.drop_eq_nil_of_le (by simp; omega)]
theorem AnyR.step3 {ps0 : List Pt} {rr : List (List V3)} {cn kk j : Nat} {R : Nat → List (List V3)} (h : AnyR ps0 rr cn kk R) (hk : kk < rr.length) (hj : j < rr.length) (e : rr.length - 1 - kk = j) (hc : ¬ kk < cn) :
    AnyR ps0 rr cn (kk + 1) (updR (updR (updR R 0 (gdR ps0 (R 0) rr[kk])) 1 (gdR ps0 (R 1) rr[j])) 3 (gdR ps0 (R 3) rr[kk])) := by
  have hl : (rr.take kk).length = kk := by rw [List.length_take]; omega
  refine ⟨?_, ?_, ?_, ?_⟩
  · show gdR ps0 (R 0) rr[kk] = _
    rw [h.r0, take_more hk, gdL_snoc]
  · show gdR ps0 (R 1) rr[j] = _
    rw [h.r1, rev_more hk hj e, gdL_snoc]
  · show R 2 = _
    rw [h.r2, take_more hk, List.take_append_of_le_length (by omega)]
  · show gdR ps0 (R 3) rr[kk] = _
    rw [h.r3, take_more hk, ← gdL_snoc, List.drop_append_of_le_length (by omega)]
theorem AnyR.len {ps0 : List Pt} {rr : List (List V3)} {cn kk : Nat} {R : Nat → List (List V3)} (h : AnyR ps0 rr cn kk R) (hr : rr.length ≤ 60) : (R 0).length ≤ 60 ∧ (R 1).length ≤ 60 ∧ (R 2).length ≤ 60 ∧ (R 3).length ≤ 60 := by
  have l0 := gdL_len ps0 (rr.take kk)
  have l1 := gdL_len ps0 (rr.reverse.take kk)
  have l2 := gdL_len ps0 ((rr.take kk).take cn)
  have l3 := gdL_len ps0 ((rr.take kk).drop cn)
  rw [h.r0, h.r1, h.r2, h.r3]
  simp at l0 l1 l2 l3
  omega
theorem AnyR.end {ps0 : List Pt} {rr : List (List V3)} {cn kk : Nat} {R : Nat → List (List V3)} (h : AnyR ps0 rr cn kk R) (hk : kk = rr.length) : (R 1).Perm (R 0) ∧ (R 3 ++ R 2).Perm (R 0) ∧ (R 0).length = (R 2).length + (R 3).length := by
  have e0 : R 0 = gdL ps0 rr := by rw [h.r0, hk, List.take_length]
  have e1 : R 1 = gdL ps0 rr.reverse := by rw [h.r1, hk, List.take_of_length_le (by simp)]
  have e2 : R 2 = gdL ps0 (rr.take cn) := by rw [h.r2, hk, List.take_length]
  have e3 : R 3 = gdL ps0 (rr.drop cn) := by rw [h.r3, hk, List.take_length]
  have ep : R 2 ++ R 3 = R 0 := by
    rw [e0, e2, e3]
    unfold gdL
    rw [← List.filter_append, List.take_append_drop]
  refine ⟨?_, ?_, ?_⟩
  · rw [e0, e1]
    unfold gdL
    exact (List.reverse_perm rr).filter _
  · rw [← ep]
    exact List.perm_append_comm
  · rw [← ep]; simp
/-- What is told by one that knows the same rows as another one. -/
theorem result_p (a : Nat) (v : Value) (ps0 : List Pt) (rs us : List (List V3)) (qs : List Pt) (W : World) (h : AcAt W a v ps0 rs) (hu : Acu ps0 us qs) (hp : rs.Perm us) (L : List V3) (hL : reV qs (us.length : Int) = L) (E : Int) (hE : reE qs (us.length : Int) = E) :
    (E = 0 → Calls Tryd.prog 12 #[.pointer (some ⟨a, 0, none⟩)] W fun e w' => (∃ q c, e = .returned (.tuple #[.slice q L.length c, .nilIface]) ∧ Aside (ValsAt w' q L)) ∧ Aside (Below W.heap.size W w')) ∧
    (E ≠ 0 → Calls Tryd.prog 12 #[.pointer (some ⟨a, 0, none⟩)] W fun e w' => e = .returned (.tuple #[.slice none 0 0, .iface 53 (.int .i64 E)]) ∧ Aside (Below W.heap.size W w')) := by
  obtain ⟨ps, hu2, hc⟩ := result_c a v ps0 rs W h
  obtain ⟨s1, s2⟩ := tell_same hu2 hu hp
  rw [hE] at s1
  rw [hL] at s2
  rw [s1, s2] at hc
  refine ⟨fun h0 => ?_, fun h0 => ?_⟩
  · rcases hc with hc | hc
    · exact hc.2
    · exact absurd h0 hc.1
  · rcases hc with hc | hc
    · exact absurd hc.1 h0
    · exact hc.2
/-- A row of those that were handed in is Added to one of the Accs. -/
theorem accs_row {n : Nat} {w W : World} {ps0 : List Pt} {A : Nat → Nat} {V : Nat → Value} {R : Nat → List (List V3)} (h : Accs n w W ps0 A V R) {rb ro : Nat} {rws : List (List V3)} (hr : RowsAt w (some ⟨rb, ro, none⟩) rws) (hs : ∀ r ∈ rws, SizedV r ∧ r.length ≤ maxLen) (j : Nat) (hj : j < rws.length) (i : Nat) (hi : i < n) (hl : (R i).length + 1 ≤ 10000) : ∃ q M c, W.cell? ⟨rb, ro + j, none⟩ = some (.slice q M c) ∧
    Calls Tryd.prog 9 #[.pointer (some ⟨A i, 0, none⟩), .slice q M c] W fun e w' => (∃ v, e = .returned v) ∧ Aside (Accs n w w' ps0 A V (updR R i (gdR ps0 (R i) rws[j]))) := by
  obtain ⟨rb', ro', q, c, e, w2, v2⟩ := h.rows hr hj
  injection e with e
  injection e with e1 e2
  subst e1 e2
  have s1 := hs _ (List.getElem_mem hj)
  exact ⟨q, _, c, w2, (accs_add h i hi q c _ hl (v2 i hi).1 s1.1 s1.2 (v2 i hi).2).mono fun e w' hh => ⟨⟨_, hh.1⟩, hh.2⟩⟩
theorem rows_at {w : World} {p : Option Addr} {rws : List (List V3)} (h : RowsAt w p rws) (h0 : 0 < rws.length) : ∃ rb ro, p = some ⟨rb, ro, none⟩ := by
  rcases h with h | ⟨b, o, e, _⟩
  · omega
  · exact ⟨b, o, e⟩
/-- A round of the loop. -/
theorem any_more {ps0 : List Pt} {rws : List (List V3)} {nat cn kk j : Nat} {R : Nat → List (List V3)} (h : AnyR ps0 (rws.take nat) cn kk R) (hn : nat ≤ rws.length) (hk : kk < nat) (hj : nat - 1 - kk = j) (h1 : kk < rws.length) (h2 : j < rws.length) :
    (kk < cn → AnyR ps0 (rws.take nat) cn (kk + 1) (updR (updR (updR R 0 (gdR ps0 (R 0) rws[kk])) 1 (gdR ps0 (updR R 0 (gdR ps0 (R 0) rws[kk]) 1) rws[j])) 2 (gdR ps0 (updR (updR R 0 (gdR ps0 (R 0) rws[kk])) 1 (gdR ps0 (updR R 0 (gdR ps0 (R 0) rws[kk]) 1) rws[j]) 2) rws[kk]))) ∧
    (¬ kk < cn → AnyR ps0 (rws.take nat) cn (kk + 1) (updR (updR (updR R 0 (gdR ps0 (R 0) rws[kk])) 1 (gdR ps0 (updR R 0 (gdR ps0 (R 0) rws[kk]) 1) rws[j])) 3 (gdR ps0 (updR (updR R 0 (gdR ps0 (R 0) rws[kk])) 1 (gdR ps0 (updR R 0 (gdR ps0 (R 0) rws[kk]) 1) rws[j]) 3) rws[kk]))) := by
  have hl : (rws.take nat).length = nat := by rw [List.length_take]; omega
  have k1 : kk < (rws.take nat).length := by omega
  have k2 : j < (rws.take nat).length := by omega
  have g1 : (rws.take nat)[kk] = rws[kk] := List.getElem_take
  have g2 : (rws.take nat)[j] = rws[j] := List.getElem_take
  refine ⟨fun hc => ?_, fun hc => ?_⟩
  · have := h.step2 k1 k2 (by rw [hl]; exact hj) hc
    rw [g1, g2] at this
    exact this
  · have := h.step3 k1 k2 (by rw [hl]; exact hj) hc
    rw [g1, g2] at this
    exact this
end Go.Proofs.YtfonalmgdjboeaaDoor
