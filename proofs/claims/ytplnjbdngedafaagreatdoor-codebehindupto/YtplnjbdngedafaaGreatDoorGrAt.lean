/-
  CrA, CpB, TreeNm, Ref1, RefNo, in one text.
-/
import Derived.Test.YtplnjbdngedafaaGreatDoorGrAq
import Derived.Test.YtplnjbdngedafaaGreatDoorGrAs
import Derived.Test.YtplnjbdngedafaaGreatDoorGrAn
import Derived.Test.YtplnjbdngedafaaGreatDoorGrAc
import Derived.WalkSmall
import Derived.Test.YtplnjbdngedafaaGreatDoorGrAa
import Derived.Lib.ItoaLen
import Derived.Test.YtplnjbdngedafaaGreatDoorQEvFn
namespace Go.Proofs.YtplnjbdngedafaaGreatDoor
open Go.RowKit
set_option linter.unusedVariables false

def colX : Ex := .node ⟨#[99, 111, 108]⟩ ⟨#[120]⟩ 0 0 ⟨#[]⟩ 0 []
def negX : Ex := .node ⟨#[110, 101, 103]⟩ ⟨#[]⟩ 0 0 ⟨#[]⟩ 0 [colX]
theorem neg_of : ofP [(⟨#[120]⟩, 1)] negX = (1, 0, 0) := by kernel_rfl
theorem neg_len : (cpP [(⟨#[120]⟩, 1)] negX).length = 2 := by kernel_rfl
theorem neg_pre : (negX.pre 1).length ≤ 1048576 := by decide
theorem col_of : ofP [(⟨#[120]⟩, 1)] colX = (1, 0, 0) := by kernel_rfl
theorem col_len : (cpP [(⟨#[120]⟩, 1)] colX).length = 1 := by kernel_rfl
theorem col_pre : (colX.pre 1).length ≤ 1048576 := by decide
theorem col_in (w : World) : ExIn w (fun _ => True) (.agg #[.string ⟨#[99, 111, 108]⟩, .string ⟨#[120]⟩, .int .i64 0, .int .i64 0, .string ⟨#[]⟩, .slice none 0 0, .int .i64 0]) colX := by
  unfold colX
  rw [ExIn]
  exact ⟨none, 0, rfl, ⟨by simp, by simp⟩, by decide, by decide, by decide, .inl rfl⟩
theorem neg_in (w : World) (g : Nat) (hg : w.heap.size = g) : ExIn (w.alloc (.cells #[.string ⟨#[99, 111, 108]⟩, .string ⟨#[120]⟩, .int .i64 0, .int .i64 0, .string ⟨#[]⟩, .slice none 0 0, .int .i64 0] 26)) (fun _ => True) (.agg #[.string ⟨#[110, 101, 103]⟩, .string ⟨#[]⟩, .int .i64 0, .int .i64 0, .string ⟨#[]⟩, .slice (some ⟨g, 0, none⟩) 1 1, .int .i64 0]) negX := by
  subst hg
  unfold negX
  rw [ExIn]
  refine ⟨some ⟨w.heap.size, 0, none⟩, 1, rfl, ⟨by decide, by simp⟩, by decide, by decide, by decide, .inr ⟨w.heap.size, 0, rfl, by simp, trivial, ?_⟩⟩
  rw [ExsIn, ExsIn]
  have hc : ∀ i, (w.alloc (.cells #[.string ⟨#[99, 111, 108]⟩, .string ⟨#[120]⟩, .int .i64 0, .int .i64 0, .string ⟨#[]⟩, .slice none 0 0, .int .i64 0] 26)).cell? ⟨w.heap.size, i, none⟩ = (#[.string ⟨#[99, 111, 108]⟩, .string ⟨#[120]⟩, .int .i64 0, .int .i64 0, .string ⟨#[]⟩, .slice none 0 0, .int .i64 0] : Array Value)[i]? := fun i => World.cell?_alloc_at _ _ _ _ rfl
  refine ⟨⟨_, _, _, _, _, _, _, ?_, ?_, ?_, ?_, ?_, ?_, ?_, col_in _⟩, trivial⟩
  all_goals (rw [hc]; rfl)
end Go.Proofs.YtplnjbdngedafaaGreatDoor
namespace Go.Proofs.YtplnjbdngedafaaGreatDoor
open Go.RowKit
set_option linter.unusedVariables false
--BEGIN
def dropI : I5 := (7, 0, 0, 0, ⟨#[]⟩)
/-- Instructions that leave nothing. -/
def Quiet (zs : List (ByteArray × Int)) (q : List I5) : Prop :=
  (∀ (rs : List V3) (fuel : Int), fuel < 0 → ∀ (k : Nat) (st : List V3) (d : List Nat), ∃ m, runP rs fuel q k 0 st d = (0, st, m, 0)) ∧
  ∀ (ks : List Pl) (k : Nat) (st : List Int) (rest : List I5), st.length + 1 ≤ 64 → ks[k]? = some (some st) → (∀ j : Nat, 1 ≤ j → j ≤ q.length → ks[k + j]? = some none) → ∃ l : List Pl, l.length = ks.length ∧ loopP zs ks k (q ++ rest) = loopP zs l (k + q.length) rest ∧ l[k + q.length]? = some (some st) ∧ ∀ j : Nat, j ≤ k ∨ k + q.length < j → l[j]? = ks[j]?
theorem quiet_nil (zs : List (ByteArray × Int)) : Quiet zs [] :=
  ⟨fun rs fuel h k st d => ⟨d, by rw [runP]⟩, fun ks k st rest h1 h2 h3 => ⟨ks, rfl, rfl, h2, fun _ _ => rfl⟩⟩
theorem quiet_app {zs : List (ByteArray × Int)} {p q : List I5} (hp : Quiet zs p) (hq : Quiet zs q) : Quiet zs (p ++ q) := by
  refine ⟨fun rs fuel h k st d => ?_, fun ks k st rest h1 h2 h3 => ?_⟩
  · obtain ⟨m, e⟩ := hp.1 rs fuel h k st d
    obtain ⟨m2, e2⟩ := hq.1 rs fuel h (k + p.length) st m
    exact ⟨m2, by rw [run_app0 e, e2]⟩
  · rw [List.length_append] at h3 ⊢
    obtain ⟨a, a1, a2, a3, a4⟩ := hp.2 ks k st (q ++ rest) h1 h2 (fun j h5 h6 => h3 j h5 (by omega))
    obtain ⟨b, b1, b2, b3, b4⟩ := hq.2 a (k + p.length) st rest h1 a3 (fun j h5 h6 => by
      rw [a4 _ (.inr (by omega)), Nat.add_assoc]
      exact h3 _ (by omega) (by omega))
    refine ⟨b, by rw [b1, a1], by rw [List.append_assoc, a2, b2, Nat.add_assoc], by rw [← Nat.add_assoc]; exact b3, fun j hj => ?_⟩
    rw [b4 j (by omega), a4 j (by omega)]
theorem quiet_pair {zs : List (ByteArray × Int)} {v : V3} (h : chk v.1 v.2.1 v.2.2.data.toList = 0) : Quiet zs [pushI v, dropI] := by
  refine ⟨fun rs fuel hf k st d => ⟨d ++ [k] ++ [k + 1], ?_⟩, fun ks k st rest h1 h2 h3 => ?_⟩
  · rw [run_one hf (show vmI rs st (pushI v) = (st ++ [v], 0, 0) from rfl), run_one hf (show vmI rs (st ++ [v]) dropI = (st, 0, 0) from ?_), runP]
    show ((st ++ [v]).dropLast, 0, (0 : Int)) = _
    rw [List.dropLast_concat]
  · obtain ⟨a, a1, a2, a3, a4⟩ := (lays_push (zs := zs) h).2 ks k st (dropI :: rest) h1 h2 (fun j h5 h6 => by simp at h6; omega) (.inl (h3 1 (by omega) (by simp)))
    have hlt : k + 2 < ks.length := (List.getElem?_eq_some_iff.1 (h3 2 (by omega) (by simp))).1
    have ef : aftP (st ++ [v.1]) dropI zs = (st, 0) := by
      have hn : needN dropI = 1 := rfl
      have e0 : (st ++ [v.1]).length - 1 = st.length := by simp
      have hL : layP dropI [v.1] zs = ([], 0) := rfl
      rw [aftP, hn, e0, List.drop_left, List.take_left, hL, if_neg (by simp), if_neg (by simp), if_neg (by simp; omega), List.append_nil]
    have es : stepP zs a (k + 1) dropI = (a.set (k + 1 + 1) (some st), 0) := by
      refine step_one a3 rfl ef rfl (.inl ?_)
      rw [a4 _ (.inr (by simp))]
      exact h3 2 (by omega) (by simp)
    refine ⟨a.set (k + 1 + 1) (some st), by simp [a1], ?_, ?_, fun j hj => ?_⟩
    · rw [show [pushI v, dropI] ++ rest = [pushI v] ++ dropI :: rest from rfl, a2]
      show loopP zs a (k + 1) (dropI :: rest) = _
      rw [loop_one es]
      rfl
    · show (a.set (k + 1 + 1) (some st))[k + 2]? = _
      rw [List.getElem?_set_self (by rw [a1]; omega)]
    · simp only [List.length_cons, List.length_nil] at hj
      rw [List.getElem?_set_ne (by omega), a4 j (by simp; omega)]
theorem quiet_runs {zs : List (ByteArray × Int)} {rs : List V3} {q is : List I5} {r : V3 × Int} (hq : Quiet zs q) (h : RunsTo rs is r) : RunsTo rs (q ++ is) r := by
  intro fuel hf k st d
  obtain ⟨m, e⟩ := hq.1 rs fuel hf k st d
  rw [run_app0 e]
  exact h fuel hf _ st m
theorem quiet_lays {zs : List (ByteArray × Int)} {q is : List I5} {T : Int} {n : Nat} (hq : Quiet zs q) (h : Lays zs is T n) (hn : 1 ≤ n) : Lays zs (q ++ is) T n := by
  refine ⟨by rw [List.length_append]; have := h.1; omega, fun ks k st rest h1 h2 h3 h4 => ?_⟩
  have hi := h.1
  rw [List.length_append] at h3 h4 ⊢
  obtain ⟨a, a1, a2, a3, a4⟩ := hq.2 ks k st (is ++ rest) (by omega) h2 (fun j h5 h6 => h3 j h5 (by omega))
  obtain ⟨b, b1, b2, b3, b4⟩ := h.2 a (k + q.length) st rest h1 a3 (fun j h5 h6 => by
    rw [a4 _ (.inr (by omega)), Nat.add_assoc]
    exact h3 _ (by omega) (by omega)) (by
    rw [a4 _ (.inr (by omega)), Nat.add_assoc]
    exact h4)
  refine ⟨b, by rw [b1, a1], by rw [List.append_assoc, a2, b2, Nat.add_assoc], by rw [← Nat.add_assoc]; exact b3, fun j hj => ?_⟩
  rw [b4 j (by omega), a4 j (by omega)]
/-- What lays one onto nothing is sound. -/
theorem lays_sound {zs : List (ByteArray × Int)} {is : List I5} {T : Int} {n : Nat} (h : Lays zs is T n) (hn : n ≤ 64) (hz : schE zs = 0) (hl : is.length ≤ 1200) : (verP is zs).2.2 = 0 ∧ typP is (verP is zs) = T := by
  obtain ⟨l1, l2⟩ := h
  obtain ⟨l, a1, a2, a3, a4⟩ := l2 (some [] :: List.replicate is.length none) 0 [] [] (by simp; omega) rfl (fun j h1 h2 => by
    rw [Nat.zero_add]
    obtain ⟨i, rfl⟩ : ∃ i, j = i + 1 := ⟨j - 1, by omega⟩
    rw [List.getElem?_cons_succ, List.getElem?_replicate, if_pos (by omega)]) (.inl (by
    rw [Nat.zero_add]
    obtain ⟨i, hi⟩ : ∃ i, is.length = i + 1 := ⟨is.length - 1, by omega⟩
    rw [hi, List.getElem?_cons_succ, List.getElem?_replicate, if_pos (by omega)]))
  rw [List.append_nil, Nat.zero_add, loopP] at a2
  rw [Nat.zero_add, List.nil_append] at a3
  have hv : verP is zs = (l, 0, 0) := by
    rw [verP, if_neg (by omega), if_neg (by simp [hz]), a2, endP, if_neg (by simp)]
    simp only
    rw [a3, if_neg (by simp)]
  exact ⟨by rw [hv], typ_sound a3 hv⟩
/-- How it ends, with as much fuel as there may be. -/
theorem runs_end {rs : List V3} {is : List I5} {r : V3 × Int} {fuel : Int} (h : RunsTo rs is r) (hr : r.2 = 0 ∨ r.2 = 9) (hf : (is.length : Int) < fuel) : (r.2 = 0 → (runP rs fuel is 0 0 [] []).2.2.2 = 0 ∧ (runP rs fuel is 0 0 [] []).2.1 = [r.1]) ∧ (r.2 = 9 → (runP rs fuel is 0 0 [] []).2.2.2 = 9) ∧ (runP rs fuel is 0 0 [] []).2.2.1.length ≤ is.length := by
  obtain ⟨h1, h2⟩ := h (-1) (by decide) 0 [] []
  obtain ⟨m, m1, m2, -, -⟩ := run_done rs (-1) is 0 0 [] []
  rw [List.nil_append] at m1
  have hne : (runP rs (-1) is 0 0 [] []).2.2.2 ≠ 10 := by
    rcases hr with hr | hr
    · obtain ⟨m, e⟩ := h1 hr
      rw [e]
      simp
    · rw [h2 (by omega), hr]
      decide
  have e := run_more rs (-1) fuel is 0 0 [] [] hne (.inr (.inl (by rw [m1]; omega)))
  rw [e, m1]
  refine ⟨fun hh => ?_, fun hh => by rw [h2 (by omega), hh], m2⟩
  obtain ⟨m3, e3⟩ := h1 hh
  rw [e3]
  exact ⟨rfl, rfl⟩
--END
end Go.Proofs.YtplnjbdngedafaaGreatDoor
namespace Go.Proofs.YtplnjbdngedafaaGreatDoor
open Go.RowKit
set_option linter.unusedVariables false

def wordsA : Array Value := #[.string ⟨#[111, 114]⟩, .string ⟨#[97, 110, 100]⟩, .string ⟨#[110, 111, 116]⟩, .string ⟨#[116, 114, 117, 101]⟩, .string ⟨#[102, 97, 108, 115, 101]⟩, .string ⟨#[108, 101, 110]⟩, .string ⟨#[105, 102]⟩, .string ⟨#[115, 101, 108, 101, 99, 116]⟩, .string ⟨#[97, 115]⟩, .string ⟨#[102, 114, 111, 109]⟩, .string ⟨#[119, 104, 101, 114, 101]⟩, .string ⟨#[103, 114, 111, 117, 112]⟩, .string ⟨#[98, 121]⟩, .string ⟨#[119, 105, 110, 100, 111, 119]⟩, .string ⟨#[115, 108, 105, 100, 101]⟩, .string ⟨#[99, 111, 117, 110, 116]⟩, .string ⟨#[115, 117, 109]⟩, .string ⟨#[108, 101, 97, 115, 116]⟩, .string ⟨#[109, 111, 115, 116]⟩]
theorem words_at (k : Nat) (h : k < 19) : ∃ S : ByteArray, wordsA[k]? = some (.string S) ∧ wordsL[k]'h = S.data.toList := by
  have h : k = 0 ∨ k = 1 ∨ k = 2 ∨ k = 3 ∨ k = 4 ∨ k = 5 ∨ k = 6 ∨ k = 7 ∨ k = 8 ∨ k = 9 ∨ k = 10 ∨ k = 11 ∨ k = 12 ∨ k = 13 ∨ k = 14 ∨ k = 15 ∨ k = 16 ∨ k = 17 ∨ k = 18 := by omega
  rcases h with rfl | rfl | rfl | rfl | rfl | rfl | rfl | rfl | rfl | rfl | rfl | rfl | rfl | rfl | rfl | rfl | rfl | rfl | rfl
  · exact ⟨⟨#[111, 114]⟩, rfl, rfl⟩
  · exact ⟨⟨#[97, 110, 100]⟩, rfl, rfl⟩
  · exact ⟨⟨#[110, 111, 116]⟩, rfl, rfl⟩
  · exact ⟨⟨#[116, 114, 117, 101]⟩, rfl, rfl⟩
  · exact ⟨⟨#[102, 97, 108, 115, 101]⟩, rfl, rfl⟩
  · exact ⟨⟨#[108, 101, 110]⟩, rfl, rfl⟩
  · exact ⟨⟨#[105, 102]⟩, rfl, rfl⟩
  · exact ⟨⟨#[115, 101, 108, 101, 99, 116]⟩, rfl, rfl⟩
  · exact ⟨⟨#[97, 115]⟩, rfl, rfl⟩
  · exact ⟨⟨#[102, 114, 111, 109]⟩, rfl, rfl⟩
  · exact ⟨⟨#[119, 104, 101, 114, 101]⟩, rfl, rfl⟩
  · exact ⟨⟨#[103, 114, 111, 117, 112]⟩, rfl, rfl⟩
  · exact ⟨⟨#[98, 121]⟩, rfl, rfl⟩
  · exact ⟨⟨#[119, 105, 110, 100, 111, 119]⟩, rfl, rfl⟩
  · exact ⟨⟨#[115, 108, 105, 100, 101]⟩, rfl, rfl⟩
  · exact ⟨⟨#[99, 111, 117, 110, 116]⟩, rfl, rfl⟩
  · exact ⟨⟨#[115, 117, 109]⟩, rfl, rfl⟩
  · exact ⟨⟨#[108, 101, 97, 115, 116]⟩, rfl, rfl⟩
  · exact ⟨⟨#[109, 111, 115, 116]⟩, rfl, rfl⟩
theorem wany_take {l : List UInt8} {k : Nat} (h : k < wordsL.length) : (wordsL.take (k + 1)).any (· == l) = ((wordsL.take k).any (· == l) || wordsL[k] == l) := by
  rw [List.take_succ_eq_append_getElem h, List.any_append]
  simp only [List.any_cons, List.any_nil, Bool.or_false]
theorem wany_hit {l : List UInt8} {k : Nat} (h : k < wordsL.length) (he : (wordsL[k] == l) = true) : wordsL.any (· == l) = true := by
  rw [List.any_eq_true]
  exact ⟨_, List.getElem_mem h, he⟩
set_option maxHeartbeats 4000000 in
set_option maxRecDepth 20000 in
theorem refWord_any (s : ByteArray) (w : World) :
    Calls Tryz.prog 97 #[.string s] w fun e w' => e = .returned (.bool (wordsL.any (· == s.data.toList))) ∧ Below w.heap.size w w' := by
  obtain ⟨R, hR⟩ : ∃ R, wordsL.any (· == s.data.toList) = R := ⟨_, rfl⟩
  have HR : Hid (wordsL.any (· == s.data.toList) = R) := hR
  rw [hR]
  clear hR
  go_enter Tryz.func97, Tryz.ntmps97
  go_wp2
  go_loopg [4] 19 (fun gg s4 wr => ∃ kk : Nat, kk ≤ 19 ∧ 19 - kk ≤ gg ∧ s4 = .int .i64 kk ∧ wr = w.alloc (.cells #[.string ⟨#[111, 114]⟩, .string ⟨#[97, 110, 100]⟩, .string ⟨#[110, 111, 116]⟩, .string ⟨#[116, 114, 117, 101]⟩, .string ⟨#[102, 97, 108, 115, 101]⟩, .string ⟨#[108, 101, 110]⟩, .string ⟨#[105, 102]⟩, .string ⟨#[115, 101, 108, 101, 99, 116]⟩, .string ⟨#[97, 115]⟩, .string ⟨#[102, 114, 111, 109]⟩, .string ⟨#[119, 104, 101, 114, 101]⟩, .string ⟨#[103, 114, 111, 117, 112]⟩, .string ⟨#[98, 121]⟩, .string ⟨#[119, 105, 110, 100, 111, 119]⟩, .string ⟨#[115, 108, 105, 100, 101]⟩, .string ⟨#[99, 111, 117, 110, 116]⟩, .string ⟨#[115, 117, 109]⟩, .string ⟨#[108, 101, 97, 115, 116]⟩, .string ⟨#[109, 111, 115, 116]⟩] 9) ∧ Hid ((wordsL.take kk).any (· == s.data.toList) = false))
  case atStart => exact ⟨0, Nat.zero_le _, by omega, rfl, rfl, rfl⟩
  case round =>
    obtain ⟨kk, hkk, hg, rfl, rfl, HO⟩ := hrel
    by_cases hlt : kk < 19
    · have hltz : (kk : Int) < 19 := by omega
      have k0 : (0 : Int) ≤ (kk : Int) := by omega
      obtain ⟨S, hS, hS1⟩ := words_at kk hlt
      have hc : (w.alloc (.cells #[.string ⟨#[111, 114]⟩, .string ⟨#[97, 110, 100]⟩, .string ⟨#[110, 111, 116]⟩, .string ⟨#[116, 114, 117, 101]⟩, .string ⟨#[102, 97, 108, 115, 101]⟩, .string ⟨#[108, 101, 110]⟩, .string ⟨#[105, 102]⟩, .string ⟨#[115, 101, 108, 101, 99, 116]⟩, .string ⟨#[97, 115]⟩, .string ⟨#[102, 114, 111, 109]⟩, .string ⟨#[119, 104, 101, 114, 101]⟩, .string ⟨#[103, 114, 111, 117, 112]⟩, .string ⟨#[98, 121]⟩, .string ⟨#[119, 105, 110, 100, 111, 119]⟩, .string ⟨#[115, 108, 105, 100, 101]⟩, .string ⟨#[99, 111, 117, 110, 116]⟩, .string ⟨#[115, 117, 109]⟩, .string ⟨#[108, 101, 97, 115, 116]⟩, .string ⟨#[109, 111, 115, 116]⟩] 9)).cell? ⟨w.heap.size, kk, none⟩ = some (.string S) := by
        rw [World.cell?_alloc_at _ _ _ _ rfl]; exact hS
      cases hb : wordsL[kk] == s.data.toList
      · have hbt : (S.toList == s.toList) = false := by rw [Lib.toList_data, Lib.toList_data, ← hS1]; exact hb
        have HO2 : Hid ((wordsL.take (kk + 1)).any (· == s.data.toList) = false) := by
          show _ = _
          rw [wany_take hlt, HO.out, hb]; rfl
        clear hb hS hS1 HO
        go_wp2
        go_roundg (19 - (kk + 1))
        case measure => omega
        case rel => exact ⟨kk + 1, by omega, by omega, by go_num, rfl, HO2⟩
      · have hbt : (S.toList == s.toList) = true := by rw [Lib.toList_data, Lib.toList_data, ← hS1]; exact hb
        have hR : R = true := by rw [← HR.out]; exact wany_hit hlt hb
        subst hR
        clear hb hS hS1 HO
        go_wp2
        go_ret
        exact ⟨rfl, (Below.refl _ _).alloc (Nat.le_refl _) _⟩
    · have hltz : ¬ (kk : Int) < 19 := by omega
      have hR : R = false := by
        have h := HO.out
        rw [List.take_of_length_le (by show 19 ≤ kk; omega)] at h
        rw [← HR.out]; exact h
      subst hR
      clear HO
      go_wp2
      go_ret
      exact ⟨rfl, (Below.refl _ _).alloc (Nat.le_refl _) _⟩
theorem letT_take (s : ByteArray) (k : Nat) (h : k < s.size) : (s.data.toList.take (k + 1)).all letB = ((s.data.toList.take k).all letB && letB s[k]) := by
  have e : s.data.toList.take (k + 1) = s.data.toList.take k ++ [s[k]] := by
    rw [List.take_succ_eq_append_getElem (by simpa using h)]; rfl
  rw [e]; simp [List.all_append]
theorem letT_not (s : ByteArray) (k : Nat) (h : k < s.size) (hc : letB s[k] = false) : s.data.toList.all letB = false := by
  rw [List.all_eq_false]
  exact ⟨s[k], by rw [show s[k] = s.data.toList[k]'(by simpa using h) from rfl]; exact List.getElem_mem _, by simp [hc]⟩
theorem letB_f {c : UInt8} (h : (c.toNat : Int) < 97 ∨ 122 < (c.toNat : Int)) : letB c = false := by
  rw [letB, Bool.and_eq_false_iff, decide_eq_false_iff_not, decide_eq_false_iff_not]; omega
theorem letB_t {c : UInt8} (h1 : 97 ≤ (c.toNat : Int)) (h2 : (c.toNat : Int) ≤ 122) : letB c = true := by
  rw [letB, Bool.and_eq_true, decide_eq_true_eq, decide_eq_true_eq]; exact ⟨h1, h2⟩
set_option maxHeartbeats 4000000 in
set_option maxRecDepth 20000 in
theorem refLetters_any (s : ByteArray) (w : World) (hs : s.size ≤ maxLen) :
    Calls Tryz.prog 41 #[.string s] w fun e w' => e = .returned (.bool (lettersB s.data.toList)) ∧ w' = w := by
  unfold maxLen at hs
  have hl : s.data.toList.length = s.size := by simp
  by_cases h0 : s.size = 0
  · have he : s.data.toList = [] := List.length_eq_zero_iff.1 (by omega)
    have het : s.toList.isEmpty = true := by rw [Lib.toList_data, he]; rfl
    have hL : lettersB s.data.toList = false := by rw [he]; rfl
    rw [hL]
    clear he hl hL
    go_enter Tryz.func41, Tryz.ntmps41
    go_wp2
    go_ret
    exact ⟨rfl, rfl⟩
  · have hne : s.data.toList ≠ [] := fun e => h0 (by rw [e] at hl; simpa using hl.symm)
    have het : s.toList.isEmpty = false := by rw [Lib.toList_data, List.isEmpty_eq_false_iff]; exact hne
    by_cases h8 : 8 < s.size
    · have h8z : (8 : Int) < (s.size : Int) := by omega
      have hL : lettersB s.data.toList = false := by simp [lettersB]; omega
      rw [hL]
      clear hne hl hL
      go_enter Tryz.func41, Tryz.ntmps41
      go_wp2
      go_ret
      exact ⟨rfl, rfl⟩
    · have h8z : ¬ (8 : Int) < (s.size : Int) := by omega
      have hL : lettersB s.data.toList = s.data.toList.all letB := by
        rw [lettersB]
        have h1 : decide (s.data.toList ≠ []) = true := decide_eq_true hne
        have h2 : decide (s.data.toList.length ≤ 8) = true := decide_eq_true (by omega)
        rw [h1, h2]; rfl
      rw [hL]
      obtain ⟨R, hR⟩ : ∃ R, s.data.toList.all letB = R := ⟨_, rfl⟩
      have HR : Hid (s.data.toList.all letB = R) := hR
      rw [hR]
      clear hR hL hne hl
      go_enter Tryz.func41, Tryz.ntmps41
      go_wp2
      go_loop [3] (fun i => ∃ k : Nat, k ≤ s.size ∧ i = .int .i64 k ∧ Hid ((s.data.toList.take k).all letB = true)) (fun i => s.size - (intOf i).toNat)
      case atStart => exact ⟨0, Nat.zero_le _, rfl, rfl⟩
      case round =>
        obtain ⟨k, hk, rfl, HP⟩ := hrel
        by_cases hlt : k < s.size
        · cases hc : letB s[k]
          · have hR : R = false := by rw [← HR.out]; exact letT_not s k hlt hc
            subst hR
            have HC : Hid (letB s[k] = false) := hc
            clear hc HP
            by_cases h1 : (s[k].toNat : Int) < 97
            · go_wp2
              go_ret
              exact ⟨rfl, rfl⟩
            · have h2 : 122 < (s[k].toNat : Int) := by
                rcases Int.lt_or_le 122 (s[k].toNat : Int) with h | h
                · exact h
                · have := letB_t (c := s[k]) (by omega) h
                  rw [HC.out] at this; cases this
              go_wp2
              go_ret
              exact ⟨rfl, rfl⟩
          · have HP2 : Hid ((s.data.toList.take (k + 1)).all letB = true) := by
              show _ = _
              rw [letT_take s k hlt, HP.out, hc]; rfl
            have hb : 97 ≤ (s[k].toNat : Int) ∧ (s[k].toNat : Int) ≤ 122 := by
              rw [letB, Bool.and_eq_true, decide_eq_true_eq, decide_eq_true_eq] at hc; exact hc
            have h1 : ¬ (s[k].toNat : Int) < 97 := by omega
            have h2 : ¬ 122 < (s[k].toNat : Int) := by omega
            clear hc HP hb
            go_wp2
            go_round
            case rel => exact ⟨k + 1, by omega, by go_num, HP2⟩
            case measure => simp [intOf]; omega
        · have hR : R = true := by
            have h := HP.out
            rw [List.take_of_length_le (by simp; omega)] at h
            rw [← HR.out]; exact h
          subst hR
          go_wp2
          go_ret
          exact ⟨rfl, rfl⟩
set_option maxHeartbeats 1000000 in
theorem refName_any (s : ByteArray) (w : World) (hs : s.size ≤ maxLen) :
    Calls Tryz.prog 67 #[.string s] w fun e w' => e = .returned (.bool (nameT s.data.toList)) ∧ Below w.heap.size w w' := by
  have cL := fun W => refLetters_any s W hs
  have cW := refWord_any s
  rw [nameT]
  generalize lettersB s.data.toList = A at cL ⊢
  generalize wordsL.any (· == s.data.toList) = B at cW ⊢
  go_enter Tryz.func67, Tryz.ntmps67
  go_wp2_with fail
  refine (cL _).mono ?_
  rintro e w1 ⟨rfl, hq⟩
  obtain rfl : w = w1 := hq.symm
  go_wp2_with fail
  refine (cW _).mono ?_
  rintro e w2 ⟨rfl, b2⟩
  cases A <;> cases B
  all_goals
    go_wp2
    go_ret
    exact ⟨rfl, b2⟩
end Go.Proofs.YtplnjbdngedafaaGreatDoor
namespace Go.Proofs.YtplnjbdngedafaaGreatDoor
open Go.RowKit
set_option linter.unusedVariables false

set_option maxHeartbeats 400000 in
theorem refPlain_any (s : ByteArray) (w : World) (hs : s.size ≤ maxLen) :
    Calls Tryz.prog 98 #[.string s] w fun e w' => e = .returned (.bool (plainB s.data.toList)) ∧ w' = w := by
  unfold maxLen at hs
  go_enter Tryz.func98, Tryz.ntmps98
  go_wp2
  go_loop [3] (fun i => ∃ k : Nat, k ≤ s.size ∧ i = .int .i64 k ∧ plainB (s.data.toList.take k) = true) (fun i => s.size - (intOf i).toNat)
  case atStart => exact ⟨0, Nat.zero_le _, rfl, rfl⟩
  case round =>
    obtain ⟨k, hk, rfl, hp⟩ := hrel
    have HP : Hid (plainB (s.data.toList.take k) = true) := hp
    clear hp
    by_cases hlt : k < s.size
    · have HN : Hid (∀ _ : (s[k].toNat : Int) < 32 ∨ 126 < (s[k].toNat : Int), plainB s.data.toList = false) := plain_not s k hlt
      have HT : Hid (plainB (s.data.toList.take (k + 1)) = (plainB (s.data.toList.take k) && (decide (32 ≤ (s[k].toNat : Int)) && decide ((s[k].toNat : Int) ≤ 126)))) := plain_take s k hlt
      go_wp2
      · go_ret
        exact ⟨ret_bool (HN.out (by omega)).symm, rfl⟩
      · go_round
        case rel =>
          refine ⟨k + 1, by omega, by go_num, ?_⟩
          rw [HT.out, HP.out]
          simp only [Bool.true_and, Bool.and_eq_true, decide_eq_true_eq]
          assumption
        case measure => simp [intOf]; omega
      · go_ret
        exact ⟨ret_bool (HN.out (by omega)).symm, rfl⟩
    · have HO := plain_of s k (by omega) HP.out
      go_wp2
      go_ret
      exact ⟨rfl, rfl⟩

set_option maxHeartbeats 1000000 in
theorem refVal_any (t n : Int) (s : ByteArray) (w : World) (hs : s.size ≤ maxLen) :
    Calls Tryz.prog 68 #[.agg #[.int .i64 t, .int .i64 n, .string s]] w fun e w' => e = .returned (.int .i64 (chk t n s.data.toList)) ∧ Below w.heap.size w w' := by
  have hs2 := hs
  unfold maxLen at hs2
  generalize hc : chk t n s.data.toList = c
  have HC : Hid (chk t n s.data.toList = c) := hc
  clear hc
  go_enter Tryz.func68, Tryz.ntmps68
  go_wp2_with (first | (go_at_call 98; refine (refPlain_any _ _ hs).mono ?_; rintro e w' ⟨rfl, rfl⟩))
  all_goals
    go_ret
    refine ⟨?_, by repeat (first | exact Below.refl _ _ | (refine Below.alloc ?_ (by simp) _))⟩
    have hd : s.data.toList.length = s.size := by simp
    have hc := HC.out
    clear HC hs
    rw [chk] at hc
    simp only [Lib.toList_data, bne_iff_ne, bne_eq_false_iff_eq, Bool.not_eq_true', Bool.not_eq_false'] at *
  all_goals
    repeat' split at hc
  all_goals subst hc
  all_goals first | rfl | (exfalso; omega) | (exfalso; simp_all; done) | (exfalso; simp_all; omega)

theorem ret_bi {b : Bool} {k : IntKind} {a c : Int} (h : a = c) : Ending.returned (.tuple #[.bool b, .int k a]) = .returned (.tuple #[.bool b, .int k c]) := by rw [h]
theorem ret_ib {b : Bool} {k : IntKind} {a c : Int} (h : a = c) : Ending.returned (.tuple #[.int k a, .bool b]) = .returned (.tuple #[.int k c, .bool b]) := by rw [h]
theorem dig_len (u : Nat) (h : u < 18446744073709551616) : (Lib.decDigits u).length ≤ 20 := by rw [Lib.decDigits_length]; exact Lib.nDigits_le20 u h
theorem ret_str {a c : ByteArray} (h : a = c) : Ending.returned (.string a) = .returned (.string c) := by rw [h]
theorem dig_snoc (u : Nat) (d : Nat) (c : UInt8) (h : ¬ u < 10) (hd : u % 10 = d) (hc : UInt8.ofNat (48 + d) = c) : (⟨(Lib.decDigits (u / 10)).toArray⟩ : ByteArray) ++ ⟨#[c]⟩ = ⟨(Lib.decDigits u).toArray⟩ := by
  rw [Lib.decDigits.eq_1 u, dif_neg h, hd, hc]
  rfl
end Go.Proofs.YtplnjbdngedafaaGreatDoor
namespace Go.Proofs.YtplnjbdngedafaaGreatDoor
open Go.RowKit Go.BigFrame
set_option linter.unusedVariables false

mutual
/-- The first node that is wrong. -/
def ndE : Ex → Int
  | .node op nm vt vn vs pos l => if nodeE (.node op nm vt vn vs pos l) ≠ 0 then nodeE (.node op nm vt vn vs pos l) else ndsE l
def ndsE : List Ex → Int
  | [] => 0
  | x :: xs => if ndE x ≠ 0 then ndE x else ndsE xs
end
theorem fold_app (s : Int) (hs : s = 0) : ∀ (l m : List (Ex × Nat)), (foldP fck s (l ++ m)).1 = if (foldP fck s l).1 ≠ 0 then (foldP fck s l).1 else (foldP fck s m).1
  | [], m => by rw [List.nil_append, foldP]; simp [hs]
  | q :: r, m => by
    rw [List.cons_append, foldP, foldP]
    by_cases h : nodeE q.1 = 0
    · have h2 : (fck s q.1 q.2).2 = true := by simp [fck, h]
      rw [if_pos h2, if_pos h2]
      have h3 : (fck s q.1 q.2).1 = s := by rw [hs]; exact h
      rw [h3]
      exact fold_app s hs r m
    · have h2 : ¬ (fck s q.1 q.2).2 = true := by simp [fck, h]
      rw [if_neg h2, if_neg h2]
      have h3 : (fck s q.1 q.2).1 ≠ 0 := h
      simp only
      rw [if_pos h3]
theorem fold_nd : ∀ (x : Ex) (d : Nat), (foldP fck 0 (x.pre d)).1 = ndE x := by
  refine Ex.ind fun op nm vt vn vs pos l ih d => ?_
  have key : ∀ l : List Ex, (∀ y ∈ l, ∀ d, (foldP fck 0 (y.pre d)).1 = ndE y) → (foldP fck 0 (Ex.pres (d + 1) l)).1 = ndsE l := fun l => by
    induction l with
    | nil => intro _; rw [Ex.pres, ndsE, foldP]
    | cons y ys ihl =>
      intro h
      rw [Ex.pres, ndsE, fold_app 0 rfl, h y (by simp), ihl fun z hz => h z (by simp [hz])]
  rw [Ex.pre, ndE, foldP]
  by_cases h : nodeE (.node op nm vt vn vs pos l) = 0
  · have h2 : (fck 0 (.node op nm vt vn vs pos l) d).2 = true := by simp [fck, h]
    rw [if_pos h2, if_neg (fun hh => hh h)]
    have h3 : (fck 0 (.node op nm vt vn vs pos l) d).1 = 0 := h
    rw [h3]
    exact key l ih
  · have h2 : ¬ (fck 0 (.node op nm vt vn vs pos l) d).2 = true := by simp [fck, h]
    rw [if_neg h2, if_pos h]
    rfl
theorem ckP_nd (x : Ex) : ckP x = if x.small = false then 4 else ndE x := by
  rw [ckP, tg_small, fold_nd]
  cases x.small <;> simp
/-- What is wrong with a node, by the document's Arity. -/
theorem node_ar (x : Ex) : nodeE x = nodeB (decide (0 ≤ arityT x.op.data.toList)) (x.op.toList == [99, 111, 108]) (nameT x.nm.data.toList) ((x.args.length : Int) != arityT x.op.data.toList) (!(x.nm.toList == [])) (x.op.toList == [118, 97, 108]) (!((x.vt == 0) && ((x.vn == 0) && (x.vs.toList == [])))) (ckV x.vt x.vn x.vs.data.toList) := by
  obtain ⟨h1, h2⟩ := arity_ops x.op.data.toList
  rw [nodeE, h1]
  by_cases h : 0 ≤ arityT x.op.data.toList
  · rw [h2 h]
  · rw [decide_eq_false h]
    simp [nodeB]
end Go.Proofs.YtplnjbdngedafaaGreatDoor
