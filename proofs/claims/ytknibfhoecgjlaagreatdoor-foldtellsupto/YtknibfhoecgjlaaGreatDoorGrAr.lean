/-
  TreeNm, RefNo, in one text.
-/
import Derived.Test.YtknibfhoecgjlaaGreatDoorGrAc
import Derived.WalkSmall
import Derived.Test.YtknibfhoecgjlaaGreatDoorGrAl
import Derived.Test.YtknibfhoecgjlaaGreatDoorGrAq
import Derived.Test.YtknibfhoecgjlaaGreatDoorQEvFn
namespace Go.Proofs.YtknibfhoecgjlaaGreatDoor
open Go.RowKit
set_option linter.unusedVariables false

def wordsA : Array Value := #[.string ⟨#[111, 114]⟩, .string ⟨#[97, 110, 100]⟩, .string ⟨#[110, 111, 116]⟩, .string ⟨#[116, 114, 117, 101]⟩, .string ⟨#[102, 97, 108, 115, 101]⟩, .string ⟨#[108, 101, 110]⟩, .string ⟨#[105, 102]⟩, .string ⟨#[115, 101, 108, 101, 99, 116]⟩, .string ⟨#[97, 115]⟩, .string ⟨#[102, 114, 111, 109]⟩, .string ⟨#[119, 104, 101, 114, 101]⟩, .string ⟨#[103, 114, 111, 117, 112]⟩, .string ⟨#[98, 121]⟩, .string ⟨#[119, 105, 110, 100, 111, 119]⟩, .string ⟨#[115, 108, 105, 100, 101]⟩, .string ⟨#[99, 111, 117, 110, 116]⟩, .string ⟨#[115, 117, 109]⟩, .string ⟨#[108, 101, 97, 115, 116]⟩, .string ⟨#[109, 111, 115, 116]⟩]
theorem words_at (k : Nat) (h : k < 19) : ∃ S : ByteArray, wordsA[k]? = some (.string S) ∧ wordsL[k]'h = S.data.toList := by
  have h : k = 0 ∨ k = 1 ∨ k = 2 ∨ k = 3 ∨ k = 4 ∨ k = 5 ∨ k = 6 ∨ k = 7 ∨ k = 8 ∨ k = 9 ∨ k = 10 ∨ k = 11 ∨ k = 12 ∨ k = 13 ∨ k = 14 ∨ k = 15 ∨ k = 16 ∨ k = 17 ∨ k = 18 := by omega
  rcases h with rfl | rfl | rfl | rfl | rfl | rfl | rfl | rfl | rfl | rfl | rfl | rfl | rfl | rfl | rfl | rfl | rfl | rfl | rfl
  · exact ⟨⟨#[111, 114]⟩, rfl, rfl⟩
  · exact ⟨⟨#[97, 110, 100]⟩, rfl, rfl⟩
  · exact ⟨⟨#[110, 111, 116]⟩, rfl, rfl⟩
  · exact ⟨⟨#[116, 114, 117, 101]⟩, rfl, rfl⟩
  · exact ⟨⟨#[102, 97, 108, 115, 101]⟩, rfl, rfl⟩
  · exact ⟨⟨#[108, 101, 110]⟩, rfl, rfl⟩
  · exact ⟨⟨#[105, 102]⟩, rfl, rfl⟩
  · exact ⟨⟨#[115, 101, 108, 101, 99, 116]⟩, rfl, rfl⟩
  · exact ⟨⟨#[97, 115]⟩, rfl, rfl⟩
  · exact ⟨⟨#[102, 114, 111, 109]⟩, rfl, rfl⟩
  · exact ⟨⟨#[119, 104, 101, 114, 101]⟩, rfl, rfl⟩
  · exact ⟨⟨#[103, 114, 111, 117, 112]⟩, rfl, rfl⟩
  · exact ⟨⟨#[98, 121]⟩, rfl, rfl⟩
  · exact ⟨⟨#[119, 105, 110, 100, 111, 119]⟩, rfl, rfl⟩
  · exact ⟨⟨#[115, 108, 105, 100, 101]⟩, rfl, rfl⟩
  · exact ⟨⟨#[99, 111, 117, 110, 116]⟩, rfl, rfl⟩
  · exact ⟨⟨#[115, 117, 109]⟩, rfl, rfl⟩
  · exact ⟨⟨#[108, 101, 97, 115, 116]⟩, rfl, rfl⟩
  · exact ⟨⟨#[109, 111, 115, 116]⟩, rfl, rfl⟩
theorem wany_take {l : List UInt8} {k : Nat} (h : k < wordsL.length) : (wordsL.take (k + 1)).any (· == l) = ((wordsL.take k).any (· == l) || wordsL[k] == l) := by
  rw [List.take_succ_eq_append_getElem h, List.any_append]
  simp only [List.any_cons, List.any_nil, Bool.or_false]
theorem wany_hit {l : List UInt8} {k : Nat} (h : k < wordsL.length) (he : (wordsL[k] == l) = true) : wordsL.any (· == l) = true := by
  rw [List.any_eq_true]
  exact ⟨_, List.getElem_mem h, he⟩
set_option maxHeartbeats 4000000 in
set_option maxRecDepth 20000 in
theorem refWord_any (s : ByteArray) (w : World) :
    Calls Tryz.prog 82 #[.string s] w fun e w' => e = .returned (.bool (wordsL.any (· == s.data.toList))) ∧ Below w.heap.size w w' := by
  obtain ⟨R, hR⟩ : ∃ R, wordsL.any (· == s.data.toList) = R := ⟨_, rfl⟩
  have HR : Hid (wordsL.any (· == s.data.toList) = R) := hR
  rw [hR]
  clear hR
  go_enter Tryz.func82, Tryz.ntmps82
  go_wp2
  go_loopg [4] 19 (fun gg s4 wr => ∃ kk : Nat, kk ≤ 19 ∧ 19 - kk ≤ gg ∧ s4 = .int .i64 kk ∧ wr = w.alloc (.cells #[.string ⟨#[111, 114]⟩, .string ⟨#[97, 110, 100]⟩, .string ⟨#[110, 111, 116]⟩, .string ⟨#[116, 114, 117, 101]⟩, .string ⟨#[102, 97, 108, 115, 101]⟩, .string ⟨#[108, 101, 110]⟩, .string ⟨#[105, 102]⟩, .string ⟨#[115, 101, 108, 101, 99, 116]⟩, .string ⟨#[97, 115]⟩, .string ⟨#[102, 114, 111, 109]⟩, .string ⟨#[119, 104, 101, 114, 101]⟩, .string ⟨#[103, 114, 111, 117, 112]⟩, .string ⟨#[98, 121]⟩, .string ⟨#[119, 105, 110, 100, 111, 119]⟩, .string ⟨#[115, 108, 105, 100, 101]⟩, .string ⟨#[99, 111, 117, 110, 116]⟩, .string ⟨#[115, 117, 109]⟩, .string ⟨#[108, 101, 97, 115, 116]⟩, .string ⟨#[109, 111, 115, 116]⟩] 9) ∧ Hid ((wordsL.take kk).any (· == s.data.toList) = false))
  case atStart => exact ⟨0, Nat.zero_le _, by omega, rfl, rfl, rfl⟩
  case round =>
    obtain ⟨kk, hkk, hg, rfl, rfl, HO⟩ := hrel
    by_cases hlt : kk < 19
    · have hltz : (kk : Int) < 19 := by omega
      have k0 : (0 : Int) ≤ (kk : Int) := by omega
      obtain ⟨S, hS, hS1⟩ := words_at kk hlt
      have hc : (w.alloc (.cells #[.string ⟨#[111, 114]⟩, .string ⟨#[97, 110, 100]⟩, .string ⟨#[110, 111, 116]⟩, .string ⟨#[116, 114, 117, 101]⟩, .string ⟨#[102, 97, 108, 115, 101]⟩, .string ⟨#[108, 101, 110]⟩, .string ⟨#[105, 102]⟩, .string ⟨#[115, 101, 108, 101, 99, 116]⟩, .string ⟨#[97, 115]⟩, .string ⟨#[102, 114, 111, 109]⟩, .string ⟨#[119, 104, 101, 114, 101]⟩, .string ⟨#[103, 114, 111, 117, 112]⟩, .string ⟨#[98, 121]⟩, .string ⟨#[119, 105, 110, 100, 111, 119]⟩, .string ⟨#[115, 108, 105, 100, 101]⟩, .string ⟨#[99, 111, 117, 110, 116]⟩, .string ⟨#[115, 117, 109]⟩, .string ⟨#[108, 101, 97, 115, 116]⟩, .string ⟨#[109, 111, 115, 116]⟩] 9)).cell? ⟨w.heap.size, kk, none⟩ = some (.string S) := by
        rw [World.cell?_alloc_at _ _ _ _ rfl]; exact hS
      cases hb : wordsL[kk] == s.data.toList
      · have hbt : (S.toList == s.toList) = false := by rw [Lib.toList_data, Lib.toList_data, ← hS1]; exact hb
        have HO2 : Hid ((wordsL.take (kk + 1)).any (· == s.data.toList) = false) := by
          show _ = _
          rw [wany_take hlt, HO.out, hb]; rfl
        clear hb hS hS1 HO
        go_wp2
        go_roundg (19 - (kk + 1))
        case measure => omega
        case rel => exact ⟨kk + 1, by omega, by omega, by go_num, rfl, HO2⟩
      · have hbt : (S.toList == s.toList) = true := by rw [Lib.toList_data, Lib.toList_data, ← hS1]; exact hb
        have hR : R = true := by rw [← HR.out]; exact wany_hit hlt hb
        subst hR
        clear hb hS hS1 HO
        go_wp2
        go_ret
        exact ⟨rfl, (Below.refl _ _).alloc (Nat.le_refl _) _⟩
    · have hltz : ¬ (kk : Int) < 19 := by omega
      have hR : R = false := by
        have h := HO.out
        rw [List.take_of_length_le (by show 19 ≤ kk; omega)] at h
        rw [← HR.out]; exact h
      subst hR
      clear HO
      go_wp2
      go_ret
      exact ⟨rfl, (Below.refl _ _).alloc (Nat.le_refl _) _⟩
theorem letT_take (s : ByteArray) (k : Nat) (h : k < s.size) : (s.data.toList.take (k + 1)).all letB = ((s.data.toList.take k).all letB && letB s[k]) := by
  have e : s.data.toList.take (k + 1) = s.data.toList.take k ++ [s[k]] := by
    rw [List.take_succ_eq_append_getElem (by simpa using h)]; rfl
  rw [e]; simp [List.all_append]
theorem letT_not (s : ByteArray) (k : Nat) (h : k < s.size) (hc : letB s[k] = false) : s.data.toList.all letB = false := by
  rw [List.all_eq_false]
  exact ⟨s[k], by rw [show s[k] = s.data.toList[k]'(by simpa using h) from rfl]; exact List.getElem_mem _, by simp [hc]⟩
theorem letB_f {c : UInt8} (h : (c.toNat : Int) < 97 ∨ 122 < (c.toNat : Int)) : letB c = false := by
  rw [letB, Bool.and_eq_false_iff, decide_eq_false_iff_not, decide_eq_false_iff_not]; omega
theorem letB_t {c : UInt8} (h1 : 97 ≤ (c.toNat : Int)) (h2 : (c.toNat : Int) ≤ 122) : letB c = true := by
  rw [letB, Bool.and_eq_true, decide_eq_true_eq, decide_eq_true_eq]; exact ⟨h1, h2⟩
set_option maxHeartbeats 4000000 in
set_option maxRecDepth 20000 in
theorem refLetters_any (s : ByteArray) (w : World) (hs : s.size ≤ maxLen) :
    Calls Tryz.prog 40 #[.string s] w fun e w' => e = .returned (.bool (lettersB s.data.toList)) ∧ w' = w := by
  unfold maxLen at hs
  have hl : s.data.toList.length = s.size := by simp
  by_cases h0 : s.size = 0
  · have he : s.data.toList = [] := List.length_eq_zero_iff.1 (by omega)
    have het : s.toList.isEmpty = true := by rw [Lib.toList_data, he]; rfl
    have hL : lettersB s.data.toList = false := by rw [he]; rfl
    rw [hL]
    clear he hl hL
    go_enter Tryz.func40, Tryz.ntmps40
    go_wp2
    go_ret
    exact ⟨rfl, rfl⟩
  · have hne : s.data.toList ≠ [] := fun e => h0 (by rw [e] at hl; simpa using hl.symm)
    have het : s.toList.isEmpty = false := by rw [Lib.toList_data, List.isEmpty_eq_false_iff]; exact hne
    by_cases h8 : 8 < s.size
    · have h8z : (8 : Int) < (s.size : Int) := by omega
      have hL : lettersB s.data.toList = false := by simp [lettersB]; omega
      rw [hL]
      clear hne hl hL
      go_enter Tryz.func40, Tryz.ntmps40
      go_wp2
      go_ret
      exact ⟨rfl, rfl⟩
    · have h8z : ¬ (8 : Int) < (s.size : Int) := by omega
      have hL : lettersB s.data.toList = s.data.toList.all letB := by
        rw [lettersB]
        have h1 : decide (s.data.toList ≠ []) = true := decide_eq_true hne
        have h2 : decide (s.data.toList.length ≤ 8) = true := decide_eq_true (by omega)
        rw [h1, h2]; rfl
      rw [hL]
      obtain ⟨R, hR⟩ : ∃ R, s.data.toList.all letB = R := ⟨_, rfl⟩
      have HR : Hid (s.data.toList.all letB = R) := hR
      rw [hR]
      clear hR hL hne hl
      go_enter Tryz.func40, Tryz.ntmps40
      go_wp2
      go_loop [3] (fun i => ∃ k : Nat, k ≤ s.size ∧ i = .int .i64 k ∧ Hid ((s.data.toList.take k).all letB = true)) (fun i => s.size - (intOf i).toNat)
      case atStart => exact ⟨0, Nat.zero_le _, rfl, rfl⟩
      case round =>
        obtain ⟨k, hk, rfl, HP⟩ := hrel
        by_cases hlt : k < s.size
        · cases hc : letB s[k]
          · have hR : R = false := by rw [← HR.out]; exact letT_not s k hlt hc
            subst hR
            have HC : Hid (letB s[k] = false) := hc
            clear hc HP
            by_cases h1 : (s[k].toNat : Int) < 97
            · go_wp2
              go_ret
              exact ⟨rfl, rfl⟩
            · have h2 : 122 < (s[k].toNat : Int) := by
                rcases Int.lt_or_le 122 (s[k].toNat : Int) with h | h
                · exact h
                · have := letB_t (c := s[k]) (by omega) h
                  rw [HC.out] at this; cases this
              go_wp2
              go_ret
              exact ⟨rfl, rfl⟩
          · have HP2 : Hid ((s.data.toList.take (k + 1)).all letB = true) := by
              show _ = _
              rw [letT_take s k hlt, HP.out, hc]; rfl
            have hb : 97 ≤ (s[k].toNat : Int) ∧ (s[k].toNat : Int) ≤ 122 := by
              rw [letB, Bool.and_eq_true, decide_eq_true_eq, decide_eq_true_eq] at hc; exact hc
            have h1 : ¬ (s[k].toNat : Int) < 97 := by omega
            have h2 : ¬ 122 < (s[k].toNat : Int) := by omega
            clear hc HP hb
            go_wp2
            go_round
            case rel => exact ⟨k + 1, by omega, by go_num, HP2⟩
            case measure => simp [intOf]; omega
        · have hR : R = true := by
            have h := HP.out
            rw [List.take_of_length_le (by simp; omega)] at h
            rw [← HR.out]; exact h
          subst hR
          go_wp2
          go_ret
          exact ⟨rfl, rfl⟩
set_option maxHeartbeats 1000000 in
theorem refName_any (s : ByteArray) (w : World) (hs : s.size ≤ maxLen) :
    Calls Tryz.prog 55 #[.string s] w fun e w' => e = .returned (.bool (nameT s.data.toList)) ∧ Below w.heap.size w w' := by
  have cL := fun W => refLetters_any s W hs
  have cW := refWord_any s
  rw [nameT]
  generalize lettersB s.data.toList = A at cL ⊢
  generalize wordsL.any (· == s.data.toList) = B at cW ⊢
  go_enter Tryz.func55, Tryz.ntmps55
  go_wp2_with fail
  refine (cL _).mono ?_
  rintro e w1 ⟨rfl, hq⟩
  obtain rfl : w = w1 := hq.symm
  go_wp2_with fail
  refine (cW _).mono ?_
  rintro e w2 ⟨rfl, b2⟩
  cases A <;> cases B
  all_goals
    go_wp2
    go_ret
    exact ⟨rfl, b2⟩
end Go.Proofs.YtknibfhoecgjlaaGreatDoor
namespace Go.Proofs.YtknibfhoecgjlaaGreatDoor
open Go.RowKit Go.BigFrame
set_option linter.unusedVariables false

mutual
/-- The first node that is wrong. -/
def ndE : Ex → Int
  | .node op nm vt vn vs pos l => if nodeE (.node op nm vt vn vs pos l) ≠ 0 then nodeE (.node op nm vt vn vs pos l) else ndsE l
def ndsE : List Ex → Int
  | [] => 0
  | x :: xs => if ndE x ≠ 0 then ndE x else ndsE xs
end
theorem fold_app (s : Int) (hs : s = 0) : ∀ (l m : List (Ex × Nat)), (foldP fck s (l ++ m)).1 = if (foldP fck s l).1 ≠ 0 then (foldP fck s l).1 else (foldP fck s m).1
  | [], m => by rw [List.nil_append, foldP]; simp [hs]
  | q :: r, m => by
    rw [List.cons_append, foldP, foldP]
    by_cases h : nodeE q.1 = 0
    · have h2 : (fck s q.1 q.2).2 = true := by simp [fck, h]
      rw [if_pos h2, if_pos h2]
      have h3 : (fck s q.1 q.2).1 = s := by rw [hs]; exact h
      rw [h3]
      exact fold_app s hs r m
    · have h2 : ¬ (fck s q.1 q.2).2 = true := by simp [fck, h]
      rw [if_neg h2, if_neg h2]
      have h3 : (fck s q.1 q.2).1 ≠ 0 := h
      simp only
      rw [if_pos h3]
theorem fold_nd : ∀ (x : Ex) (d : Nat), (foldP fck 0 (x.pre d)).1 = ndE x := by
  refine Ex.ind fun op nm vt vn vs pos l ih d => ?_
  have key : ∀ l : List Ex, (∀ y ∈ l, ∀ d, (foldP fck 0 (y.pre d)).1 = ndE y) → (foldP fck 0 (Ex.pres (d + 1) l)).1 = ndsE l := fun l => by
    induction l with
    | nil => intro _; rw [Ex.pres, ndsE, foldP]
    | cons y ys ihl =>
      intro h
      rw [Ex.pres, ndsE, fold_app 0 rfl, h y (by simp), ihl fun z hz => h z (by simp [hz])]
  rw [Ex.pre, ndE, foldP]
  by_cases h : nodeE (.node op nm vt vn vs pos l) = 0
  · have h2 : (fck 0 (.node op nm vt vn vs pos l) d).2 = true := by simp [fck, h]
    rw [if_pos h2, if_neg (fun hh => hh h)]
    have h3 : (fck 0 (.node op nm vt vn vs pos l) d).1 = 0 := h
    rw [h3]
    exact key l ih
  · have h2 : ¬ (fck 0 (.node op nm vt vn vs pos l) d).2 = true := by simp [fck, h]
    rw [if_neg h2, if_pos h]
    rfl
theorem ckP_nd (x : Ex) : ckP x = if x.small = false then 4 else ndE x := by
  rw [ckP, tg_small, fold_nd]
  cases x.small <;> simp
/-- What is wrong with a node, by the document's Arity. -/
theorem node_ar (x : Ex) : nodeE x = nodeB (decide (0 ≤ arityT x.op.data.toList)) (x.op.toList == [99, 111, 108]) (nameT x.nm.data.toList) ((x.args.length : Int) != arityT x.op.data.toList) (!(x.nm.toList == [])) (x.op.toList == [118, 97, 108]) (!((x.vt == 0) && ((x.vn == 0) && (x.vs.toList == [])))) (ckV x.vt x.vn x.vs.data.toList) := by
  obtain ⟨h1, h2⟩ := arity_ops x.op.data.toList
  rw [nodeE, h1]
  by_cases h : 0 ≤ arityT x.op.data.toList
  · rw [h2 h]
  · rw [decide_eq_false h]
    simp [nodeB]
end Go.Proofs.YtknibfhoecgjlaaGreatDoor
