/-
  TtP, Text, Ref1, NumFacts, Print, in one text.
-/
import Derived.Test.YtfonalmgdjboeaaDoorGrAg
import Derived.Lib.Replace
import Derived.Lib.AtoiAll
import Derived.Lib.ItoaNum
import Derived.Test.YtfonalmgdjboeaaDoorGrAa
import Derived.Lib.ItoaLen
import Derived.Test.YtfonalmgdjboeaaDoorGrAc
import Derived.WalkSmall
import Derived.Lib.LaidTab
import Derived.Lib.AppendIntMem
namespace Go.Proofs.YtfonalmgdjboeaaDoor
open Go.RowKit
set_option linter.unusedVariables false

def ahB (w : List UInt8) (v b : V3) : Bool := if w = wLeast then decide (cmpX v b < 0) else decide (0 < cmpX v b)
theorem ahB_iff {w : List UInt8} {v b : V3} : ahB w v b = true ↔ ahV w v b := by
  unfold ahB ahV
  split <;> simp
theorem ahV_irr {w : List UInt8} {t : Int} {v : V3} (h : okT t v) : ¬ ahV w v v := by
  have hc : cmpX v v = 0 := by
    rw [cmpX_eq h h]
    split
    · by_cases h1 : cmpS v.2.2.data.toList v.2.2.data.toList < 0
      · exact absurd (cmpS_lt0.1 h1) (List.lt_irrefl _)
      · by_cases h2 : 0 < cmpS v.2.2.data.toList v.2.2.data.toList
        · exact absurd (cmpS_gt0.1 h2) (List.lt_irrefl _)
        · omega
    · by_cases h1 : cmpI v.2.1 v.2.1 < 0
      · have := cmpI_lt0.1 h1; omega
      · by_cases h2 : 0 < cmpI v.2.1 v.2.1
        · have := cmpI_gt0.1 h2; omega
        · omega
  unfold ahV
  rw [hc]
  split <;> omega
/-- The best of values: a later one only where it is ahead. -/
def bsL (w : List UInt8) : List V3 → V3
  | [] => noV
  | v :: r => r.foldl (fun b v => if ahB w v b then v else b) v
theorem bsL_snoc (w : List UInt8) (l : List V3) (v : V3) (h : l ≠ []) : bsL w (l ++ [v]) = if ahB w v (bsL w l) then v else bsL w l := by
  cases l with
  | nil => exact absurd rfl h
  | cons a r =>
    show (r ++ [v]).foldl _ a = _
    rw [List.foldl_append]
    rfl
theorem bsL_best (w : List UInt8) (t : Int) : ∀ (n : Nat) (l : List V3), l.length = n → (∀ v ∈ l, okT t v) → IsBest w l (bsL w l)
  | 0, l, hn, _ => by
    obtain rfl := List.length_eq_zero_iff.1 hn
    exact .inl ⟨rfl, rfl⟩
  | n + 1, l, hn, hv => by
    rcases List.eq_nil_or_concat l with rfl | ⟨r, v, rfl⟩
    · simp at hn
    rw [List.concat_eq_append] at *
    have hr : r.length = n := by simpa using hn
    have hvv : okT t v := hv v (by simp)
    by_cases h0 : r = []
    · subst h0
      refine .inr ⟨by simp [bsL], fun u hu => ?_⟩
      obtain rfl : u = v := by simpa using hu
      exact ahV_irr hvv
    · rw [bsL_snoc w r v h0]
      have ih := bsL_best w t n r hr (fun u hu => hv u (by simp [hu]))
      rcases ih with ⟨e, _⟩ | ⟨hm, hb⟩
      · exact absurd e h0
      have hbb : okT t (bsL w r) := hv _ (by simp [hm])
      by_cases ha : ahB w v (bsL w r) = true
      · rw [if_pos ha]
        refine .inr ⟨by simp, fun u hu => ?_⟩
        rcases List.mem_append.1 hu with hu | hu
        · exact fun h => hb u hu (ahV_trans (hv u (by simp [hu])) hvv hbb h (ahB_iff.1 ha))
        · obtain rfl : u = v := by simpa using hu
          exact ahV_irr hvv
      · rw [if_neg ha]
        refine .inr ⟨by simp [hm], fun u hu => ?_⟩
        rcases List.mem_append.1 hu with hu | hu
        · exact hb u hu
        · obtain rfl : u = v := by simpa using hu
          exact fun h => ha (ahB_iff.2 h)
/-- What is told of the values of one aggregate. -/
def tot1 (w : List UInt8) (vs : List V3) (n : Int) : V3 × Int :=
  if w = wCount then ((1, n, ⟨#[]⟩), 0)
  else if w = wSum then (if -9223372036854775808 ≤ (vs.map (·.2.1)).sum ∧ (vs.map (·.2.1)).sum ≤ 9223372036854775807 then ((1, (vs.map (·.2.1)).sum, ⟨#[]⟩), 0) else ((1, 0, ⟨#[]⟩), 9))
  else if vs = [] then (noV, 5) else (bsL w vs, 0)
def totL (xs : List ByteArray) (rws : List (List V3)) : List (V3 × Int) := (List.range xs.length).map fun i => tot1 (xs.getD i ⟨#[]⟩).data.toList (colV i rws) (rws.length : Int)
def totV (xs : List ByteArray) (rws : List (List V3)) : List V3 := (totL xs rws).map Prod.fst
def totE (xs : List ByteArray) (rws : List (List V3)) : Int := fstE ((totL xs rws).map Prod.snd)
theorem isAg_four {x : List UInt8} (h : isAg x = true) : x = wCount ∨ x = wSum ∨ x = wLeast ∨ x = wMost := by
  unfold isAg at h
  simpa [wCount, wSum, wLeast, wMost, or_assoc] using h
theorem res_tot {p : Pt} {vs : List V3} (n : Int) (hk : Kn p vs) (ha : isAg p.wh = true) (hv : p.wh = wLeast ∨ p.wh = wMost → ∀ v ∈ vs, okT p.kind v) : resP p n = tot1 p.wh vs n := by
  unfold tot1
  by_cases h1 : p.wh = wCount
  · rw [if_pos h1, resP_c h1]
  · rw [if_neg h1]
    by_cases h2 : p.wh = wSum
    · rw [if_pos h2, resP_s h2, hk.sum h2]
    · rw [if_neg h2]
      have h3 : p.wh = wLeast ∨ p.wh = wMost := by
        rcases isAg_four ha with h | h | h | h
        · exact absurd h h1
        · exact absurd h h2
        · exact .inl h
        · exact .inr h
      have hb := hk.best h3
      have hz := best_nz hb (hv h3)
      rw [resP_b h3]
      by_cases h4 : vs = []
      · rw [if_pos h4, if_pos (hz.2 h4)]
      · rw [if_neg h4, if_neg (fun e => h4 (hz.1 e)), (hb.unique (hv h3) (fun v => Iff.rfl) (bsL_best p.wh p.kind _ vs rfl (hv h3)))]
theorem nw_at {xs : List ByteArray} {ts : List Int} (h : nwE xs ts = 0) : ts.length = xs.length ∧ ∀ i (h1 : i < xs.length) (h2 : i < ts.length), npE xs[i].data.toList ts[i] = 0 := by
  unfold nwE at h
  have hl : ts.length = xs.length := Classical.byContradiction fun e => by rw [if_pos e] at h; omega
  rw [if_neg (fun e => e hl)] at h
  have h6 : ¬ 6 < xs.length := fun e => by rw [if_pos e] at h; omega
  rw [if_neg h6] at h
  refine ⟨hl, fun i h1 h2 => fstE_zero h _ ?_⟩
  unfold nwL
  exact List.mem_iff_getElem.2 ⟨i, by simp; omega, by simp⟩
theorem tells_tot {xs : List ByteArray} {ts : List Int} {rs : List (List V3)} {ps : List Pt} (hE : nwE xs ts = 0) (h : Acu (nwP xs ts) rs ps) : reE ps (rs.length : Int) = totE xs rs ∧ reV ps (rs.length : Int) = totV xs rs := by
  obtain ⟨hl, hnp⟩ := nw_at hE
  have hlen : ps.length = xs.length := by rw [h.al.1]; simp [nwP, hl]
  have key : ps.map (fun p => resP p (rs.length : Int)) = totL xs rs := by
    refine List.ext_getElem (by simp [totL, hlen]) fun i h1 h2 => ?_
    have hi : i < ps.length := by simpa using h1
    have hix : i < xs.length := by omega
    have hit : i < ts.length := by omega
    have hin : i < (nwP xs ts).length := by rw [← h.al.1]; exact hi
    have hal := (h.al.2 i hi hin).1
    have hw : ps[i].what = xs[i] := by
      rw [hal]
      simp only [nwP, List.getElem_zipWith, npP]
      rw [if_neg (fun e => e (hnp i hix hit))]
    have hwh : ps[i].wh = xs[i].data.toList := by unfold Pt.wh; rw [hw]
    have hxd : xs.getD i ⟨#[]⟩ = xs[i] := by rw [List.getD_eq_getElem?_getD, List.getElem?_eq_getElem hix]; rfl
    simp only [List.getElem_map, totL, List.getElem_range, hxd]
    rw [← hwh]
    exact res_tot _ (h.kn i hi) (h.ok.ok _ (List.getElem_mem hi)).ok.ag (h.col hi)
  refine ⟨?_, ?_⟩
  · unfold reE totE
    rw [← key]
    simp [List.map_map, Function.comp_def]
  · unfold reV totV
    rw [← key]
    simp [List.map_map, Function.comp_def]
end Go.Proofs.YtfonalmgdjboeaaDoor
namespace Go.Proofs.YtfonalmgdjboeaaDoor

/-- Each quote twice. -/
def esc (l : List UInt8) : List UInt8 := l.flatMap fun c => if c = 39 then [39, 39] else [c]
theorem esc_cons (c : UInt8) (l : List UInt8) : esc (c :: l) = (if c = 39 then [39, 39] else [c]) ++ esc l := by simp [esc]
theorem esc_nil : esc [] = [] := rfl

theorem index_ne (c : UInt8) (l : List UInt8) (h : c ≠ 39) : Lib.index (c :: l) [39] = if Lib.index l [39] == -1 then -1 else Lib.index l [39] + 1 := by
  rw [Lib.index, if_neg]
  simp [List.isPrefixOf]
  exact fun e => h e.symm
theorem index_eq (l : List UInt8) : Lib.index (39 :: l) [39] = 0 := by
  rw [Lib.index, if_pos]
  simp [List.isPrefixOf]

theorem replace_ne (c : UInt8) (h : c ≠ 39) (k : Nat) (l : List UInt8) : Lib.replaceK [39] [39, 39] k (c :: l) = c :: Lib.replaceK [39] [39, 39] k l := by
  cases k with
  | zero => rfl
  | succ k =>
    rw [Lib.replaceK, Lib.replaceK, index_ne c l h]
    by_cases hm : Lib.index l [39] = -1
    · simp [hm]
    · have hge := Lib.index_ge l [39]
      have h1 : (Lib.index l [39] == -1) = false := by simpa using hm
      have h2 : (Lib.index l [39] + 1 == -1) = false := by simp; omega
      have h3 : (Lib.index l [39] + 1).toNat = (Lib.index l [39]).toNat + 1 := by omega
      rw [h1]
      simp only [Bool.false_eq_true, if_false]
      rw [h2]
      simp only [Bool.false_eq_true, if_false, h3]
      simp
theorem replace_eq (k : Nat) (l : List UInt8) : Lib.replaceK [39] [39, 39] (k + 1) (39 :: l) = 39 :: 39 :: Lib.replaceK [39] [39, 39] k l := by
  rw [Lib.replaceK, index_eq]
  simp
theorem replace_esc : ∀ (l : List UInt8) (k : Nat), l.count 39 ≤ k → Lib.replaceK [39] [39, 39] k l = esc l
  | [], k, _ => by
    cases k with
    | zero => rfl
    | succ k => rw [Lib.replaceK, Lib.index]; simp [esc]
  | c :: l, k, h => by
    by_cases hc : c = 39
    · subst hc
      rw [List.count_cons_self] at h
      obtain ⟨k', rfl⟩ : ∃ k', k = k' + 1 := ⟨k - 1, by omega⟩
      rw [replace_eq, replace_esc l k' (by omega), esc_cons, if_pos rfl]
      rfl
    · rw [List.count_cons_of_ne hc] at h
      rw [replace_ne c hc, replace_esc l k h, esc_cons, if_neg hc]
      rfl
theorem replaceAll_esc (l : List UInt8) : Lib.replaceAll l [39] [39, 39] = esc l := by
  have h0 : Lib.replaceNum l [39] (-1) = l.count 39 := by rw [Lib.replaceNum, if_pos (Or.inl (by decide)), Lib.count_one]
  rw [Lib.replaceAll, Lib.replace, if_neg (by decide), h0]
  exact replace_esc l _ (Nat.le_refl _)

/-- What stands between the quotes, taken apart; none: quotes do not stand in pairs. -/
def unq : List UInt8 → Option (List UInt8)
  | [] => some []
  | c :: l =>
    if c = 39 then
      match l with
      | [] => none
      | d :: r => if d = 39 then (unq r).map (39 :: ·) else none
    else (unq l).map (c :: ·)
theorem unq_ne (c : UInt8) (l : List UInt8) (h : c ≠ 39) : unq (c :: l) = (unq l).map (c :: ·) := by cases l <;> simp [unq, h]
theorem unq_two (r : List UInt8) : unq (39 :: 39 :: r) = (unq r).map (39 :: ·) := by simp [unq]
theorem unq_bad (d : UInt8) (r : List UInt8) (h : d ≠ 39) : unq (39 :: d :: r) = none := by simp [unq, h]
theorem unq_one : unq [39] = none := by simp [unq]
theorem unq_esc : ∀ l : List UInt8, unq (esc l) = some l
  | [] => by simp [esc, unq]
  | c :: l => by
    rw [esc_cons]
    by_cases hc : c = 39
    · subst hc; simp [unq, unq_esc l]
    · rw [if_neg hc, List.singleton_append, unq_ne c _ hc, unq_esc l]; rfl
theorem esc_of_unq : ∀ (n : Nat) (m l : List UInt8), m.length ≤ n → unq m = some l → m = esc l
  | _, [], l, _, h => by simp [unq] at h; subst h; rfl
  | 0, _ :: _, _, hn, _ => by simp at hn
  | n + 1, c :: m, l, hn, h => by
    by_cases hc : c = 39
    · subst hc
      cases m with
      | nil => simp [unq] at h
      | cons d r =>
        by_cases hd : d = 39
        · subst hd
          simp only [unq, if_true, Option.map_eq_some_iff] at h
          obtain ⟨l', hl, rfl⟩ := h
          rw [esc_cons, if_pos rfl, ← esc_of_unq n r l' (by simp at hn; omega) hl]
          rfl
        · simp [unq, hd] at h
    · rw [unq_ne c m hc, Option.map_eq_some_iff] at h
      obtain ⟨l', hl, rfl⟩ := h
      rw [esc_cons, if_neg hc, ← esc_of_unq n m l' (by simp at hn; omega) hl]
      rfl
theorem unq_len (m l : List UInt8) (h : unq m = some l) : l.length ≤ m.length := by
  rw [esc_of_unq m.length m l (Nat.le_refl _) h]
  clear h
  induction l with
  | nil => simp
  | cons c l ih =>
    rw [esc_cons]
    split <;> simp <;> omega

theorem parse_snoc : ∀ (l : List UInt8) (a u : Nat) (d : Nat), Lib.parseUint10 a l = .ok u → d < 10 → u * 10 + d < 18446744073709551616 → Lib.parseUint10 a (l ++ [UInt8.ofNat (48 + d)]) = .ok (u * 10 + d)
  | [], a, u, d, h, hd, hu => by
    simp only [Lib.parseUint10] at h
    injection h with h
    subst h
    have e : (UInt8.ofNat (48 + d)).toNat = 48 + d := by simp; omega
    simp only [List.nil_append, Lib.parseUint10, e]
    rw [if_pos (by omega), if_neg (by omega), if_neg (by omega), show 48 + d - 48 = d from by omega]
  | c :: r, a, u, d, h, hd, hu => by
    simp only [List.cons_append, Lib.parseUint10] at h ⊢
    split at h
    · rename_i h1
      rw [if_pos h1]
      split at h
      · cases h
      · rename_i h2
        rw [if_neg h2]
        split at h
        · cases h
        · rename_i h3
          rw [if_neg h3]
          exact parse_snoc r _ u d h hd hu
    · cases h
theorem parse_digits : ∀ (k u : Nat), u ≤ k → u < 18446744073709551616 → Lib.parseUint10 0 (Lib.decDigits u) = .ok u
  | k, u, hk, hu => by
    rw [Lib.decDigits]
    by_cases h : u < 10
    · rw [dif_pos h]
      have := parse_snoc [] 0 0 u rfl h (by omega)
      simpa using this
    · rw [dif_neg h]
      cases k with
      | zero => omega
      | succ k =>
        have := parse_snoc (Lib.decDigits (u / 10)) 0 (u / 10) (u % 10) (parse_digits k (u / 10) (by omega) (by omega)) (by omega) (by omega)
        rw [this]
        congr 1
        omega
theorem digits_head : ∀ (k u : Nat), u ≤ k → ∃ c r, Lib.decDigits u = c :: r ∧ 48 ≤ c.toNat ∧ c.toNat ≤ 57
  | k, u, hk => by
    rw [Lib.decDigits]
    by_cases h : u < 10
    · rw [dif_pos h]
      exact ⟨_, _, rfl, by simp; omega, by simp; omega⟩
    · rw [dif_neg h]
      cases k with
      | zero => omega
      | succ k =>
        obtain ⟨c, r, hr, h1, h2⟩ := digits_head k (u / 10) (by omega)
        rw [hr]
        exact ⟨c, _, rfl, h1, h2⟩
theorem itoa_head (n : Int) : ∃ c r, Lib.itoa n = c :: r ∧ (c.toNat = 45 ∨ 48 ≤ c.toNat ∧ c.toNat ≤ 57) := by
  rw [Lib.itoa]
  split
  · exact ⟨_, _, rfl, Or.inl rfl⟩
  · obtain ⟨c, r, hr, h⟩ := digits_head n.toNat n.toNat (Nat.le_refl _)
    exact ⟨c, r, hr, Or.inr h⟩
theorem atoi_itoa (n : Int) (h : -9223372036854775808 ≤ n ∧ n ≤ 9223372036854775807) : Lib.atoiAll (Lib.itoa n) = .ok n := by
  by_cases hn : n < 0
  · rw [Lib.itoa, if_pos hn]
    obtain ⟨c, r, hr, h1, h2⟩ := digits_head n.natAbs n.natAbs (Nat.le_refl _)
    have hp := parse_digits n.natAbs n.natAbs (Nat.le_refl _) (by omega)
    have hm : Lib.parseMag (Lib.decDigits n.natAbs) = .ok n.natAbs := by rw [Lib.parseMag, if_neg (by rw [hr]; simp), hp]
    simp only [Lib.atoiAll]
    rw [if_pos (Or.inr (by decide)), hm]
    simp only []
    rw [if_neg (by simp), if_neg (by omega), if_pos (by decide)]
    congr 1
    omega
  · rw [Lib.itoa, if_neg hn]
    obtain ⟨c, r, hr, h1, h2⟩ := digits_head n.toNat n.toNat (Nat.le_refl _)
    have hp := parse_digits n.toNat n.toNat (Nat.le_refl _) (by omega)
    have hm : Lib.parseMag (Lib.decDigits n.toNat) = .ok n.toNat := by rw [Lib.parseMag, if_neg (by rw [hr]; simp), hp]
    rw [hr] at hm ⊢
    simp only [Lib.atoiAll]
    rw [if_neg (by omega), hm]
    simp only []
    rw [if_neg (by omega), if_neg (by omega), if_neg (by omega)]
    congr 1
    omega
end Go.Proofs.YtfonalmgdjboeaaDoor
namespace Go.Proofs.YtfonalmgdjboeaaDoor
open Go.RowKit
set_option linter.unusedVariables false

set_option maxHeartbeats 400000 in
theorem refPlain_any (s : ByteArray) (w : World) (hs : s.size ≤ maxLen) :
    Calls Tryd.prog 19 #[.string s] w fun e w' => e = .returned (.bool (plainB s.data.toList)) ∧ w' = w := by
  unfold maxLen at hs
  go_enter Tryd.func19, Tryd.ntmps19
  go_wp2
  go_loop [3] (fun i => ∃ k : Nat, k ≤ s.size ∧ i = .int .i64 k ∧ plainB (s.data.toList.take k) = true) (fun i => s.size - (intOf i).toNat)
  case atStart => exact ⟨0, Nat.zero_le _, rfl, rfl⟩
  case round =>
    obtain ⟨k, hk, rfl, hp⟩ := hrel
    have HP : Hid (plainB (s.data.toList.take k) = true) := hp
    clear hp
    by_cases hlt : k < s.size
    · have HN : Hid (∀ _ : (s[k].toNat : Int) < 32 ∨ 126 < (s[k].toNat : Int), plainB s.data.toList = false) := plain_not s k hlt
      have HT : Hid (plainB (s.data.toList.take (k + 1)) = (plainB (s.data.toList.take k) && (decide (32 ≤ (s[k].toNat : Int)) && decide ((s[k].toNat : Int) ≤ 126)))) := plain_take s k hlt
      go_wp2
      · go_ret
        exact ⟨ret_bool (HN.out (by omega)).symm, rfl⟩
      · go_round
        case rel =>
          refine ⟨k + 1, by omega, by go_num, ?_⟩
          rw [HT.out, HP.out]
          simp only [Bool.true_and, Bool.and_eq_true, decide_eq_true_eq]
          assumption
        case measure => simp [intOf]; omega
      · go_ret
        exact ⟨ret_bool (HN.out (by omega)).symm, rfl⟩
    · have HO := plain_of s k (by omega) HP.out
      go_wp2
      go_ret
      exact ⟨rfl, rfl⟩

set_option maxHeartbeats 1000000 in
theorem refVal_any (t n : Int) (s : ByteArray) (w : World) (hs : s.size ≤ maxLen) :
    Calls Tryd.prog 8 #[.agg #[.int .i64 t, .int .i64 n, .string s]] w fun e w' => e = .returned (.int .i64 (chk t n s.data.toList)) ∧ Below w.heap.size w w' := by
  have hs2 := hs
  unfold maxLen at hs2
  generalize hc : chk t n s.data.toList = c
  have HC : Hid (chk t n s.data.toList = c) := hc
  clear hc
  go_enter Tryd.func8, Tryd.ntmps8
  go_wp2_with (first | (go_at_call 19; refine (refPlain_any _ _ hs).mono ?_; rintro e w' ⟨rfl, rfl⟩))
  all_goals
    go_ret
    refine ⟨?_, by repeat (first | exact Below.refl _ _ | (refine Below.alloc ?_ (by simp) _))⟩
    have hd : s.data.toList.length = s.size := by simp
    have hc := HC.out
    clear HC hs
    rw [chk] at hc
    simp only [Lib.toList_data, bne_iff_ne, bne_eq_false_iff_eq, Bool.not_eq_true', Bool.not_eq_false'] at *
  all_goals
    repeat' split at hc
  all_goals subst hc
  all_goals first | rfl | (exfalso; omega) | (exfalso; simp_all; done) | (exfalso; simp_all; omega)

theorem ret_bi {b : Bool} {k : IntKind} {a c : Int} (h : a = c) : Ending.returned (.tuple #[.bool b, .int k a]) = .returned (.tuple #[.bool b, .int k c]) := by rw [h]
theorem ret_ib {b : Bool} {k : IntKind} {a c : Int} (h : a = c) : Ending.returned (.tuple #[.int k a, .bool b]) = .returned (.tuple #[.int k c, .bool b]) := by rw [h]
theorem dig_len (u : Nat) (h : u < 18446744073709551616) : (Lib.decDigits u).length ≤ 20 := by rw [Lib.decDigits_length]; exact Lib.nDigits_le20 u h
theorem ret_str {a c : ByteArray} (h : a = c) : Ending.returned (.string a) = .returned (.string c) := by rw [h]
theorem dig_snoc (u : Nat) (d : Nat) (c : UInt8) (h : ¬ u < 10) (hd : u % 10 = d) (hc : UInt8.ofNat (48 + d) = c) : (⟨(Lib.decDigits (u / 10)).toArray⟩ : ByteArray) ++ ⟨#[c]⟩ = ⟨(Lib.decDigits u).toArray⟩ := by
  rw [Lib.decDigits.eq_1 u, dif_neg h, hd, hc]
  rfl
end Go.Proofs.YtfonalmgdjboeaaDoor
namespace Go.Proofs.YtfonalmgdjboeaaDoor

def digB (c : UInt8) : Bool := decide (48 ≤ (c.toNat : Int)) && decide ((c.toNat : Int) ≤ 57)
def val10 (l : List UInt8) : Nat := l.foldl (fun a c => a * 10 + (c.toNat - 48)) 0
theorem val10_snoc (l : List UInt8) (c : UInt8) : val10 (l ++ [c]) = val10 l * 10 + (c.toNat - 48) := by simp [val10, List.foldl_append]
theorem digB_iff (c : UInt8) : digB c = true ↔ 48 ≤ c.toNat ∧ c.toNat ≤ 57 := by simp [digB]; omega
theorem val10_lt (k : Nat) : ∀ l : List UInt8, l.length = k → l.all digB = true → val10 l < 10 ^ k := by
  induction k with
  | zero => intro l hl _; rw [List.length_eq_zero_iff.1 hl]; decide
  | succ k ih =>
    intro l hl ha
    have hne : l ≠ [] := by intro e; rw [e] at hl; simp at hl
    rw [← List.dropLast_concat_getLast hne] at ha ⊢
    rw [List.all_append, Bool.and_eq_true] at ha
    have h1 := ih l.dropLast (by simp; omega) ha.1
    have h2 := (digB_iff (l.getLast hne)).1 (by simpa using ha.2)
    rw [val10_snoc, Nat.pow_succ]
    omega
theorem dec_val (k : Nat) : ∀ l : List UInt8, l.length = k + 1 → l.all digB = true → (∀ r, l = 48 :: r → r = []) → Lib.decDigits (val10 l) = l := by
  induction k with
  | zero =>
    intro l hl ha _
    obtain ⟨c, rfl⟩ := List.length_eq_one_iff.1 hl
    have h2 := (digB_iff c).1 (by simpa using ha)
    rw [show val10 [c] = c.toNat - 48 from by simp [val10], Lib.decDigits_one (by omega), show 48 + (c.toNat - 48) = c.toNat from by omega]
    simp
  | succ k ih =>
    intro l hl ha hz
    have hne : l ≠ [] := by intro e; rw [e] at hl; simp at hl
    obtain ⟨r, c, rfl⟩ : ∃ r c, l = r ++ [c] := ⟨l.dropLast, l.getLast hne, (List.dropLast_concat_getLast hne).symm⟩
    rw [List.all_append, Bool.and_eq_true] at ha
    have hrl : r.length = k + 1 := by simp at hl; omega
    have hz2 : ∀ q, r ≠ 48 :: q := fun q e => by
      have := hz (q ++ [c]) (by rw [e]; rfl)
      simp at this
    have h1 := ih r hrl ha.1 (fun q e => absurd e (hz2 q))
    have h2 := (digB_iff c).1 (by simpa using ha.2)
    have h3 : 1 ≤ val10 r := by
      rcases Nat.eq_zero_or_pos (val10 r) with h | h
      · rw [h, Lib.decDigits_one (by omega)] at h1
        exact absurd h1.symm (hz2 [])
      · exact h
    rw [val10_snoc, Lib.decDigits.eq_1, dif_neg (by omega), show (val10 r * 10 + (c.toNat - 48)) / 10 = val10 r from by omega, h1, show 48 + (val10 r * 10 + (c.toNat - 48)) % 10 = c.toNat from by omega]
    simp
theorem dec_digits (k : Nat) : ∀ u : Nat, u ≤ k → (Lib.decDigits u).all digB = true ∧ val10 (Lib.decDigits u) = u ∧ (∀ r, Lib.decDigits u = 48 :: r → r = []) := by
  induction k with
  | zero =>
    intro u hu
    obtain rfl : u = 0 := by omega
    rw [Lib.decDigits_one (by omega)]
    exact ⟨by decide, by decide, fun r e => by simpa using e.symm⟩
  | succ k ih =>
    intro u hu
    by_cases h : u < 10
    · rw [Lib.decDigits_one h]
      have e : (UInt8.ofNat (48 + u)).toNat = 48 + u := by simp; omega
      refine ⟨?_, ?_, fun r e => by simpa using (List.cons.inj e).2.symm⟩
      · rw [List.all_cons, List.all_nil, Bool.and_true, digB_iff, e]; omega
      · rw [show val10 [UInt8.ofNat (48 + u)] = (UInt8.ofNat (48 + u)).toNat - 48 from by simp [val10], e]; omega
    · obtain ⟨a1, a2, a3⟩ := ih (u / 10) (by omega)
      have e : (UInt8.ofNat (48 + u % 10)).toNat = 48 + u % 10 := by simp; omega
      rw [Lib.decDigits.eq_1, dif_neg h]
      refine ⟨?_, ?_, ?_⟩
      · rw [List.all_append, a1, List.all_cons, List.all_nil, Bool.and_true, Bool.true_and, digB_iff, e]; omega
      · rw [val10_snoc, a2, e]; omega
      · intro r hr
        exfalso
        cases hd : Lib.decDigits (u / 10) with
        | nil =>
          obtain ⟨c, q, hq, _⟩ := digits_head (u / 10) (u / 10) (Nat.le_refl _)
          rw [hd] at hq; cases hq
        | cons c q =>
          rw [hd, List.cons_append] at hr
          injection hr with hc _
          rw [hd, hc] at a3 a2
          have := a3 q rfl
          rw [this] at a2
          have : val10 [48] = 0 := by decide
          omega
theorem nd_le (k : Nat) : ∀ u : Nat, u < 10 ^ (k + 1) → Lib.nDigits u ≤ k + 1 := by
  induction k with
  | zero => intro u hu; rw [Lib.nDigits_small (by omega)]; omega
  | succ k ih =>
    intro u hu
    by_cases h : u < 10
    · rw [Lib.nDigits_small h]; omega
    · rw [Lib.nDigits_big h]
      have := ih (u / 10) (by rw [Nat.pow_succ] at hu; omega)
      omega
/-- A text of digits as a number; none: it is none. -/
def numL (l : List UInt8) : Option Nat :=
  if l = [] ∨ (l.head? = some 48 ∧ 1 < l.length) ∨ 19 < l.length then none
  else if l.all digB = true then (if 9223372036854775807 < val10 l then none else some (val10 l)) else none
theorem numL_some {l : List UInt8} {n : Nat} (h : numL l = some n) : l = Lib.decDigits n ∧ n ≤ 9223372036854775807 := by
  rw [numL] at h
  split at h
  · cases h
  · rename_i h1
    split at h
    · rename_i h2
      split at h
      · cases h
      · rename_i h3
        cases h
        have hl : l.length ≠ 0 := fun e => h1 (Or.inl (List.length_eq_zero_iff.1 e))
        exact ⟨(dec_val (l.length - 1) l (by omega) h2 (fun r e => Classical.byContradiction fun hr => h1 (Or.inr (Or.inl ⟨by rw [e]; rfl, by rw [e]; cases r with | nil => exact absurd rfl hr | cons _ _ => simp⟩)))).symm, by omega⟩
    · cases h
theorem numL_dec (n : Nat) (h : n ≤ 9223372036854775807) : numL (Lib.decDigits n) = some n := by
  obtain ⟨a1, a2, a3⟩ := dec_digits n n (Nat.le_refl _)
  have hl : (Lib.decDigits n).length ≤ 19 := by
    rw [Lib.decDigits_length]
    exact nd_le 18 n (by omega)
  rw [numL, if_neg, if_pos a1, a2, if_neg (by omega)]
  rintro (e | ⟨e, hr⟩ | e)
  · obtain ⟨c, q, hq, _⟩ := digits_head n n (Nat.le_refl _)
    rw [e] at hq; cases hq
  · cases hd : Lib.decDigits n with
    | nil => rw [hd] at hr; simp at hr
    | cons c q =>
      rw [hd] at e
      obtain rfl : c = 48 := by simpa using e
      rw [a3 q hd] at hd
      rw [hd] at hr; simp at hr
  · omega
end Go.Proofs.YtfonalmgdjboeaaDoor
namespace Go.Proofs.YtfonalmgdjboeaaDoor
open Go.RowKit

/-- The text of a value that is right. -/
def shown (t n : Int) (l : List UInt8) : List UInt8 :=
  if t = 1 then Lib.itoa n
  else if t = 2 then (if n = 1 then [116, 114, 117, 101] else [102, 97, 108, 115, 101])
  else 39 :: (esc l ++ [39])
def prS (t n : Int) (l : List UInt8) : List UInt8 := if chk t n l = 0 then shown t n l else []

theorem chk_type {t n : Int} {l : List UInt8} (h : chk t n l = 0) : (t = 1 ∧ l = []) ∨ (t = 2 ∧ l = [] ∧ (n = 0 ∨ n = 1)) ∨ (t = 3 ∧ n = 0 ∧ l.length ≤ 40 ∧ plainB l = true) := by
  rw [chk] at h
  split at h
  · omega
  · rename_i h1
    split at h
    · omega
    · rename_i h2
      split at h
      · omega
      · rename_i h3
        split at h
        · omega
        · rename_i h4
          by_cases e3 : t = 3
          · have h3' : plainB l = true := by
              cases hp : plainB l with
              | true => rfl
              | false => exact absurd ⟨e3, hp⟩ h3
            exact Or.inr (Or.inr ⟨e3, by omega, by omega, h3'⟩)
          · have hl : l = [] := Classical.byContradiction fun e => h4 (Or.inl ⟨e3, e⟩)
            by_cases e2 : t = 2
            · exact Or.inr (Or.inl ⟨e2, hl, by omega⟩)
            · exact Or.inl ⟨by omega, hl⟩

theorem grow_below {w w' : World} (h : ∃ k os, w' = Sort.grow (w.drewN k) os) : Below w.heap.size w w' := by
  obtain ⟨k, os, rfl⟩ := h
  exact Lib.below_grow _ w (Nat.le_refl _) k os
theorem esc_len (l : List UInt8) : (esc l).length ≤ 2 * l.length := by
  induction l with
  | nil => simp [esc]
  | cons c l ih =>
    rw [esc_cons]
    split <;> simp <;> omega
theorem quoted (l : List UInt8) : (⟨#[39]⟩ : ByteArray) ++ ⟨(esc l).toArray⟩ ++ ⟨#[39]⟩ = ⟨(39 :: (esc l ++ [39])).toArray⟩ := by
  rfl

end Go.Proofs.YtfonalmgdjboeaaDoor
