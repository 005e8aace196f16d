/-
  TreeRt, TreeRu, TreeRv, LexPure2, TreeLx, TreeLy, TreeLz, TreePl, TreeMk, TreeSn, TreeBl, TreeBx, in one text.
-/
import Derived.Test.YtnpinbpjfngknaaGreatDoorLoP
import Derived.Test.YtnpinbpjfngknaaGreatDoorLo2
import Derived.Test.YtnpinbpjfngknaaGreatDoorTreeSm
import Derived.Test.YtnpinbpjfngknaaGreatDoorLo1
import Derived.Test.YtnpinbpjfngknaaGreatDoorLo6
import Derived.Test.YtnpinbpjfngknaaGreatDoorLoX
namespace Go.Proofs.YtnpinbpjfngknaaGreatDoor
set_option linter.unusedVariables false

/-- Words one behind the other, one between. -/
def tkI (sep : List UInt8) : List (List (List UInt8)) → List (List UInt8)
  | [] => []
  | [t] => t
  | t :: u :: ts => t ++ sep :: tkI sep (u :: ts)
mutual
/-- The words of an expression's text. -/
def tkP : Ex → List (List UInt8)
  | .node op nm vt vn vs _ l =>
    if op.data.toList = [118, 97, 108] then [prS vt vn vs.data.toList]
    else if op.data.toList = [99, 111, 108] then [nm.data.toList]
    else if op.data.toList = [108, 101, 110] ∨ op.data.toList = [105, 102] then op.data.toList :: [40] :: (tkI [44] (tksP l) ++ [[41]])
    else if op.data.toList = [110, 111, 116] then [40] :: [110, 111, 116] :: ((tksP l).headD [] ++ [[41]])
    else if op.data.toList = [110, 101, 103] then [40] :: [45] :: ((tksP l).headD [] ++ [[41]])
    else [40] :: (tkI op.data.toList (tksP l) ++ [[41]])
def tksP : List Ex → List (List (List UInt8))
  | [] => []
  | x :: xs => tkP x :: tksP xs
end
theorem tksP_map : ∀ l : List Ex, tksP l = l.map tkP
  | [] => by rw [tksP]; rfl
  | x :: xs => by rw [tksP, tksP_map xs]; rfl
def Tx (ts : List Tok) : List (List UInt8) := ts.map fun t => t.2.1.data.toList
theorem Tx_cons {ts : List Tok} {a : List UInt8} {B : List (List UInt8)} (h : Tx ts = a :: B) : ∃ t r, ts = t :: r ∧ t.2.1.data.toList = a ∧ Tx r = B := by
  cases ts with
  | nil => simp [Tx] at h
  | cons t r =>
    simp only [Tx, List.map_cons, List.cons.injEq] at h
    exact ⟨t, r, rfl, h.1, h.2⟩
theorem Tx_app {ts : List Tok} {A B : List (List UInt8)} (h : Tx ts = A ++ B) : ∃ a b, ts = a ++ b ∧ Tx a = A ∧ Tx b = B := by
  obtain ⟨a, b, h1, h2, h3⟩ := List.map_eq_append_iff.1 h
  exact ⟨a, b, h1, h2, h3⟩
/-- The signs between two, by levels. -/
def gsA : Nat → List (List UInt8)
  | 0 => [[111, 114]]
  | 1 => [[97, 110, 100]]
  | 3 => cmpL
  | 4 => [[43], [45]]
  | 5 => [[42], [47], [37]]
  | _ => []
/-- What must be so for a level to hand on what the next one reads. -/
def Cnd (ts r : List Tok) (L : Nat) : Prop := if L = 2 then nxT (sgT [[110, 111, 116]]) ts = none else if L = 6 then nxT (sgT [[45]]) ts = none else nxT (sgT (gsA L)) r = none
theorem uSev_stop {sub : List Tok → Option Ex × List Tok} {gs : List (List UInt8)} {ts r : List Tok} {e : Ex} (h : sub ts = (some e, r)) (hn : nxT (sgT gs) r = none) : uSev sub gs ts = (some e, r) := by
  rw [uSev, h]
  simp only
  rw [uLoop, hn]
theorem uSev_one {sub : List Tok → Option Ex × List Tok} {gs : List (List UInt8)} {ts r r2 : List Tok} {t : Tok} {a b : Ex} (h : sub ts = (some a, t :: r)) (ht : sgT gs t = true) (h2 : sub r = (some b, r2)) (hn : nxT (sgT gs) r2 = none) : uSev sub gs ts = (some (betT a t b), r2) := by
  rw [uSev, h]
  simp only
  rw [uLoop, nxT, if_pos ht]
  simp only
  rw [h2]
  simp only [List.length_cons]
  rw [uLoop, hn]
theorem uE_step {f L : Nat} {ts r : List Tok} {e : Ex} (hL : L < 7) (h : uE f (L + 1) ts = (some e, r)) (hc : Cnd ts r L) : uE (f + 1) L ts = (some e, r) := by
  have hL' : L = 0 ∨ L = 1 ∨ L = 2 ∨ L = 3 ∨ L = 4 ∨ L = 5 ∨ L = 6 := by omega
  rcases hL' with rfl | rfl | rfl | rfl | rfl | rfl | rfl
  · rw [uE]; exact uSev_stop h hc
  · rw [uE]; exact uSev_stop h hc
  · rw [uE]
    rw [uAhead, show nxT (sgT [[110, 111, 116]]) ts = none from hc]
    exact h
  · rw [uE]
    rw [uCmp, h]
    simp only
    rw [show nxT (sgT cmpL) r = none from hc]
  · rw [uE]; exact uSev_stop h hc
  · rw [uE]; exact uSev_stop h hc
  · rw [uE]
    rw [uAhead, show nxT (sgT [[45]]) ts = none from hc]
    exact h
theorem uE_lift {ts r : List Tok} {e : Ex} : ∀ (d f L : Nat), L + d ≤ 7 → uE f (L + d) ts = (some e, r) → (∀ l, L ≤ l → l < L + d → Cnd ts r l) → uE (f + d) L ts = (some e, r)
  | 0, f, L, _, h, _ => h
  | d + 1, f, L, hL, h, hc => by
    have h1 := uE_lift d f (L + 1) (by omega) (by rw [show L + 1 + d = L + (d + 1) from by omega]; exact h) (fun l h1 h2 => hc l (by omega) (by omega))
    exact uE_step (by omega) h1 (hc L (Nat.le_refl _) (by omega))
/-- Ahead of a bracket that shuts, or a comma, every level hands on. -/
theorem cnd_close {ts r : List Tok} {c : Tok} (hm : nxT (sgT [[45]]) ts = none) (hn : nxT (sgT [[110, 111, 116]]) ts = none) (hc : c.2.1.data.toList = [41] ∨ c.2.1.data.toList = [44]) (L : Nat) (hL : L < 7) : Cnd ts (c :: r) L := by
  have hL' : L = 0 ∨ L = 1 ∨ L = 2 ∨ L = 3 ∨ L = 4 ∨ L = 5 ∨ L = 6 := by omega
  rcases hL' with rfl | rfl | rfl | rfl | rfl | rfl | rfl
  · simp only [Cnd, nxT, sgT, gsA]; rcases hc with h | h <;> rw [h] <;> rfl
  · simp only [Cnd, nxT, sgT, gsA]; rcases hc with h | h <;> rw [h] <;> rfl
  · exact hn
  · simp only [Cnd, nxT, sgT, gsA, cmpL]; rcases hc with h | h <;> rw [h] <;> rfl
  · simp only [Cnd, nxT, sgT, gsA]; rcases hc with h | h <;> rw [h] <;> rfl
  · simp only [Cnd, nxT, sgT, gsA]; rcases hc with h | h <;> rw [h] <;> rfl
  · exact hm
/-- The level of a sign between two. -/
def lvO (op : List UInt8) : Nat := if op = [111, 114] then 0 else if op = [97, 110, 100] then 1 else if cmpL.contains op = true then 3 else if op = [43] ∨ op = [45] then 4 else 5
def bin14 : List (List UInt8) := [[111, 114], [97, 110, 100], [61], [60, 62], [60], [60, 61], [62], [62, 61], [43], [45], [42], [47], [37]]
theorem cnd_op {ts r : List Tok} {c : Tok} {op : List UInt8} (hm : nxT (sgT [[45]]) ts = none) (hn : nxT (sgT [[110, 111, 116]]) ts = none) (hop : op ∈ bin14) (hc : c.2.1.data.toList = op) (L : Nat) (hL : L < 7) (hlv : lvO op < L) : Cnd ts (c :: r) L := by
  have hL' : L = 0 ∨ L = 1 ∨ L = 2 ∨ L = 3 ∨ L = 4 ∨ L = 5 ∨ L = 6 := by omega
  simp only [bin14, List.mem_cons, List.not_mem_nil, or_false] at hop
  rcases hop with rfl | rfl | rfl | rfl | rfl | rfl | rfl | rfl | rfl | rfl | rfl | rfl | rfl
  all_goals
    rcases hL' with rfl | rfl | rfl | rfl | rfl | rfl | rfl
  all_goals
    first
    | exact hn
    | exact hm
    | exact absurd hlv (by decide)
    | (simp only [Cnd, nxT, sgT, gsA, cmpL]; rw [hc]; rfl)
theorem lvO_cases {op : List UInt8} (hop : op ∈ bin14) : (lvO op = 0 ∨ lvO op = 1 ∨ lvO op = 3 ∨ lvO op = 4 ∨ lvO op = 5) ∧ (gsA (lvO op)).contains op = true := by
  simp only [bin14, List.mem_cons, List.not_mem_nil, or_false] at hop
  rcases hop with rfl | rfl | rfl | rfl | rfl | rfl | rfl | rfl | rfl | rfl | rfl | rfl | rfl <;> decide
/-- Two with a sign between, ahead of a bracket that shuts. -/
theorem uE_bin {f : Nat} {ta tb r : List Tok} {t c : Tok} {a b : Ex} {op : List UInt8} (hop : op ∈ bin14) (ht : t.2.1.data.toList = op) (hc : c.2.1.data.toList = [41] ∨ c.2.1.data.toList = [44])
    (ha : ∀ f', f ≤ f' → uE f' 7 (ta ++ t :: (tb ++ c :: r)) = (some a, t :: (tb ++ c :: r))) (hb : ∀ f', f ≤ f' → uE f' 7 (tb ++ c :: r) = (some b, c :: r))
    (hma : nxT (sgT [[45]]) (ta ++ t :: (tb ++ c :: r)) = none) (hna : nxT (sgT [[110, 111, 116]]) (ta ++ t :: (tb ++ c :: r)) = none)
    (hmb : nxT (sgT [[45]]) (tb ++ c :: r) = none) (hnb : nxT (sgT [[110, 111, 116]]) (tb ++ c :: r) = none) (g : Nat) (hg : f + 7 ≤ g) :
    uE g 0 (ta ++ t :: (tb ++ c :: r)) = (some (betT a t b), c :: r) := by
  obtain ⟨hl, hin⟩ := lvO_cases hop
  have hst : sgT (gsA (lvO op)) t = true := by
    rw [sgT, List.any_eq_true]
    refine ⟨op, by simpa using hin, ?_⟩
    rw [ht]; simp
  have hstop : nxT (sgT (gsA (lvO op))) (c :: r) = none := by
    have := cnd_close (r := r) hmb hnb hc (lvO op) (by omega)
    rw [Cnd, if_neg (by omega), if_neg (by omega)] at this
    exact this
  -- at the level of the sign, with fuel g - lvO
  have h1 : uE (g - lvO op - 1) (lvO op + 1) (ta ++ t :: (tb ++ c :: r)) = (some a, t :: (tb ++ c :: r)) := by
    have := uE_lift (7 - (lvO op + 1)) (g - lvO op - 1 - (7 - (lvO op + 1))) (lvO op + 1) (by omega) (by rw [show lvO op + 1 + (7 - (lvO op + 1)) = 7 from by omega]; exact ha _ (by omega)) (fun l h1 h2 => cnd_op hma hna hop ht l (by omega) (by omega))
    rwa [show g - lvO op - 1 - (7 - (lvO op + 1)) + (7 - (lvO op + 1)) = g - lvO op - 1 from by omega] at this
  have h2 : uE (g - lvO op - 1) (lvO op + 1) (tb ++ c :: r) = (some b, c :: r) := by
    have := uE_lift (7 - (lvO op + 1)) (g - lvO op - 1 - (7 - (lvO op + 1))) (lvO op + 1) (by omega) (by rw [show lvO op + 1 + (7 - (lvO op + 1)) = 7 from by omega]; exact hb _ (by omega)) (fun l h1 h2 => cnd_close hmb hnb hc l (by omega))
    rwa [show g - lvO op - 1 - (7 - (lvO op + 1)) + (7 - (lvO op + 1)) = g - lvO op - 1 from by omega] at this
  have h3 : uE (g - lvO op) (lvO op) (ta ++ t :: (tb ++ c :: r)) = (some (betT a t b), c :: r) := by
    rw [show g - lvO op = g - lvO op - 1 + 1 from by omega]
    generalize g - lvO op - 1 = q at h1 h2
    generalize lvO op = L at *
    rcases hl with rfl | rfl | rfl | rfl | rfl
    · rw [uE]; exact uSev_one h1 hst h2 hstop
    · rw [uE]; exact uSev_one h1 hst h2 hstop
    · rw [uE, uCmp, h1]
      simp only
      rw [nxT, if_pos (show sgT cmpL t = true from hst)]
      simp only
      rw [h2]
    · rw [uE]; exact uSev_one h1 hst h2 hstop
    · rw [uE]; exact uSev_one h1 hst h2 hstop
  have h4 := uE_lift (lvO op) (g - lvO op) 0 (by omega) (by rw [Nat.zero_add]; exact h3) (fun l h1 h2 => cnd_close hma hna hc l (by omega))
  rwa [show g - lvO op + lvO op = g from by omega] at h4
/-- One of a sign ahead, ahead of a bracket that shuts. -/
theorem uE_not {f : Nat} {tb r : List Tok} {t c : Tok} {b : Ex} (ht : t.2.1.data.toList = [110, 111, 116]) (hc : c.2.1.data.toList = [41] ∨ c.2.1.data.toList = [44])
    (hb : ∀ f', f ≤ f' → uE f' 7 (tb ++ c :: r) = (some b, c :: r)) (hmb : nxT (sgT [[45]]) (tb ++ c :: r) = none) (hnb : nxT (sgT [[110, 111, 116]]) (tb ++ c :: r) = none) (g : Nat) (hg : f + 8 ≤ g) :
    uE g 0 (t :: (tb ++ c :: r)) = (some (op1 [110, 111, 116] (t.2.2 : Int) [b]), c :: r) := by
  have h1 : uE (g - 3) 2 (tb ++ c :: r) = (some b, c :: r) := by
    have := uE_lift 5 (g - 8) 2 (by omega) (hb _ (by omega)) (fun l h1 h2 => cnd_close hmb hnb hc l (by omega))
    rwa [show g - 8 + 5 = g - 3 from by omega] at this
  have h2 : uE (g - 2) 2 (t :: (tb ++ c :: r)) = (some (op1 [110, 111, 116] (t.2.2 : Int) [b]), c :: r) := by
    rw [show g - 2 = g - 3 + 1 from by omega, uE, uAhead, nxT, if_pos (by simp [sgT, ht])]
    simp only
    rw [h1]
  have hstop : ∀ l, l < 2 → Cnd (t :: (tb ++ c :: r)) (c :: r) l := fun l hl => by
    have := cnd_close (ts := tb ++ c :: r) (r := r) hmb hnb hc l (by omega)
    rw [Cnd, if_neg (by omega), if_neg (by omega)] at this ⊢
    exact this
  have h3 := uE_lift 2 (g - 2) 0 (by omega) h2 (fun l h1 h2 => hstop l (by omega))
  rwa [show g - 2 + 2 = g from by omega] at h3
theorem uE_neg {f : Nat} {tb r : List Tok} {t c : Tok} {b : Ex} (ht : t.2.1.data.toList = [45]) (hc : c.2.1.data.toList = [41] ∨ c.2.1.data.toList = [44])
    (hb : ∀ f', f ≤ f' → uE f' 7 (tb ++ c :: r) = (some b, c :: r)) (hmb : nxT (sgT [[45]]) (tb ++ c :: r) = none) (hnb : nxT (sgT [[110, 111, 116]]) (tb ++ c :: r) = none) (g : Nat) (hg : f + 8 ≤ g) :
    uE g 0 (t :: (tb ++ c :: r)) = (some (op1 [110, 101, 103] (t.2.2 : Int) [b]), c :: r) := by
  have h1 : uE (g - 7) 6 (tb ++ c :: r) = (some b, c :: r) := by
    have := uE_lift 1 (g - 8) 6 (by omega) (hb _ (by omega)) (fun l h1 h2 => cnd_close hmb hnb hc l (by omega))
    rwa [show g - 8 + 1 = g - 7 from by omega] at this
  have h2 : uE (g - 6) 6 (t :: (tb ++ c :: r)) = (some (op1 [110, 101, 103] (t.2.2 : Int) [b]), c :: r) := by
    rw [show g - 6 = g - 7 + 1 from by omega, uE, uAhead, nxT, if_pos (by simp [sgT, ht])]
    simp only
    rw [h1]
  have hn2 : nxT (sgT [[110, 111, 116]]) (t :: (tb ++ c :: r)) = none := by simp [nxT, sgT, ht]
  have hstop : ∀ l, l < 6 → Cnd (t :: (tb ++ c :: r)) (c :: r) l := fun l hl => by
    by_cases h2 : l = 2
    · subst h2; exact hn2
    · have := cnd_close (ts := tb ++ c :: r) (r := r) hmb hnb hc l (by omega)
      rw [Cnd, if_neg h2, if_neg (by omega)] at this ⊢
      exact this
  have h3 := uE_lift 6 (g - 6) 0 (by omega) h2 (fun l h1 h2 => hstop l (by omega))
  rwa [show g - 6 + 6 = g from by omega] at h3
end Go.Proofs.YtnpinbpjfngknaaGreatDoor
namespace Go.Proofs.YtnpinbpjfngknaaGreatDoor
set_option linter.unusedVariables false

/-- What is right with a node. -/
theorem node_all {op nm vs : ByteArray} {vt vn pos : Int} {l : List Ex} (h : nodeE (.node op nm vt vn vs pos l) = 0) :
    (op.data.toList = [99, 111, 108] → nameT nm.data.toList = true) ∧ (op.data.toList ≠ [99, 111, 108] → nm.data.toList = []) ∧ (op.data.toList ≠ [118, 97, 108] → vt = 0 ∧ vn = 0 ∧ vs.data.toList = []) ∧ (op.data.toList = [118, 97, 108] → ckV vt vn vs.data.toList = 0) := by
  have h1 : nodeE (.node op nm vt vn vs pos l) = nodeB (apL op.data.toList opsL).2 (op.toList == [99, 111, 108]) (nameT nm.data.toList) ((l.length : Int) != (apL op.data.toList opsL).1) (!(nm.toList == [])) (op.toList == [118, 97, 108]) (!((vt == 0) && ((vn == 0) && (vs.toList == [])))) (ckV vt vn vs.data.toList) := rfl
  rw [h1, nodeB, Lib.toList_data, Lib.toList_data, Lib.toList_data] at h
  by_cases g1 : (!(apL op.data.toList opsL).2 || ((op.data.toList == [99, 111, 108]) && !nameT nm.data.toList)) = true
  · rw [if_pos g1] at h; exact absurd h (by decide)
  rw [if_neg g1] at h
  by_cases g2 : (((l.length : Int) != (apL op.data.toList opsL).1) || ((!(op.data.toList == [99, 111, 108]) && !(nm.data.toList == [])) || (!(op.data.toList == [118, 97, 108]) && !((vt == 0) && ((vn == 0) && (vs.data.toList == [])))))) = true
  · rw [if_pos g2] at h; exact absurd h (by decide)
  rw [if_neg g2] at h
  simp only [Bool.not_eq_true, Bool.or_eq_false_iff, Bool.and_eq_false_iff, Bool.not_eq_false'] at g1 g2
  refine ⟨fun e => ?_, fun e => ?_, fun e => ?_, fun e => ?_⟩
  · rcases g1.2 with g | g
    · rw [e] at g; exact absurd g (by decide)
    · exact g
  · rcases g2.2.1 with g | g
    · exact absurd (by simpa using g) e
    · simpa using g
  · rcases g2.2.2 with g | g
    · exact absurd (by simpa using g) e
    · simpa using g
  · rw [if_pos (by simpa using e)] at h
    exact h
theorem noval {s : ByteArray} {c : UInt8} {r : List UInt8} (h : s.data.toList = c :: r) (h39 : c ≠ 39) (hc : ¬ (c.toNat = 45 ∨ 48 ≤ c.toNat ∧ c.toNat ≤ 57)) (ht : s.data.toList ≠ [116, 114, 117, 101]) (hf : s.data.toList ≠ [102, 97, 108, 115, 101]) : (readV s).2.2.2 ≠ 0 := by
  have hp : ¬ Lib.hasPrefix s.data.toList [39] = true := by
    intro e
    have := (hasPre_len e).2
    rw [h] at this
    simp at this
    exact h39 this
  rw [readV, if_neg ht, if_neg hf, if_neg hp]
  split
  · split
    · rename_i n _ e
      obtain ⟨c', r', e', hh⟩ := itoa_head n
      rw [e', h] at e
      injection e with e _
      subst e
      exact absurd hh hc
    · decide
  · decide
theorem letB_num {c : UInt8} (h : letB c = true) : 97 ≤ c.toNat ∧ c.toNat ≤ 122 := by
  simp only [letB, Bool.and_eq_true, decide_eq_true_eq] at h
  omega
theorem name_noval {s : ByteArray} (h : nameT s.data.toList = true) : (readV s).2.2.2 ≠ 0 := by
  have h0 := h
  simp only [nameT, lettersB, Bool.and_eq_true, decide_eq_true_eq, Bool.not_eq_true'] at h
  obtain ⟨⟨⟨h1, _⟩, h2⟩, h3⟩ := h
  have hne : ∀ w ∈ wordsL, s.data.toList ≠ w := fun w hw e => by
    rw [List.any_eq_false] at h3
    exact h3 w hw (by rw [e]; simp)
  cases hs : s.data.toList with
  | nil => exact absurd hs h1
  | cons c r =>
    rw [hs, List.all_cons, Bool.and_eq_true] at h2
    have hc := letB_num h2.1
    refine noval hs (fun e => ?_) (by omega) (hne _ (by decide)) (hne _ (by decide))
    subst e
    exact absurd hc.1 (by decide)
theorem uE_7 (f : Nat) (ts : List Tok) : uE (f + 1) 7 ts = uOne (uE f 0) ts := rfl
/-- A bracket with one in it. -/
theorem one_br {f : Nat} {cs r : List Tok} {o c : Tok} {e : Ex} (ho : o.2.1.data.toList = [40]) (hc : c.2.1.data.toList = [41]) (h : uE f 0 cs = (some e, c :: r)) : uE (f + 1) 7 (o :: cs) = (some e, r) := by
  have hv : vlT o = false := by
    have := noval (s := o.2.1) (c := 40) (r := []) ho (by decide) (by decide) (by rw [ho]; decide) (by rw [ho]; decide)
    simpa [vlT] using this
  have hn : nmT o = false := by rw [nmT, ho]; decide
  rw [uE_7, uOne, nxT, if_neg (by simp [sgT, ho])]
  simp only
  rw [nxT, if_neg (by simp [hv])]
  simp only
  rw [nxT, if_neg (by simp [hn])]
  simp only
  rw [uBr, nxT, if_pos (by simp [sgT, ho])]
  simp only
  rw [h]
  simp only
  rw [uBr, nxT, if_pos (by simp [sgT, hc])]
  rfl
theorem call1 {f : Nat} {cs r : List Tok} {t o c : Tok} {e : Ex} (ht : t.2.1.data.toList = [108, 101, 110]) (ho : o.2.1.data.toList = [40]) (hc : c.2.1.data.toList = [41]) (h : uE f 0 cs = (some e, c :: r)) : uE (f + 1) 7 (t :: o :: cs) = (some (.node t.2.1 ⟨#[]⟩ 0 0 ⟨#[]⟩ (t.2.2 : Int) [e]), r) := by
  rw [uE_7, uOne, nxT, if_pos (by simp [sgT, ht])]
  simp only
  rw [if_pos ht, uBr, nxT, if_pos (by simp [sgT, ho])]
  simp only
  rw [h]
  simp only
  rw [uBr, nxT, if_pos (by simp [sgT, hc])]
  rfl
theorem call3 {f : Nat} {cs c2 c3 r : List Tok} {t o m1 m2 c : Tok} {e1 e2 e3 : Ex} (ht : t.2.1.data.toList = [105, 102]) (ho : o.2.1.data.toList = [40]) (h1c : m1.2.1.data.toList = [44]) (h2c : m2.2.1.data.toList = [44]) (hc : c.2.1.data.toList = [41]) (h1 : uE f 0 cs = (some e1, m1 :: c2)) (h2 : uE f 0 c2 = (some e2, m2 :: c3)) (h3 : uE f 0 c3 = (some e3, c :: r)) : uE (f + 1) 7 (t :: o :: cs) = (some (.node t.2.1 ⟨#[]⟩ 0 0 ⟨#[]⟩ (t.2.2 : Int) [e1, e2, e3]), r) := by
  rw [uE_7, uOne, nxT, if_pos (by simp [sgT, ht])]
  simp only
  rw [if_neg (by rw [ht]; decide), uBr, nxT, if_pos (by simp [sgT, ho])]
  simp only
  rw [h1]
  simp only
  rw [uBr, nxT, if_pos (by simp [sgT, h1c])]
  simp only
  rw [h2]
  simp only
  rw [uBr, nxT, if_pos (by simp [sgT, h2c])]
  simp only
  rw [h3]
  simp only
  rw [uBr, nxT, if_pos (by simp [sgT, hc])]
  rfl
theorem same_mk {o n s o2 n2 s2 : ByteArray} {t k p t2 k2 p2 : Int} {l l2 : List Ex} (h1 : o.data.toList = o2.data.toList) (h2 : n.data.toList = n2.data.toList) (h3 : t = t2) (h4 : k = k2) (h5 : s.data.toList = s2.data.toList) (h6 : sameL false l l2 = true) : sameE false (.node o n t k s p l) (.node o2 n2 t2 k2 s2 p2 l2) = true := by
  rw [sameE]
  simp [Lib.toList_data, h1, h2, h3, h4, h5, h6]
/-- The first word of an expression's text is no sign that stands ahead. -/
def HdOk (L : List (List UInt8)) : Prop := ∃ h rest, L = h :: rest ∧ h ≠ [45] ∧ h ≠ [110, 111, 116]
theorem HdOk.none {L : List (List UInt8)} (h : HdOk L) {ts r : List Tok} (ht : Tx ts = L) : nxT (sgT [[45]]) (ts ++ r) = none ∧ nxT (sgT [[110, 111, 116]]) (ts ++ r) = none := by
  obtain ⟨a, rest, rfl, h1, h2⟩ := h
  obtain ⟨t, r', rfl, e, _⟩ := Tx_cons ht
  constructor
  · simp [nxT, sgT, e, Ne.symm h1]
  · simp [nxT, sgT, e, Ne.symm h2]
end Go.Proofs.YtnpinbpjfngknaaGreatDoor
namespace Go.Proofs.YtnpinbpjfngknaaGreatDoor
set_option linter.unusedVariables false

theorem ckV_ok {t n : Int} {l : List UInt8} (h : ckV t n l = 0) : chk t n l = 0 ∧ (t = 1 → 0 ≤ n) := by
  rw [ckV] at h
  by_cases h1 : chk t n l = 0
  · rw [if_neg (by simpa using h1)] at h
    refine ⟨h1, fun e => ?_⟩
    by_cases h2 : n < 0
    · rw [if_pos ⟨e, h2⟩] at h
      exact absurd h (by decide)
    · omega
  · rw [if_pos h1] at h
    exact absurd h h1
theorem shown_hd {t n : Int} {l : List UInt8} (h : ckV t n l = 0) : ∃ c r, shown t n l = c :: r ∧ ((48 ≤ c.toNat ∧ c.toNat ≤ 57) ∨ c = 116 ∨ c = 102 ∨ c = 39) := by
  obtain ⟨h1, h2⟩ := ckV_ok h
  rcases chk_type h1 with ⟨rfl, _⟩ | ⟨rfl, _, hb⟩ | ⟨rfl, rfl, _, _⟩
  · rw [shown, if_pos rfl, Lib.itoa, if_neg (by have := h2 rfl; omega)]
    obtain ⟨c, r, e, hc⟩ := digits_head n.toNat n.toNat (Nat.le_refl _)
    exact ⟨c, r, e, .inl hc⟩
  · rw [shown, if_neg (by decide), if_pos rfl]
    split
    · exact ⟨_, _, rfl, .inr (.inl rfl)⟩
    · exact ⟨_, _, rfl, .inr (.inr (.inl rfl))⟩
  · rw [shown, if_neg (by decide), if_neg (by decide)]
    exact ⟨_, _, rfl, .inr (.inr (.inr rfl))⟩
theorem shown_ne {t n : Int} {l : List UInt8} (h : ckV t n l = 0) : shown t n l ≠ [45] ∧ shown t n l ≠ [110, 111, 116] ∧ shown t n l ≠ [108, 101, 110] ∧ shown t n l ≠ [105, 102] := by
  obtain ⟨c, r, e, hc⟩ := shown_hd h
  rw [e]
  refine ⟨fun q => ?_, fun q => ?_, fun q => ?_, fun q => ?_⟩ <;> (injection q with q _; subst q; revert hc; decide)
theorem name_ne {l : List UInt8} (h : nameT l = true) : (∀ w ∈ wordsL, l ≠ w) ∧ l ≠ [45] := by
  simp only [nameT, lettersB, Bool.and_eq_true, decide_eq_true_eq, Bool.not_eq_true'] at h
  obtain ⟨⟨⟨h1, _⟩, h2⟩, h3⟩ := h
  refine ⟨fun w hw e => ?_, fun e => ?_⟩
  · rw [List.any_eq_false] at h3
    exact h3 w hw (by rw [e]; simp)
  · rw [e] at h2
    exact absurd h2 (by decide)
theorem Tx_nil {ts : List Tok} (h : Tx ts = []) : ts = [] := by simpa [Tx] using h
/-- The operations of two parts. -/
theorem op_kinds {op : List UInt8} {n : Nat} (h1 : (apL op opsL).2 = true) (h2 : (n : Int) = (apL op opsL).1) (a1 : op ≠ [118, 97, 108]) (a2 : op ≠ [99, 111, 108]) :
    (op = [108, 101, 110] ∧ n = 1) ∨ (op = [105, 102] ∧ n = 3) ∨ (op = [110, 111, 116] ∧ n = 1) ∨ (op = [110, 101, 103] ∧ n = 1) ∨ (op ∈ bin14 ∧ n = 2 ∧ op ≠ [108, 101, 110] ∧ op ≠ [105, 102] ∧ op ≠ [110, 111, 116] ∧ op ≠ [110, 101, 103]) := by
  have key : ∀ l : List (List UInt8 × Int), (∀ o ∈ l, o.1 = op → (op = [108, 101, 110] ∧ o.2 = 1) ∨ (op = [105, 102] ∧ o.2 = 3) ∨ (op = [110, 111, 116] ∧ o.2 = 1) ∨ (op = [110, 101, 103] ∧ o.2 = 1) ∨ (op ∈ bin14 ∧ o.2 = 2 ∧ op ≠ [108, 101, 110] ∧ op ≠ [105, 102] ∧ op ≠ [110, 111, 116] ∧ op ≠ [110, 101, 103])) → (apL op l).2 = true → (op = [108, 101, 110] ∧ (apL op l).1 = 1) ∨ (op = [105, 102] ∧ (apL op l).1 = 3) ∨ (op = [110, 111, 116] ∧ (apL op l).1 = 1) ∨ (op = [110, 101, 103] ∧ (apL op l).1 = 1) ∨ (op ∈ bin14 ∧ (apL op l).1 = 2 ∧ op ≠ [108, 101, 110] ∧ op ≠ [105, 102] ∧ op ≠ [110, 111, 116] ∧ op ≠ [110, 101, 103]) := by
    intro l
    induction l with
    | nil => intro _ h; simp [apL] at h
    | cons o os ih =>
      intro ho h
      rw [apL] at h ⊢
      split
      · rename_i e
        exact ho o (by simp) e
      · rename_i e
        rw [if_neg e] at h
        exact ih (fun o' h' => ho o' (by simp [h'])) h
  have h3 := key opsL (fun o ho e => by
    simp only [opsL, List.mem_cons, List.not_mem_nil, or_false] at ho
    rcases ho with rfl | rfl | rfl | rfl | rfl | rfl | rfl | rfl | rfl | rfl | rfl | rfl | rfl | rfl | rfl | rfl | rfl | rfl | rfl
    · exact absurd e.symm a1
    · exact absurd e.symm a2
    all_goals
      simp only at e
      subst e
      decide) h1
  rw [← h2] at h3
  rcases h3 with ⟨a, b⟩ | ⟨a, b⟩ | ⟨a, b⟩ | ⟨a, b⟩ | ⟨a, b, c⟩
  · exact .inl ⟨a, by omega⟩
  · exact .inr (.inl ⟨a, by omega⟩)
  · exact .inr (.inr (.inl ⟨a, by omega⟩))
  · exact .inr (.inr (.inr (.inl ⟨a, by omega⟩)))
  · exact .inr (.inr (.inr (.inr ⟨a, by omega, c⟩)))
/-- An expression is read of its words, whatever follows. -/
theorem rt7 : ∀ (x : Ex) (d : Nat), (∀ q ∈ x.pre d, nodeE q.1 = 0) → (∀ q ∈ x.pre d, inI q.1.vn) → HdOk (tkP x) ∧ ∀ (ts r : List Tok), Tx ts = tkP x → ∃ x', sameE false x' x = true ∧ ∀ f, 8 * (tkP x).length ≤ f → uE f 7 (ts ++ r) = (some x', r) := by
  refine Ex.ind fun op nm vt vn vs pos l ih d hpre hin => ?_
  have hself := hpre (.node op nm vt vn vs pos l, d) (by rw [Ex.pre]; exact List.mem_cons_self ..)
  have hvn : inI vn := hin (.node op nm vt vn vs pos l, d) (by rw [Ex.pre]; exact List.mem_cons_self ..)
  have hsub : ∀ y ∈ l, ∀ q ∈ y.pre (d + 1), q ∈ (Ex.node op nm vt vn vs pos l).pre d := fun y hy q hq => by
    rw [Ex.pre]; exact List.mem_cons_of_mem _ (pres_mem hy q hq)
  have hI := fun y hy => ih y hy (d + 1) (fun q hq => hpre q (hsub y hy q hq)) (fun q hq => hin q (hsub y hy q hq))
  obtain ⟨ha1, ha2, _⟩ := node_ok hself
  have ha2' : (l.length : Int) = (apL op.data.toList opsL).1 := ha2
  have ha1' : (apL op.data.toList opsL).2 = true := ha1
  obtain ⟨hcol, hncol, hnval, hval⟩ := node_all hself
  clear ha1 ha2 hpre hin hsub ih hself
  rw [tkP, tksP_map]
  by_cases h1 : op.data.toList = [118, 97, 108]
  · rw [if_pos h1]
    have hck := hval h1
    obtain ⟨hc0, _⟩ := ckV_ok hck
    obtain ⟨n1, n2, n3, n4⟩ := shown_ne hck
    rw [prS, if_pos hc0]
    have hl0 : l = [] := by
      rw [h1] at ha2'
      have : (l.length : Int) = 0 := ha2'
      exact List.length_eq_zero_iff.1 (by omega)
    subst hl0
    refine ⟨⟨_, _, rfl, n1, n2⟩, fun ts r hts => ?_⟩
    obtain ⟨t, r', rfl, ht, hr'⟩ := Tx_cons hts
    obtain rfl := Tx_nil hr'
    have hrd := read_shown vt vn vs.data.toList t.2.1 hvn hc0 ht
    refine ⟨valE t, ?_, fun f hf => ?_⟩
    · rw [valE, hrd]
      exact same_mk (by rw [h1]) (by rw [hncol (by rw [h1]; decide)]) rfl rfl rfl (by rw [sameL])
    · obtain ⟨g, rfl⟩ : ∃ g, f = g + 1 := ⟨f - 1, by simp at hf; omega⟩
      rw [uE_7, List.singleton_append, uOne, nxT, if_neg (by simp [sgT, ht, Ne.symm n3, Ne.symm n4])]
      simp only
      rw [nxT, if_pos (by simp [vlT, hrd])]
  rw [if_neg h1]
  obtain ⟨rfl, rfl, hvs0⟩ := hnval h1
  by_cases h2 : op.data.toList = [99, 111, 108]
  · rw [if_pos h2]
    have hnm := hcol h2
    obtain ⟨n1, n2⟩ := name_ne hnm
    have hl0 : l = [] := by
      rw [h2] at ha2'
      have : (l.length : Int) = 0 := ha2'
      exact List.length_eq_zero_iff.1 (by omega)
    subst hl0
    refine ⟨⟨_, _, rfl, n2, n1 _ (by decide)⟩, fun ts r hts => ?_⟩
    obtain ⟨t, r', rfl, ht, hr'⟩ := Tx_cons hts
    obtain rfl := Tx_nil hr'
    have hnv := name_noval (s := t.2.1) (by rw [ht]; exact hnm)
    refine ⟨colE1 t, ?_, fun f hf => ?_⟩
    · rw [colE1]
      exact same_mk (by rw [h2]) ht rfl rfl (by rw [hvs0]) (by rw [sameL])
    · obtain ⟨g, rfl⟩ : ∃ g, f = g + 1 := ⟨f - 1, by simp at hf; omega⟩
      rw [uE_7, List.singleton_append, uOne, nxT, if_neg (by simp [sgT, ht, Ne.symm (n1 [108, 101, 110] (by decide)), Ne.symm (n1 [105, 102] (by decide))])]
      simp only
      rw [nxT, if_neg (by simp [vlT, hnv])]
      simp only
      rw [nxT, if_pos (by rw [nmT, ht]; exact hnm)]
  rw [if_neg h2]
  have hnm0 := hncol h2
  clear hcol hncol hnval hval hvn
  -- a part, up to the level of the whole
  have up : ∀ y ∈ l, ∀ (ts r : List Tok) (c : Tok), Tx ts = tkP y → (c.2.1.data.toList = [41] ∨ c.2.1.data.toList = [44]) → ∃ x', sameE false x' y = true ∧ ∀ f, 8 * (tkP y).length + 7 ≤ f → uE f 0 (ts ++ c :: r) = (some x', c :: r) := fun y hy ts r c hts hc => by
    obtain ⟨hh, hr⟩ := hI y hy
    obtain ⟨x', hs, hx'⟩ := hr ts (c :: r) hts
    obtain ⟨hm, hn⟩ := hh.none (r := c :: r) hts
    refine ⟨x', hs, fun f hf => ?_⟩
    have := uE_lift 7 (f - 7) 0 (by omega) (hx' _ (by omega)) (fun k h1 h2 => cnd_close hm hn hc k (by omega))
    rwa [show f - 7 + 7 = f from by omega] at this
  rcases op_kinds ha1' ha2' h1 h2 with ⟨ho, hl⟩ | ⟨ho, hl⟩ | ⟨ho, hl⟩ | ⟨ho, hl⟩ | ⟨ho, hl, o1, o2, o3, o4⟩
  · obtain ⟨y, rfl⟩ := head_of hl
    rw [if_pos (.inl ho)]
    simp only [List.map_cons, List.map_nil, tkI]
    refine ⟨⟨_, _, rfl, by rw [ho]; decide, by rw [ho]; decide⟩, fun ts r hts => ?_⟩
    obtain ⟨t, r1, rfl, ht, hr1⟩ := Tx_cons hts
    obtain ⟨o, r2, rfl, hoo, hr2⟩ := Tx_cons hr1
    obtain ⟨ty, tc, rfl, hty, htc⟩ := Tx_app hr2
    obtain ⟨c, r3, rfl, hc, hr3⟩ := Tx_cons htc
    obtain rfl := Tx_nil hr3
    obtain ⟨y', hs, hy'⟩ := up y (by simp) ty r c hty (.inl hc)
    refine ⟨.node t.2.1 ⟨#[]⟩ 0 0 ⟨#[]⟩ (t.2.2 : Int) [y'], ?_, fun f hf => ?_⟩
    · exact same_mk ht hnm0.symm rfl rfl hvs0.symm (by rw [sameL, hs, sameL]; rfl)
    · simp only [List.length_cons, List.length_append, List.length_nil] at hf
      obtain ⟨g, rfl⟩ : ∃ g, f = g + 1 := ⟨f - 1, by omega⟩
      have := call1 (f := g) (by rw [ht]; exact ho) hoo hc (hy' g (by omega))
      simpa using this
  · obtain ⟨y, z, u, rfl⟩ : ∃ y z u, l = [y, z, u] := by
      match l, hl with
      | [y, z, u], _ => exact ⟨y, z, u, rfl⟩
    rw [if_pos (.inr ho)]
    simp only [List.map_cons, List.map_nil, tkI]
    refine ⟨⟨_, _, rfl, by rw [ho]; decide, by rw [ho]; decide⟩, fun ts r hts => ?_⟩
    obtain ⟨t, r1, rfl, ht, hr1⟩ := Tx_cons hts
    obtain ⟨o, r2, rfl, hoo, hr2⟩ := Tx_cons hr1
    obtain ⟨tm, tc, rfl, htm, htc⟩ := Tx_app hr2
    obtain ⟨c, r3, rfl, hc, hr3⟩ := Tx_cons htc
    obtain rfl := Tx_nil hr3
    obtain ⟨ty, t2, rfl, hty, ht2⟩ := Tx_app htm
    obtain ⟨m1, t3, rfl, hm1, ht3⟩ := Tx_cons ht2
    obtain ⟨tz, t4, rfl, htz, ht4⟩ := Tx_app ht3
    obtain ⟨m2, tu, rfl, hm2, htu⟩ := Tx_cons ht4
    obtain ⟨y', sy, hy'⟩ := up y (by simp) ty (tz ++ m2 :: (tu ++ c :: r)) m1 hty (.inr hm1)
    obtain ⟨z', sz, hz'⟩ := up z (by simp) tz (tu ++ c :: r) m2 htz (.inr hm2)
    obtain ⟨u', su, hu'⟩ := up u (by simp) tu r c htu (.inl hc)
    refine ⟨.node t.2.1 ⟨#[]⟩ 0 0 ⟨#[]⟩ (t.2.2 : Int) [y', z', u'], ?_, fun f hf => ?_⟩
    · exact same_mk ht hnm0.symm rfl rfl hvs0.symm (by rw [sameL, sy, sameL, sz, sameL, su, sameL]; rfl)
    · simp only [List.length_cons, List.length_append, List.length_nil] at hf
      obtain ⟨g, rfl⟩ : ∃ g, f = g + 1 := ⟨f - 1, by omega⟩
      have := call3 (f := g) (by rw [ht]; exact ho) hoo hm1 hm2 hc (hy' g (by omega)) (hz' g (by omega)) (hu' g (by omega))
      simpa using this
  · obtain ⟨y, rfl⟩ := head_of hl
    rw [if_neg (by rw [ho]; decide), if_pos ho]
    simp only [List.map_cons, List.map_nil, List.headD_cons]
    refine ⟨⟨_, _, rfl, by decide, by decide⟩, fun ts r hts => ?_⟩
    obtain ⟨o, r1, rfl, hoo, hr1⟩ := Tx_cons hts
    obtain ⟨t, r2, rfl, ht, hr2⟩ := Tx_cons hr1
    obtain ⟨ty, tc, rfl, hty, htc⟩ := Tx_app hr2
    obtain ⟨c, r3, rfl, hc, hr3⟩ := Tx_cons htc
    obtain rfl := Tx_nil hr3
    obtain ⟨hh, hrr⟩ := hI y (by simp)
    obtain ⟨y', sy, hy'⟩ := hrr ty (c :: r) hty
    obtain ⟨hm, hn⟩ := hh.none (r := c :: r) hty
    refine ⟨op1 [110, 111, 116] (t.2.2 : Int) [y'], ?_, fun f hf => ?_⟩
    · exact same_mk (by rw [ho]) hnm0.symm rfl rfl hvs0.symm (by rw [sameL, sy, sameL]; rfl)
    · simp only [List.length_cons, List.length_append, List.length_nil] at hf
      obtain ⟨g, rfl⟩ : ∃ g, f = g + 1 := ⟨f - 1, by omega⟩
      have := one_br hoo hc (uE_not (f := 8 * (tkP y).length) ht (.inl hc) hy' hm hn g (by omega))
      simpa using this
  · obtain ⟨y, rfl⟩ := head_of hl
    rw [if_neg (by rw [ho]; decide), if_neg (by rw [ho]; decide), if_pos ho]
    simp only [List.map_cons, List.map_nil, List.headD_cons]
    refine ⟨⟨_, _, rfl, by decide, by decide⟩, fun ts r hts => ?_⟩
    obtain ⟨o, r1, rfl, hoo, hr1⟩ := Tx_cons hts
    obtain ⟨t, r2, rfl, ht, hr2⟩ := Tx_cons hr1
    obtain ⟨ty, tc, rfl, hty, htc⟩ := Tx_app hr2
    obtain ⟨c, r3, rfl, hc, hr3⟩ := Tx_cons htc
    obtain rfl := Tx_nil hr3
    obtain ⟨hh, hrr⟩ := hI y (by simp)
    obtain ⟨y', sy, hy'⟩ := hrr ty (c :: r) hty
    obtain ⟨hm, hn⟩ := hh.none (r := c :: r) hty
    refine ⟨op1 [110, 101, 103] (t.2.2 : Int) [y'], ?_, fun f hf => ?_⟩
    · exact same_mk (by rw [ho]) hnm0.symm rfl rfl hvs0.symm (by rw [sameL, sy, sameL]; rfl)
    · simp only [List.length_cons, List.length_append, List.length_nil] at hf
      obtain ⟨g, rfl⟩ : ∃ g, f = g + 1 := ⟨f - 1, by omega⟩
      have := one_br hoo hc (uE_neg (f := 8 * (tkP y).length) ht (.inl hc) hy' hm hn g (by omega))
      simpa using this
  · obtain ⟨y, z, rfl⟩ : ∃ y z, l = [y, z] := by
      match l, hl with
      | [y, z], _ => exact ⟨y, z, rfl⟩
    rw [if_neg (fun h => h.elim o1 o2), if_neg o3, if_neg o4]
    simp only [List.map_cons, List.map_nil, tkI]
    refine ⟨⟨_, _, rfl, by decide, by decide⟩, fun ts r hts => ?_⟩
    obtain ⟨o, r1, rfl, hoo, hr1⟩ := Tx_cons hts
    obtain ⟨tm, tc, rfl, htm, htc⟩ := Tx_app hr1
    obtain ⟨c, r3, rfl, hc, hr3⟩ := Tx_cons htc
    obtain rfl := Tx_nil hr3
    obtain ⟨ty, t2, rfl, hty, ht2⟩ := Tx_app htm
    obtain ⟨t, tz, rfl, ht, htz⟩ := Tx_cons ht2
    obtain ⟨hy, hyr⟩ := hI y (by simp)
    obtain ⟨hz, hzr⟩ := hI z (by simp)
    obtain ⟨y', sy, hy'⟩ := hyr ty (t :: (tz ++ c :: r)) hty
    obtain ⟨z', sz, hz'⟩ := hzr tz (c :: r) htz
    obtain ⟨hma, hna⟩ := hy.none (r := t :: (tz ++ c :: r)) hty
    obtain ⟨hmb, hnb⟩ := hz.none (r := c :: r) htz
    refine ⟨betT y' t z', ?_, fun f hf => ?_⟩
    · exact same_mk ht hnm0.symm rfl rfl hvs0.symm (by rw [sameL, sy, sameL, sz, sameL]; rfl)
    · simp only [List.length_cons, List.length_append, List.length_nil] at hf
      obtain ⟨g, rfl⟩ : ∃ g, f = g + 1 := ⟨f - 1, by omega⟩
      have := one_br hoo hc (uE_bin (f := 8 * ((tkP y).length + (tkP z).length)) ho ht (.inl hc) (fun f' h => hy' f' (by omega)) (fun f' h => hz' f' (by omega)) hma hna hmb hnb g (by omega))
      simpa using this
end Go.Proofs.YtnpinbpjfngknaaGreatDoor
namespace Go.Proofs.YtnpinbpjfngknaaGreatDoor
--BEGIN
/-- Does a text begin with a blank, if it begins at all? -/
def sepB : List UInt8 → Bool
  | [] => true
  | c :: _ => blB c
theorem bl_cases {c : UInt8} (h : blB c = true) : c = 32 ∨ c = 10 := by
  simp only [blB, Bool.or_eq_true, decide_eq_true_eq] at h
  rcases h with h | h
  · exact Or.inl (UInt8.toNat_inj.1 (by rw [show (32 : UInt8).toNat = 32 from rfl]; omega))
  · exact Or.inr (UInt8.toNat_inj.1 (by rw [show (10 : UInt8).toNat = 10 from rfl]; omega))
theorem sep_hd (p : UInt8 → Bool) (h32 : p 32 = false) (h10 : p 10 = false) : ∀ r : List UInt8, sepB r = true → hdB p r = false
  | [], _ => rfl
  | c :: r, h => by
    rcases bl_cases h with rfl | rfl
    · exact h32
    · exact h10
theorem sign_again : ∀ g ∈ signsL, ∀ r : List UInt8, sepB r = true → sgN signsL (g ++ r) = g.length := by
  intro g hg r hr
  have key : r = [] ∨ (∃ q, r = 32 :: q) ∨ ∃ q, r = 10 :: q := by
    cases r with
    | nil => exact Or.inl rfl
    | cons c q =>
      rcases bl_cases hr with rfl | rfl
      · exact Or.inr (Or.inl ⟨q, rfl⟩)
      · exact Or.inr (Or.inr ⟨q, rfl⟩)
  simp only [signsL, List.mem_cons, List.not_mem_nil, or_false] at hg
  rcases key with rfl | ⟨q, rfl⟩ | ⟨q, rfl⟩ <;> rcases hg with rfl | rfl | rfl | rfl | rfl | rfl | rfl | rfl | rfl | rfl | rfl | rfl | rfl | rfl <;> simp [signsL, sgN, Lib.hasPrefix, List.isPrefixOf]
theorem qscan_again : ∀ (n : Nat) (l : List UInt8) (k : Nat) (r : List UInt8), l.length ≤ n → qscan l = some k → sepB r = true → qscan (l.take k ++ r) = some k
  | _, [], k, _, _, h, _ => by simp [qscan] at h
  | 0, _ :: _, _, _, hn, _, _ => by simp at hn
  | n + 1, c :: l, k, r, hn, h, hr => by
    by_cases hc : c = 39
    · subst hc
      have stop : qscan (39 :: r) = some 1 := qscan_end r (by
        cases r with
        | nil => simp
        | cons d q => rcases bl_cases hr with rfl | rfl <;> simp)
      cases l with
      | nil => simp [qscan] at h; subst h; exact stop
      | cons d q =>
        by_cases hd : d = 39
        · subst hd
          rw [qscan_two, Option.map_eq_some_iff] at h
          obtain ⟨j, hj, rfl⟩ := h
          have := qscan_again n q j r (by simp at hn; omega) hj hr
          rw [show (39 :: 39 :: q).take (j + 2) ++ r = 39 :: 39 :: (q.take j ++ r) from by simp, qscan_two, this]; rfl
        · rw [qscan_end _ (by simpa using hd)] at h
          cases h; exact stop
    · rw [qscan_ne c l hc, Option.map_eq_some_iff] at h
      obtain ⟨j, hj, rfl⟩ := h
      have := qscan_again n l j r (by simp at hn; omega) hj hr
      rw [show (c :: l).take (j + 1) ++ r = c :: (l.take j ++ r) from by simp, qscan_ne _ _ hc, this]; rfl
theorem take_len {l : List UInt8} {n : Nat} (h : n ≤ l.length) : (l.take n).length = n := by rw [List.length_take]; omega
/-- A word that is right is the same word ahead of a blank, or of nothing. -/
theorem tok_again {l : List UInt8} {k : Int} {n : Nat} (h : tokAt l = (k, n, 0)) (r : List UInt8) (hr : sepB r = true) : tokAt (l.take n ++ r) = (k, n, 0) := by
  obtain ⟨hn1, hn2⟩ := tokAt_len h
  have hlen := take_len hn2
  cases l with
  | nil => simp at hn2; omega
  | cons c l =>
    obtain ⟨m, rfl⟩ : ∃ m, n = m + 1 := ⟨n - 1, by omega⟩
    have hcons : (c :: l).take (m + 1) ++ r = c :: (l.take m ++ r) := by simp
    rw [hcons, tokAt]
    rw [tokAt] at h
    by_cases hc : letB c = true
    · rw [if_pos hc] at h ⊢
      injection h with h1 h
      injection h with h2 h3
      have ha := goN_all ldB (c :: l)
      rw [h2] at ha
      rw [← hcons, goN_app ldB _ r ha (sep_hd _ (by decide) (by decide) r hr), hlen, h1]
    · rw [if_neg hc] at h ⊢
      by_cases hd : digB c = true
      · rw [if_pos hd] at h ⊢
        injection h with h1 h
        rw [numTok] at h
        split at h
        · cases h
        · rename_i hz
          split at h
          · cases h
          · rename_i hv
            injection h with h2 h3
            rw [h2] at hz hv
            have ha := goN_all digB (c :: l)
            rw [h2] at ha
            have hg : goN digB (c :: (l.take m ++ r)) = m + 1 := by rw [← hcons, goN_app digB _ r ha (sep_hd _ (by decide) (by decide) r hr), hlen]
            have hdr : (c :: (l.take m ++ r)).drop (m + 1) = r := by
              rw [← hcons, List.drop_append_of_le_length (by omega), List.drop_of_length_le (by omega), List.nil_append]
            have htk : (c :: (l.take m ++ r)).take (m + 1) = (c :: l).take (m + 1) := by
              rw [← hcons, List.take_append_of_le_length (by omega), List.take_take, Nat.min_self]
            rw [numTok, hg, hdr, htk, if_neg, if_neg hv, h1]
            rintro (e | e)
            · rw [sep_hd letB (by decide) (by decide) r hr] at e; cases e
            · exact hz (Or.inr e)
      · rw [if_neg hd] at h ⊢
        by_cases hq : c = 39
        · rw [if_pos hq] at h ⊢
          injection h with h1 h
          rw [quoTok] at h
          split at h
          · cases h
          · rename_i j hj
            split at h
            · rename_i he
              injection h with h2 h3
              obtain rfl : j = m := by omega
              have hj2 := (qscan_le _ l j (Nat.le_refl _) hj).2
              have htk : (l.take j ++ r).take j = l.take j := by
                rw [List.take_append_of_le_length (by rw [take_len hj2]; omega), List.take_take, Nat.min_self]
              rw [quoTok, qscan_again _ l j r (Nat.le_refl _) hj hr]
              simp only
              rw [htk, if_pos he, h1]
            · rename_i h0
              exact absurd (Prod.mk.inj h).2 h0
        · rw [if_neg hq] at h ⊢
          injection h with h1 h
          injection h with h2 h3
          have hne : sgN signsL (c :: l) ≠ 0 := by omega
          obtain ⟨g, hm, hp, hl⟩ := sgN_mem _ _ hne
          have hg := (hasPre_len hp).2
          rw [← hl, h2] at hg
          have := sign_again g hm r hr
          rw [← hcons, hg, this, ← hl, h2, h1, if_neg (by omega)]
theorem tok_blank {c : UInt8} {l : List UInt8} (h : blB c = true) : (tokAt (c :: l)).2.2 ≠ 0 := by
  rcases bl_cases h with rfl | rfl
  · simp [tokAt, letB, digB, signsL, sgN, Lib.hasPrefix, List.isPrefixOf]
  · simp [tokAt, letB, digB, signsL, sgN, Lib.hasPrefix, List.isPrefixOf]
/-- A word that stays one, ahead of a blank or of nothing. -/
structure Good (k : Int) (t : List UInt8) : Prop where
  ne : t ≠ []
  hd : hdB blB t = false
  again : ∀ r : List UInt8, sepB r = true → tokAt (t ++ r) = (k, t.length, 0)
theorem good_tok {l : List UInt8} {k : Int} {n : Nat} (h : tokAt l = (k, n, 0)) : Good k (l.take n) := by
  obtain ⟨hn1, hn2⟩ := tokAt_len h
  have hlen := take_len hn2
  refine ⟨fun e => by rw [e] at hlen; simp at hlen; omega, ?_, fun r hr => by rw [hlen]; exact tok_again h r hr⟩
  cases l with
  | nil => simp at hn2; omega
  | cons c l =>
    obtain ⟨m, rfl⟩ : ∃ m, n = m + 1 := ⟨n - 1, by omega⟩
    rw [List.take_succ_cons]
    cases hb : blB c with
    | false => exact hb
    | true => exact absurd (by rw [h]) (tok_blank (l := l) hb)
/-- Blanks behind each, at least one but behind the last. -/
def Seps : List (Int × List UInt8 × List UInt8) → Prop
  | [] => True
  | p :: ps => p.2.2.all blB = true ∧ (ps ≠ [] → p.2.2 ≠ []) ∧ Seps ps
def sepT (ps : List (Int × List UInt8 × List UInt8)) : List UInt8 := ps.flatMap fun p => p.2.1 ++ p.2.2
theorem sepT_cons (p : Int × List UInt8 × List UInt8) (ps : List (Int × List UInt8 × List UInt8)) : sepT (p :: ps) = p.2.1 ++ (p.2.2 ++ sepT ps) := by simp [sepT]
theorem sepT_hd : ∀ ps : List (Int × List UInt8 × List UInt8), (∀ p ∈ ps, Good p.1 p.2.1) → hdB blB (sepT ps) = false
  | [], _ => rfl
  | p :: ps, h => by
    have g := h p List.mem_cons_self
    rw [sepT_cons]
    have h1 := g.ne
    have h2 := g.hd
    cases ht : p.2.1 with
    | nil => exact absurd ht h1
    | cons c t => rw [ht] at h2; exact h2
theorem relex : ∀ (ps : List (Int × List UInt8 × List UInt8)) (f a : Nat), ps.length < f → (∀ p ∈ ps, Good p.1 p.2.1) → Seps ps →
    ∃ ts, lexN f a (sepT ps) = (ts, 0, 0) ∧ ts.map (fun t => (t.1, t.2.1.data.toList)) = ps.map (fun p => (p.1, p.2.1))
  | [], f, a, hf, _, _ => by
    obtain ⟨g, rfl⟩ : ∃ g, f = g + 1 := ⟨f - 1, by simp at hf; omega⟩
    exact ⟨[], by simp [sepT, lexN], rfl⟩
  | p :: ps, f, a, hf, hg, hs => by
    obtain ⟨g, rfl⟩ : ∃ g, f = g + 1 := ⟨f - 1, by simp at hf; omega⟩
    obtain ⟨hb, hne, hrest⟩ := hs
    have G := hg p List.mem_cons_self
    have hsep : sepB (p.2.2 ++ sepT ps) = true := by
      cases hp : p.2.2 with
      | nil =>
        have : ps = [] := Classical.byContradiction fun e => hne e hp
        subst this; rfl
      | cons c q => rw [hp, List.all_cons, Bool.and_eq_true] at hb; exact hb.1
    have htok := G.again _ hsep
    have hgo : goN blB (p.2.2 ++ sepT ps) = p.2.2.length := by
      rw [goN_skip blB _ _ hb, goN_zero _ _ (sepT_hd ps (fun q hq => hg q (List.mem_cons_of_mem _ hq)))]; rfl
    have hd1 : (p.2.1 ++ (p.2.2 ++ sepT ps)).drop p.2.1.length = p.2.2 ++ sepT ps := List.drop_left
    have hd2 : (p.2.2 ++ sepT ps).drop p.2.2.length = sepT ps := List.drop_left
    have ht1 : (p.2.1 ++ (p.2.2 ++ sepT ps)).take p.2.1.length = p.2.1 := List.take_left
    obtain ⟨ts, h1, h2⟩ := relex ps g (a + p.2.1.length + p.2.2.length) (by simp at hf; omega) (fun q hq => hg q (List.mem_cons_of_mem _ hq)) hrest
    refine ⟨(p.1, ⟨p.2.1.toArray⟩, a) :: ts, ?_, ?_⟩
    · rw [sepT_cons, lexN, if_neg (by simp [G.ne]), htok, if_neg (by simp)]
      simp only
      rw [hd1, hgo, hd2, h1, ht1]
      simp
    · rw [List.map_cons, List.map_cons, h2]
/-- Words stand in a text, in their order, from p on, with blanks between. -/
def Stand (s : List UInt8) : Nat → List Tok → Prop
  | p, [] => ∀ c ∈ s.drop p, blB c = true
  | p, t :: ts => p ≤ t.2.2 ∧ t.2.2 + t.2.1.size ≤ s.length ∧ 0 < t.2.1.size ∧ (∀ c ∈ (s.drop p).take (t.2.2 - p), blB c = true) ∧ (s.drop t.2.2).take t.2.1.size = t.2.1.data.toList ∧ Stand s (t.2.2 + t.2.1.size) ts
theorem size_arr (l : List UInt8) : (⟨l.toArray⟩ : ByteArray).size = l.length := by rw [Lib.size_eq]
theorem lexN_ok {f a : Nat} {l : List UInt8} {ts : List Tok} {p : Nat} (h : lexN (f + 1) a l = (ts, 0, p)) :
    (l = [] ∧ ts = []) ∨ ∃ (k : Int) (n : Nat) (us : List Tok) (q : Nat), l ≠ [] ∧ tokAt l = (k, n, 0) ∧ lexN f (a + n + goN blB (l.drop n)) ((l.drop n).drop (goN blB (l.drop n))) = (us, 0, q) ∧ ts = (k, ⟨(l.take n).toArray⟩, a) :: us := by
  rw [lexN] at h
  split at h
  · rename_i hl
    cases h
    exact Or.inl ⟨hl, rfl⟩
  · rename_i hl
    obtain ⟨k, n, e, ht⟩ : ∃ k n e, tokAt l = (k, n, e) := ⟨_, _, _, rfl⟩
    rw [ht] at h
    simp only at h
    split at h
    · rename_i he
      injection h with _ h
      injection h with h _
      exact absurd h he
    · rename_i he
      obtain rfl : e = 0 := Classical.byContradiction he
      obtain ⟨us, e2, q, hr⟩ : ∃ us e2 q, lexN f (a + n + goN blB (l.drop n)) ((l.drop n).drop (goN blB (l.drop n))) = (us, e2, q) := ⟨_, _, _, rfl⟩
      rw [hr] at h
      simp only at h
      split at h
      · rename_i h0
        subst h0
        cases h
        exact Or.inr ⟨k, n, us, q, hl, ht, hr, rfl⟩
      · rename_i h0
        injection h with _ h
        injection h with h _
        exact absurd h h0
theorem lexN_stand (s : List UInt8) : ∀ (f a p : Nat) (ts : List Tok) (q : Nat), p ≤ a → a ≤ s.length → (s.drop a).length < f → (∀ c ∈ (s.drop p).take (a - p), blB c = true) → lexN f a (s.drop a) = (ts, 0, q) → Stand s p ts
  | 0, _, _, _, _, _, _, hf, _, _ => by omega
  | f + 1, a, p, ts, q, hpa, has, hf, hb, h => by
    rcases lexN_ok h with ⟨hl, rfl⟩ | ⟨k, n, us, q', hl, ht, hr, rfl⟩
    · show ∀ c ∈ s.drop p, blB c = true
      have hlen : (s.drop p).length ≤ a - p := by
        have : (s.drop a).length = 0 := by rw [hl]; rfl
        rw [List.length_drop] at this ⊢; omega
      rwa [List.take_of_length_le hlen] at hb
    · obtain ⟨hn1, hn2⟩ := tokAt_len ht
      have hz : (⟨((s.drop a).take n).toArray⟩ : ByteArray).size = n := by rw [size_arr, take_len hn2]
      rw [List.length_drop] at hn2 hf
      refine ⟨hpa, by rw [hz]; simp only; omega, by rw [hz]; omega, hb, by rw [hz], ?_⟩
      simp only
      rw [hz]
      have hg := goN_le blB ((s.drop a).drop n)
      rw [List.drop_drop] at hr hg
      rw [List.drop_drop] at hr
      rw [List.length_drop] at hg
      refine lexN_stand s f (a + n + goN blB (s.drop (a + n))) (a + n) us q' (by omega) (by omega) (by rw [List.length_drop]; omega) ?_ hr
      rw [show a + n + goN blB (s.drop (a + n)) - (a + n) = goN blB (s.drop (a + n)) from by omega]
      have := goN_all blB (s.drop (a + n))
      rwa [List.all_eq_true] at this
theorem lexN_good : ∀ (f a : Nat) (l : List UInt8) (ts : List Tok) (q : Nat), lexN f a l = (ts, 0, q) → ∀ t ∈ ts, Good t.1 t.2.1.data.toList
  | 0, _, _, ts, _, h => by
    simp [lexN] at h
    obtain ⟨rfl, _⟩ := h
    simp
  | f + 1, a, l, ts, q, h => by
    rcases lexN_ok h with ⟨hl, rfl⟩ | ⟨k, n, us, q', hl, ht, hr, rfl⟩
    · simp
    · intro t hm
      rcases List.mem_cons.1 hm with rfl | hm
      · exact good_tok ht
      · exact lexN_good f _ _ us q' hr t hm
theorem lexN_bad : ∀ (f a : Nat) (l : List UInt8) (ts : List Tok) (e : Int) (q : Nat), lexN f a l = (ts, e, q) → e ≠ 0 → ts = [] ∧ q ≤ a + l.length ∧ (e = 1 ∨ e = 2 ∨ e = 4)
  | 0, _, _, ts, e, _, h, he => by simp [lexN] at h; exact absurd h.2.1.symm he
  | f + 1, a, l, ts, e, q, h, he => by
    rw [lexN] at h
    split at h
    · cases h; exact absurd rfl he
    · obtain ⟨k, n, e1, ht⟩ : ∃ k n e, tokAt l = (k, n, e) := ⟨_, _, _, rfl⟩
      have hfa := tokAt_fault (l := l)
      rw [ht] at h hfa
      simp only at h hfa
      split at h
      · cases h
        exact ⟨rfl, by omega, by omega⟩
      · rename_i he1
        obtain rfl : e1 = 0 := Classical.byContradiction he1
        obtain ⟨hn1, hn2⟩ := tokAt_len ht
        obtain ⟨us, e2, q2, hr⟩ : ∃ us e2 q, lexN f (a + n + goN blB (l.drop n)) ((l.drop n).drop (goN blB (l.drop n))) = (us, e2, q) := ⟨_, _, _, rfl⟩
        rw [hr] at h
        simp only at h
        split at h
        · cases h; exact absurd rfl he
        · rename_i h0
          obtain ⟨ht0, h⟩ := Prod.mk.inj h
          obtain ⟨rfl, rfl⟩ := Prod.mk.inj h
          obtain ⟨_, h1, h2⟩ := lexN_bad f _ _ us _ _ hr h0
          have hg := goN_le blB (l.drop n)
          rw [List.length_drop] at h1 hg
          rw [List.length_drop] at h1
          exact ⟨ht0.symm, by omega, h2⟩
theorem stand_small (s : List UInt8) : ∀ (ts : List Tok) (p : Nat), p ≤ s.length → Stand s p ts → ts.length ≤ s.length - p ∧ ∀ t ∈ ts, t.2.1.size ≤ s.length ∧ t.2.2 ≤ s.length
  | [], p, _, _ => ⟨Nat.zero_le _, by simp⟩
  | t :: ts, p, hp, h => by
    obtain ⟨h1, h2, h3, _, _, h6⟩ := h
    obtain ⟨i1, i2⟩ := stand_small s ts _ h2 h6
    refine ⟨by rw [List.length_cons]; omega, fun u hu => ?_⟩
    rcases List.mem_cons.1 hu with rfl | hu
    · exact ⟨by omega, by omega⟩
    · exact i2 u hu
/-- All words that come of a text: what is to be known of them. -/
theorem lexAll_ok {s : List UInt8} {ts : List Tok} {q : Nat} (h : lexAll s = (ts, 0, q)) : s.length ≤ 400 ∧ q = 0 ∧ Stand s 0 ts ∧ (∀ t ∈ ts, Good t.1 t.2.1.data.toList) := by
  rw [lexAll] at h
  split at h
  · cases h
  · rename_i hl
    rw [lexS, lexA] at h
    obtain ⟨us, e2, q2, hr⟩ : ∃ us e2 q, lexN (s.length + 1) (0 + goN blB s) (s.drop (goN blB s)) = (us, e2, q) := ⟨_, _, _, rfl⟩
    rw [hr] at h
    simp only at h
    split at h
    · rename_i h0
      subst h0
      simp only [List.nil_append] at h
      cases h
      refine ⟨by omega, rfl, ?_, lexN_good _ _ _ _ _ hr⟩
      have hg := goN_le blB s
      rw [Nat.zero_add] at hr
      refine lexN_stand s _ _ 0 ts q2 (Nat.zero_le _) hg (by rw [List.length_drop]; omega) ?_ hr
      rw [List.drop_zero, Nat.sub_zero]
      have := goN_all blB s
      rwa [List.all_eq_true] at this
    · rename_i h0
      exact absurd (Prod.mk.inj (Prod.mk.inj h).2).1 h0
theorem lexAll_bad {s : List UInt8} {ts : List Tok} {e : Int} {q : Nat} (h : lexAll s = (ts, e, q)) (he : e ≠ 0) : ts = [] ∧ q ≤ s.length ∧ (e = 1 ∨ e = 2 ∨ e = 4) := by
  rw [lexAll] at h
  split at h
  · cases h
    exact ⟨rfl, by omega, by omega⟩
  · rename_i hl
    rw [lexS, lexA] at h
    obtain ⟨us, e2, q2, hr⟩ : ∃ us e2 q, lexN (s.length + 1) (0 + goN blB s) (s.drop (goN blB s)) = (us, e2, q) := ⟨_, _, _, rfl⟩
    rw [hr] at h
    simp only at h
    split at h
    · cases h; exact absurd rfl he
    · rename_i h0
      obtain ⟨ht0, h⟩ := Prod.mk.inj h
      obtain ⟨rfl, rfl⟩ := Prod.mk.inj h
      obtain ⟨_, h1, h2⟩ := lexN_bad _ _ _ us _ _ hr h0
      have hg := goN_le blB s
      rw [List.length_drop] at h1
      exact ⟨ht0.symm, by omega, h2⟩
theorem lexAll_full {s : List UInt8} (h : 400 < s.length) : lexAll s = ([], 4, 0) := by rw [lexAll, if_pos h]
theorem sepT_len : ∀ ps : List (Int × List UInt8 × List UInt8), (∀ p ∈ ps, Good p.1 p.2.1) → ps.length ≤ (sepT ps).length
  | [], _ => Nat.le_refl _
  | p :: ps, h => by
    have i := sepT_len ps (fun q hq => h q (List.mem_cons_of_mem _ hq))
    have g := (h p List.mem_cons_self).ne
    have : p.2.1.length ≠ 0 := fun e => g (List.length_eq_zero_iff.1 e)
    rw [sepT_cons, List.length_append, List.length_append, List.length_cons]; omega
/-- With blanks ahead and between, the words are the same, if there are not too many bytes. -/
theorem lexAll_again (bs : List UInt8) (ps : List (Int × List UInt8 × List UInt8)) (hb : bs.all blB = true) (hg : ∀ p ∈ ps, Good p.1 p.2.1) (hs : Seps ps) (hl : (bs ++ sepT ps).length ≤ 400) :
    ∃ ts, lexAll (bs ++ sepT ps) = (ts, 0, 0) ∧ ts.map (fun t => (t.1, t.2.1.data.toList)) = ps.map (fun p => (p.1, p.2.1)) := by
  have hgo : goN blB (bs ++ sepT ps) = bs.length := by rw [goN_skip blB _ _ hb, goN_zero _ _ (sepT_hd ps hg)]; rfl
  have hn := sepT_len ps hg
  obtain ⟨ts, h1, h2⟩ := relex ps ((bs ++ sepT ps).length + 1) (0 + bs.length) (by rw [List.length_append]; omega) hg hs
  refine ⟨ts, ?_, h2⟩
  rw [lexAll, if_neg (by omega), lexS, lexA, hgo, List.drop_left, h1]
  simp
/-- The texts of words, a blank between. -/
def joinL : List Tok → List UInt8
  | [] => []
  | t :: ts => t.2.1.data.toList ++ (if ts = [] then [] else 32 :: joinL ts)
theorem joinL_snoc : ∀ (ts : List Tok) (t : Tok), joinL (ts ++ [t]) = (if ts = [] then [] else joinL ts ++ [32]) ++ t.2.1.data.toList
  | [], t => by simp [joinL]
  | u :: us, t => by
    rw [List.cons_append, joinL, if_neg (by simp), joinL_snoc us t, joinL]
    cases us with
    | nil => simp
    | cons v vs => simp
/-- The texts of words, two blanks behind each. -/
def spacL (ts : List Tok) : List UInt8 := ts.flatMap fun t => t.2.1.data.toList ++ [32, 32]
theorem spacL_snoc (ts : List Tok) (t : Tok) : spacL (ts ++ [t]) = spacL ts ++ (t.2.1.data.toList ++ [32, 32]) := by simp [spacL]
def joinP : List Tok → List (Int × List UInt8 × List UInt8)
  | [] => []
  | t :: ts => (t.1, t.2.1.data.toList, if ts = [] then [] else [32]) :: joinP ts
theorem joinP_facts : ∀ ts : List Tok, sepT (joinP ts) = joinL ts ∧ Seps (joinP ts) ∧ (joinP ts).map (fun p => (p.1, p.2.1)) = ts.map (fun t => (t.1, t.2.1.data.toList))
  | [] => ⟨rfl, trivial, rfl⟩
  | t :: ts => by
    obtain ⟨h1, h2, h3⟩ := joinP_facts ts
    refine ⟨?_, ⟨?_, ?_, h2⟩, ?_⟩
    · rw [joinP, sepT_cons, h1, joinL]
      cases ts with
      | nil => simp [joinL]
      | cons u us => simp
    · cases ts with
      | nil => simp
      | cons u us => simp [blB]
    · cases ts with
      | nil => intro h; exact absurd rfl h
      | cons u us => intro _; simp
    · rw [joinP, List.map_cons, List.map_cons, h3]
def spacP (ts : List Tok) : List (Int × List UInt8 × List UInt8) := ts.map fun t => (t.1, t.2.1.data.toList, [32, 32])
theorem spacP_facts : ∀ ts : List Tok, sepT (spacP ts) = spacL ts ∧ Seps (spacP ts) ∧ (spacP ts).map (fun p => (p.1, p.2.1)) = ts.map (fun t => (t.1, t.2.1.data.toList))
  | [] => ⟨rfl, trivial, rfl⟩
  | t :: ts => by
    obtain ⟨h1, h2, h3⟩ := spacP_facts ts
    refine ⟨?_, ⟨by simp [blB], by intro _; simp, h2⟩, ?_⟩
    · rw [spacP, List.map_cons, sepT_cons, ← spacP, h1]; simp [spacL]
    · rw [spacP, List.map_cons, ← spacP, List.map_cons, List.map_cons, h3]
theorem good_of_map {ps : List (Int × List UInt8 × List UInt8)} {ts : List Tok} (h : ps.map (fun p => (p.1, p.2.1)) = ts.map (fun t => (t.1, t.2.1.data.toList))) (hg : ∀ t ∈ ts, Good t.1 t.2.1.data.toList) : ∀ p ∈ ps, Good p.1 p.2.1 := by
  intro p hp
  have : (p.1, p.2.1) ∈ ts.map (fun t => (t.1, t.2.1.data.toList)) := by rw [← h]; exact List.mem_map.2 ⟨p, hp, rfl⟩
  obtain ⟨t, ht, he⟩ := List.mem_map.1 this
  injection he with h1 h2
  rw [← h1, ← h2]; exact hg t ht
/-- Joined, they are the same words. -/
theorem join_back {ts : List Tok} (hg : ∀ t ∈ ts, Good t.1 t.2.1.data.toList) (hl : (joinL ts).length ≤ 400) :
    ∃ us, lexAll (joinL ts) = (us, 0, 0) ∧ us.map (fun t => (t.1, t.2.1.data.toList)) = ts.map (fun t => (t.1, t.2.1.data.toList)) := by
  obtain ⟨h1, h2, h3⟩ := joinP_facts ts
  obtain ⟨us, e1, e2⟩ := lexAll_again [] (joinP ts) rfl (good_of_map h3 hg) h2 (by rw [h1]; exact hl)
  rw [List.nil_append, h1] at e1
  exact ⟨us, e1, e2.trans h3⟩
/-- With blanks ahead, and two behind each, they are the same words. -/
theorem spac_back {ts : List Tok} (hg : ∀ t ∈ ts, Good t.1 t.2.1.data.toList) (hl : ([10, 32] ++ spacL ts).length ≤ 400) :
    ∃ us, lexAll ([10, 32] ++ spacL ts) = (us, 0, 0) ∧ us.map (fun t => (t.1, t.2.1.data.toList)) = ts.map (fun t => (t.1, t.2.1.data.toList)) := by
  obtain ⟨h1, h2, h3⟩ := spacP_facts ts
  obtain ⟨us, e1, e2⟩ := lexAll_again [10, 32] (spacP ts) (by decide) (good_of_map h3 hg) h2 (by rw [h1]; exact hl)
  rw [h1] at e1
  exact ⟨us, e1, e2.trans h3⟩
--END
end Go.Proofs.YtnpinbpjfngknaaGreatDoor
namespace Go.Proofs.YtnpinbpjfngknaaGreatDoor
set_option linter.unusedVariables false

/-- What may follow a word of an expression. -/
def endB (r : List UInt8) : Prop := r = [] ∨ ∃ c q, r = c :: q ∧ (c = 41 ∨ c = 44 ∨ c = 32)
theorem end_hd (p : UInt8 → Bool) (h41 : p 41 = false) (h44 : p 44 = false) (h32 : p 32 = false) {r : List UInt8} (h : endB r) : hdB p r = false := by
  rcases h with rfl | ⟨c, q, rfl, rfl | rfl | rfl⟩
  · rfl
  · exact h41
  · exact h44
  · exact h32
theorem tk_word {c : UInt8} {t r : List UInt8} (hc : letB c = true) (ht : t.all ldB = true) (hr : endB r) : tokAt (c :: t ++ r) = (1, (c :: t).length, 0) := by
  rw [List.cons_append, tokAt, if_pos hc, ← List.cons_append, goN_app ldB (c :: t) r (by rw [List.all_cons, ht]; simp [ldB, hc]) (end_hd ldB (by decide) (by decide) (by decide) hr)]
theorem dig_let {c : UInt8} (h : 48 ≤ c.toNat ∧ c.toNat ≤ 57) : letB c = false ∧ digB c = true := by
  constructor
  · simp only [letB, Bool.and_eq_false_iff, decide_eq_false_iff_not]
    left; omega
  · exact (digB_iff c).2 (by omega)
theorem tk_num {n : Nat} {r : List UInt8} (hn : n ≤ 9223372036854775807) (hr : endB r) : tokAt (Lib.decDigits n ++ r) = (2, (Lib.decDigits n).length, 0) := by
  obtain ⟨c, q, e, hc⟩ := digits_head n n (Nat.le_refl _)
  obtain ⟨h1, h2, h3⟩ := dec_digits n n (Nat.le_refl _)
  obtain ⟨d1, d2⟩ := dig_let hc
  have hgo : goN digB (Lib.decDigits n ++ r) = (Lib.decDigits n).length := goN_app digB _ r h1 (end_hd digB (by decide) (by decide) (by decide) hr)
  have hnt : numTok (Lib.decDigits n ++ r) = ((Lib.decDigits n).length, 0) := by
    rw [numTok, hgo, List.drop_left, List.take_left, if_neg, h2, if_neg (by omega)]
    rintro (h | ⟨h, h48⟩)
    · rw [end_hd letB (by decide) (by decide) (by decide) hr] at h
      exact absurd h (by decide)
    · rw [e, List.cons_append, List.head?_cons] at h48
      have := h3 q (by rw [e]; injection h48 with h48; rw [h48])
      rw [e, this] at h
      simp at h
  rw [e, List.cons_append, tokAt, if_neg (by rw [d1]; decide), if_pos d2, ← List.cons_append, ← e, hnt]
theorem qscan_esc : ∀ (l r : List UInt8), r.head? ≠ some 39 → qscan (esc l ++ 39 :: r) = some ((esc l).length + 1)
  | [], r, h => by rw [esc_nil, List.nil_append, qscan_end r h]; rfl
  | c :: l, r, h => by
    have ih := qscan_esc l r h
    rw [esc_cons]
    by_cases hc : c = 39
    · rw [if_pos hc]
      simp only [List.cons_append, List.nil_append]
      rw [qscan_two, ih]
      simp
    · rw [if_neg hc]
      simp only [List.cons_append, List.nil_append]
      rw [qscan_ne _ _ hc, ih]
      simp
theorem end_q {r : List UInt8} (h : endB r) : r.head? ≠ some 39 := by
  rcases h with rfl | ⟨c, q, rfl, rfl | rfl | rfl⟩ <;> simp
theorem sgn_par (c : UInt8) (r : List UInt8) (h : c = 40 ∨ c = 41 ∨ c = 44) : tokAt (c :: r) = (4, 1, 0) := by
  rcases h with rfl | rfl | rfl <;> simp [tokAt, letB, digB, signsL, sgN, Lib.hasPrefix, List.isPrefixOf]
end Go.Proofs.YtnpinbpjfngknaaGreatDoor
namespace Go.Proofs.YtnpinbpjfngknaaGreatDoor
set_option linter.unusedVariables false

theorem tk_quote {l r : List UInt8} (hl : l.length ≤ 40) (hp : plainB l = true) (hr : endB r) : tokAt (39 :: (esc l ++ [39]) ++ r) = (3, (39 :: (esc l ++ [39])).length, 0) := by
  have hq : qscan (esc l ++ [39] ++ r) = some ((esc l).length + 1) := by
    rw [List.append_assoc]
    exact qscan_esc l r (end_q hr)
  have hE : qE ((esc l ++ [39] ++ r).take ((esc l).length + 1)) = 0 := by
    rw [show (esc l).length + 1 = (esc l ++ [39]).length by simp, List.take_left, qE, (rd_app _ (esc l) (Nat.le_refl _)).1, unq_esc]
    simp only
    rw [if_neg (by rw [hp]; decide), if_neg (by omega)]
  rw [List.cons_append, tokAt, if_neg (by decide), if_neg (by decide), if_pos rfl, quoTok, hq]
  simp only
  rw [if_pos hE]
  simp
/-- A word, with its kind; or blanks. -/
abbrev Item := Option Int × List UInt8
def itT (is : List Item) : List UInt8 := is.flatMap (·.2)
def itK (is : List Item) : List (List UInt8) := is.flatMap fun i => match i.1 with
  | none => []
  | some _ => [i.2]
theorem itT_app (a b : List Item) : itT (a ++ b) = itT a ++ itT b := by simp [itT]
theorem itK_app (a b : List Item) : itK (a ++ b) = itK a ++ itK b := by simp [itK]
/-- Each word stays one ahead of what follows. -/
def Okp : List Item → Prop
  | [] => True
  | (none, bs) :: is => bs.all blB = true ∧ Okp is
  | (some k, t) :: is => tokAt (t ++ itT is) = (k, t.length, 0) ∧ t ≠ [] ∧ Okp is
theorem lexS_blanks (f : Nat) (l : List UInt8) (acc : List Tok) : ∀ (bs : List UInt8) (a : Nat), bs.all blB = true → lexS f a (bs ++ l) acc = lexS f (a + bs.length) l acc
  | [], a, _ => rfl
  | c :: bs, a, h => by
    rw [List.all_cons, Bool.and_eq_true] at h
    rw [List.cons_append, lexS_blank f a c _ acc h.1, lexS_blanks f l acc bs (a + 1) h.2, List.length_cons, show a + 1 + bs.length = a + (bs.length + 1) from by omega]
theorem lex_items : ∀ (is : List Item) (f a : Nat) (acc : List Tok), Okp is → (itK is).length < f → ∃ ts, lexS f a (itT is) acc = (acc ++ ts, 0, 0) ∧ Tx ts = itK is
  | [], f, a, acc, _, hf => by
    obtain ⟨g, rfl⟩ : ∃ g, f = g + 1 := ⟨f - 1, by simp [itK] at hf; omega⟩
    exact ⟨[], by rw [List.append_nil]; exact lexS_nil g a acc, rfl⟩
  | (none, bs) :: is, f, a, acc, h, hf => by
    rw [Okp] at h
    obtain ⟨ts, h1, h2⟩ := lex_items is f (a + bs.length) acc h.2 (by simpa [itK] using hf)
    refine ⟨ts, ?_, by rw [h2]; simp [itK]⟩
    have e : itT ((none, bs) :: is) = bs ++ itT is := by simp [itT]
    rw [e, lexS_blanks f _ acc bs a h.1, h1]
  | (some k, t) :: is, f, a, acc, h, hf => by
    rw [Okp] at h
    obtain ⟨h1, h2, h3⟩ := h
    have hk : itK ((some k, t) :: is) = t :: itK is := by simp [itK]
    rw [hk, List.length_cons] at hf
    obtain ⟨g, rfl⟩ : ∃ g, f = g + 1 := ⟨f - 1, by omega⟩
    obtain ⟨ts, e1, e2⟩ := lex_items is g (a + t.length) (acc ++ [(k, ⟨t.toArray⟩, a)]) h3 (by omega)
    refine ⟨(k, ⟨t.toArray⟩, a) :: ts, ?_, by rw [hk]; simp only [Tx, List.map_cons] at e2 ⊢; rw [e2]⟩
    have e : itT ((some k, t) :: is) = t ++ itT is := by simp [itT]
    have hne : t ++ itT is ≠ [] := by simp [h2]
    have hhd : hdB blB (t ++ itT is) = false := by
      cases t with
      | nil => exact absurd rfl h2
      | cons c t =>
        cases hb : blB c with
        | false => exact hb
        | true =>
          rw [List.cons_append] at h1
          exact absurd (by rw [h1]) (tok_blank (l := t ++ itT is) hb)
    rw [e, lexS_no _ _ _ _ hhd, lexA_tok g a _ acc hne h1, List.drop_left, List.take_left, e1]
    simp
def itI (sep : List Item) : List (List Item) → List Item
  | [] => []
  | [t] => t
  | t :: u :: ts => t ++ sep ++ itI sep (u :: ts)
def opK (op : List UInt8) : Int := if op = [111, 114] ∨ op = [97, 110, 100] then 1 else 4
def valK (t : Int) : Int := if t = 1 then 2 else if t = 2 then 1 else 3
mutual
/-- The words and blanks of an expression's text. -/
def itP : Ex → List Item
  | .node op nm vt vn vs _ l =>
    if op.data.toList = [118, 97, 108] then [(some (valK vt), prS vt vn vs.data.toList)]
    else if op.data.toList = [99, 111, 108] then [(some 1, nm.data.toList)]
    else if op.data.toList = [108, 101, 110] ∨ op.data.toList = [105, 102] then (some 1, op.data.toList) :: (some 4, [40]) :: (itI [(some 4, [44]), (none, [32])] (itsP l) ++ [(some 4, [41])])
    else if op.data.toList = [110, 111, 116] then (some 4, [40]) :: (some 1, [110, 111, 116]) :: (none, [32]) :: ((itsP l).headD [] ++ [(some 4, [41])])
    else if op.data.toList = [110, 101, 103] then (some 4, [40]) :: (some 4, [45]) :: (none, [32]) :: ((itsP l).headD [] ++ [(some 4, [41])])
    else (some 4, [40]) :: (itI [(none, [32]), (some (opK op.data.toList), op.data.toList), (none, [32])] (itsP l) ++ [(some 4, [41])])
def itsP : List Ex → List (List Item)
  | [] => []
  | x :: xs => itP x :: itsP xs
end
theorem itsP_map : ∀ l : List Ex, itsP l = l.map itP
  | [] => by rw [itsP]; rfl
  | x :: xs => by rw [itsP, itsP_map xs]; rfl
theorem itI_text (sep : List Item) (bt : List UInt8) (hs : itT sep = bt) : ∀ ts : List (List Item), itT (itI sep ts) = inter bt (ts.map itT)
  | [] => rfl
  | [t] => rfl
  | t :: u :: ts => by
    have ih := itI_text sep bt hs (u :: ts)
    simp only [itI, List.map_cons, inter, itT_app, hs] at ih ⊢
    rw [ih]
theorem itI_words (sep : List Item) (k : List UInt8) (hs : itK sep = [k]) : ∀ ts : List (List Item), itK (itI sep ts) = tkI k (ts.map itK)
  | [] => rfl
  | [t] => rfl
  | t :: u :: ts => by
    have ih := itI_words sep k hs (u :: ts)
    simp only [itI, List.map_cons, tkI, itK_app, hs] at ih ⊢
    rw [ih]
    simp
theorem it_text : ∀ x : Ex, itT (itP x) = txP x ∧ itK (itP x) = tkP x := by
  refine Ex.ind fun op nm vt vn vs pos l ih => ?_
  have hm1 : (l.map itP).map itT = l.map txP := by
    rw [List.map_map]; exact List.map_congr_left fun y hy => (ih y hy).1
  have hm2 : (l.map itP).map itK = l.map tkP := by
    rw [List.map_map]; exact List.map_congr_left fun y hy => (ih y hy).2
  have hd1 : itT ((l.map itP).headD []) = (l.map txP).headD [] := by
    cases l with
    | nil => rfl
    | cons y ys => exact (ih y (by simp)).1
  have hd2 : itK ((l.map itP).headD []) = (l.map tkP).headD [] := by
    cases l with
    | nil => rfl
    | cons y ys => exact (ih y (by simp)).2
  rw [itP, txP, tkP, itsP_map, txsP_map, tksP_map]
  have c1 : ∀ (i : Item) (is : List Item), itT (i :: is) = i.2 ++ itT is := fun i is => by simp [itT]
  have c2 : ∀ (k : Int) (t : List UInt8) (is : List Item), itK ((some k, t) :: is) = t :: itK is := fun k t is => by simp [itK]
  have c3 : ∀ (t : List UInt8) (is : List Item), itK ((none, t) :: is) = itK is := fun t is => by simp [itK]
  have n1 : itT [] = [] := rfl
  have n2 : itK [] = [] := rfl
  split
  · simp only [c1, c2, n1, n2, List.append_nil, and_self]
  split
  · simp only [c1, c2, n1, n2, List.append_nil, and_self]
  split
  · constructor
    · simp only [c1, itT_app, itI_text [(some 4, [44]), (none, [32])] [44, 32] rfl, hm1, argsT, n1]
      simp
    · simp only [c2, itK_app, itI_words [(some 4, [44]), (none, [32])] [44] rfl, hm2, n2]
  split
  · constructor
    · simp only [c1, itT_app, hd1, aheadT, n1]
      simp
    · simp only [c2, c3, itK_app, hd2, n2]
  split
  · constructor
    · simp only [c1, itT_app, hd1, aheadT, n1]
      simp
    · simp only [c2, c3, itK_app, hd2, n2]
  · constructor
    · simp only [c1, itT_app, itI_text [(none, [32]), (some (opK op.data.toList), op.data.toList), (none, [32])] (32 :: (op.data.toList ++ [32])) (by simp [itT]), hm1, argsT, n1]
      simp
    · simp only [c2, itK_app, itI_words [(none, [32]), (some (opK op.data.toList), op.data.toList), (none, [32])] op.data.toList (by simp [itK]), hm2, n2]
theorem end41 (r : List UInt8) : endB (41 :: r) := .inr ⟨_, _, rfl, .inl rfl⟩
theorem end44 (r : List UInt8) : endB (44 :: r) := .inr ⟨_, _, rfl, .inr (.inl rfl)⟩
theorem end32 (r : List UInt8) : endB (32 :: r) := .inr ⟨_, _, rfl, .inr (.inr rfl)⟩
theorem tok_op {op : List UInt8} (h : op ∈ bin14) (r : List UInt8) : tokAt (op ++ 32 :: r) = (opK op, op.length, 0) ∧ op ≠ [] := by
  have hs : ∀ g ∈ signsL, sgN signsL (g ++ 32 :: r) = g.length := fun g hg => sign_again g hg (32 :: r) (by simp [sepB, blB])
  simp only [bin14, List.mem_cons, List.not_mem_nil, or_false] at h
  rcases h with rfl | rfl | rfl | rfl | rfl | rfl | rfl | rfl | rfl | rfl | rfl | rfl | rfl
  · exact ⟨tk_word (c := 111) (t := [114]) (by decide) (by decide) (end32 r), by decide⟩
  · exact ⟨tk_word (c := 97) (t := [110, 100]) (by decide) (by decide) (end32 r), by decide⟩
  all_goals
    refine ⟨?_, by decide⟩
    have h1 := hs _ (by first | exact (by decide : ([61] : List UInt8) ∈ signsL) | exact (by decide : ([60, 62] : List UInt8) ∈ signsL) | exact (by decide : ([60] : List UInt8) ∈ signsL))
    simp [tokAt, letB, digB, signsL, sgN, Lib.hasPrefix, List.isPrefixOf, opK]
theorem tok_minus (r : List UInt8) : tokAt (45 :: 32 :: r) = (4, 1, 0) := by
  simp [tokAt, letB, digB, signsL, sgN, Lib.hasPrefix, List.isPrefixOf]
theorem tok_val {t n : Int} {l r : List UInt8} (hn : inI n) (h : ckV t n l = 0) (hr : endB r) : tokAt (prS t n l ++ r) = (valK t, (prS t n l).length, 0) ∧ prS t n l ≠ [] := by
  obtain ⟨hc, h0⟩ := ckV_ok h
  rw [prS, if_pos hc]
  refine ⟨?_, by obtain ⟨c, q, e, _⟩ := shown_hd h; rw [e]; simp⟩
  rcases chk_type hc with ⟨rfl, _⟩ | ⟨rfl, _, hb⟩ | ⟨rfl, rfl, hl, hp⟩
  · rw [shown, if_pos rfl, Lib.itoa, if_neg (by have := h0 rfl; omega)]
    exact tk_num (by have := hn.2; omega) hr
  · rw [shown, if_neg (by decide), if_pos rfl]
    split
    · exact tk_word (c := 116) (t := [114, 117, 101]) (by decide) (by decide) hr
    · exact tk_word (c := 102) (t := [97, 108, 115, 101]) (by decide) (by decide) hr
  · rw [shown, if_neg (by decide), if_neg (by decide)]
    exact tk_quote hl hp hr
theorem tok_name {l r : List UInt8} (h : nameT l = true) (hr : endB r) : tokAt (l ++ r) = (1, l.length, 0) ∧ l ≠ [] := by
  simp only [nameT, lettersB, Bool.and_eq_true, decide_eq_true_eq] at h
  obtain ⟨⟨⟨h1, _⟩, h2⟩, _⟩ := h
  refine ⟨?_, h1⟩
  cases l with
  | nil => exact absurd rfl h1
  | cons c q =>
    rw [List.all_cons, Bool.and_eq_true] at h2
    refine tk_word h2.1 ?_ hr
    rw [List.all_eq_true] at h2 ⊢
    intro x hx
    simp [ldB, h2.2 x hx]
end Go.Proofs.YtnpinbpjfngknaaGreatDoor
namespace Go.Proofs.YtnpinbpjfngknaaGreatDoor
set_option linter.unusedVariables false

theorem okp_P : ∀ (x : Ex) (d : Nat), (∀ q ∈ x.pre d, nodeE q.1 = 0) → (∀ q ∈ x.pre d, inI q.1.vn) → ∀ rest : List Item, Okp rest → endB (itT rest) → Okp (itP x ++ rest) := by
  refine Ex.ind fun op nm vt vn vs pos l ih d hpre hin rest hr he => ?_
  have hself := hpre (.node op nm vt vn vs pos l, d) (by rw [Ex.pre]; exact List.mem_cons_self ..)
  have hvn : inI vn := hin (.node op nm vt vn vs pos l, d) (by rw [Ex.pre]; exact List.mem_cons_self ..)
  have hsub : ∀ y ∈ l, ∀ q ∈ y.pre (d + 1), q ∈ (Ex.node op nm vt vn vs pos l).pre d := fun y hy q hq => by
    rw [Ex.pre]; exact List.mem_cons_of_mem _ (pres_mem hy q hq)
  have hI := fun y hy => ih y hy (d + 1) (fun q hq => hpre q (hsub y hy q hq)) (fun q hq => hin q (hsub y hy q hq))
  obtain ⟨ha1, ha2, _⟩ := node_ok hself
  have ha2' : (l.length : Int) = (apL op.data.toList opsL).1 := ha2
  have ha1' : (apL op.data.toList opsL).2 = true := ha1
  obtain ⟨hcol, hncol, hnval, hval⟩ := node_all hself
  clear ha1 ha2 hpre hin hsub ih hself
  have ct : ∀ (i : Item) (is : List Item), itT (i :: is) = i.2 ++ itT is := fun i is => by simp [itT]
  have par : ∀ (c : UInt8) (is : List Item), (c = 40 ∨ c = 41 ∨ c = 44) → Okp is → Okp ((some 4, [c]) :: is) := fun c is hc h => by
    rw [Okp]
    exact ⟨sgn_par c (itT is) hc, by simp, h⟩
  have bl : ∀ is : List Item, Okp is → Okp ((none, [32]) :: is) := fun is h => by
    rw [Okp]
    exact ⟨by decide, h⟩
  rw [itP, itsP_map]
  by_cases h1 : op.data.toList = [118, 97, 108]
  · rw [if_pos h1, List.singleton_append, Okp]
    obtain ⟨a, b⟩ := tok_val hvn (hval h1) he
    exact ⟨a, b, hr⟩
  rw [if_neg h1]
  by_cases h2 : op.data.toList = [99, 111, 108]
  · rw [if_pos h2, List.singleton_append, Okp]
    obtain ⟨a, b⟩ := tok_name (hcol h2) he
    exact ⟨a, b, hr⟩
  rw [if_neg h2]
  have hcl : Okp ((some 4, [41]) :: rest) := par 41 rest (.inr (.inl rfl)) hr
  have hcle : endB (itT ((some 4, [41]) :: rest)) := by rw [ct]; exact end41 _
  rcases op_kinds ha1' ha2' h1 h2 with ⟨ho, hl⟩ | ⟨ho, hl⟩ | ⟨ho, hl⟩ | ⟨ho, hl⟩ | ⟨ho, hl, o1, o2, o3, o4⟩
  · obtain ⟨y, rfl⟩ := head_of hl
    rw [if_pos (.inl ho)]
    simp only [List.map_cons, List.map_nil, itI, List.cons_append, List.append_assoc, List.nil_append]
    have h3 := hI y (by simp) _ hcl hcle
    have h4 := par 40 _ (.inl rfl) h3
    rw [Okp]
    refine ⟨?_, by rw [ho]; decide, h4⟩
    rw [ho, ct]
    have hw : tokAt ([108, 101, 110] ++ 40 :: itT (itP y ++ (some 4, [41]) :: rest)) = (1, 3, 0) := by
      simp [tokAt, letB, goN, ldB, digB]
    exact hw
  · obtain ⟨y, z, u, rfl⟩ : ∃ y z u, l = [y, z, u] := by
      match l, hl with
      | [y, z, u], _ => exact ⟨y, z, u, rfl⟩
    rw [if_pos (.inr ho)]
    simp only [List.map_cons, List.map_nil, itI, List.cons_append, List.append_assoc, List.nil_append]
    have h3 := hI u (by simp) _ hcl hcle
    have h4 := par 44 _ (.inr (.inr rfl)) (bl _ h3)
    have h5 := hI z (by simp) _ h4 (by rw [ct]; exact end44 _)
    have h6 := par 44 _ (.inr (.inr rfl)) (bl _ h5)
    have h7 := hI y (by simp) _ h6 (by rw [ct]; exact end44 _)
    have h8 := par 40 _ (.inl rfl) h7
    rw [Okp]
    refine ⟨?_, by rw [ho]; decide, h8⟩
    rw [ho, ct]
    generalize itT _ = W
    show tokAt ([105, 102] ++ 40 :: W) = (1, 2, 0)
    simp [tokAt, letB, goN, ldB, digB]
  · obtain ⟨y, rfl⟩ := head_of hl
    rw [if_neg (by rw [ho]; decide), if_pos ho]
    simp only [List.map_cons, List.map_nil, List.headD_cons, List.cons_append, List.append_assoc, List.nil_append]
    have h3 := bl _ (hI y (by simp) _ hcl hcle)
    refine par 40 _ (.inl rfl) ?_
    rw [Okp]
    exact ⟨tk_word (c := 110) (t := [111, 116]) (by decide) (by decide) (by rw [ct]; exact end32 _), by decide, h3⟩
  · obtain ⟨y, rfl⟩ := head_of hl
    rw [if_neg (by rw [ho]; decide), if_neg (by rw [ho]; decide), if_pos ho]
    simp only [List.map_cons, List.map_nil, List.headD_cons, List.cons_append, List.append_assoc, List.nil_append]
    have h3 := bl _ (hI y (by simp) _ hcl hcle)
    refine par 40 _ (.inl rfl) ?_
    rw [Okp, ct]
    exact ⟨tok_minus _, by decide, h3⟩
  · obtain ⟨y, z, rfl⟩ : ∃ y z, l = [y, z] := by
      match l, hl with
      | [y, z], _ => exact ⟨y, z, rfl⟩
    rw [if_neg (fun h => h.elim o1 o2), if_neg o3, if_neg o4]
    simp only [List.map_cons, List.map_nil, itI, List.cons_append, List.append_assoc, List.nil_append]
    have h3 := bl _ (hI z (by simp) _ hcl hcle)
    have h4 : Okp ((some (opK op.data.toList), op.data.toList) :: (none, [32]) :: (itP z ++ (some 4, [41]) :: rest)) := by
      rw [Okp, ct]
      obtain ⟨a, b⟩ := tok_op ho (itT (itP z ++ (some 4, [41]) :: rest))
      exact ⟨a, b, h3⟩
    have h5 := hI y (by simp) _ (bl _ h4) (by rw [ct]; exact end32 _)
    exact par 40 _ (.inl rfl) h5
theorem itK_len : ∀ is : List Item, Okp is → (itK is).length ≤ (itT is).length
  | [], _ => by simp [itK]
  | (none, bs) :: is, h => by
    rw [Okp] at h
    have := itK_len is h.2
    simp only [itK, itT, List.flatMap_cons, List.length_append, List.nil_append] at this ⊢
    omega
  | (some k, t) :: is, h => by
    rw [Okp] at h
    have := itK_len is h.2.2
    have h2 : 1 ≤ t.length := by
      cases t with
      | nil => exact absurd rfl h.2.1
      | cons c q => simp
    simp only [itK, itT, List.flatMap_cons, List.length_append, List.length_singleton] at this ⊢
    omega
/-- The text of an expression that is right falls into its words. -/
theorem lex_tx {x : Ex} (hn : ∀ q ∈ x.pre 1, nodeE q.1 = 0) (hi : ∀ q ∈ x.pre 1, inI q.1.vn) (hl : (txP x).length ≤ 400) : ∃ ts, lexAll (txP x) = (ts, 0, 0) ∧ Tx ts = tkP x := by
  obtain ⟨e1, e2⟩ := it_text x
  have hok : Okp (itP x) := by
    have := okp_P x 1 hn hi [] (by rw [Okp]; trivial) (.inl rfl)
    rwa [List.append_nil] at this
  have hk := itK_len _ hok
  obtain ⟨ts, h1, h2⟩ := lex_items (itP x) ((txP x).length + 1) 0 [] hok (by rw [e1] at hk; omega)
  refine ⟨ts, ?_, by rw [h2, e2]⟩
  rw [lexAll, if_neg (by omega), ← e1]
  rw [e1] at h1 ⊢
  rw [h1, List.nil_append]
end Go.Proofs.YtnpinbpjfngknaaGreatDoor
namespace Go.Proofs.YtnpinbpjfngknaaGreatDoor
set_option linter.unusedVariables false

/-- What the program reads of words: the expression, and what is left. -/
def readE (ts : List Tok) : Option Ex × List Tok := uE (ts.length * 8 + 8) 0 ts
/-- Where the next word stands; of none: the end. -/
def placeT (ts : List Tok) (en : Nat) : Nat := match ts with
  | [] => en
  | t :: _ => t.2.2
/-- What Parse says of a text: the expression, the fault, and where. -/
def parseP (l : List UInt8) : Ex × Int × Nat :=
  if (lexAll l).2.1 ≠ 0 then (ex0, (lexAll l).2.1, (lexAll l).2.2)
  else match readE (lexAll l).1 with
    | (some x, []) => if tgB x = true then (ex0, 4, 0) else (x, 0, 0)
    | (_, r) => (ex0, 2, placeT r l.length)
end Go.Proofs.YtnpinbpjfngknaaGreatDoor
namespace Go.Proofs.YtnpinbpjfngknaaGreatDoor
set_option linter.unusedVariables false

theorem sameL_all {b : Bool} : ∀ {l m : List Ex}, sameL b l m = true → l.length = m.length ∧ ∀ i (h : i < l.length) (h2 : i < m.length), sameE b l[i] m[i] = true
  | [], [], _ => ⟨rfl, fun i h => absurd h (by simp)⟩
  | [], _ :: _, h => by simp [sameL] at h
  | _ :: _, [], h => by simp [sameL] at h
  | x :: xs, y :: ys, h => by
    rw [sameL, Bool.and_eq_true] at h
    obtain ⟨h1, h2⟩ := sameL_all h.2
    refine ⟨by simp [h1], fun i hi hj => ?_⟩
    cases i with
    | zero => exact h.1
    | succ i => exact h2 i (by simpa using hi) (by simpa using hj)
theorem sizes_same {b : Bool} : ∀ {l m : List Ex}, (∀ y ∈ l, ∀ z, sameE b y z = true → y.size = z.size ∧ y.deep = z.deep) → sameL b l m = true → Ex.sizes l = Ex.sizes m ∧ Ex.deeps l = Ex.deeps m
  | [], [], _, _ => ⟨rfl, rfl⟩
  | [], _ :: _, _, h => by simp [sameL] at h
  | _ :: _, [], _, h => by simp [sameL] at h
  | x :: xs, y :: ys, hI, h => by
    rw [sameL, Bool.and_eq_true] at h
    obtain ⟨h1, h2⟩ := hI x (by simp) y h.1
    obtain ⟨h3, h4⟩ := sizes_same (fun z hz => hI z (by simp [hz])) h.2
    rw [Ex.sizes, Ex.sizes, Ex.deeps, Ex.deeps, h1, h2, h3, h4]
    exact ⟨rfl, rfl⟩
theorem same_size {b : Bool} : ∀ (x y : Ex), sameE b x y = true → x.size = y.size ∧ x.deep = y.deep := by
  refine Ex.ind fun op nm vt vn vs pos l ih y h => ?_
  obtain ⟨op2, nm2, vt2, vn2, vs2, pos2, l2⟩ := y
  rw [sameE] at h
  simp only [Bool.and_eq_true] at h
  obtain ⟨h1, h2⟩ := sizes_same (fun z hz => ih z hz) h.2.2.2.2
  rw [Ex.size, Ex.size, Ex.deep, Ex.deep, h1, h2]
  exact ⟨rfl, rfl⟩
theorem same_tg {b : Bool} {x y : Ex} (h : sameE b x y = true) : tgB x = tgB y := by
  obtain ⟨h1, h2⟩ := same_size x y h
  rw [tg_small, tg_small, Ex.small, Ex.small, h1, h2]
theorem cnd_nil {ts : List Tok} (hm : nxT (sgT [[45]]) ts = none) (hn : nxT (sgT [[110, 111, 116]]) ts = none) (L : Nat) : Cnd ts [] L := by
  rw [Cnd]
  split
  · exact hn
  split
  · exact hm
  · rfl
/-- Parse reads an expression's text as it was. -/
theorem parse_tx {x : Ex} (hck : ckP x = 0) (hi : ∀ q ∈ x.pre 1, inI q.1.vn) (hl : (txP x).length ≤ 400) : ∃ e, parseP (txP x) = (e, 0, 0) ∧ sameE false e x = true := by
  obtain ⟨htg, hn⟩ := ckP_zero hck
  obtain ⟨ts, h1, h2⟩ := lex_tx hn hi hl
  obtain ⟨hh, hr⟩ := rt7 x 1 hn hi
  obtain ⟨e, hs, he⟩ := hr ts [] h2
  obtain ⟨hm, hnn⟩ := hh.none (r := []) h2
  rw [List.append_nil] at he hm hnn
  have hlen : ts.length = (tkP x).length := by rw [← h2, Tx, List.length_map]
  have hread : readE ts = (some e, []) := by
    rw [readE]
    have := uE_lift 7 (ts.length * 8 + 1) 0 (by omega) (he _ (by omega)) (fun k _ _ => cnd_nil hm hnn k)
    rwa [show ts.length * 8 + 1 + 7 = ts.length * 8 + 8 from by omega] at this
  refine ⟨e, ?_, hs⟩
  rw [parseP, h1]
  simp only
  rw [if_neg (by decide), hread]
  simp only
  rw [if_neg (by rw [same_tg hs, htg]; decide)]
end Go.Proofs.YtnpinbpjfngknaaGreatDoor
namespace Go.Proofs.YtnpinbpjfngknaaGreatDoor
set_option linter.unusedVariables false

/-- Each node is right, and its number is a machine's. -/
def OkN (x : Ex) : Prop := ∀ d, ∀ q ∈ x.pre d, nodeE q.1 = 0 ∧ inI q.1.vn
theorem pres_inv {d : Nat} {q : Ex × Nat} : ∀ {l : List Ex}, q ∈ Ex.pres d l → ∃ y ∈ l, q ∈ y.pre d
  | [], h => by rw [Ex.pres] at h; exact absurd h (by simp)
  | x :: xs, h => by
    rw [Ex.pres] at h
    rcases List.mem_append.1 h with h | h
    · exact ⟨x, by simp, h⟩
    · obtain ⟨y, hy, hq⟩ := pres_inv h
      exact ⟨y, by simp [hy], hq⟩
theorem okN_mk {op nm vs : ByteArray} {vt vn pos : Int} {l : List Ex} (h : nodeE (.node op nm vt vn vs pos l) = 0) (hv : inI vn) (hl : ∀ y ∈ l, OkN y) : OkN (.node op nm vt vn vs pos l) := by
  intro d q hq
  rw [Ex.pre] at hq
  rcases List.mem_cons.1 hq with rfl | hq
  · exact ⟨h, hv⟩
  · obtain ⟨y, hy, hq⟩ := pres_inv hq
    exact hl y hy (d + 1) q hq
theorem in0 : inI 0 := by unfold inI; omega
/-- A node of an operation whose parts are as many. -/
theorem nodeE_op {op : ByteArray} {pos : Int} {l : List Ex} (h1 : apL op.data.toList opsL = ((l.length : Int), true)) (h2 : op.data.toList ≠ [118, 97, 108]) (h3 : op.data.toList ≠ [99, 111, 108]) : nodeE (.node op ⟨#[]⟩ 0 0 ⟨#[]⟩ pos l) = 0 := by
  have e1 : nodeE (.node op ⟨#[]⟩ 0 0 ⟨#[]⟩ pos l) = nodeB (apL op.data.toList opsL).2 (op.toList == [99, 111, 108]) (nameT (⟨#[]⟩ : ByteArray).data.toList) ((l.length : Int) != (apL op.data.toList opsL).1) (!((⟨#[]⟩ : ByteArray).toList == [])) (op.toList == [118, 97, 108]) (!(((0 : Int) == 0) && (((0 : Int) == 0) && ((⟨#[]⟩ : ByteArray).toList == [])))) (ckV 0 0 (⟨#[]⟩ : ByteArray).data.toList) := rfl
  have q2 : (op.toList == [118, 97, 108]) = false := by rw [Lib.toList_data]; simpa using h2
  have q3 : (op.toList == [99, 111, 108]) = false := by rw [Lib.toList_data]; simpa using h3
  have q4 : ((⟨#[]⟩ : ByteArray).toList == ([] : List UInt8)) = true := by rw [Lib.toList_data]; rfl
  rw [e1, h1, q2, q3, q4]
  simp [nodeB]
theorem bin_ap {op : List UInt8} (h : op ∈ bin14) : apL op opsL = (2, true) ∧ op ≠ [118, 97, 108] ∧ op ≠ [99, 111, 108] := by
  simp only [bin14, List.mem_cons, List.not_mem_nil, or_false] at h
  rcases h with rfl | rfl | rfl | rfl | rfl | rfl | rfl | rfl | rfl | rfl | rfl | rfl | rfl <;> decide
theorem okN_bet {a b : Ex} {t : Tok} (ht : t.2.1.data.toList ∈ bin14) (ha : OkN a) (hb : OkN b) : OkN (betT a t b) := by
  obtain ⟨h1, h2, h3⟩ := bin_ap ht
  exact okN_mk (nodeE_op h1 h2 h3) in0 (fun y hy => by
    rcases List.mem_cons.1 hy with rfl | hy
    · exact ha
    · rw [List.mem_singleton.1 hy]; exact hb)
theorem okN_op1 {op : List UInt8} {pos : Int} {e : Ex} (ho : op = [110, 111, 116] ∨ op = [110, 101, 103]) (he : OkN e) : OkN (op1 op pos [e]) := by
  have h : ∀ o : List UInt8, o = op → apL o opsL = (1, true) ∧ o ≠ [118, 97, 108] ∧ o ≠ [99, 111, 108] := fun o e => by
    rcases ho with h | h <;> rw [e, h] <;> decide
  obtain ⟨h1, h2, h3⟩ := h (⟨op.toArray⟩ : ByteArray).data.toList rfl
  exact okN_mk (nodeE_op h1 h2 h3) in0 (fun y hy => by rw [List.mem_singleton.1 hy]; exact he)
/-- A word as there is one in a text. -/
def GdT (t : Tok) : Prop := ∃ k, tokAt t.2.1.data.toList = (k, t.2.1.data.toList.length, 0)
theorem readV_right {s : ByteArray} {T n : Int} {l : List UInt8} (h : readV s = (T, n, l, 0)) : chk T n l = 0 ∧ inI n ∧ (T = 1 → Lib.itoa n = s.data.toList) := by
  rw [readV] at h
  split at h
  · simp only [Prod.mk.injEq] at h
    obtain ⟨rfl, rfl, rfl, _⟩ := h
    exact ⟨by decide, by unfold inI; omega, fun e => absurd e (by decide)⟩
  split at h
  · simp only [Prod.mk.injEq] at h
    obtain ⟨rfl, rfl, rfl, _⟩ := h
    exact ⟨by decide, in0, fun e => absurd e (by decide)⟩
  split at h
  · split at h
    · simp at h
    · split at h
      · simp at h
      · split at h
        · simp at h
        · rename_i l0 _ hp hl
          simp only [Prod.mk.injEq] at h
          obtain ⟨rfl, rfl, rfl, _⟩ := h
          refine ⟨?_, in0, fun e => absurd e (by decide)⟩
          have hp' : plainB l0 = true := by simpa using hp
          simp [chk, hp']
          omega
  · split at h
    · rename_i m hm
      split at h
      · rename_i he
        simp only [Prod.mk.injEq] at h
        obtain ⟨rfl, rfl, rfl, _⟩ := h
        exact ⟨by simp [chk], atoi_bounds hm, fun _ => he⟩
      · simp at h
    · simp at h
theorem okN_val {t : Tok} (hg : GdT t) (hv : vlT t = true) : OkN (valE t) := by
  obtain ⟨T, n, l, e, hr⟩ : ∃ T n l e, readV t.2.1 = (T, n, l, e) := ⟨_, _, _, _, rfl⟩
  have he : e = 0 := by rw [vlT, hr] at hv; simpa using hv
  subst he
  obtain ⟨hc, hi, h1⟩ := readV_right hr
  have hck : ckV T n l = 0 := by
    rw [ckV, if_neg (by simpa using hc), if_neg]
    rintro ⟨e, hn⟩
    have h2 := h1 e
    rw [Lib.itoa, if_pos hn] at h2
    obtain ⟨k, hk⟩ := hg
    rw [← h2] at hk
    have h45 : ∀ q : List UInt8, tokAt (45 :: q) = (4, 1, 0) := fun q => by
      simp [tokAt, letB, digB, signsL, sgN, Lib.hasPrefix, List.isPrefixOf]
    rw [h45] at hk
    simp only [Prod.mk.injEq, List.length_cons] at hk
    obtain ⟨c, q, hd, _⟩ := digits_head n.natAbs n.natAbs (Nat.le_refl _)
    rw [hd] at hk
    simp at hk
  rw [valE, hr]
  refine okN_mk ?_ hi (fun y hy => absurd hy (by simp))
  have e1 : nodeE (.node ⟨#[118, 97, 108]⟩ ⟨#[]⟩ T n ⟨l.toArray⟩ (t.2.2 : Int) []) = nodeB (apL [118, 97, 108] opsL).2 ((⟨#[118, 97, 108]⟩ : ByteArray).toList == [99, 111, 108]) (nameT (⟨#[]⟩ : ByteArray).data.toList) ((([] : List Ex).length : Int) != (apL [118, 97, 108] opsL).1) (!((⟨#[]⟩ : ByteArray).toList == [])) ((⟨#[118, 97, 108]⟩ : ByteArray).toList == [118, 97, 108]) (!((T == 0) && ((n == 0) && ((⟨l.toArray⟩ : ByteArray).toList == [])))) (ckV T n l) := rfl
  have q1 : ((⟨#[118, 97, 108]⟩ : ByteArray).toList == [99, 111, 108]) = false := by rw [Lib.toList_data]; rfl
  have q2 : ((⟨#[118, 97, 108]⟩ : ByteArray).toList == [118, 97, 108]) = true := by rw [Lib.toList_data]; rfl
  have q4 : ((⟨#[]⟩ : ByteArray).toList == ([] : List UInt8)) = true := by rw [Lib.toList_data]; rfl
  rw [e1, q1, q2, q4, hck]
  simp [nodeB, apL, opsL]
theorem okN_col {t : Tok} (h : nmT t = true) : OkN (colE1 t) := by
  refine okN_mk ?_ in0 (fun y hy => absurd hy (by simp))
  have e1 : nodeE (colE1 t) = nodeB (apL [99, 111, 108] opsL).2 ((⟨#[99, 111, 108]⟩ : ByteArray).toList == [99, 111, 108]) (nameT t.2.1.data.toList) ((([] : List Ex).length : Int) != (apL [99, 111, 108] opsL).1) (!(t.2.1.toList == [])) ((⟨#[99, 111, 108]⟩ : ByteArray).toList == [118, 97, 108]) (!(((0 : Int) == 0) && (((0 : Int) == 0) && ((⟨#[]⟩ : ByteArray).toList == [])))) (ckV 0 0 (⟨#[]⟩ : ByteArray).data.toList) := rfl
  have q1 : ((⟨#[99, 111, 108]⟩ : ByteArray).toList == [99, 111, 108]) = true := by rw [Lib.toList_data]; rfl
  have q2 : ((⟨#[99, 111, 108]⟩ : ByteArray).toList == [118, 97, 108]) = false := by rw [Lib.toList_data]; rfl
  have q4 : ((⟨#[]⟩ : ByteArray).toList == ([] : List UInt8)) = true := by rw [Lib.toList_data]; rfl
  have h' : nameT t.2.1.data.toList = true := h
  show nodeE (colE1 t) = 0
  rw [e1, q1, q2, q4, h']
  simp [nodeB, apL, opsL]
/-- What is read of words as there are in a text is right. -/
def Snd (sub : List Tok → Option Ex × List Tok) : Prop := ∀ ts y, (∀ t ∈ ts, GdT t) → (sub ts).1 = some y → OkN y
theorem gd_suf {ts r : List Tok} (h : ∀ t ∈ ts, GdT t) (hs : r <:+ ts) : ∀ t ∈ r, GdT t := fun t ht => h t (hs.subset ht)
theorem sg_mem {gs : List (List UInt8)} {t : Tok} (h : sgT gs t = true) : t.2.1.data.toList ∈ gs := by
  rw [sgT, List.any_eq_true] at h
  obtain ⟨g, hg, e⟩ := h
  have e : g = t.2.1.data.toList := by simpa using e
  rw [← e]; exact hg
theorem uLoop_snd {sub : List Tok → Option Ex × List Tok} (hs : Snd sub) (hf : Suf sub) (gs : List (List UInt8)) (hgs : ∀ g ∈ gs, g ∈ bin14) : ∀ (k : Nat) (e : Ex) (ts : List Tok) (y : Ex), OkN e → (∀ t ∈ ts, GdT t) → (uLoop sub gs k e ts).1 = some y → OkN y
  | 0, e, ts, y, he, _, h => by rw [uLoop] at h; simp only [Option.some.injEq] at h; subst h; exact he
  | k + 1, e, ts, y, he, hg, h => by
    rw [uLoop] at h
    cases hn : nxT (sgT gs) ts with
    | none => rw [hn] at h; simp only [Option.some.injEq] at h; subst h; exact he
    | some q =>
      obtain ⟨t, r⟩ := q
      rw [hn] at h
      obtain ⟨h1, hst⟩ := nxT_len hn
      subst h1
      simp only at h
      have hgr : ∀ t ∈ r, GdT t := fun u hu => hg u (by simp [hu])
      have h2 := hs r
      have h6 := hf r
      cases h3 : sub r with
      | mk o r2 =>
        rw [h3] at h h2 h6
        cases o with
        | none => exact absurd h (by simp)
        | some b => exact uLoop_snd hs hf gs hgs k (betT e t b) r2 y (okN_bet (hgs _ (sg_mem hst)) he (h2 b hgr rfl)) (gd_suf hgr h6) h
theorem uSev_snd {sub : List Tok → Option Ex × List Tok} (hs : Snd sub) (hf : Suf sub) (gs : List (List UInt8)) (hgs : ∀ g ∈ gs, g ∈ bin14) : Snd (uSev sub gs) := by
  intro ts y hg h
  have h2 := hs ts
  have h6 := hf ts
  rw [uSev] at h
  cases h3 : sub ts with
  | mk o r =>
    rw [h3] at h h2 h6
    cases o with
    | none => exact absurd h (by simp)
    | some e => exact uLoop_snd hs hf gs hgs (r.length + 1) e r y (h2 e hg rfl) (gd_suf hg h6) h
theorem uAhead_snd {sub other : List Tok → Option Ex × List Tok} (hs : Snd sub) (ho : Snd other) (op : List UInt8) (hop : op = [110, 111, 116] ∨ op = [110, 101, 103]) (gs : List (List UInt8)) : Snd (uAhead op gs sub other) := by
  intro ts y hg h
  rw [uAhead] at h
  cases hn : nxT (sgT gs) ts with
  | none => rw [hn] at h; exact ho ts y hg h
  | some q =>
    obtain ⟨t, r⟩ := q
    rw [hn] at h
    have h1 := (nxT_len hn).1
    subst h1
    have h2 := hs r
    simp only at h
    cases h3 : sub r with
    | mk o r2 =>
      rw [h3] at h h2
      cases o with
      | none => exact absurd h (by simp)
      | some e =>
        simp only [Option.some.injEq] at h
        subst h
        exact okN_op1 hop (h2 e (fun u hu => hg u (by simp [hu])) rfl)
theorem uCmp_snd {sub : List Tok → Option Ex × List Tok} (hs : Snd sub) (hf : Suf sub) : Snd (uCmp sub) := by
  intro ts y hg h
  have h2 := hs ts
  have h6 := hf ts
  rw [uCmp] at h
  cases h3 : sub ts with
  | mk o r =>
    rw [h3] at h h2 h6
    cases o with
    | none => exact absurd h (by simp)
    | some e =>
      have h4 := h2 e hg rfl
      simp only at h h6
      cases hn : nxT (sgT cmpL) r with
      | none => rw [hn] at h; simp only [Option.some.injEq] at h; subst h; exact h4
      | some q =>
        obtain ⟨t, r2⟩ := q
        rw [hn] at h
        obtain ⟨h1, hst⟩ := nxT_len hn
        subst h1
        have h5 := hs r2
        simp only at h
        cases h7 : sub r2 with
        | mk o r3 =>
          rw [h7] at h h5
          cases o with
          | none => exact absurd h (by simp)
          | some b =>
            simp only [Option.some.injEq] at h
            subst h
            have hgr := gd_suf hg h6
            refine okN_bet ?_ h4 (h5 b (fun u hu => hgr u (by simp [hu])) rfl)
            have hm := sg_mem hst
            simp only [cmpL, List.mem_cons, List.not_mem_nil, or_false] at hm
            simp only [bin14, List.mem_cons, List.not_mem_nil, or_false]
            rcases hm with h | h | h | h | h | h <;> simp [h]
theorem uBr_snd {sub : List Tok → Option Ex × List Tok} (hs : Snd sub) (hf : Suf sub) : ∀ (k : Nat) (acc : List Ex) (ts : List Tok) (l : List Ex), (∀ e ∈ acc, OkN e) → (∀ t ∈ ts, GdT t) → (uBr sub k acc ts).1 = some l → ∀ e ∈ l, OkN e
  | 0, acc, ts, l, ha, _, h => by
    rw [uBr] at h
    cases hn : nxT (sgT [[41]]) ts with
    | none => rw [hn] at h; exact absurd h (by simp)
    | some q =>
      rw [hn] at h
      simp only [Option.some.injEq] at h
      subst h
      exact ha
  | k + 1, acc, ts, l, ha, hg, h => by
    rw [uBr] at h
    cases hn : nxT (sgT [if acc.length = 0 then [40] else [44]]) ts with
    | none => rw [hn] at h; exact absurd h (by simp)
    | some q =>
      obtain ⟨t, r⟩ := q
      rw [hn] at h
      have h1 := (nxT_len hn).1
      subst h1
      have hgr : ∀ t ∈ r, GdT t := fun u hu => hg u (by simp [hu])
      have h2 := hs r
      have h6 := hf r
      simp only at h
      cases h3 : sub r with
      | mk o r2 =>
        rw [h3] at h h2 h6
        cases o with
        | none => exact absurd h (by simp)
        | some e =>
          exact uBr_snd hs hf k (acc ++ [e]) r2 l (fun x hx => by
            rcases List.mem_append.1 hx with hx | hx
            · exact ha x hx
            · rw [List.mem_singleton.1 hx]; exact h2 e hgr rfl) (gd_suf hgr h6) h
theorem uOne_snd {sub : List Tok → Option Ex × List Tok} (hs : Snd sub) (hf : Suf sub) : Snd (uOne sub) := by
  intro ts y hg h
  cases hn : nxT (sgT lenIf) ts with
  | some q =>
    obtain ⟨t, r⟩ := q
    rw [uOne_call hn] at h
    obtain ⟨h1, hst⟩ := nxT_len hn
    have hgr : ∀ t ∈ r, GdT t := fun u hu => hg u (by rw [h1]; simp [hu])
    have h2 := uBr_snd hs hf (manyT t) [] r
    have h5 := uBr_len (sub := sub) (manyT t) [] r
    cases h3 : (uBr sub (manyT t) [] r).1 with
    | none => rw [h3] at h; exact absurd h (by simp)
    | some l =>
      rw [h3] at h
      simp only [Option.map_some, Option.some.injEq] at h
      rw [← h]
      have h6 := h5 l h3
      have ho := many_ops hst
      have hm := sg_mem hst
      refine okN_mk (nodeE_op (by rw [ho, h6]; simp) ?_ ?_) in0 (h2 l (fun e he => absurd he (by simp)) hgr h3)
      · simp only [List.mem_cons, List.not_mem_nil, or_false] at hm
        rcases hm with e | e <;> rw [e] <;> decide
      · simp only [List.mem_cons, List.not_mem_nil, or_false] at hm
        rcases hm with e | e <;> rw [e] <;> decide
  | none =>
    cases hv : nxT vlT ts with
    | some q =>
      obtain ⟨t, r⟩ := q
      rw [uOne_val hn hv] at h
      simp only [Option.some.injEq] at h
      obtain ⟨h1, h2⟩ := nxT_len hv
      rw [← h]
      exact okN_val (hg t (by rw [h1]; simp)) h2
    | none =>
      cases hc : nxT nmT ts with
      | some q =>
        obtain ⟨t, r⟩ := q
        rw [uOne_col hn hv hc] at h
        simp only [Option.some.injEq] at h
        rw [← h]
        exact okN_col (nxT_len hc).2
      | none =>
        rw [uOne_br hn hv hc] at h
        have h2 := uBr_snd hs hf 1 [] ts
        cases h3 : (uBr sub 1 [] ts).1 with
        | none => rw [h3] at h; exact absurd h (by simp)
        | some l =>
          rw [h3] at h
          have h4 := h2 l (fun e he => absurd he (by simp)) hg h3
          cases l with
          | nil => exact absurd h (by simp)
          | cons x xs =>
            simp only [Option.bind_some, List.head?_cons, Option.some.injEq] at h
            rw [← h]
            exact h4 x (by simp)
theorem uE_snd : ∀ (f lv : Nat), Snd (uE f lv)
  | 0, lv => fun ts y _ h => by rw [uE] at h; exact absurd h (by simp)
  | f + 1, lv => by
    have ih := fun lv => uE_snd f lv
    have hf := fun lv => uE_suf f lv
    intro ts
    unfold uE
    split
    · exact uSev_snd (ih 1) (hf 1) _ (by decide) ts
    · exact uSev_snd (ih 2) (hf 2) _ (by decide) ts
    · exact uAhead_snd (ih 2) (ih 3) _ (.inl rfl) _ ts
    · exact uCmp_snd (ih 4) (hf 4) ts
    · exact uSev_snd (ih 5) (hf 5) _ (by decide) ts
    · exact uSev_snd (ih 6) (hf 6) _ (by decide) ts
    · exact uAhead_snd (ih 6) (ih 7) _ (.inr rfl) _ ts
    · exact uOne_snd (ih 0) (hf 0) ts
/-- What Parse reads is right. -/
theorem parse_right {s : List UInt8} {x : Ex} {p : Nat} (h : parseP s = (x, 0, p)) : ckP x = 0 ∧ (∀ q ∈ x.pre 1, inI q.1.vn) ∧ (x.pre 1).length ≤ 200 ∧ p = 0 := by
  rw [parseP] at h
  split at h
  · rename_i h0
    simp only [Prod.mk.injEq] at h
    exact absurd h.2.1 h0
  · rename_i h0
    have hl : lexAll s = ((lexAll s).1, 0, (lexAll s).2.2) := by
      have : (lexAll s).2.1 = 0 := by simpa using h0
      rw [← this]
    obtain ⟨_, _, _, hgd⟩ := lexAll_ok hl
    have hg : ∀ t ∈ (lexAll s).1, GdT t := fun t ht => ⟨t.1, by
      have := (hgd t ht).again [] rfl
      rwa [List.append_nil] at this⟩
    split at h
    · rename_i y hr
      split at h
      · simp at h
      · rename_i htg
        simp only [Prod.mk.injEq] at h
        obtain ⟨rfl, _, rfl⟩ := h
        have hok : OkN y := uE_snd _ 0 _ y hg (by rw [readE] at hr; rw [hr])
        have htg' : tgB y = false := by simpa using htg
        refine ⟨?_, fun q hq => (hok 1 q hq).2, ?_, rfl⟩
        · rw [ckP, htg', if_neg (by decide)]
          exact fold_ck' _ 0 rfl (fun q hq => (hok 1 q hq).1)
        · rw [tg_small] at htg'
          have h2 : y.small = true := by simpa using htg'
          rw [Ex.small, Bool.and_eq_true, decide_eq_true_eq, decide_eq_true_eq] at h2
          rw [size_pre]
          exact h2.1
    · simp at h
end Go.Proofs.YtnpinbpjfngknaaGreatDoor
namespace Go.Proofs.YtnpinbpjfngknaaGreatDoor
set_option linter.unusedVariables false

theorem goN_ext {p : UInt8 → Bool} {c : UInt8} (hc : p c = false) : ∀ l : List UInt8, goN p (l ++ [c]) = goN p l
  | [] => by rw [List.nil_append, goN_no [] hc]; rfl
  | d :: l => by
    rw [List.cons_append]
    cases hd : p d with
    | true => rw [goN_yes _ hd, goN_yes _ hd, goN_ext hc l]
    | false => rw [goN_no _ hd, goN_no _ hd]
theorem hdB_ext {p : UInt8 → Bool} {c : UInt8} (hc : p c = false) (l : List UInt8) : hdB p (l ++ [c]) = hdB p l := by
  cases l with
  | nil => exact hc
  | cons d l => rfl
theorem qscan_ext : ∀ (n : Nat) (l : List UInt8) (k : Nat), l.length ≤ n → qscan l = some k → qscan (l ++ [41]) = some k
  | _, [], k, _, h => by simp [qscan] at h
  | 0, c :: l, k, hl, _ => by simp at hl
  | n + 1, c :: l, k, hl, h => by
    simp only [List.length_cons] at hl
    by_cases hc : c = 39
    · subst hc
      cases l with
      | nil => simpa [qscan] using h
      | cons d r =>
        by_cases hd : d = 39
        · subst hd
          rw [qscan_two] at h
          obtain ⟨m, hm, rfl⟩ := Option.map_eq_some_iff.1 h
          simp only [List.cons_append]
          rw [qscan_two, qscan_ext n r m (by simp at hl; omega) hm]
          rfl
        · rw [qscan_end _ (by simpa using hd)] at h
          rw [List.cons_append, qscan_end _ (by simpa using hd)]
          exact h
    · rw [qscan_ne _ _ hc] at h
      obtain ⟨m, hm, rfl⟩ := Option.map_eq_some_iff.1 h
      rw [List.cons_append, qscan_ne _ _ hc, qscan_ext n l m (by omega) hm]
      rfl
theorem tok_ext {l : List UInt8} {k : Int} {n : Nat} (h : tokAt l = (k, n, 0)) : tokAt (l ++ [41]) = (k, n, 0) := by
  obtain ⟨hn1, hn2⟩ := tokAt_len h
  cases l with
  | nil => simp at hn2; omega
  | cons c l =>
    rw [List.cons_append]
    rw [tokAt] at h ⊢
    by_cases h1 : letB c = true
    · rw [if_pos h1] at h ⊢
      rw [← List.cons_append, goN_ext (by decide)]
      exact h
    rw [if_neg h1] at h ⊢
    by_cases h2 : digB c = true
    · rw [if_pos h2] at h ⊢
      have hnt : numTok (c :: (l ++ [41])) = numTok (c :: l) := by
        rw [← List.cons_append]
        have hg := goN_ext (p := digB) (c := 41) (by decide) (c :: l)
        have hle := goN_le digB (c :: l)
        rw [numTok, numTok, hg, List.drop_append_of_le_length hle, hdB_ext (by decide), List.take_append_of_le_length hle]
        rfl
      rw [hnt]
      exact h
    rw [if_neg h2] at h ⊢
    by_cases h3 : c = 39
    · rw [if_pos h3] at h ⊢
      rw [quoTok] at h ⊢
      cases hq : qscan l with
      | none => rw [hq] at h; simp at h
      | some m =>
        rw [hq] at h
        rw [qscan_ext _ l m (Nat.le_refl _) hq]
        have hm := (qscan_le _ l m (Nat.le_refl _) hq).2
        simp only at h ⊢
        rw [List.take_append_of_le_length hm]
        exact h
    rw [if_neg h3] at h ⊢
    have hs : sgN signsL (c :: (l ++ [41])) = sgN signsL (c :: l) := by
      cases l with
      | nil => simp [signsL, sgN, Lib.hasPrefix, List.isPrefixOf]
      | cons d r => simp [signsL, sgN, Lib.hasPrefix, List.isPrefixOf]
    rw [hs]
    exact h
theorem lexN_ext : ∀ (f a : Nat) (l : List UInt8) (ts : List Tok) (p : Nat), l.length < f → lexN f a l = (ts, 0, p) → ∀ f' a', l.length + 1 < f' → ∃ ts' c, lexN f' a' (l ++ [41]) = (ts' ++ [c], 0, 0) ∧ Tx ts' = Tx ts ∧ c.2.1.data.toList = [41]
  | 0, a, l, ts, p, hl, _ => by omega
  | f + 1, a, l, ts, p, hl, h => by
    intro f' a' hf'
    obtain ⟨g, rfl⟩ : ∃ g, f' = g + 1 := ⟨f' - 1, by omega⟩
    by_cases h0 : l = []
    · subst h0
      rw [lexN, if_pos rfl] at h
      simp only [Prod.mk.injEq] at h
      obtain ⟨rfl, _, _⟩ := h
      refine ⟨[], (4, ⟨#[41]⟩, a'), ?_, rfl, rfl⟩
      have ht : tokAt [41] = (4, 1, 0) := by simp [tokAt, letB, digB, signsL, sgN, Lib.hasPrefix, List.isPrefixOf]
      have hg2 : lexN g (a' + 1 + goN blB []) (([] : List UInt8).drop (goN blB [])) = ([], 0, 0) := by
        cases g with
        | zero => rfl
        | succ g => rw [lexN, if_pos (by simp)]
      rw [List.nil_append, lexN, if_neg (by simp), ht]
      simp only
      rw [if_neg (by decide)]
      simp only [List.drop_succ_cons, List.drop_zero]
      rw [hg2]
      rfl
    · rw [lexN, if_neg h0] at h
      by_cases he : (tokAt l).2.2 = 0
      · obtain ⟨k, n, ht⟩ : ∃ k n, tokAt l = (k, n, 0) := ⟨_, _, by rw [← he]⟩
        rw [ht] at h
        simp only at h
        rw [if_neg (by decide)] at h
        obtain ⟨hn1, hn2⟩ := tokAt_len ht
        have hle := goN_le blB (l.drop n)
        split at h
        · rename_i hz
          obtain ⟨t2, e2, p2, hrec⟩ : ∃ t2 e2 p2, lexN f (a + n + goN blB (l.drop n)) ((l.drop n).drop (goN blB (l.drop n))) = (t2, e2, p2) := ⟨_, _, _, rfl⟩
          rw [hrec] at h hz
          simp only at h hz
          subst hz
          simp only [Prod.mk.injEq] at h
          obtain ⟨rfl, _, _⟩ := h
          have hl2 : ((l.drop n).drop (goN blB (l.drop n))).length < f := by
            rw [List.length_drop, List.length_drop]; omega
          obtain ⟨ts', c, h1, h2, h3⟩ := lexN_ext f _ _ t2 p2 hl2 hrec g (a' + n + goN blB (l.drop n)) (by rw [List.length_drop, List.length_drop]; omega)
          refine ⟨(k, ⟨(l.take n).toArray⟩, a') :: ts', c, ?_, ?_, h3⟩
          · rw [lexN, if_neg (by simp), tok_ext ht]
            simp only
            rw [if_neg (by decide), List.drop_append_of_le_length hn2, goN_ext (by decide), List.drop_append_of_le_length hle, h1, List.take_append_of_le_length hn2]
            rfl
          · simp only [Tx, List.map_cons] at h2 ⊢
            rw [h2]
        · rename_i hz
          simp only [Prod.mk.injEq] at h
          exact absurd (congrArg Prod.fst h.2) hz
      · rw [if_pos he] at h
        simp only [Prod.mk.injEq] at h
        exact absurd h.2.1 he
theorem lex_bracket {s : List UInt8} {ts : List Tok} {p : Nat} (h : lexAll s = (ts, 0, p)) (hl : s.length ≤ 398) : ∃ o ts' c, lexAll (40 :: (s ++ [41])) = (o :: (ts' ++ [c]), 0, 0) ∧ o.2.1.data.toList = [40] ∧ c.2.1.data.toList = [41] ∧ Tx ts' = Tx ts := by
  rw [lexAll, if_neg (by omega), lexS, lexA] at h
  split at h
  · rename_i hz
    obtain ⟨t2, e2, p2, hrec⟩ : ∃ t2 e2 p2, lexN (s.length + 1) (0 + goN blB s) (s.drop (goN blB s)) = (t2, e2, p2) := ⟨_, _, _, rfl⟩
    rw [hrec] at h hz
    simp only at h hz
    subst hz
    simp only [List.nil_append, Prod.mk.injEq] at h
    obtain ⟨rfl, _, _⟩ := h
    have hle := goN_le blB s
    obtain ⟨ts', c, h1, h2, h3⟩ := lexN_ext _ _ _ t2 p2 (by rw [List.length_drop]; omega) hrec (s.length + 2) (0 + 1 + goN blB s) (by rw [List.length_drop]; omega)
    refine ⟨(4, ⟨#[40]⟩, 0), ts', c, ?_, rfl, h3, h2⟩
    have hlen : (40 :: (s ++ [41])).length + 1 = s.length + 2 + 1 := by simp
    have ht : tokAt (40 :: (s ++ [41])) = (4, 1, 0) := sgn_par 40 _ (.inl rfl)
    rw [lexAll, if_neg (by simp; omega), hlen, lexS_no _ _ _ _ rfl, lexA_tok _ _ _ _ (by simp) ht]
    simp only [List.drop_succ_cons, List.drop_zero, List.nil_append]
    rw [lexS, lexA, goN_ext (by decide), List.drop_append_of_le_length hle, h1]
    rfl
  · rename_i hz
    simp only [Prod.mk.injEq] at h
    exact absurd (congrArg Prod.fst h.2) hz
end Go.Proofs.YtnpinbpjfngknaaGreatDoor
namespace Go.Proofs.YtnpinbpjfngknaaGreatDoor
set_option linter.unusedVariables false

/-- What follows is nothing, or a bracket that shuts. -/
def StX (X : List Tok) : Prop := X = [] ∨ ∃ c q, X = c :: q ∧ c.2.1.data.toList = [41]
/-- A question that is about a word's text alone. -/
def PT (P : Tok → Bool) : Prop := ∀ t t' : Tok, t'.2.1.data.toList = t.2.1.data.toList → P t' = P t
theorem pt_sg (gs : List (List UInt8)) : PT (sgT gs) := fun t t' h => by rw [sgT, sgT, h]
theorem arr_eq {a b : ByteArray} (h : a.data.toList = b.data.toList) : a = b := by
  apply ByteArray.ext
  exact Array.toList_inj.1 h
theorem pt_vl : PT vlT := fun t t' h => by rw [vlT, vlT, arr_eq h]
theorem pt_nm : PT nmT := fun t t' h => by rw [nmT, nmT, h]
theorem nx_some {P : Tok → Bool} (hP : PT P) {ts r ts' X : List Tok} {t : Tok} (h : nxT P ts = some (t, r)) (ht : Tx ts' = Tx ts) : ∃ t' r', ts' = t' :: r' ∧ nxT P (ts' ++ X) = some (t', r' ++ X) ∧ t'.2.1.data.toList = t.2.1.data.toList ∧ Tx r' = Tx r := by
  obtain ⟨h1, h2⟩ := nxT_len h
  subst h1
  obtain ⟨t', r', rfl, e1, e2⟩ := Tx_cons ht
  refine ⟨t', r', rfl, ?_, e1, e2⟩
  rw [List.cons_append, nxT, if_pos (by rw [hP t t' e1]; exact h2)]
theorem nx_none {P : Tok → Bool} (hP : PT P) {ts ts' X : List Tok} (h : nxT P ts = none) (ht : Tx ts' = Tx ts) (hX : nxT P X = none) : nxT P (ts' ++ X) = none := by
  cases ts with
  | nil => rw [Tx_nil (ht.trans rfl)]; exact hX
  | cons t r =>
    obtain ⟨t', r', rfl, e1, e2⟩ := Tx_cons ht
    rw [nxT] at h
    split at h
    · simp at h
    · rename_i hp
      rw [List.cons_append, nxT, if_neg (by rw [hP t t' e1]; exact hp)]
theorem st_sg {X : List Tok} (h : StX X) {gs : List (List UInt8)} (hg : [41] ∉ gs) : nxT (sgT gs) X = none := by
  rcases h with rfl | ⟨c, q, rfl, hc⟩
  · rfl
  · rw [nxT, if_neg]
    intro e
    exact hg (by have := sg_mem e; rwa [hc] at this)
theorem st_vl {X : List Tok} (h : StX X) : nxT vlT X = none := by
  rcases h with rfl | ⟨c, q, rfl, hc⟩
  · rfl
  · have := noval (s := c.2.1) (c := 41) (r := []) hc (by decide) (by decide) (by rw [hc]; decide) (by rw [hc]; decide)
    rw [nxT, if_neg (by simpa [vlT] using this)]
theorem st_nm {X : List Tok} (h : StX X) : nxT nmT X = none := by
  rcases h with rfl | ⟨c, q, rfl, hc⟩
  · rfl
  · rw [nxT, if_neg (by rw [nmT, hc]; decide)]
/-- What is read of some words is read of the same ones, whatever of that follows. -/
def Rel (X : List Tok) (sub sub' : List Tok → Option Ex × List Tok) : Prop := ∀ ts e r, sub ts = (some e, r) → ∀ ts', Tx ts' = Tx ts → ∃ e' r', sub' (ts' ++ X) = (some e', r' ++ X) ∧ Tx r' = Tx r ∧ sameE false e' e = true
theorem same_bet {a b a' b' : Ex} {t t' : Tok} (ht : t'.2.1.data.toList = t.2.1.data.toList) (ha : sameE false a' a = true) (hb : sameE false b' b = true) : sameE false (betT a' t' b') (betT a t b) = true :=
  same_mk ht rfl rfl rfl rfl (by rw [sameL, ha, sameL, hb, sameL]; rfl)
theorem Tx_len {a b : List Tok} (h : Tx a = Tx b) : a.length = b.length := by
  have := congrArg List.length h
  simpa [Tx] using this
theorem uLoop_rel {X : List Tok} (hX : StX X) {sub sub' : List Tok → Option Ex × List Tok} (hR : Rel X sub sub') (hf : Suf sub) (gs : List (List UInt8)) (hg : [41] ∉ gs) : ∀ (k : Nat) (e : Ex) (ts : List Tok) (y : Ex) (r : List Tok), ts.length < k → uLoop sub gs k e ts = (some y, r) → ∀ (k' : Nat) (e' : Ex) (ts' : List Tok), Tx ts' = Tx ts → sameE false e' e = true → (ts' ++ X).length < k' → ∃ y' r', uLoop sub' gs k' e' (ts' ++ X) = (some y', r' ++ X) ∧ Tx r' = Tx r ∧ sameE false y' y = true
  | 0, e, ts, y, r, hl, _ => by omega
  | k + 1, e, ts, y, r, hl, h => by
    intro k' e' ts' ht he hk'
    obtain ⟨g, rfl⟩ : ∃ g, k' = g + 1 := ⟨k' - 1, by omega⟩
    rw [uLoop] at h
    cases hn : nxT (sgT gs) ts with
    | none =>
      rw [hn] at h
      simp only [Prod.mk.injEq, Option.some.injEq] at h
      obtain ⟨rfl, rfl⟩ := h
      refine ⟨e', ts', ?_, ht, he⟩
      rw [uLoop, nx_none (pt_sg gs) hn ht (st_sg hX hg)]
    | some q =>
      obtain ⟨t, r1⟩ := q
      rw [hn] at h
      obtain ⟨t', r1', rfl, h2, h3, h4⟩ := nx_some (X := X) (pt_sg gs) hn ht
      have h1 := (nxT_len hn).1
      subst h1
      simp only at h
      have h6 := hf r1
      cases h5 : sub r1 with
      | mk o r2 =>
        rw [h5] at h h6
        cases o with
        | none => simp at h
        | some b =>
          simp only at h h6
          obtain ⟨b', r2', e1, e2, e3⟩ := hR r1 b r2 h5 r1' h4
          have l1 := h6.length_le
          have l2 := Tx_len e2
          have l3 := Tx_len h4
          simp only [List.length_cons, List.cons_append, List.length_append] at hl hk'
          obtain ⟨y', r', g1, g2, g3⟩ := uLoop_rel hX hR hf gs hg k (betT e t b) r2 y r (by omega) h g (betT e' t' b') r2' e2 (same_bet h3 he e3) (by rw [List.length_append]; omega)
          refine ⟨y', r', ?_, g2, g3⟩
          rw [uLoop, h2]
          simp only
          rw [e1]
          exact g1
theorem uSev_rel {X : List Tok} (hX : StX X) {sub sub' : List Tok → Option Ex × List Tok} (hR : Rel X sub sub') (hf : Suf sub) (gs : List (List UInt8)) (hg : [41] ∉ gs) : Rel X (uSev sub gs) (uSev sub' gs) := by
  intro ts y r h ts' ht
  rw [uSev] at h
  cases h3 : sub ts with
  | mk o r1 =>
    rw [h3] at h
    cases o with
    | none => simp at h
    | some e =>
      simp only at h
      obtain ⟨e', r1', e1, e2, e3⟩ := hR ts e r1 h3 ts' ht
      obtain ⟨y', r', g1, g2, g3⟩ := uLoop_rel hX hR hf gs hg (r1.length + 1) e r1 y r (by omega) h ((r1' ++ X).length + 1) e' r1' e2 e3 (by omega)
      refine ⟨y', r', ?_, g2, g3⟩
      rw [uSev, e1]
      exact g1
theorem uAhead_rel {X : List Tok} (hX : StX X) {sub sub' oth oth' : List Tok → Option Ex × List Tok} (hR : Rel X sub sub') (hO : Rel X oth oth') (op : List UInt8) (gs : List (List UInt8)) (hg : [41] ∉ gs) : Rel X (uAhead op gs sub oth) (uAhead op gs sub' oth') := by
  intro ts y r h ts' ht
  rw [uAhead] at h
  cases hn : nxT (sgT gs) ts with
  | none =>
    rw [hn] at h
    obtain ⟨e', r', h1, h2, h3⟩ := hO ts y r h ts' ht
    refine ⟨e', r', ?_, h2, h3⟩
    rw [uAhead, nx_none (pt_sg gs) hn ht (st_sg hX hg)]
    exact h1
  | some q =>
    obtain ⟨t, r1⟩ := q
    rw [hn] at h
    obtain ⟨t', r1', rfl, h2, h3, h4⟩ := nx_some (X := X) (pt_sg gs) hn ht
    simp only at h
    cases h5 : sub r1 with
    | mk o r2 =>
      rw [h5] at h
      cases o with
      | none => simp at h
      | some b =>
        simp only [Prod.mk.injEq, Option.some.injEq] at h
        obtain ⟨rfl, rfl⟩ := h
        obtain ⟨b', r2', e1, e2, e3⟩ := hR r1 b r2 h5 r1' h4
        refine ⟨op1 op (t'.2.2 : Int) [b'], r2', ?_, e2, same_mk rfl rfl rfl rfl rfl (by rw [sameL, e3, sameL]; rfl)⟩
        rw [uAhead, h2]
        simp only
        rw [e1]
theorem uCmp_rel {X : List Tok} (hX : StX X) {sub sub' : List Tok → Option Ex × List Tok} (hR : Rel X sub sub') : Rel X (uCmp sub) (uCmp sub') := by
  intro ts y r h ts' ht
  rw [uCmp] at h
  cases h3 : sub ts with
  | mk o r1 =>
    rw [h3] at h
    cases o with
    | none => simp at h
    | some e =>
      simp only at h
      obtain ⟨e', r1', e1, e2, e3⟩ := hR ts e r1 h3 ts' ht
      cases hn : nxT (sgT cmpL) r1 with
      | none =>
        rw [hn] at h
        simp only [Prod.mk.injEq, Option.some.injEq] at h
        obtain ⟨rfl, rfl⟩ := h
        refine ⟨e', r1', ?_, e2, e3⟩
        rw [uCmp, e1]
        simp only
        rw [nx_none (pt_sg cmpL) hn e2 (st_sg hX (by decide))]
      | some q =>
        obtain ⟨t, r2⟩ := q
        rw [hn] at h
        obtain ⟨t', r2', rfl, h2, h4, h5⟩ := nx_some (X := X) (pt_sg cmpL) hn e2
        simp only at h
        cases h6 : sub r2 with
        | mk o r3 =>
          rw [h6] at h
          cases o with
          | none => simp at h
          | some b =>
            simp only [Prod.mk.injEq, Option.some.injEq] at h
            obtain ⟨rfl, rfl⟩ := h
            obtain ⟨b', r3', g1, g2, g3⟩ := hR r2 b r3 h6 r2' h5
            refine ⟨betT e' t' b', r3', ?_, g2, same_bet h4 e3 g3⟩
            rw [uCmp, e1]
            simp only
            rw [h2]
            simp only
            rw [g1]
theorem sameL_app : ∀ {l m : List Ex} {a b : Ex}, sameL false l m = true → sameE false a b = true → sameL false (l ++ [a]) (m ++ [b]) = true
  | [], [], a, b, _, h => by rw [List.nil_append, List.nil_append, sameL, h, sameL]; rfl
  | [], _ :: _, a, b, h, _ => by simp [sameL] at h
  | _ :: _, [], a, b, h, _ => by simp [sameL] at h
  | x :: xs, y :: ys, a, b, h, h2 => by
    rw [sameL, Bool.and_eq_true] at h
    rw [List.cons_append, List.cons_append, sameL, h.1, sameL_app h.2 h2]
    rfl
theorem uBr_rel {X : List Tok} {sub sub' : List Tok → Option Ex × List Tok} (hR : Rel X sub sub') : ∀ (k : Nat) (acc acc' : List Ex) (ts : List Tok) (l : List Ex) (r : List Tok), sameL false acc' acc = true → uBr sub k acc ts = (some l, r) → ∀ ts', Tx ts' = Tx ts → ∃ l' r', uBr sub' k acc' (ts' ++ X) = (some l', r' ++ X) ∧ Tx r' = Tx r ∧ sameL false l' l = true
  | 0, acc, acc', ts, l, r, ha, h => by
    intro ts' ht
    rw [uBr] at h
    cases hn : nxT (sgT [[41]]) ts with
    | none => rw [hn] at h; simp at h
    | some q =>
      obtain ⟨t, r1⟩ := q
      rw [hn] at h
      simp only [Prod.mk.injEq, Option.some.injEq] at h
      obtain ⟨rfl, rfl⟩ := h
      obtain ⟨t', r1', rfl, h2, h3, h4⟩ := nx_some (X := X) (pt_sg [[41]]) hn ht
      refine ⟨acc', r1', ?_, h4, ha⟩
      rw [uBr, h2]
  | k + 1, acc, acc', ts, l, r, ha, h => by
    intro ts' ht
    rw [uBr] at h
    have hlen : acc'.length = acc.length := (sameL_all ha).1
    cases hn : nxT (sgT [if acc.length = 0 then [40] else [44]]) ts with
    | none => rw [hn] at h; simp at h
    | some q =>
      obtain ⟨t, r1⟩ := q
      rw [hn] at h
      obtain ⟨t', r1', rfl, h2, h3, h4⟩ := nx_some (X := X) (pt_sg _) hn ht
      simp only at h
      cases h5 : sub r1 with
      | mk o r2 =>
        rw [h5] at h
        cases o with
        | none => simp at h
        | some e =>
          simp only at h
          obtain ⟨e', r2', g1, g2, g3⟩ := hR r1 e r2 h5 r1' h4
          obtain ⟨l', r', f1, f2, f3⟩ := uBr_rel hR k (acc ++ [e]) (acc' ++ [e']) r2 l r (sameL_app ha g3) h r2' g2
          refine ⟨l', r', ?_, f2, f3⟩
          rw [uBr, hlen, h2]
          simp only
          rw [g1]
          exact f1
theorem uOne_rel {X : List Tok} (hX : StX X) {sub sub' : List Tok → Option Ex × List Tok} (hR : Rel X sub sub') : Rel X (uOne sub) (uOne sub') := by
  intro ts y r h ts' ht
  cases hn : nxT (sgT lenIf) ts with
  | some q =>
    obtain ⟨t, r1⟩ := q
    rw [uOne_call hn] at h
    obtain ⟨t', r1', rfl, h2, h3, h4⟩ := nx_some (X := X) (pt_sg lenIf) hn ht
    have hm : manyT t' = manyT t := by rw [manyT, manyT, h3]
    cases h5 : uBr sub (manyT t) [] r1 with
    | mk o r2 =>
      rw [h5] at h
      cases o with
      | none => simp at h
      | some l =>
        simp only [Option.map_some, Prod.mk.injEq, Option.some.injEq] at h
        obtain ⟨rfl, rfl⟩ := h
        obtain ⟨l', r', g1, g2, g3⟩ := uBr_rel hR (manyT t) [] [] r1 l r2 (by rw [sameL]) h5 r1' h4
        refine ⟨.node t'.2.1 ⟨#[]⟩ 0 0 ⟨#[]⟩ (t'.2.2 : Int) l', r', ?_, g2, same_mk h3 rfl rfl rfl rfl g3⟩
        rw [uOne_call h2, hm, g1]
        rfl
  | none =>
    have n1 := nx_none (X := X) (pt_sg lenIf) hn ht (st_sg hX (by decide))
    cases hv : nxT vlT ts with
    | some q =>
      obtain ⟨t, r1⟩ := q
      rw [uOne_val hn hv] at h
      simp only [Prod.mk.injEq, Option.some.injEq] at h
      obtain ⟨rfl, rfl⟩ := h
      obtain ⟨t', r1', rfl, h2, h3, h4⟩ := nx_some (X := X) pt_vl hv ht
      refine ⟨valE t', r1', uOne_val n1 h2, h4, ?_⟩
      rw [valE, valE, arr_eq h3]
      exact same_mk rfl rfl rfl rfl rfl (by rw [sameL])
    | none =>
      have n2 := nx_none (X := X) pt_vl hv ht (st_vl hX)
      cases hc : nxT nmT ts with
      | some q =>
        obtain ⟨t, r1⟩ := q
        rw [uOne_col hn hv hc] at h
        simp only [Prod.mk.injEq, Option.some.injEq] at h
        obtain ⟨rfl, rfl⟩ := h
        obtain ⟨t', r1', rfl, h2, h3, h4⟩ := nx_some (X := X) pt_nm hc ht
        refine ⟨colE1 t', r1', uOne_col n1 n2 h2, h4, ?_⟩
        rw [colE1, colE1]
        exact same_mk rfl h3 rfl rfl rfl (by rw [sameL])
      | none =>
        have n3 := nx_none (X := X) pt_nm hc ht (st_nm hX)
        rw [uOne_br hn hv hc] at h
        cases h5 : uBr sub 1 [] ts with
        | mk o r2 =>
          rw [h5] at h
          cases o with
          | none => simp at h
          | some l =>
            obtain ⟨l', r', g1, g2, g3⟩ := uBr_rel hR 1 [] [] ts l r2 (by rw [sameL]) h5 ts' ht
            simp only [Option.bind_some, Prod.mk.injEq] at h
            obtain ⟨h6, rfl⟩ := h
            obtain ⟨e1, e2⟩ := sameL_all g3
            cases l with
            | nil => simp at h6
            | cons x xs =>
              cases l' with
              | nil => simp at e1
              | cons x' xs' =>
                simp only [List.head?_cons, Option.some.injEq] at h6
                subst h6
                refine ⟨x', r', ?_, g2, e2 0 (by simp) (by simp)⟩
                rw [uOne_br n1 n2 n3, g1]
                rfl
theorem uE_rel {X : List Tok} (hX : StX X) : ∀ (f f' lv : Nat), f ≤ f' → Rel X (uE f lv) (uE f' lv)
  | 0, f', lv, _ => fun ts e r h => by rw [uE] at h; simp at h
  | f + 1, f', lv, hf => by
    obtain ⟨g, rfl⟩ : ∃ g, f' = g + 1 := ⟨f' - 1, by omega⟩
    have ih := fun lv => uE_rel hX f g lv (by omega)
    have hs := fun lv => uE_suf f lv
    have hlv : lv = 0 ∨ lv = 1 ∨ lv = 2 ∨ lv = 3 ∨ lv = 4 ∨ lv = 5 ∨ lv = 6 ∨ ∃ m, lv = m + 7 := by
      rcases Nat.lt_or_ge lv 7 with h | h
      · omega
      · exact .inr (.inr (.inr (.inr (.inr (.inr (.inr ⟨lv - 7, by omega⟩))))))
    rcases hlv with rfl | rfl | rfl | rfl | rfl | rfl | rfl | ⟨m, rfl⟩
    · exact uSev_rel hX (ih 1) (hs 1) _ (by decide)
    · exact uSev_rel hX (ih 2) (hs 2) _ (by decide)
    · exact uAhead_rel hX (ih 2) (ih 3) _ _ (by decide)
    · exact uCmp_rel hX (ih 4)
    · exact uSev_rel hX (ih 5) (hs 5) _ (by decide)
    · exact uSev_rel hX (ih 6) (hs 6) _ (by decide)
    · exact uAhead_rel hX (ih 6) (ih 7) _ _ (by decide)
    · exact uOne_rel hX (ih 0)
/-- More brackets change nothing. -/
theorem parse_bracket {s : List UInt8} {x : Ex} {p : Nat} (h : parseP s = (x, 0, p)) (hl : s.length ≤ 398) : ∃ e, parseP (40 :: (s ++ [41])) = (e, 0, 0) ∧ sameE false e x = true := by
  rw [parseP] at h
  split at h
  · rename_i h0
    simp only [Prod.mk.injEq] at h
    exact absurd h.2.1 h0
  · rename_i h0
    have hlx : lexAll s = ((lexAll s).1, 0, (lexAll s).2.2) := by
      have : (lexAll s).2.1 = 0 := by simpa using h0
      rw [← this]
    split at h
    · rename_i y hr
      split at h
      · simp at h
      · rename_i htg
        simp only [Prod.mk.injEq] at h
        obtain ⟨rfl, _, _⟩ := h
        obtain ⟨o, ts', c, h1, h2, h3, h4⟩ := lex_bracket hlx hl
        have hlen := Tx_len h4
        rw [readE] at hr
        obtain ⟨e, r', g1, g2, g3⟩ := uE_rel (X := [c]) (.inr ⟨c, [], rfl, h3⟩) _ ((ts'.length + 2) * 8) 0 (by omega) _ _ _ hr ts' h4
        obtain rfl := Tx_nil (g2.trans rfl)
        rw [List.nil_append] at g1
        have h5 := one_br h2 h3 g1
        have hm : nxT (sgT [[45]]) (o :: (ts' ++ [c])) = none := by simp [nxT, sgT, h2]
        have hn : nxT (sgT [[110, 111, 116]]) (o :: (ts' ++ [c])) = none := by simp [nxT, sgT, h2]
        have h6 := uE_lift 7 _ 0 (by omega) h5 (fun k _ _ => cnd_nil hm hn k)
        refine ⟨e, ?_, g3⟩
        have hread : readE (o :: (ts' ++ [c])) = (some e, []) := by
          rw [readE, show (o :: (ts' ++ [c])).length * 8 + 8 = (ts'.length + 2) * 8 + 1 + 7 by simp]
          exact h6
        rw [parseP, h1]
        simp only
        rw [if_neg (by decide), hread]
        simp only
        rw [if_neg (by rw [same_tg g3]; exact htg)]
    · simp at h
end Go.Proofs.YtnpinbpjfngknaaGreatDoor
