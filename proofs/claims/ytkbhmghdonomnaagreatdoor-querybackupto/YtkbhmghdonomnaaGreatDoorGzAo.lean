/-
  TreeRt, TreeRu, TreeRv, LexPure2, TreeLx, TreeLy, in one text.
-/
import Derived.Test.YtkbhmghdonomnaaGreatDoorGzAn
import Derived.Test.YtkbhmghdonomnaaGreatDoorGzAd
import Derived.Test.YtkbhmghdonomnaaGreatDoorZTreeSm
import Derived.Test.YtkbhmghdonomnaaGreatDoorGzAb
import Derived.Test.YtkbhmghdonomnaaGreatDoorGzAc
namespace Go.Proofs.YtkbhmghdonomnaaGreatDoor
set_option linter.unusedVariables false
def tkI (sep : List UInt8) : List (List (List UInt8)) → List (List UInt8)
 | [] => []
 | [t] => t
 | t :: u :: ts => t ++ sep :: tkI sep (u :: ts)
mutual
/-- The words of an expression's text. -/
def tkP : Ex → List (List UInt8)
 | .node op nm vt vn vs _ l =>
  if op.data.toList = [118, 97, 108] then [prS vt vn vs.data.toList]
  else if op.data.toList = [99, 111, 108] then [nm.data.toList]
  else if op.data.toList = [108, 101, 110] ∨ op.data.toList = [105, 102] then op.data.toList :: [40] :: (tkI [44] (tksP l) ++ [[41]])
  else if op.data.toList = [110, 111, 116] then [40] :: [110, 111, 116] :: ((tksP l).headD [] ++ [[41]])
  else if op.data.toList = [110, 101, 103] then [40] :: [45] :: ((tksP l).headD [] ++ [[41]])
  else [40] :: (tkI op.data.toList (tksP l) ++ [[41]])
def tksP : List Ex → List (List (List UInt8))
 | [] => []
 | x :: xs => tkP x :: tksP xs
end
theorem tksP_map : ∀ l : List Ex, tksP l = l.map tkP
 | [] => by rw [tksP]; rfl
 | x :: xs => by rw [tksP, tksP_map xs]; rfl
def Tx (ts : List Tok) : List (List UInt8) := ts.map fun t => t.2.1.data.toList
theorem Tx_cons {ts : List Tok} {a : List UInt8} {B : List (List UInt8)} (h : Tx ts = a :: B) : ∃ t r, ts = t :: r ∧ t.2.1.data.toList = a ∧ Tx r = B := by
 cases ts with
 | nil => simp [Tx] at h
 | cons t r =>
  simp only [Tx, List.map_cons, List.cons.injEq] at h
  exact ⟨t, r, rfl, h.1, h.2⟩
theorem Tx_app {ts : List Tok} {A B : List (List UInt8)} (h : Tx ts = A ++ B) : ∃ a b, ts = a ++ b ∧ Tx a = A ∧ Tx b = B := by
 obtain ⟨a, b, h1, h2, h3⟩ := List.map_eq_append_iff.1 h
 exact ⟨a, b, h1, h2, h3⟩
def gsA : Nat → List (List UInt8)
 | 0 => [[111, 114]]
 | 1 => [[97, 110, 100]]
 | 3 => cmpL
 | 4 => [[43], [45]]
 | 5 => [[42], [47], [37]]
 | _ => []
def Cnd (ts r : List Tok) (L : Nat) : Prop := if L = 2 then nxT (sgT [[110, 111, 116]]) ts = none else if L = 6 then nxT (sgT [[45]]) ts = none else nxT (sgT (gsA L)) r = none
theorem uSev_stop {sub : List Tok → Option Ex × List Tok} {gs : List (List UInt8)} {ts r : List Tok} {e : Ex} (h : sub ts = (some e, r)) (hn : nxT (sgT gs) r = none) : uSev sub gs ts = (some e, r) := by
 rw [uSev, h]
 simp only
 rw [uLoop, hn]
theorem uSev_one {sub : List Tok → Option Ex × List Tok} {gs : List (List UInt8)} {ts r r2 : List Tok} {t : Tok} {a b : Ex} (h : sub ts = (some a, t :: r)) (ht : sgT gs t = true) (h2 : sub r = (some b, r2)) (hn : nxT (sgT gs) r2 = none) : uSev sub gs ts = (some (betT a t b), r2) := by
 rw [uSev, h]
 simp only
 rw [uLoop, nxT, if_pos ht]
 simp only
 rw [h2]
 simp only [List.length_cons]
 rw [uLoop, hn]
theorem uE_step {f L : Nat} {ts r : List Tok} {e : Ex} (hL : L < 7) (h : uE f (L + 1) ts = (some e, r)) (hc : Cnd ts r L) : uE (f + 1) L ts = (some e, r) := by
 have hL' : L = 0 ∨ L = 1 ∨ L = 2 ∨ L = 3 ∨ L = 4 ∨ L = 5 ∨ L = 6 := by omega
 rcases hL' with rfl | rfl | rfl | rfl | rfl | rfl | rfl
 ·rw [uE]; exact uSev_stop h hc
 ·rw [uE]; exact uSev_stop h hc
 ·rw [uE]
  rw [uAhead, show nxT (sgT [[110, 111, 116]]) ts = none from hc]
  exact h
 ·rw [uE]
  rw [uCmp, h]
  simp only
  rw [show nxT (sgT cmpL) r = none from hc]
 ·rw [uE]; exact uSev_stop h hc
 ·rw [uE]; exact uSev_stop h hc
 ·rw [uE]
  rw [uAhead, show nxT (sgT [[45]]) ts = none from hc]
  exact h
theorem uE_lift {ts r : List Tok} {e : Ex} : ∀ (d f L : Nat), L + d ≤ 7 → uE f (L + d) ts = (some e, r) → (∀ l, L ≤ l → l < L + d → Cnd ts r l) → uE (f + d) L ts = (some e, r)
 | 0, f, L, _, h, _ => h
 | d + 1, f, L, hL, h, hc => by
  have h1 := uE_lift d f (L + 1) (by omega) (by rw [show L + 1 + d = L + (d + 1) from by omega]; exact h) (fun l h1 h2 => hc l (by omega) (by omega))
  exact uE_step (by omega) h1 (hc L (Nat.le_refl _) (by omega))
theorem cnd_close {ts r : List Tok} {c : Tok} (hm : nxT (sgT [[45]]) ts = none) (hn : nxT (sgT [[110, 111, 116]]) ts = none) (hc : c.2.1.data.toList = [41] ∨ c.2.1.data.toList = [44]) (L : Nat) (hL : L < 7) : Cnd ts (c :: r) L := by
 have hL' : L = 0 ∨ L = 1 ∨ L = 2 ∨ L = 3 ∨ L = 4 ∨ L = 5 ∨ L = 6 := by omega
 rcases hL' with rfl | rfl | rfl | rfl | rfl | rfl | rfl
 ·simp only [Cnd, nxT, sgT, gsA]; rcases hc with h | h <;> rw [h] <;> rfl
 ·simp only [Cnd, nxT, sgT, gsA]; rcases hc with h | h <;> rw [h] <;> rfl
 ·exact hn
 ·simp only [Cnd, nxT, sgT, gsA, cmpL]; rcases hc with h | h <;> rw [h] <;> rfl
 ·simp only [Cnd, nxT, sgT, gsA]; rcases hc with h | h <;> rw [h] <;> rfl
 ·simp only [Cnd, nxT, sgT, gsA]; rcases hc with h | h <;> rw [h] <;> rfl
 ·exact hm
def lvO (op : List UInt8) : Nat := if op = [111, 114] then 0 else if op = [97, 110, 100] then 1 else if cmpL.contains op = true then 3 else if op = [43] ∨ op = [45] then 4 else 5
def bin14 : List (List UInt8) := [[111, 114], [97, 110, 100], [61], [60, 62], [60], [60, 61], [62], [62, 61], [43], [45], [42], [47], [37]]
theorem cnd_op {ts r : List Tok} {c : Tok} {op : List UInt8} (hm : nxT (sgT [[45]]) ts = none) (hn : nxT (sgT [[110, 111, 116]]) ts = none) (hop : op ∈ bin14) (hc : c.2.1.data.toList = op) (L : Nat) (hL : L < 7) (hlv : lvO op < L) : Cnd ts (c :: r) L := by
 have hL' : L = 0 ∨ L = 1 ∨ L = 2 ∨ L = 3 ∨ L = 4 ∨ L = 5 ∨ L = 6 := by omega
 simp only [bin14, List.mem_cons, List.not_mem_nil, or_false] at hop
 rcases hop with rfl | rfl | rfl | rfl | rfl | rfl | rfl | rfl | rfl | rfl | rfl | rfl | rfl
 all_goals
  rcases hL' with rfl | rfl | rfl | rfl | rfl | rfl | rfl
 all_goals
  first
  | exact hn
  | exact hm
  | exact absurd hlv (by decide)
  | (simp only [Cnd, nxT, sgT, gsA, cmpL]; rw [hc]; rfl)
theorem lvO_cases {op : List UInt8} (hop : op ∈ bin14) : (lvO op = 0 ∨ lvO op = 1 ∨ lvO op = 3 ∨ lvO op = 4 ∨ lvO op = 5) ∧ (gsA (lvO op)).contains op = true := by
 simp only [bin14, List.mem_cons, List.not_mem_nil, or_false] at hop
 rcases hop with rfl | rfl | rfl | rfl | rfl | rfl | rfl | rfl | rfl | rfl | rfl | rfl | rfl <;> decide
theorem uE_bin {f : Nat} {ta tb r : List Tok} {t c : Tok} {a b : Ex} {op : List UInt8} (hop : op ∈ bin14) (ht : t.2.1.data.toList = op) (hc : c.2.1.data.toList = [41] ∨ c.2.1.data.toList = [44])
  (ha : ∀ f', f ≤ f' → uE f' 7 (ta ++ t :: (tb ++ c :: r)) = (some a, t :: (tb ++ c :: r))) (hb : ∀ f', f ≤ f' → uE f' 7 (tb ++ c :: r) = (some b, c :: r))
  (hma : nxT (sgT [[45]]) (ta ++ t :: (tb ++ c :: r)) = none) (hna : nxT (sgT [[110, 111, 116]]) (ta ++ t :: (tb ++ c :: r)) = none)
  (hmb : nxT (sgT [[45]]) (tb ++ c :: r) = none) (hnb : nxT (sgT [[110, 111, 116]]) (tb ++ c :: r) = none) (g : Nat) (hg : f + 7 ≤ g) :
  uE g 0 (ta ++ t :: (tb ++ c :: r)) = (some (betT a t b), c :: r) := by
 obtain ⟨hl, hin⟩ := lvO_cases hop
 have hst : sgT (gsA (lvO op)) t = true := by
  rw [sgT, List.any_eq_true]
  refine ⟨op, by simpa using hin, ?_⟩
  rw [ht]; simp
 have hstop : nxT (sgT (gsA (lvO op))) (c :: r) = none := by
  have := cnd_close (r := r) hmb hnb hc (lvO op) (by omega)
  rw [Cnd, if_neg (by omega), if_neg (by omega)] at this
  exact this
 -- at the level of the sign, with fuel g - lvO
 have h1 : uE (g - lvO op - 1) (lvO op + 1) (ta ++ t :: (tb ++ c :: r)) = (some a, t :: (tb ++ c :: r)) := by
  have := uE_lift (7 - (lvO op + 1)) (g - lvO op - 1 - (7 - (lvO op + 1))) (lvO op + 1) (by omega) (by rw [show lvO op + 1 + (7 - (lvO op + 1)) = 7 from by omega]; exact ha _ (by omega)) (fun l h1 h2 => cnd_op hma hna hop ht l (by omega) (by omega))
  rwa [show g - lvO op - 1 - (7 - (lvO op + 1)) + (7 - (lvO op + 1)) = g - lvO op - 1 from by omega] at this
 have h2 : uE (g - lvO op - 1) (lvO op + 1) (tb ++ c :: r) = (some b, c :: r) := by
  have := uE_lift (7 - (lvO op + 1)) (g - lvO op - 1 - (7 - (lvO op + 1))) (lvO op + 1) (by omega) (by rw [show lvO op + 1 + (7 - (lvO op + 1)) = 7 from by omega]; exact hb _ (by omega)) (fun l h1 h2 => cnd_close hmb hnb hc l (by omega))
  rwa [show g - lvO op - 1 - (7 - (lvO op + 1)) + (7 - (lvO op + 1)) = g - lvO op - 1 from by omega] at this
 have h3 : uE (g - lvO op) (lvO op) (ta ++ t :: (tb ++ c :: r)) = (some (betT a t b), c :: r) := by
  rw [show g - lvO op = g - lvO op - 1 + 1 from by omega]
  generalize g - lvO op - 1 = q at h1 h2
  generalize lvO op = L at *
  rcases hl with rfl | rfl | rfl | rfl | rfl
  ·rw [uE]; exact uSev_one h1 hst h2 hstop
  ·rw [uE]; exact uSev_one h1 hst h2 hstop
  ·rw [uE, uCmp, h1]
   simp only
   rw [nxT, if_pos (show sgT cmpL t = true from hst)]
   simp only
   rw [h2]
  ·rw [uE]; exact uSev_one h1 hst h2 hstop
  ·rw [uE]; exact uSev_one h1 hst h2 hstop
 have h4 := uE_lift (lvO op) (g - lvO op) 0 (by omega) (by rw [Nat.zero_add]; exact h3) (fun l h1 h2 => cnd_close hma hna hc l (by omega))
 rwa [show g - lvO op + lvO op = g from by omega] at h4
theorem uE_not {f : Nat} {tb r : List Tok} {t c : Tok} {b : Ex} (ht : t.2.1.data.toList = [110, 111, 116]) (hc : c.2.1.data.toList = [41] ∨ c.2.1.data.toList = [44])
  (hb : ∀ f', f ≤ f' → uE f' 7 (tb ++ c :: r) = (some b, c :: r)) (hmb : nxT (sgT [[45]]) (tb ++ c :: r) = none) (hnb : nxT (sgT [[110, 111, 116]]) (tb ++ c :: r) = none) (g : Nat) (hg : f + 8 ≤ g) :
  uE g 0 (t :: (tb ++ c :: r)) = (some (op1 [110, 111, 116] (t.2.2 : Int) [b]), c :: r) := by
 have h1 : uE (g - 3) 2 (tb ++ c :: r) = (some b, c :: r) := by
  have := uE_lift 5 (g - 8) 2 (by omega) (hb _ (by omega)) (fun l h1 h2 => cnd_close hmb hnb hc l (by omega))
  rwa [show g - 8 + 5 = g - 3 from by omega] at this
 have h2 : uE (g - 2) 2 (t :: (tb ++ c :: r)) = (some (op1 [110, 111, 116] (t.2.2 : Int) [b]), c :: r) := by
  rw [show g - 2 = g - 3 + 1 from by omega, uE, uAhead, nxT, if_pos (by simp [sgT, ht])]
  simp only
  rw [h1]
 have hstop : ∀ l, l < 2 → Cnd (t :: (tb ++ c :: r)) (c :: r) l := fun l hl => by
  have := cnd_close (ts := tb ++ c :: r) (r := r) hmb hnb hc l (by omega)
  rw [Cnd, if_neg (by omega), if_neg (by omega)] at this ⊢
  exact this
 have h3 := uE_lift 2 (g - 2) 0 (by omega) h2 (fun l h1 h2 => hstop l (by omega))
 rwa [show g - 2 + 2 = g from by omega] at h3
theorem uE_neg {f : Nat} {tb r : List Tok} {t c : Tok} {b : Ex} (ht : t.2.1.data.toList = [45]) (hc : c.2.1.data.toList = [41] ∨ c.2.1.data.toList = [44])
  (hb : ∀ f', f ≤ f' → uE f' 7 (tb ++ c :: r) = (some b, c :: r)) (hmb : nxT (sgT [[45]]) (tb ++ c :: r) = none) (hnb : nxT (sgT [[110, 111, 116]]) (tb ++ c :: r) = none) (g : Nat) (hg : f + 8 ≤ g) :
  uE g 0 (t :: (tb ++ c :: r)) = (some (op1 [110, 101, 103] (t.2.2 : Int) [b]), c :: r) := by
 have h1 : uE (g - 7) 6 (tb ++ c :: r) = (some b, c :: r) := by
  have := uE_lift 1 (g - 8) 6 (by omega) (hb _ (by omega)) (fun l h1 h2 => cnd_close hmb hnb hc l (by omega))
  rwa [show g - 8 + 1 = g - 7 from by omega] at this
 have h2 : uE (g - 6) 6 (t :: (tb ++ c :: r)) = (some (op1 [110, 101, 103] (t.2.2 : Int) [b]), c :: r) := by
  rw [show g - 6 = g - 7 + 1 from by omega, uE, uAhead, nxT, if_pos (by simp [sgT, ht])]
  simp only
  rw [h1]
 have hn2 : nxT (sgT [[110, 111, 116]]) (t :: (tb ++ c :: r)) = none := by simp [nxT, sgT, ht]
 have hstop : ∀ l, l < 6 → Cnd (t :: (tb ++ c :: r)) (c :: r) l := fun l hl => by
  by_cases h2 : l = 2
  ·subst h2; exact hn2
  ·have := cnd_close (ts := tb ++ c :: r) (r := r) hmb hnb hc l (by omega)
   rw [Cnd, if_neg h2, if_neg (by omega)] at this ⊢
   exact this
 have h3 := uE_lift 6 (g - 6) 0 (by omega) h2 (fun l h1 h2 => hstop l (by omega))
 rwa [show g - 6 + 6 = g from by omega] at h3
theorem node_all {op nm vs : ByteArray} {vt vn pos : Int} {l : List Ex} (h : nodeE (.node op nm vt vn vs pos l) = 0) :
  (op.data.toList = [99, 111, 108] → nameT nm.data.toList = true) ∧ (op.data.toList ≠ [99, 111, 108] → nm.data.toList = []) ∧ (op.data.toList ≠ [118, 97, 108] → vt = 0 ∧ vn = 0 ∧ vs.data.toList = []) ∧ (op.data.toList = [118, 97, 108] → ckV vt vn vs.data.toList = 0) := by
 have h1 : nodeE (.node op nm vt vn vs pos l) = nodeB (apL op.data.toList opsL).2 (op.toList == [99, 111, 108]) (nameT nm.data.toList) ((l.length : Int) != (apL op.data.toList opsL).1) (!(nm.toList == [])) (op.toList == [118, 97, 108]) (!((vt == 0) && ((vn == 0) && (vs.toList == [])))) (ckV vt vn vs.data.toList) := rfl
 rw [h1, nodeB, Lib.toList_data, Lib.toList_data, Lib.toList_data] at h
 by_cases g1 : (!(apL op.data.toList opsL).2 || ((op.data.toList == [99, 111, 108]) && !nameT nm.data.toList)) = true
 ·rw [if_pos g1] at h; exact absurd h (by decide)
 rw [if_neg g1] at h
 by_cases g2 : (((l.length : Int) != (apL op.data.toList opsL).1) || ((!(op.data.toList == [99, 111, 108]) && !(nm.data.toList == [])) || (!(op.data.toList == [118, 97, 108]) && !((vt == 0) && ((vn == 0) && (vs.data.toList == [])))))) = true
 ·rw [if_pos g2] at h; exact absurd h (by decide)
 rw [if_neg g2] at h
 simp only [Bool.not_eq_true, Bool.or_eq_false_iff, Bool.and_eq_false_iff, Bool.not_eq_false'] at g1 g2
 refine ⟨fun e => ?_, fun e => ?_, fun e => ?_, fun e => ?_⟩
 ·rcases g1.2 with g | g
  ·rw [e] at g; exact absurd g (by decide)
  ·exact g
 ·rcases g2.2.1 with g | g
  ·exact absurd (by simpa using g) e
  ·simpa using g
 ·rcases g2.2.2 with g | g
  ·exact absurd (by simpa using g) e
  ·simpa using g
 ·rw [if_pos (by simpa using e)] at h
  exact h
theorem noval {s : ByteArray} {c : UInt8} {r : List UInt8} (h : s.data.toList = c :: r) (h39 : c ≠ 39) (hc : ¬ (c.toNat = 45 ∨ 48 ≤ c.toNat ∧ c.toNat ≤ 57)) (ht : s.data.toList ≠ [116, 114, 117, 101]) (hf : s.data.toList ≠ [102, 97, 108, 115, 101]) : (readV s).2.2.2 ≠ 0 := by
 have hp : ¬ Lib.hasPrefix s.data.toList [39] = true := by
  intro e
  have := (hasPre_len e).2
  rw [h] at this
  simp at this
  exact h39 this
 rw [readV, if_neg ht, if_neg hf, if_neg hp]
 split
 ·split
  ·rename_i n _ e
   obtain ⟨c', r', e', hh⟩ := itoa_head n
   rw [e', h] at e
   injection e with e _
   subst e
   exact absurd hh hc
  ·decide
 ·decide
theorem letB_num {c : UInt8} (h : letB c = true) : 97 ≤ c.toNat ∧ c.toNat ≤ 122 := by
 simp only [letB, Bool.and_eq_true, decide_eq_true_eq] at h
 omega
theorem name_noval {s : ByteArray} (h : nameT s.data.toList = true) : (readV s).2.2.2 ≠ 0 := by
 have h0 := h
 simp only [nameT, lettersB, Bool.and_eq_true, decide_eq_true_eq, Bool.not_eq_true'] at h
 obtain ⟨⟨⟨h1, _⟩, h2⟩, h3⟩ := h
 have hne : ∀ w ∈ wordsL, s.data.toList ≠ w := fun w hw e => by
  rw [List.any_eq_false] at h3
  exact h3 w hw (by rw [e]; simp)
 cases hs : s.data.toList with
 | nil => exact absurd hs h1
 | cons c r =>
  rw [hs, List.all_cons, Bool.and_eq_true] at h2
  have hc := letB_num h2.1
  refine noval hs (fun e => ?_) (by omega) (hne _ (by decide)) (hne _ (by decide))
  subst e
  exact absurd hc.1 (by decide)
theorem uE_7 (f : Nat) (ts : List Tok) : uE (f + 1) 7 ts = uOne (uE f 0) ts := rfl
theorem one_br {f : Nat} {cs r : List Tok} {o c : Tok} {e : Ex} (ho : o.2.1.data.toList = [40]) (hc : c.2.1.data.toList = [41]) (h : uE f 0 cs = (some e, c :: r)) : uE (f + 1) 7 (o :: cs) = (some e, r) := by
 have hv : vlT o = false := by
  have := noval (s := o.2.1) (c := 40) (r := []) ho (by decide) (by decide) (by rw [ho]; decide) (by rw [ho]; decide)
  simpa [vlT] using this
 have hn : nmT o = false := by rw [nmT, ho]; decide
 rw [uE_7, uOne, nxT, if_neg (by simp [sgT, ho])]
 simp only
 rw [nxT, if_neg (by simp [hv])]
 simp only
 rw [nxT, if_neg (by simp [hn])]
 simp only
 rw [uBr, nxT, if_pos (by simp [sgT, ho])]
 simp only
 rw [h]
 simp only
 rw [uBr, nxT, if_pos (by simp [sgT, hc])]
 rfl
theorem call1 {f : Nat} {cs r : List Tok} {t o c : Tok} {e : Ex} (ht : t.2.1.data.toList = [108, 101, 110]) (ho : o.2.1.data.toList = [40]) (hc : c.2.1.data.toList = [41]) (h : uE f 0 cs = (some e, c :: r)) : uE (f + 1) 7 (t :: o :: cs) = (some (.node t.2.1 ⟨#[]⟩ 0 0 ⟨#[]⟩ (t.2.2 : Int) [e]), r) := by
 rw [uE_7, uOne, nxT, if_pos (by simp [sgT, ht])]
 simp only
 rw [if_pos ht, uBr, nxT, if_pos (by simp [sgT, ho])]
 simp only
 rw [h]
 simp only
 rw [uBr, nxT, if_pos (by simp [sgT, hc])]
 rfl
theorem call3 {f : Nat} {cs c2 c3 r : List Tok} {t o m1 m2 c : Tok} {e1 e2 e3 : Ex} (ht : t.2.1.data.toList = [105, 102]) (ho : o.2.1.data.toList = [40]) (h1c : m1.2.1.data.toList = [44]) (h2c : m2.2.1.data.toList = [44]) (hc : c.2.1.data.toList = [41]) (h1 : uE f 0 cs = (some e1, m1 :: c2)) (h2 : uE f 0 c2 = (some e2, m2 :: c3)) (h3 : uE f 0 c3 = (some e3, c :: r)) : uE (f + 1) 7 (t :: o :: cs) = (some (.node t.2.1 ⟨#[]⟩ 0 0 ⟨#[]⟩ (t.2.2 : Int) [e1, e2, e3]), r) := by
 rw [uE_7, uOne, nxT, if_pos (by simp [sgT, ht])]
 simp only
 rw [if_neg (by rw [ht]; decide), uBr, nxT, if_pos (by simp [sgT, ho])]
 simp only
 rw [h1]
 simp only
 rw [uBr, nxT, if_pos (by simp [sgT, h1c])]
 simp only
 rw [h2]
 simp only
 rw [uBr, nxT, if_pos (by simp [sgT, h2c])]
 simp only
 rw [h3]
 simp only
 rw [uBr, nxT, if_pos (by simp [sgT, hc])]
 rfl
theorem same_mk {o n s o2 n2 s2 : ByteArray} {t k p t2 k2 p2 : Int} {l l2 : List Ex} (h1 : o.data.toList = o2.data.toList) (h2 : n.data.toList = n2.data.toList) (h3 : t = t2) (h4 : k = k2) (h5 : s.data.toList = s2.data.toList) (h6 : sameL false l l2 = true) : sameE false (.node o n t k s p l) (.node o2 n2 t2 k2 s2 p2 l2) = true := by
 rw [sameE]
 simp [Lib.toList_data, h1, h2, h3, h4, h5, h6]
def HdOk (L : List (List UInt8)) : Prop := ∃ h rest, L = h :: rest ∧ h ≠ [45] ∧ h ≠ [110, 111, 116]
theorem HdOk.none {L : List (List UInt8)} (h : HdOk L) {ts r : List Tok} (ht : Tx ts = L) : nxT (sgT [[45]]) (ts ++ r) = none ∧ nxT (sgT [[110, 111, 116]]) (ts ++ r) = none := by
 obtain ⟨a, rest, rfl, h1, h2⟩ := h
 obtain ⟨t, r', rfl, e, _⟩ := Tx_cons ht
 constructor
 ·simp [nxT, sgT, e, Ne.symm h1]
 ·simp [nxT, sgT, e, Ne.symm h2]
theorem ckV_ok {t n : Int} {l : List UInt8} (h : ckV t n l = 0) : chk t n l = 0 ∧ (t = 1 → 0 ≤ n) := by
 rw [ckV] at h
 by_cases h1 : chk t n l = 0
 ·rw [if_neg (by simpa using h1)] at h
  refine ⟨h1, fun e => ?_⟩
  by_cases h2 : n < 0
  ·rw [if_pos ⟨e, h2⟩] at h
   exact absurd h (by decide)
  ·omega
 ·rw [if_pos h1] at h
  exact absurd h h1
theorem shown_hd {t n : Int} {l : List UInt8} (h : ckV t n l = 0) : ∃ c r, shown t n l = c :: r ∧ ((48 ≤ c.toNat ∧ c.toNat ≤ 57) ∨ c = 116 ∨ c = 102 ∨ c = 39) := by
 obtain ⟨h1, h2⟩ := ckV_ok h
 rcases chk_type h1 with ⟨rfl, _⟩ | ⟨rfl, _, hb⟩ | ⟨rfl, rfl, _, _⟩
 ·rw [shown, if_pos rfl, Lib.itoa, if_neg (by have := h2 rfl; omega)]
  obtain ⟨c, r, e, hc⟩ := digits_head n.toNat n.toNat (Nat.le_refl _)
  exact ⟨c, r, e, .inl hc⟩
 ·rw [shown, if_neg (by decide), if_pos rfl]
  split
  ·exact ⟨_, _, rfl, .inr (.inl rfl)⟩
  ·exact ⟨_, _, rfl, .inr (.inr (.inl rfl))⟩
 ·rw [shown, if_neg (by decide), if_neg (by decide)]
  exact ⟨_, _, rfl, .inr (.inr (.inr rfl))⟩
theorem shown_ne {t n : Int} {l : List UInt8} (h : ckV t n l = 0) : shown t n l ≠ [45] ∧ shown t n l ≠ [110, 111, 116] ∧ shown t n l ≠ [108, 101, 110] ∧ shown t n l ≠ [105, 102] := by
 obtain ⟨c, r, e, hc⟩ := shown_hd h
 rw [e]
 refine ⟨fun q => ?_, fun q => ?_, fun q => ?_, fun q => ?_⟩ <;> (injection q with q _; subst q; revert hc; decide)
theorem name_ne {l : List UInt8} (h : nameT l = true) : (∀ w ∈ wordsL, l ≠ w) ∧ l ≠ [45] := by
 simp only [nameT, lettersB, Bool.and_eq_true, decide_eq_true_eq, Bool.not_eq_true'] at h
 obtain ⟨⟨⟨h1, _⟩, h2⟩, h3⟩ := h
 refine ⟨fun w hw e => ?_, fun e => ?_⟩
 ·rw [List.any_eq_false] at h3
  exact h3 w hw (by rw [e]; simp)
 ·rw [e] at h2
  exact absurd h2 (by decide)
theorem Tx_nil {ts : List Tok} (h : Tx ts = []) : ts = [] := by simpa [Tx] using h
theorem op_kinds {op : List UInt8} {n : Nat} (h1 : (apL op opsL).2 = true) (h2 : (n : Int) = (apL op opsL).1) (a1 : op ≠ [118, 97, 108]) (a2 : op ≠ [99, 111, 108]) :
  (op = [108, 101, 110] ∧ n = 1) ∨ (op = [105, 102] ∧ n = 3) ∨ (op = [110, 111, 116] ∧ n = 1) ∨ (op = [110, 101, 103] ∧ n = 1) ∨ (op ∈ bin14 ∧ n = 2 ∧ op ≠ [108, 101, 110] ∧ op ≠ [105, 102] ∧ op ≠ [110, 111, 116] ∧ op ≠ [110, 101, 103]) := by
 have key : ∀ l : List (List UInt8 × Int), (∀ o ∈ l, o.1 = op → (op = [108, 101, 110] ∧ o.2 = 1) ∨ (op = [105, 102] ∧ o.2 = 3) ∨ (op = [110, 111, 116] ∧ o.2 = 1) ∨ (op = [110, 101, 103] ∧ o.2 = 1) ∨ (op ∈ bin14 ∧ o.2 = 2 ∧ op ≠ [108, 101, 110] ∧ op ≠ [105, 102] ∧ op ≠ [110, 111, 116] ∧ op ≠ [110, 101, 103])) → (apL op l).2 = true → (op = [108, 101, 110] ∧ (apL op l).1 = 1) ∨ (op = [105, 102] ∧ (apL op l).1 = 3) ∨ (op = [110, 111, 116] ∧ (apL op l).1 = 1) ∨ (op = [110, 101, 103] ∧ (apL op l).1 = 1) ∨ (op ∈ bin14 ∧ (apL op l).1 = 2 ∧ op ≠ [108, 101, 110] ∧ op ≠ [105, 102] ∧ op ≠ [110, 111, 116] ∧ op ≠ [110, 101, 103]) := by
  intro l
  induction l with
  | nil => intro _ h; simp [apL] at h
  | cons o os ih =>
   intro ho h
   rw [apL] at h ⊢
   split
   ·rename_i e
    exact ho o (by simp) e
   ·rename_i e
    rw [if_neg e] at h
    exact ih (fun o' h' => ho o' (by simp [h'])) h
 have h3 := key opsL (fun o ho e => by
  simp only [opsL, List.mem_cons, List.not_mem_nil, or_false] at ho
  rcases ho with rfl | rfl | rfl | rfl | rfl | rfl | rfl | rfl | rfl | rfl | rfl | rfl | rfl | rfl | rfl | rfl | rfl | rfl | rfl
  ·exact absurd e.symm a1
  ·exact absurd e.symm a2
  all_goals
   simp only at e
   subst e
   decide) h1
 rw [← h2] at h3
 rcases h3 with ⟨a, b⟩ | ⟨a, b⟩ | ⟨a, b⟩ | ⟨a, b⟩ | ⟨a, b, c⟩
 ·exact .inl ⟨a, by omega⟩
 ·exact .inr (.inl ⟨a, by omega⟩)
 ·exact .inr (.inr (.inl ⟨a, by omega⟩))
 ·exact .inr (.inr (.inr (.inl ⟨a, by omega⟩)))
 ·exact .inr (.inr (.inr (.inr ⟨a, by omega, c⟩)))
theorem rt7 : ∀ (x : Ex) (d : Nat), (∀ q ∈ x.pre d, nodeE q.1 = 0) → (∀ q ∈ x.pre d, inI q.1.vn) → HdOk (tkP x) ∧ ∀ (ts r : List Tok), Tx ts = tkP x → ∃ x', sameE false x' x = true ∧ ∀ f, 8 * (tkP x).length ≤ f → uE f 7 (ts ++ r) = (some x', r) := by
 refine Ex.ind fun op nm vt vn vs pos l ih d hpre hin => ?_
 have hself := hpre (.node op nm vt vn vs pos l, d) (by rw [Ex.pre]; exact List.mem_cons_self ..)
 have hvn : inI vn := hin (.node op nm vt vn vs pos l, d) (by rw [Ex.pre]; exact List.mem_cons_self ..)
 have hsub : ∀ y ∈ l, ∀ q ∈ y.pre (d + 1), q ∈ (Ex.node op nm vt vn vs pos l).pre d := fun y hy q hq => by
  rw [Ex.pre]; exact List.mem_cons_of_mem _ (pres_mem hy q hq)
 have hI := fun y hy => ih y hy (d + 1) (fun q hq => hpre q (hsub y hy q hq)) (fun q hq => hin q (hsub y hy q hq))
 obtain ⟨ha1, ha2, _⟩ := node_ok hself
 have ha2' : (l.length : Int) = (apL op.data.toList opsL).1 := ha2
 have ha1' : (apL op.data.toList opsL).2 = true := ha1
 obtain ⟨hcol, hncol, hnval, hval⟩ := node_all hself
 clear ha1 ha2 hpre hin hsub ih hself
 rw [tkP, tksP_map]
 by_cases h1 : op.data.toList = [118, 97, 108]
 ·rw [if_pos h1]
  have hck := hval h1
  obtain ⟨hc0, _⟩ := ckV_ok hck
  obtain ⟨n1, n2, n3, n4⟩ := shown_ne hck
  rw [prS, if_pos hc0]
  have hl0 : l = [] := by
   rw [h1] at ha2'
   have : (l.length : Int) = 0 := ha2'
   exact List.length_eq_zero_iff.1 (by omega)
  subst hl0
  refine ⟨⟨_, _, rfl, n1, n2⟩, fun ts r hts => ?_⟩
  obtain ⟨t, r', rfl, ht, hr'⟩ := Tx_cons hts
  obtain rfl := Tx_nil hr'
  have hrd := read_shown vt vn vs.data.toList t.2.1 hvn hc0 ht
  refine ⟨valE t, ?_, fun f hf => ?_⟩
  ·rw [valE, hrd]
   exact same_mk (by rw [h1]) (by rw [hncol (by rw [h1]; decide)]) rfl rfl rfl (by rw [sameL])
  ·obtain ⟨g, rfl⟩ : ∃ g, f = g + 1 := ⟨f - 1, by simp at hf; omega⟩
   rw [uE_7, List.singleton_append, uOne, nxT, if_neg (by simp [sgT, ht, Ne.symm n3, Ne.symm n4])]
   simp only
   rw [nxT, if_pos (by simp [vlT, hrd])]
 rw [if_neg h1]
 obtain ⟨rfl, rfl, hvs0⟩ := hnval h1
 by_cases h2 : op.data.toList = [99, 111, 108]
 ·rw [if_pos h2]
  have hnm := hcol h2
  obtain ⟨n1, n2⟩ := name_ne hnm
  have hl0 : l = [] := by
   rw [h2] at ha2'
   have : (l.length : Int) = 0 := ha2'
   exact List.length_eq_zero_iff.1 (by omega)
  subst hl0
  refine ⟨⟨_, _, rfl, n2, n1 _ (by decide)⟩, fun ts r hts => ?_⟩
  obtain ⟨t, r', rfl, ht, hr'⟩ := Tx_cons hts
  obtain rfl := Tx_nil hr'
  have hnv := name_noval (s := t.2.1) (by rw [ht]; exact hnm)
  refine ⟨colE1 t, ?_, fun f hf => ?_⟩
  ·rw [colE1]
   exact same_mk (by rw [h2]) ht rfl rfl (by rw [hvs0]) (by rw [sameL])
  ·obtain ⟨g, rfl⟩ : ∃ g, f = g + 1 := ⟨f - 1, by simp at hf; omega⟩
   rw [uE_7, List.singleton_append, uOne, nxT, if_neg (by simp [sgT, ht, Ne.symm (n1 [108, 101, 110] (by decide)), Ne.symm (n1 [105, 102] (by decide))])]
   simp only
   rw [nxT, if_neg (by simp [vlT, hnv])]
   simp only
   rw [nxT, if_pos (by rw [nmT, ht]; exact hnm)]
 rw [if_neg h2]
 have hnm0 := hncol h2
 clear hcol hncol hnval hval hvn
 -- a part, up to the level of the whole
 have up : ∀ y ∈ l, ∀ (ts r : List Tok) (c : Tok), Tx ts = tkP y → (c.2.1.data.toList = [41] ∨ c.2.1.data.toList = [44]) → ∃ x', sameE false x' y = true ∧ ∀ f, 8 * (tkP y).length + 7 ≤ f → uE f 0 (ts ++ c :: r) = (some x', c :: r) := fun y hy ts r c hts hc => by
  obtain ⟨hh, hr⟩ := hI y hy
  obtain ⟨x', hs, hx'⟩ := hr ts (c :: r) hts
  obtain ⟨hm, hn⟩ := hh.none (r := c :: r) hts
  refine ⟨x', hs, fun f hf => ?_⟩
  have := uE_lift 7 (f - 7) 0 (by omega) (hx' _ (by omega)) (fun k h1 h2 => cnd_close hm hn hc k (by omega))
  rwa [show f - 7 + 7 = f from by omega] at this
 rcases op_kinds ha1' ha2' h1 h2 with ⟨ho, hl⟩ | ⟨ho, hl⟩ | ⟨ho, hl⟩ | ⟨ho, hl⟩ | ⟨ho, hl, o1, o2, o3, o4⟩
 ·obtain ⟨y, rfl⟩ := head_of hl
  rw [if_pos (.inl ho)]
  simp only [List.map_cons, List.map_nil, tkI]
  refine ⟨⟨_, _, rfl, by rw [ho]; decide, by rw [ho]; decide⟩, fun ts r hts => ?_⟩
  obtain ⟨t, r1, rfl, ht, hr1⟩ := Tx_cons hts
  obtain ⟨o, r2, rfl, hoo, hr2⟩ := Tx_cons hr1
  obtain ⟨ty, tc, rfl, hty, htc⟩ := Tx_app hr2
  obtain ⟨c, r3, rfl, hc, hr3⟩ := Tx_cons htc
  obtain rfl := Tx_nil hr3
  obtain ⟨y', hs, hy'⟩ := up y (by simp) ty r c hty (.inl hc)
  refine ⟨.node t.2.1 ⟨#[]⟩ 0 0 ⟨#[]⟩ (t.2.2 : Int) [y'], ?_, fun f hf => ?_⟩
  ·exact same_mk ht hnm0.symm rfl rfl hvs0.symm (by rw [sameL, hs, sameL]; rfl)
  ·simp only [List.length_cons, List.length_append, List.length_nil] at hf
   obtain ⟨g, rfl⟩ : ∃ g, f = g + 1 := ⟨f - 1, by omega⟩
   have := call1 (f := g) (by rw [ht]; exact ho) hoo hc (hy' g (by omega))
   simpa using this
 ·obtain ⟨y, z, u, rfl⟩ : ∃ y z u, l = [y, z, u] := by
   match l, hl with
   | [y, z, u], _ => exact ⟨y, z, u, rfl⟩
  rw [if_pos (.inr ho)]
  simp only [List.map_cons, List.map_nil, tkI]
  refine ⟨⟨_, _, rfl, by rw [ho]; decide, by rw [ho]; decide⟩, fun ts r hts => ?_⟩
  obtain ⟨t, r1, rfl, ht, hr1⟩ := Tx_cons hts
  obtain ⟨o, r2, rfl, hoo, hr2⟩ := Tx_cons hr1
  obtain ⟨tm, tc, rfl, htm, htc⟩ := Tx_app hr2
  obtain ⟨c, r3, rfl, hc, hr3⟩ := Tx_cons htc
  obtain rfl := Tx_nil hr3
  obtain ⟨ty, t2, rfl, hty, ht2⟩ := Tx_app htm
  obtain ⟨m1, t3, rfl, hm1, ht3⟩ := Tx_cons ht2
  obtain ⟨tz, t4, rfl, htz, ht4⟩ := Tx_app ht3
  obtain ⟨m2, tu, rfl, hm2, htu⟩ := Tx_cons ht4
  obtain ⟨y', sy, hy'⟩ := up y (by simp) ty (tz ++ m2 :: (tu ++ c :: r)) m1 hty (.inr hm1)
  obtain ⟨z', sz, hz'⟩ := up z (by simp) tz (tu ++ c :: r) m2 htz (.inr hm2)
  obtain ⟨u', su, hu'⟩ := up u (by simp) tu r c htu (.inl hc)
  refine ⟨.node t.2.1 ⟨#[]⟩ 0 0 ⟨#[]⟩ (t.2.2 : Int) [y', z', u'], ?_, fun f hf => ?_⟩
  ·exact same_mk ht hnm0.symm rfl rfl hvs0.symm (by rw [sameL, sy, sameL, sz, sameL, su, sameL]; rfl)
  ·simp only [List.length_cons, List.length_append, List.length_nil] at hf
   obtain ⟨g, rfl⟩ : ∃ g, f = g + 1 := ⟨f - 1, by omega⟩
   have := call3 (f := g) (by rw [ht]; exact ho) hoo hm1 hm2 hc (hy' g (by omega)) (hz' g (by omega)) (hu' g (by omega))
   simpa using this
 ·obtain ⟨y, rfl⟩ := head_of hl
  rw [if_neg (by rw [ho]; decide), if_pos ho]
  simp only [List.map_cons, List.map_nil, List.headD_cons]
  refine ⟨⟨_, _, rfl, by decide, by decide⟩, fun ts r hts => ?_⟩
  obtain ⟨o, r1, rfl, hoo, hr1⟩ := Tx_cons hts
  obtain ⟨t, r2, rfl, ht, hr2⟩ := Tx_cons hr1
  obtain ⟨ty, tc, rfl, hty, htc⟩ := Tx_app hr2
  obtain ⟨c, r3, rfl, hc, hr3⟩ := Tx_cons htc
  obtain rfl := Tx_nil hr3
  obtain ⟨hh, hrr⟩ := hI y (by simp)
  obtain ⟨y', sy, hy'⟩ := hrr ty (c :: r) hty
  obtain ⟨hm, hn⟩ := hh.none (r := c :: r) hty
  refine ⟨op1 [110, 111, 116] (t.2.2 : Int) [y'], ?_, fun f hf => ?_⟩
  ·exact same_mk (by rw [ho]) hnm0.symm rfl rfl hvs0.symm (by rw [sameL, sy, sameL]; rfl)
  ·simp only [List.length_cons, List.length_append, List.length_nil] at hf
   obtain ⟨g, rfl⟩ : ∃ g, f = g + 1 := ⟨f - 1, by omega⟩
   have := one_br hoo hc (uE_not (f := 8 * (tkP y).length) ht (.inl hc) hy' hm hn g (by omega))
   simpa using this
 ·obtain ⟨y, rfl⟩ := head_of hl
  rw [if_neg (by rw [ho]; decide), if_neg (by rw [ho]; decide), if_pos ho]
  simp only [List.map_cons, List.map_nil, List.headD_cons]
  refine ⟨⟨_, _, rfl, by decide, by decide⟩, fun ts r hts => ?_⟩
  obtain ⟨o, r1, rfl, hoo, hr1⟩ := Tx_cons hts
  obtain ⟨t, r2, rfl, ht, hr2⟩ := Tx_cons hr1
  obtain ⟨ty, tc, rfl, hty, htc⟩ := Tx_app hr2
  obtain ⟨c, r3, rfl, hc, hr3⟩ := Tx_cons htc
  obtain rfl := Tx_nil hr3
  obtain ⟨hh, hrr⟩ := hI y (by simp)
  obtain ⟨y', sy, hy'⟩ := hrr ty (c :: r) hty
  obtain ⟨hm, hn⟩ := hh.none (r := c :: r) hty
  refine ⟨op1 [110, 101, 103] (t.2.2 : Int) [y'], ?_, fun f hf => ?_⟩
  ·exact same_mk (by rw [ho]) hnm0.symm rfl rfl hvs0.symm (by rw [sameL, sy, sameL]; rfl)
  ·simp only [List.length_cons, List.length_append, List.length_nil] at hf
   obtain ⟨g, rfl⟩ : ∃ g, f = g + 1 := ⟨f - 1, by omega⟩
   have := one_br hoo hc (uE_neg (f := 8 * (tkP y).length) ht (.inl hc) hy' hm hn g (by omega))
   simpa using this
 ·obtain ⟨y, z, rfl⟩ : ∃ y z, l = [y, z] := by
   match l, hl with
   | [y, z], _ => exact ⟨y, z, rfl⟩
  rw [if_neg (fun h => h.elim o1 o2), if_neg o3, if_neg o4]
  simp only [List.map_cons, List.map_nil, tkI]
  refine ⟨⟨_, _, rfl, by decide, by decide⟩, fun ts r hts => ?_⟩
  obtain ⟨o, r1, rfl, hoo, hr1⟩ := Tx_cons hts
  obtain ⟨tm, tc, rfl, htm, htc⟩ := Tx_app hr1
  obtain ⟨c, r3, rfl, hc, hr3⟩ := Tx_cons htc
  obtain rfl := Tx_nil hr3
  obtain ⟨ty, t2, rfl, hty, ht2⟩ := Tx_app htm
  obtain ⟨t, tz, rfl, ht, htz⟩ := Tx_cons ht2
  obtain ⟨hy, hyr⟩ := hI y (by simp)
  obtain ⟨hz, hzr⟩ := hI z (by simp)
  obtain ⟨y', sy, hy'⟩ := hyr ty (t :: (tz ++ c :: r)) hty
  obtain ⟨z', sz, hz'⟩ := hzr tz (c :: r) htz
  obtain ⟨hma, hna⟩ := hy.none (r := t :: (tz ++ c :: r)) hty
  obtain ⟨hmb, hnb⟩ := hz.none (r := c :: r) htz
  refine ⟨betT y' t z', ?_, fun f hf => ?_⟩
  ·exact same_mk ht hnm0.symm rfl rfl hvs0.symm (by rw [sameL, sy, sameL, sz, sameL]; rfl)
  ·simp only [List.length_cons, List.length_append, List.length_nil] at hf
   obtain ⟨g, rfl⟩ : ∃ g, f = g + 1 := ⟨f - 1, by omega⟩
   have := one_br hoo hc (uE_bin (f := 8 * ((tkP y).length + (tkP z).length)) ho ht (.inl hc) (fun f' h => hy' f' (by omega)) (fun f' h => hz' f' (by omega)) hma hna hmb hnb g (by omega))
   simpa using this
end Go.Proofs.YtkbhmghdonomnaaGreatDoor
namespace Go.Proofs.YtkbhmghdonomnaaGreatDoor
--BEGIN
def sepB : List UInt8 → Bool
 | [] => true
 | c :: _ => blB c
theorem bl_cases {c : UInt8} (h : blB c = true) : c = 32 ∨ c = 10 := by
 simp only [blB, Bool.or_eq_true, decide_eq_true_eq] at h
 rcases h with h | h
 ·exact Or.inl (UInt8.toNat_inj.1 (by rw [show (32 : UInt8).toNat = 32 from rfl]; omega))
 ·exact Or.inr (UInt8.toNat_inj.1 (by rw [show (10 : UInt8).toNat = 10 from rfl]; omega))
theorem sep_hd (p : UInt8 → Bool) (h32 : p 32 = false) (h10 : p 10 = false) : ∀ r : List UInt8, sepB r = true → hdB p r = false
 | [], _ => rfl
 | c :: r, h => by
  rcases bl_cases h with rfl | rfl
  ·exact h32
  ·exact h10
theorem sign_again : ∀ g ∈ signsL, ∀ r : List UInt8, sepB r = true → sgN signsL (g ++ r) = g.length := by
 intro g hg r hr
 have key : r = [] ∨ (∃ q, r = 32 :: q) ∨ ∃ q, r = 10 :: q := by
  cases r with
  | nil => exact Or.inl rfl
  | cons c q =>
   rcases bl_cases hr with rfl | rfl
   ·exact Or.inr (Or.inl ⟨q, rfl⟩)
   ·exact Or.inr (Or.inr ⟨q, rfl⟩)
 simp only [signsL, List.mem_cons, List.not_mem_nil, or_false] at hg
 rcases key with rfl | ⟨q, rfl⟩ | ⟨q, rfl⟩ <;> rcases hg with rfl | rfl | rfl | rfl | rfl | rfl | rfl | rfl | rfl | rfl | rfl | rfl | rfl | rfl <;> simp [signsL, sgN, Lib.hasPrefix, List.isPrefixOf]
theorem qscan_again : ∀ (n : Nat) (l : List UInt8) (k : Nat) (r : List UInt8), l.length ≤ n → qscan l = some k → sepB r = true → qscan (l.take k ++ r) = some k
 | _, [], k, _, _, h, _ => by simp [qscan] at h
 | 0, _ :: _, _, _, hn, _, _ => by simp at hn
 | n + 1, c :: l, k, r, hn, h, hr => by
  by_cases hc : c = 39
  ·subst hc
   have stop : qscan (39 :: r) = some 1 := qscan_end r (by
    cases r with
    | nil => simp
    | cons d q => rcases bl_cases hr with rfl | rfl <;> simp)
   cases l with
   | nil => simp [qscan] at h; subst h; exact stop
   | cons d q =>
    by_cases hd : d = 39
    ·subst hd
     rw [qscan_two, Option.map_eq_some_iff] at h
     obtain ⟨j, hj, rfl⟩ := h
     have := qscan_again n q j r (by simp at hn; omega) hj hr
     rw [show (39 :: 39 :: q).take (j + 2) ++ r = 39 :: 39 :: (q.take j ++ r) from by simp, qscan_two, this]; rfl
    ·rw [qscan_end _ (by simpa using hd)] at h
     cases h; exact stop
  ·rw [qscan_ne c l hc, Option.map_eq_some_iff] at h
   obtain ⟨j, hj, rfl⟩ := h
   have := qscan_again n l j r (by simp at hn; omega) hj hr
   rw [show (c :: l).take (j + 1) ++ r = c :: (l.take j ++ r) from by simp, qscan_ne _ _ hc, this]; rfl
theorem take_len {l : List UInt8} {n : Nat} (h : n ≤ l.length) : (l.take n).length = n := by rw [List.length_take]; omega
theorem tok_again {l : List UInt8} {k : Int} {n : Nat} (h : tokAt l = (k, n, 0)) (r : List UInt8) (hr : sepB r = true) : tokAt (l.take n ++ r) = (k, n, 0) := by
 obtain ⟨hn1, hn2⟩ := tokAt_len h
 have hlen := take_len hn2
 cases l with
 | nil => simp at hn2; omega
 | cons c l =>
  obtain ⟨m, rfl⟩ : ∃ m, n = m + 1 := ⟨n - 1, by omega⟩
  have hcons : (c :: l).take (m + 1) ++ r = c :: (l.take m ++ r) := by simp
  rw [hcons, tokAt]
  rw [tokAt] at h
  by_cases hc : letB c = true
  ·rw [if_pos hc] at h ⊢
   injection h with h1 h
   injection h with h2 h3
   have ha := goN_all ldB (c :: l)
   rw [h2] at ha
   rw [← hcons, goN_app ldB _ r ha (sep_hd _ (by decide) (by decide) r hr), hlen, h1]
  ·rw [if_neg hc] at h ⊢
   by_cases hd : digB c = true
   ·rw [if_pos hd] at h ⊢
    injection h with h1 h
    rw [numTok] at h
    split at h
    ·cases h
    ·rename_i hz
     split at h
     ·cases h
     ·rename_i hv
      injection h with h2 h3
      rw [h2] at hz hv
      have ha := goN_all digB (c :: l)
      rw [h2] at ha
      have hg : goN digB (c :: (l.take m ++ r)) = m + 1 := by rw [← hcons, goN_app digB _ r ha (sep_hd _ (by decide) (by decide) r hr), hlen]
      have hdr : (c :: (l.take m ++ r)).drop (m + 1) = r := by
       rw [← hcons, List.drop_append_of_le_length (by omega), List.drop_of_length_le (by omega), List.nil_append]
      have htk : (c :: (l.take m ++ r)).take (m + 1) = (c :: l).take (m + 1) := by
       rw [← hcons, List.take_append_of_le_length (by omega), List.take_take, Nat.min_self]
      rw [numTok, hg, hdr, htk, if_neg, if_neg hv, h1]
      rintro (e | e)
      ·rw [sep_hd letB (by decide) (by decide) r hr] at e; cases e
      ·exact hz (Or.inr e)
   ·rw [if_neg hd] at h ⊢
    by_cases hq : c = 39
    ·rw [if_pos hq] at h ⊢
     injection h with h1 h
     rw [quoTok] at h
     split at h
     ·cases h
     ·rename_i j hj
      split at h
      ·rename_i he
       injection h with h2 h3
       obtain rfl : j = m := by omega
       have hj2 := (qscan_le _ l j (Nat.le_refl _) hj).2
       have htk : (l.take j ++ r).take j = l.take j := by
        rw [List.take_append_of_le_length (by rw [take_len hj2]; omega), List.take_take, Nat.min_self]
       rw [quoTok, qscan_again _ l j r (Nat.le_refl _) hj hr]
       simp only
       rw [htk, if_pos he, h1]
      ·rename_i h0
       exact absurd (Prod.mk.inj h).2 h0
    ·rw [if_neg hq] at h ⊢
     injection h with h1 h
     injection h with h2 h3
     have hne : sgN signsL (c :: l) ≠ 0 := by omega
     obtain ⟨g, hm, hp, hl⟩ := sgN_mem _ _ hne
     have hg := (hasPre_len hp).2
     rw [← hl, h2] at hg
     have := sign_again g hm r hr
     rw [← hcons, hg, this, ← hl, h2, h1, if_neg (by omega)]
theorem tok_blank {c : UInt8} {l : List UInt8} (h : blB c = true) : (tokAt (c :: l)).2.2 ≠ 0 := by
 rcases bl_cases h with rfl | rfl
 ·simp [tokAt, letB, digB, signsL, sgN, Lib.hasPrefix, List.isPrefixOf]
 ·simp [tokAt, letB, digB, signsL, sgN, Lib.hasPrefix, List.isPrefixOf]
structure Good (k : Int) (t : List UInt8) : Prop where
 ne : t ≠ []
 hd : hdB blB t = false
 again : ∀ r : List UInt8, sepB r = true → tokAt (t ++ r) = (k, t.length, 0)
theorem good_tok {l : List UInt8} {k : Int} {n : Nat} (h : tokAt l = (k, n, 0)) : Good k (l.take n) := by
 obtain ⟨hn1, hn2⟩ := tokAt_len h
 have hlen := take_len hn2
 refine ⟨fun e => by rw [e] at hlen; simp at hlen; omega, ?_, fun r hr => by rw [hlen]; exact tok_again h r hr⟩
 cases l with
 | nil => simp at hn2; omega
 | cons c l =>
  obtain ⟨m, rfl⟩ : ∃ m, n = m + 1 := ⟨n - 1, by omega⟩
  rw [List.take_succ_cons]
  cases hb : blB c with
  | false => exact hb
  | true => exact absurd (by rw [h]) (tok_blank (l := l) hb)
def Stand (s : List UInt8) : Nat → List Tok → Prop
 | p, [] => ∀ c ∈ s.drop p, blB c = true
 | p, t :: ts => p ≤ t.2.2 ∧ t.2.2 + t.2.1.size ≤ s.length ∧ 0 < t.2.1.size ∧ (∀ c ∈ (s.drop p).take (t.2.2 - p), blB c = true) ∧ (s.drop t.2.2).take t.2.1.size = t.2.1.data.toList ∧ Stand s (t.2.2 + t.2.1.size) ts
theorem size_arr (l : List UInt8) : (⟨l.toArray⟩ : ByteArray).size = l.length := by rw [Lib.size_eq]
theorem lexN_ok {f a : Nat} {l : List UInt8} {ts : List Tok} {p : Nat} (h : lexN (f + 1) a l = (ts, 0, p)) :
  (l = [] ∧ ts = []) ∨ ∃ (k : Int) (n : Nat) (us : List Tok) (q : Nat), l ≠ [] ∧ tokAt l = (k, n, 0) ∧ lexN f (a + n + goN blB (l.drop n)) ((l.drop n).drop (goN blB (l.drop n))) = (us, 0, q) ∧ ts = (k, ⟨(l.take n).toArray⟩, a) :: us := by
 rw [lexN] at h
 split at h
 ·rename_i hl
  cases h
  exact Or.inl ⟨hl, rfl⟩
 ·rename_i hl
  obtain ⟨k, n, e, ht⟩ : ∃ k n e, tokAt l = (k, n, e) := ⟨_, _, _, rfl⟩
  rw [ht] at h
  simp only at h
  split at h
  ·rename_i he
   injection h with _ h
   injection h with h _
   exact absurd h he
  ·rename_i he
   obtain rfl : e = 0 := Classical.byContradiction he
   obtain ⟨us, e2, q, hr⟩ : ∃ us e2 q, lexN f (a + n + goN blB (l.drop n)) ((l.drop n).drop (goN blB (l.drop n))) = (us, e2, q) := ⟨_, _, _, rfl⟩
   rw [hr] at h
   simp only at h
   split at h
   ·rename_i h0
    subst h0
    cases h
    exact Or.inr ⟨k, n, us, q, hl, ht, hr, rfl⟩
   ·rename_i h0
    injection h with _ h
    injection h with h _
    exact absurd h h0
theorem lexN_stand (s : List UInt8) : ∀ (f a p : Nat) (ts : List Tok) (q : Nat), p ≤ a → a ≤ s.length → (s.drop a).length < f → (∀ c ∈ (s.drop p).take (a - p), blB c = true) → lexN f a (s.drop a) = (ts, 0, q) → Stand s p ts
 | 0, _, _, _, _, _, _, hf, _, _ => by omega
 | f + 1, a, p, ts, q, hpa, has, hf, hb, h => by
  rcases lexN_ok h with ⟨hl, rfl⟩ | ⟨k, n, us, q', hl, ht, hr, rfl⟩
  ·show ∀ c ∈ s.drop p, blB c = true
   have hlen : (s.drop p).length ≤ a - p := by
    have : (s.drop a).length = 0 := by rw [hl]; rfl
    rw [List.length_drop] at this ⊢; omega
   rwa [List.take_of_length_le hlen] at hb
  ·obtain ⟨hn1, hn2⟩ := tokAt_len ht
   have hz : (⟨((s.drop a).take n).toArray⟩ : ByteArray).size = n := by rw [size_arr, take_len hn2]
   rw [List.length_drop] at hn2 hf
   refine ⟨hpa, by rw [hz]; simp only; omega, by rw [hz]; omega, hb, by rw [hz], ?_⟩
   simp only
   rw [hz]
   have hg := goN_le blB ((s.drop a).drop n)
   rw [List.drop_drop] at hr hg
   rw [List.drop_drop] at hr
   rw [List.length_drop] at hg
   refine lexN_stand s f (a + n + goN blB (s.drop (a + n))) (a + n) us q' (by omega) (by omega) (by rw [List.length_drop]; omega) ?_ hr
   rw [show a + n + goN blB (s.drop (a + n)) - (a + n) = goN blB (s.drop (a + n)) from by omega]
   have := goN_all blB (s.drop (a + n))
   rwa [List.all_eq_true] at this
theorem lexN_good : ∀ (f a : Nat) (l : List UInt8) (ts : List Tok) (q : Nat), lexN f a l = (ts, 0, q) → ∀ t ∈ ts, Good t.1 t.2.1.data.toList
 | 0, _, _, ts, _, h => by
  simp [lexN] at h
  obtain ⟨rfl, _⟩ := h
  simp
 | f + 1, a, l, ts, q, h => by
  rcases lexN_ok h with ⟨hl, rfl⟩ | ⟨k, n, us, q', hl, ht, hr, rfl⟩
  ·simp
  ·intro t hm
   rcases List.mem_cons.1 hm with rfl | hm
   ·exact good_tok ht
   ·exact lexN_good f _ _ us q' hr t hm
theorem lexN_bad : ∀ (f a : Nat) (l : List UInt8) (ts : List Tok) (e : Int) (q : Nat), lexN f a l = (ts, e, q) → e ≠ 0 → ts = [] ∧ q ≤ a + l.length ∧ (e = 1 ∨ e = 2 ∨ e = 4)
 | 0, _, _, ts, e, _, h, he => by simp [lexN] at h; exact absurd h.2.1.symm he
 | f + 1, a, l, ts, e, q, h, he => by
  rw [lexN] at h
  split at h
  ·cases h; exact absurd rfl he
  ·obtain ⟨k, n, e1, ht⟩ : ∃ k n e, tokAt l = (k, n, e) := ⟨_, _, _, rfl⟩
   have hfa := tokAt_fault (l := l)
   rw [ht] at h hfa
   simp only at h hfa
   split at h
   ·cases h
    exact ⟨rfl, by omega, by omega⟩
   ·rename_i he1
    obtain rfl : e1 = 0 := Classical.byContradiction he1
    obtain ⟨hn1, hn2⟩ := tokAt_len ht
    obtain ⟨us, e2, q2, hr⟩ : ∃ us e2 q, lexN f (a + n + goN blB (l.drop n)) ((l.drop n).drop (goN blB (l.drop n))) = (us, e2, q) := ⟨_, _, _, rfl⟩
    rw [hr] at h
    simp only at h
    split at h
    ·cases h; exact absurd rfl he
    ·rename_i h0
     obtain ⟨ht0, h⟩ := Prod.mk.inj h
     obtain ⟨rfl, rfl⟩ := Prod.mk.inj h
     obtain ⟨_, h1, h2⟩ := lexN_bad f _ _ us _ _ hr h0
     have hg := goN_le blB (l.drop n)
     rw [List.length_drop] at h1 hg
     rw [List.length_drop] at h1
     exact ⟨ht0.symm, by omega, h2⟩
theorem stand_small (s : List UInt8) : ∀ (ts : List Tok) (p : Nat), p ≤ s.length → Stand s p ts → ts.length ≤ s.length - p ∧ ∀ t ∈ ts, t.2.1.size ≤ s.length ∧ t.2.2 ≤ s.length
 | [], p, _, _ => ⟨Nat.zero_le _, by simp⟩
 | t :: ts, p, hp, h => by
  obtain ⟨h1, h2, h3, _, _, h6⟩ := h
  obtain ⟨i1, i2⟩ := stand_small s ts _ h2 h6
  refine ⟨by rw [List.length_cons]; omega, fun u hu => ?_⟩
  rcases List.mem_cons.1 hu with rfl | hu
  ·exact ⟨by omega, by omega⟩
  ·exact i2 u hu
theorem lexAll_ok {s : List UInt8} {ts : List Tok} {q : Nat} (h : lexAll s = (ts, 0, q)) : s.length ≤ 400 ∧ q = 0 ∧ Stand s 0 ts ∧ (∀ t ∈ ts, Good t.1 t.2.1.data.toList) := by
 rw [lexAll] at h
 split at h
 ·cases h
 ·rename_i hl
  rw [lexS, lexA] at h
  obtain ⟨us, e2, q2, hr⟩ : ∃ us e2 q, lexN (s.length + 1) (0 + goN blB s) (s.drop (goN blB s)) = (us, e2, q) := ⟨_, _, _, rfl⟩
  rw [hr] at h
  simp only at h
  split at h
  ·rename_i h0
   subst h0
   simp only [List.nil_append] at h
   cases h
   refine ⟨by omega, rfl, ?_, lexN_good _ _ _ _ _ hr⟩
   have hg := goN_le blB s
   rw [Nat.zero_add] at hr
   refine lexN_stand s _ _ 0 ts q2 (Nat.zero_le _) hg (by rw [List.length_drop]; omega) ?_ hr
   rw [List.drop_zero, Nat.sub_zero]
   have := goN_all blB s
   rwa [List.all_eq_true] at this
  ·rename_i h0
   exact absurd (Prod.mk.inj (Prod.mk.inj h).2).1 h0
theorem lexAll_bad {s : List UInt8} {ts : List Tok} {e : Int} {q : Nat} (h : lexAll s = (ts, e, q)) (he : e ≠ 0) : ts = [] ∧ q ≤ s.length ∧ (e = 1 ∨ e = 2 ∨ e = 4) := by
 rw [lexAll] at h
 split at h
 ·cases h
  exact ⟨rfl, by omega, by omega⟩
 ·rename_i hl
  rw [lexS, lexA] at h
  obtain ⟨us, e2, q2, hr⟩ : ∃ us e2 q, lexN (s.length + 1) (0 + goN blB s) (s.drop (goN blB s)) = (us, e2, q) := ⟨_, _, _, rfl⟩
  rw [hr] at h
  simp only at h
  split at h
  ·cases h; exact absurd rfl he
  ·rename_i h0
   obtain ⟨ht0, h⟩ := Prod.mk.inj h
   obtain ⟨rfl, rfl⟩ := Prod.mk.inj h
   obtain ⟨_, h1, h2⟩ := lexN_bad _ _ _ us _ _ hr h0
   have hg := goN_le blB s
   rw [List.length_drop] at h1
   exact ⟨ht0.symm, by omega, h2⟩
end Go.Proofs.YtkbhmghdonomnaaGreatDoor
namespace Go.Proofs.YtkbhmghdonomnaaGreatDoor
set_option linter.unusedVariables false
def endB (r : List UInt8) : Prop := r = [] ∨ ∃ c q, r = c :: q ∧ (c = 41 ∨ c = 44 ∨ c = 32)
theorem end_hd (p : UInt8 → Bool) (h41 : p 41 = false) (h44 : p 44 = false) (h32 : p 32 = false) {r : List UInt8} (h : endB r) : hdB p r = false := by
 rcases h with rfl | ⟨c, q, rfl, rfl | rfl | rfl⟩
 ·rfl
 ·exact h41
 ·exact h44
 ·exact h32
theorem tk_word {c : UInt8} {t r : List UInt8} (hc : letB c = true) (ht : t.all ldB = true) (hr : endB r) : tokAt (c :: t ++ r) = (1, (c :: t).length, 0) := by
 rw [List.cons_append, tokAt, if_pos hc, ← List.cons_append, goN_app ldB (c :: t) r (by rw [List.all_cons, ht]; simp [ldB, hc]) (end_hd ldB (by decide) (by decide) (by decide) hr)]
theorem dig_let {c : UInt8} (h : 48 ≤ c.toNat ∧ c.toNat ≤ 57) : letB c = false ∧ digB c = true := by
 constructor
 ·simp only [letB, Bool.and_eq_false_iff, decide_eq_false_iff_not]
  left; omega
 ·exact (digB_iff c).2 (by omega)
theorem tk_num {n : Nat} {r : List UInt8} (hn : n ≤ 9223372036854775807) (hr : endB r) : tokAt (Lib.decDigits n ++ r) = (2, (Lib.decDigits n).length, 0) := by
 obtain ⟨c, q, e, hc⟩ := digits_head n n (Nat.le_refl _)
 obtain ⟨h1, h2, h3⟩ := dec_digits n n (Nat.le_refl _)
 obtain ⟨d1, d2⟩ := dig_let hc
 have hgo : goN digB (Lib.decDigits n ++ r) = (Lib.decDigits n).length := goN_app digB _ r h1 (end_hd digB (by decide) (by decide) (by decide) hr)
 have hnt : numTok (Lib.decDigits n ++ r) = ((Lib.decDigits n).length, 0) := by
  rw [numTok, hgo, List.drop_left, List.take_left, if_neg, h2, if_neg (by omega)]
  rintro (h | ⟨h, h48⟩)
  ·rw [end_hd letB (by decide) (by decide) (by decide) hr] at h
   exact absurd h (by decide)
  ·rw [e, List.cons_append, List.head?_cons] at h48
   have := h3 q (by rw [e]; injection h48 with h48; rw [h48])
   rw [e, this] at h
   simp at h
 rw [e, List.cons_append, tokAt, if_neg (by rw [d1]; decide), if_pos d2, ← List.cons_append, ← e, hnt]
theorem qscan_esc : ∀ (l r : List UInt8), r.head? ≠ some 39 → qscan (esc l ++ 39 :: r) = some ((esc l).length + 1)
 | [], r, h => by rw [esc_nil, List.nil_append, qscan_end r h]; rfl
 | c :: l, r, h => by
  have ih := qscan_esc l r h
  rw [esc_cons]
  by_cases hc : c = 39
  ·rw [if_pos hc]
   simp only [List.cons_append, List.nil_append]
   rw [qscan_two, ih]
   simp
  ·rw [if_neg hc]
   simp only [List.cons_append, List.nil_append]
   rw [qscan_ne _ _ hc, ih]
   simp
theorem end_q {r : List UInt8} (h : endB r) : r.head? ≠ some 39 := by
 rcases h with rfl | ⟨c, q, rfl, rfl | rfl | rfl⟩ <;> simp
theorem sgn_par (c : UInt8) (r : List UInt8) (h : c = 40 ∨ c = 41 ∨ c = 44) : tokAt (c :: r) = (4, 1, 0) := by
 rcases h with rfl | rfl | rfl <;> simp [tokAt, letB, digB, signsL, sgN, Lib.hasPrefix, List.isPrefixOf]
theorem tk_quote {l r : List UInt8} (hl : l.length ≤ 40) (hp : plainB l = true) (hr : endB r) : tokAt (39 :: (esc l ++ [39]) ++ r) = (3, (39 :: (esc l ++ [39])).length, 0) := by
 have hq : qscan (esc l ++ [39] ++ r) = some ((esc l).length + 1) := by
  rw [List.append_assoc]
  exact qscan_esc l r (end_q hr)
 have hE : qE ((esc l ++ [39] ++ r).take ((esc l).length + 1)) = 0 := by
  rw [show (esc l).length + 1 = (esc l ++ [39]).length by simp, List.take_left, qE, (rd_app _ (esc l) (Nat.le_refl _)).1, unq_esc]
  simp only
  rw [if_neg (by rw [hp]; decide), if_neg (by omega)]
 rw [List.cons_append, tokAt, if_neg (by decide), if_neg (by decide), if_pos rfl, quoTok, hq]
 simp only
 rw [if_pos hE]
 simp
abbrev Item := Option Int × List UInt8
def itT (is : List Item) : List UInt8 := is.flatMap (·.2)
def itK (is : List Item) : List (List UInt8) := is.flatMap fun i => match i.1 with
 | none => []
 | some _ => [i.2]
theorem itT_app (a b : List Item) : itT (a ++ b) = itT a ++ itT b := by simp [itT]
theorem itK_app (a b : List Item) : itK (a ++ b) = itK a ++ itK b := by simp [itK]
def Okp : List Item → Prop
 | [] => True
 | (none, bs) :: is => bs.all blB = true ∧ Okp is
 | (some k, t) :: is => tokAt (t ++ itT is) = (k, t.length, 0) ∧ t ≠ [] ∧ Okp is
theorem lexS_blanks (f : Nat) (l : List UInt8) (acc : List Tok) : ∀ (bs : List UInt8) (a : Nat), bs.all blB = true → lexS f a (bs ++ l) acc = lexS f (a + bs.length) l acc
 | [], a, _ => rfl
 | c :: bs, a, h => by
  rw [List.all_cons, Bool.and_eq_true] at h
  rw [List.cons_append, lexS_blank f a c _ acc h.1, lexS_blanks f l acc bs (a + 1) h.2, List.length_cons, show a + 1 + bs.length = a + (bs.length + 1) from by omega]
theorem lex_items : ∀ (is : List Item) (f a : Nat) (acc : List Tok), Okp is → (itK is).length < f → ∃ ts, lexS f a (itT is) acc = (acc ++ ts, 0, 0) ∧ Tx ts = itK is
 | [], f, a, acc, _, hf => by
  obtain ⟨g, rfl⟩ : ∃ g, f = g + 1 := ⟨f - 1, by simp [itK] at hf; omega⟩
  exact ⟨[], by rw [List.append_nil]; exact lexS_nil g a acc, rfl⟩
 | (none, bs) :: is, f, a, acc, h, hf => by
  rw [Okp] at h
  obtain ⟨ts, h1, h2⟩ := lex_items is f (a + bs.length) acc h.2 (by simpa [itK] using hf)
  refine ⟨ts, ?_, by rw [h2]; simp [itK]⟩
  have e : itT ((none, bs) :: is) = bs ++ itT is := by simp [itT]
  rw [e, lexS_blanks f _ acc bs a h.1, h1]
 | (some k, t) :: is, f, a, acc, h, hf => by
  rw [Okp] at h
  obtain ⟨h1, h2, h3⟩ := h
  have hk : itK ((some k, t) :: is) = t :: itK is := by simp [itK]
  rw [hk, List.length_cons] at hf
  obtain ⟨g, rfl⟩ : ∃ g, f = g + 1 := ⟨f - 1, by omega⟩
  obtain ⟨ts, e1, e2⟩ := lex_items is g (a + t.length) (acc ++ [(k, ⟨t.toArray⟩, a)]) h3 (by omega)
  refine ⟨(k, ⟨t.toArray⟩, a) :: ts, ?_, by rw [hk]; simp only [Tx, List.map_cons] at e2 ⊢; rw [e2]⟩
  have e : itT ((some k, t) :: is) = t ++ itT is := by simp [itT]
  have hne : t ++ itT is ≠ [] := by simp [h2]
  have hhd : hdB blB (t ++ itT is) = false := by
   cases t with
   | nil => exact absurd rfl h2
   | cons c t =>
    cases hb : blB c with
    | false => exact hb
    | true =>
     rw [List.cons_append] at h1
     exact absurd (by rw [h1]) (tok_blank (l := t ++ itT is) hb)
  rw [e, lexS_no _ _ _ _ hhd, lexA_tok g a _ acc hne h1, List.drop_left, List.take_left, e1]
  simp
def itI (sep : List Item) : List (List Item) → List Item
 | [] => []
 | [t] => t
 | t :: u :: ts => t ++ sep ++ itI sep (u :: ts)
def opK (op : List UInt8) : Int := if op = [111, 114] ∨ op = [97, 110, 100] then 1 else 4
def valK (t : Int) : Int := if t = 1 then 2 else if t = 2 then 1 else 3
mutual
/-- The words and blanks of an expression's text. -/
def itP : Ex → List Item
 | .node op nm vt vn vs _ l =>
  if op.data.toList = [118, 97, 108] then [(some (valK vt), prS vt vn vs.data.toList)]
  else if op.data.toList = [99, 111, 108] then [(some 1, nm.data.toList)]
  else if op.data.toList = [108, 101, 110] ∨ op.data.toList = [105, 102] then (some 1, op.data.toList) :: (some 4, [40]) :: (itI [(some 4, [44]), (none, [32])] (itsP l) ++ [(some 4, [41])])
  else if op.data.toList = [110, 111, 116] then (some 4, [40]) :: (some 1, [110, 111, 116]) :: (none, [32]) :: ((itsP l).headD [] ++ [(some 4, [41])])
  else if op.data.toList = [110, 101, 103] then (some 4, [40]) :: (some 4, [45]) :: (none, [32]) :: ((itsP l).headD [] ++ [(some 4, [41])])
  else (some 4, [40]) :: (itI [(none, [32]), (some (opK op.data.toList), op.data.toList), (none, [32])] (itsP l) ++ [(some 4, [41])])
def itsP : List Ex → List (List Item)
 | [] => []
 | x :: xs => itP x :: itsP xs
end
theorem itsP_map : ∀ l : List Ex, itsP l = l.map itP
 | [] => by rw [itsP]; rfl
 | x :: xs => by rw [itsP, itsP_map xs]; rfl
theorem itI_text (sep : List Item) (bt : List UInt8) (hs : itT sep = bt) : ∀ ts : List (List Item), itT (itI sep ts) = inter bt (ts.map itT)
 | [] => rfl
 | [t] => rfl
 | t :: u :: ts => by
  have ih := itI_text sep bt hs (u :: ts)
  simp only [itI, List.map_cons, inter, itT_app, hs] at ih ⊢
  rw [ih]
theorem itI_words (sep : List Item) (k : List UInt8) (hs : itK sep = [k]) : ∀ ts : List (List Item), itK (itI sep ts) = tkI k (ts.map itK)
 | [] => rfl
 | [t] => rfl
 | t :: u :: ts => by
  have ih := itI_words sep k hs (u :: ts)
  simp only [itI, List.map_cons, tkI, itK_app, hs] at ih ⊢
  rw [ih]
  simp
theorem it_text : ∀ x : Ex, itT (itP x) = txP x ∧ itK (itP x) = tkP x := by
 refine Ex.ind fun op nm vt vn vs pos l ih => ?_
 have hm1 : (l.map itP).map itT = l.map txP := by
  rw [List.map_map]; exact List.map_congr_left fun y hy => (ih y hy).1
 have hm2 : (l.map itP).map itK = l.map tkP := by
  rw [List.map_map]; exact List.map_congr_left fun y hy => (ih y hy).2
 have hd1 : itT ((l.map itP).headD []) = (l.map txP).headD [] := by
  cases l with
  | nil => rfl
  | cons y ys => exact (ih y (by simp)).1
 have hd2 : itK ((l.map itP).headD []) = (l.map tkP).headD [] := by
  cases l with
  | nil => rfl
  | cons y ys => exact (ih y (by simp)).2
 rw [itP, txP, tkP, itsP_map, txsP_map, tksP_map]
 have c1 : ∀ (i : Item) (is : List Item), itT (i :: is) = i.2 ++ itT is := fun i is => by simp [itT]
 have c2 : ∀ (k : Int) (t : List UInt8) (is : List Item), itK ((some k, t) :: is) = t :: itK is := fun k t is => by simp [itK]
 have c3 : ∀ (t : List UInt8) (is : List Item), itK ((none, t) :: is) = itK is := fun t is => by simp [itK]
 have n1 : itT [] = [] := rfl
 have n2 : itK [] = [] := rfl
 split
 ·simp only [c1, c2, n1, n2, List.append_nil, and_self]
 split
 ·simp only [c1, c2, n1, n2, List.append_nil, and_self]
 split
 ·constructor
  ·simp only [c1, itT_app, itI_text [(some 4, [44]), (none, [32])] [44, 32] rfl, hm1, argsT, n1]
   simp
  ·simp only [c2, itK_app, itI_words [(some 4, [44]), (none, [32])] [44] rfl, hm2, n2]
 split
 ·constructor
  ·simp only [c1, itT_app, hd1, aheadT, n1]
   simp
  ·simp only [c2, c3, itK_app, hd2, n2]
 split
 ·constructor
  ·simp only [c1, itT_app, hd1, aheadT, n1]
   simp
  ·simp only [c2, c3, itK_app, hd2, n2]
 ·constructor
  ·simp only [c1, itT_app, itI_text [(none, [32]), (some (opK op.data.toList), op.data.toList), (none, [32])] (32 :: (op.data.toList ++ [32])) (by simp [itT]), hm1, argsT, n1]
   simp
  ·simp only [c2, itK_app, itI_words [(none, [32]), (some (opK op.data.toList), op.data.toList), (none, [32])] op.data.toList (by simp [itK]), hm2, n2]
theorem end41 (r : List UInt8) : endB (41 :: r) := .inr ⟨_, _, rfl, .inl rfl⟩
theorem end44 (r : List UInt8) : endB (44 :: r) := .inr ⟨_, _, rfl, .inr (.inl rfl)⟩
theorem end32 (r : List UInt8) : endB (32 :: r) := .inr ⟨_, _, rfl, .inr (.inr rfl)⟩
theorem tok_op {op : List UInt8} (h : op ∈ bin14) (r : List UInt8) : tokAt (op ++ 32 :: r) = (opK op, op.length, 0) ∧ op ≠ [] := by
 have hs : ∀ g ∈ signsL, sgN signsL (g ++ 32 :: r) = g.length := fun g hg => sign_again g hg (32 :: r) (by simp [sepB, blB])
 simp only [bin14, List.mem_cons, List.not_mem_nil, or_false] at h
 rcases h with rfl | rfl | rfl | rfl | rfl | rfl | rfl | rfl | rfl | rfl | rfl | rfl | rfl
 ·exact ⟨tk_word (c := 111) (t := [114]) (by decide) (by decide) (end32 r), by decide⟩
 ·exact ⟨tk_word (c := 97) (t := [110, 100]) (by decide) (by decide) (end32 r), by decide⟩
 all_goals
  refine ⟨?_, by decide⟩
  have h1 := hs _ (by first | exact (by decide : ([61] : List UInt8) ∈ signsL) | exact (by decide : ([60, 62] : List UInt8) ∈ signsL) | exact (by decide : ([60] : List UInt8) ∈ signsL))
  simp [tokAt, letB, digB, signsL, sgN, Lib.hasPrefix, List.isPrefixOf, opK]
theorem tok_minus (r : List UInt8) : tokAt (45 :: 32 :: r) = (4, 1, 0) := by
 simp [tokAt, letB, digB, signsL, sgN, Lib.hasPrefix, List.isPrefixOf]
theorem tok_val {t n : Int} {l r : List UInt8} (hn : inI n) (h : ckV t n l = 0) (hr : endB r) : tokAt (prS t n l ++ r) = (valK t, (prS t n l).length, 0) ∧ prS t n l ≠ [] := by
 obtain ⟨hc, h0⟩ := ckV_ok h
 rw [prS, if_pos hc]
 refine ⟨?_, by obtain ⟨c, q, e, _⟩ := shown_hd h; rw [e]; simp⟩
 rcases chk_type hc with ⟨rfl, _⟩ | ⟨rfl, _, hb⟩ | ⟨rfl, rfl, hl, hp⟩
 ·rw [shown, if_pos rfl, Lib.itoa, if_neg (by have := h0 rfl; omega)]
  exact tk_num (by have := hn.2; omega) hr
 ·rw [shown, if_neg (by decide), if_pos rfl]
  split
  ·exact tk_word (c := 116) (t := [114, 117, 101]) (by decide) (by decide) hr
  ·exact tk_word (c := 102) (t := [97, 108, 115, 101]) (by decide) (by decide) hr
 ·rw [shown, if_neg (by decide), if_neg (by decide)]
  exact tk_quote hl hp hr
theorem tok_name {l r : List UInt8} (h : nameT l = true) (hr : endB r) : tokAt (l ++ r) = (1, l.length, 0) ∧ l ≠ [] := by
 simp only [nameT, lettersB, Bool.and_eq_true, decide_eq_true_eq] at h
 obtain ⟨⟨⟨h1, _⟩, h2⟩, _⟩ := h
 refine ⟨?_, h1⟩
 cases l with
 | nil => exact absurd rfl h1
 | cons c q =>
  rw [List.all_cons, Bool.and_eq_true] at h2
  refine tk_word h2.1 ?_ hr
  rw [List.all_eq_true] at h2 ⊢
  intro x hx
  simp [ldB, h2.2 x hx]
end Go.Proofs.YtkbhmghdonomnaaGreatDoor
