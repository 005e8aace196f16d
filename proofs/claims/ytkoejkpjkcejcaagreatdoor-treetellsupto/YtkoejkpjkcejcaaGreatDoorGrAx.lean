/-
  TreeAj, TreeAk, RefPa, RefLex1, RefLex2, in one text.
-/
import Derived.Test.YtkoejkpjkcejcaaGreatDoorGrAw
import Derived.Test.YtkoejkpjkcejcaaGreatDoorGrAv
import Derived.Test.YtkoejkpjkcejcaaGreatDoorGrAj
import Derived.Test.YtkoejkpjkcejcaaGreatDoorGrAu
import Derived.Deep.DeepCutAuto
namespace Go.Proofs.YtkoejkpjkcejcaaGreatDoor
set_option linter.unusedVariables false
section
variable (ts : List Tok) (en : Nat)
/-- Parts and signs. -/
theorem sev_sim (hk : ∀ t ∈ ts, KdT t) {subU : List Tok → Option Ex × List Tok} {subP : St → Ex × St} (hf : Suf subU) (lv : Nat) (hlv : lv ≠ 2) (hkey : ∀ g ∈ sgl lv, g ∈ keysL) (r : List Tok) (hr : r <:+ ts) (hI : ∀ q, q <:+ ts → q.length ≤ r.length → Sim ts en (subU q) (subP (S0 ts q))) : Sim ts en (uSev subU (sgl lv) r) (pLoop ts en subP lv (ts.length + 1) (subP (S0 ts r)).1 (subP (S0 ts r)).2) := by
  have h4 := hI r hr (Nat.le_refl _)
  have h5 := hf r
  rw [uSev]
  cases h3 : subU r with
  | mk o r2 =>
    rw [h3] at h4 h5
    cases o with
    | none =>
      have h6 : (subP (S0 ts r)).2.bad = posAt ts en (ts.length - r2.length) := h4
      rw [bad_loop ts en (by rw [h6]; exact pos_nn ts en _)]
      exact h6
    | some e =>
      have h6 : subP (S0 ts r) = (e, S0 ts r2) := h4
      rw [h6]
      have h7 : r2.length ≤ r.length := h5.length_le
      have h8 : r2.length ≤ ts.length := (h5.trans hr).length_le
      exact loop_sim ts en hk hf lv hlv hkey (r2.length + 1) (ts.length + 1) e r2 (h5.trans hr) (by omega) (by omega) (fun q hq hl => hI q hq (by omega))
/-- A comparison, at most one. -/
theorem cmp_sim (hk : ∀ t ∈ ts, KdT t) {subU : List Tok → Option Ex × List Tok} {subP : St → Ex × St} (hf : Suf subU) (r : List Tok) (hr : r <:+ ts) (hI : ∀ q, q <:+ ts → q.length ≤ r.length → Sim ts en (subU q) (subP (S0 ts q))) : Sim ts en (uCmp subU r) (pLoop ts en subP 2 (ts.length + 1) (subP (S0 ts r)).1 (subP (S0 ts r)).2) := by
  have h4 := hI r hr (Nat.le_refl _)
  have h5 := hf r
  rw [uCmp]
  cases h3 : subU r with
  | mk o r2 =>
    rw [h3] at h4 h5
    cases o with
    | none =>
      have h6 : (subP (S0 ts r)).2.bad = posAt ts en (ts.length - r2.length) := h4
      rw [bad_loop ts en (by rw [h6]; exact pos_nn ts en _)]
      exact h6
    | some e =>
      have h6 : subP (S0 ts r) = (e, S0 ts r2) := h4
      rw [h6]
      have h7 : r2.length ≤ r.length := h5.length_le
      have hs2 : r2 <:+ ts := h5.trans hr
      show Sim ts en _ (pLoop ts en subP 2 (ts.length + 1) e (S0 ts r2))
      rw [pLoop, first_at ts hs2 hk _ (by decide)]
      show Sim ts en (match nxT (sgT cmpL) r2 with | none => (some e, r2) | some (t, r2) => match subU r2 with | (none, r3) => (none, r3) | (some b, r3) => (some (betT e t b), r3)) _
      cases hn : nxT (sgT cmpL) r2 with
      | none =>
        have hn' : nxT (sgT (sgl 2)) r2 = none := hn
        rw [hn']
        exact rfl
      | some q =>
        obtain ⟨t, r3⟩ := q
        have hn' : nxT (sgT (sgl 2)) r2 = some (t, r3) := hn
        rw [hn']
        have hr1 := (nxT_len hn).1
        subst hr1
        have hs3 : r3 <:+ ts := (List.suffix_cons t r3).trans hs2
        simp only [Option.map_some, if_true]
        rw [S0_adv ts hs2]
        simp only [List.length_cons] at h7
        have h8 := hI r3 hs3 (by omega)
        cases h9 : subU r3 with
        | mk o r4 =>
          rw [h9] at h8
          cases o with
          | none =>
            have h10 : (subP (S0 ts r3)).2.bad = posAt ts en (ts.length - r4.length) := h8
            exact h10
          | some b =>
            have h10 : subP (S0 ts r3) = (b, S0 ts r4) := h8
            rw [h10]
            show (_, _) = (betT e t b, S0 ts r4)
            rw [bet_op ts en hs2]
/-- The program's level that answers to the document's. -/
def lvM (l : Nat) : Nat := if l ≤ 2 then l else l + 1
theorem pE_bad (rv : ByteArray → Int × Int × List UInt8 × Int) (f lv : Nat) (st : St) (h : 0 ≤ st.bad) : (pE ts en rv f lv st).2 = st := by
  cases f with
  | zero => rfl
  | succ f => rw [pE, if_pos h]
/-- A sign ahead. -/
theorem ahead_sim (hk : ∀ t ∈ ts, KdT t) {subU other : List Tok → Option Ex × List Tok} {subP : St → Ex × St} {oth : Ex × St} (op g : List UInt8) (hg : g ∈ keysL) (r : List Tok) (hr : r <:+ ts) (hI : ∀ q, q <:+ ts → q.length < r.length → Sim ts en (subU q) (subP (S0 ts q))) (ho : Sim ts en (other r) oth) : Sim ts en (uAhead op [g] subU other r) (if isT ts (S0 ts r) g = true then (op1 op (posAt ts en (S0 ts r).i) [(subP (adv (S0 ts r))).1], (subP (adv (S0 ts r))).2) else oth) := by
  rw [is_at ts hr hk hg, uAhead]
  cases hn : nxT (sgT [g]) r with
  | none =>
    have : hdIs g r = false := by
      cases r with
      | nil => rfl
      | cons t q =>
        rw [nxT] at hn
        split at hn
        · exact absurd hn (by simp)
        · rename_i h
          rw [hdIs]
          simp only [sgT, List.any_cons, List.any_nil, Bool.or_false, beq_iff_eq] at h
          simpa using fun e => h e.symm
    rw [this, if_neg (by decide)]
    exact ho
  | some z =>
    obtain ⟨t, q⟩ := z
    obtain ⟨h1, h2⟩ := nxT_len hn
    subst h1
    have hm : hdIs g (t :: q) = true := by
      rw [hdIs]
      simp only [sgT, List.any_cons, List.any_nil, Bool.or_false, beq_iff_eq] at h2
      simpa using h2.symm
    rw [hm, if_pos rfl, S0_adv ts hr, pos_at ts en hr]
    have hs1 : q <:+ ts := (List.suffix_cons t q).trans hr
    have h4 := hI q hs1 (by simp)
    simp only
    cases h3 : subU q with
    | mk o r2 =>
      rw [h3] at h4
      cases o with
      | none =>
        have h6 : (subP (S0 ts q)).2.bad = posAt ts en (ts.length - r2.length) := h4
        exact h6
      | some e =>
        have h6 : subP (S0 ts q) = (e, S0 ts r2) := h4
        rw [h6]
        exact rfl
theorem all_sim (hk : ∀ t ∈ ts, KdT t) : ∀ (g : Nat) (r : List Tok) (l f : Nat), l ≤ 5 → r <:+ ts → r.length * 6 + (6 - l) ≤ g → r.length * 8 + (8 - lvM l) ≤ f → Sim ts en (uE f (lvM l) r) (pE ts en readV g l (S0 ts r))
  | 0, r, l, f, hl, hr, hg, hf => by omega
  | g + 1, r, l, 0, hl, hr, hg, hf => by
    rw [lvM] at hf
    split at hf <;> omega
  | g + 1, r, l, f + 1, hl, hr, hg, hf => by
    have hne : ¬ 0 ≤ (S0 ts r).bad := by have := S0_neg ts r; omega
    have nx : l < 5 → ∀ q, q <:+ ts → q.length ≤ r.length → Sim ts en (uE (if l = 2 then f - 1 else f) (lvM (l + 1)) q) (pE ts en readV g (l + 1) (S0 ts q)) := fun h5 q hq hl1 => by
      refine all_sim hk g q (l + 1) _ (by omega) hq (by omega) ?_
      by_cases h2 : l = 2
      · subst h2
        rw [if_pos rfl]
        simp only [lvM] at hf ⊢
        simp at hf ⊢
        omega
      · rw [if_neg h2]
        simp only [lvM] at hf ⊢
        split at hf <;> split <;> omega
    match l, hl with
    | 0, _ =>
      rw [pE, if_neg hne, if_neg (fun h => by omega), if_neg (by decide)]
      exact sev_sim ts en hk (uE_suf f 1) 0 (by decide) (by decide) r hr (nx (by decide))
    | 1, _ =>
      rw [pE, if_neg hne, if_neg (fun h => by omega), if_neg (by decide)]
      exact sev_sim ts en hk (uE_suf f 2) 1 (by decide) (by decide) r hr (nx (by decide))
    | 2, _ =>
      rw [pE, if_neg hne]
      have h := ahead_sim ts en hk (subU := uE f 2) (other := uE f 3) (subP := pE ts en readV g 2) (oth := pLoop ts en (pE ts en readV g 3) 2 (ts.length + 1) (pE ts en readV g 3 (S0 ts r)).1 (pE ts en readV g 3 (S0 ts r)).2) [110, 111, 116] [110, 111, 116] (by decide) r hr
        (fun q hq hl1 => all_sim hk g q 2 f (by decide) hq (by omega) (by simp only [lvM] at hf ⊢; simp at hf ⊢; omega))
        (by
          cases f with
          | zero => simp [lvM] at hf
          | succ f => exact cmp_sim ts en hk (uE_suf f 4) r hr (nx (by decide)))
      cases hi : isT ts (S0 ts r) [110, 111, 116] with
      | true =>
        rw [hi, if_pos rfl] at h
        rw [if_pos ⟨rfl, rfl⟩]
        exact h
      | false =>
        rw [hi, if_neg (by decide)] at h
        rw [if_neg (fun h => by simp at h), if_neg (by decide)]
        exact h
    | 3, _ =>
      rw [pE, if_neg hne, if_neg (fun h => by omega), if_neg (by decide)]
      exact sev_sim ts en hk (uE_suf f 5) 3 (by decide) (by decide) r hr (nx (by decide))
    | 4, _ =>
      rw [pE, if_neg hne, if_neg (fun h => by omega), if_neg (by decide)]
      exact sev_sim ts en hk (uE_suf f 6) 4 (by decide) (by decide) r hr (nx (by decide))
    | 5, _ =>
      rw [pE, if_neg hne, if_neg (fun h => by omega), if_pos rfl]
      refine ahead_sim ts en hk (subU := uE f 6) (other := uE f 7) (subP := pE ts en readV g 5) [110, 101, 103] [45] (by decide) r hr
        (fun q hq hl1 => all_sim hk g q 5 f (by decide) hq (by omega) (by simp only [lvM] at hf ⊢; simp at hf ⊢; omega)) ?_
      cases f with
      | zero => simp [lvM] at hf
      | succ f =>
        refine one_sim ts en hk (uE_suf f 0) (pE_bad ts en readV g 0) r hr (fun q hq hl1 => all_sim hk g q 0 f (by decide) hq (by omega) (by simp only [lvM] at hf ⊢; simp at hf ⊢; omega))
end
end Go.Proofs.YtkoejkpjkcejcaaGreatDoor
namespace Go.Proofs.YtkoejkpjkcejcaaGreatDoor
set_option linter.unusedVariables false
/-- What the document's Parse says of a text: the expression, the fault, and where; g is how far its reading may go. -/
def endD (ts : List Tok) (en : Nat) (st : St) : St := if st.i < ts.length then failT ts en st else st
def parseD (g : Nat) (l : List UInt8) : Ex × Int × Int :=
  if (lexAll l).2.1 ≠ 0 then (ex0, (lexAll l).2.1, ((lexAll l).2.2 : Int))
  else
    if 0 ≤ (endD (lexAll l).1 l.length (pE (lexAll l).1 l.length readV g 0 ⟨0, -1⟩).2).bad then (ex0, 2, (endD (lexAll l).1 l.length (pE (lexAll l).1 l.length readV g 0 ⟨0, -1⟩).2).bad)
    else if tgB (pE (lexAll l).1 l.length readV g 0 ⟨0, -1⟩).1 = true then (ex0, 4, 0) else ((pE (lexAll l).1 l.length readV g 0 ⟨0, -1⟩).1, 0, 0)
theorem lex_kd {l : List UInt8} (h : (lexAll l).2.1 = 0) : ∀ t ∈ (lexAll l).1, KdT t := fun t ht => by
  have hl : lexAll l = ((lexAll l).1, 0, (lexAll l).2.2) := by rw [← h]
  obtain ⟨_, _, _, hgd⟩ := lexAll_ok hl
  have := (hgd t ht).again [] rfl
  rwa [List.append_nil] at this
theorem place_pos {ts r : List Tok} (en : Nat) (h : r <:+ ts) : posAt ts en (ts.length - r.length) = (placeT r en : Int) := by
  rw [posAt, (suf_at ts h).1]
  cases r <;> rfl
theorem parse_agree (g : Nat) (l : List UInt8) (hg : (lexAll l).1.length * 6 + 6 ≤ g) : parseD g l = ((parseP l).1, (parseP l).2.1, ((parseP l).2.2 : Int)) := by
  rw [parseD, parseP]
  by_cases h0 : (lexAll l).2.1 ≠ 0
  · rw [if_pos h0, if_pos h0]
  rw [if_neg h0, if_neg h0]
  have hk := lex_kd (l := l) (by simpa using h0)
  generalize (lexAll l).1 = ts at hk hg
  have h := all_sim ts l.length hk g ts 0 (ts.length * 8 + 8) (by decide) List.suffix_rfl (by omega) (by rw [lvM, if_pos (by decide)]; omega)
  have e0 : S0 ts ts = ⟨0, -1⟩ := by rw [S0, Nat.sub_self]
  have h5 := uE_suf (ts.length * 8 + 8) 0 ts
  rw [e0, show lvM 0 = 0 from rfl, show uE (ts.length * 8 + 8) 0 ts = readE ts from rfl] at h
  rw [show uE (ts.length * 8 + 8) 0 ts = readE ts from rfl] at h5
  cases h3 : readE ts with
  | mk o r =>
    rw [h3] at h h5
    cases o with
    | none =>
      have h6 : (pE ts l.length readV g 0 ⟨0, -1⟩).2.bad = posAt ts l.length (ts.length - r.length) := h
      have h7 : 0 ≤ (pE ts l.length readV g 0 ⟨0, -1⟩).2.bad := by rw [h6]; exact pos_nn ts _ _
      have h8 : endD ts l.length (pE ts l.length readV g 0 ⟨0, -1⟩).2 = (pE ts l.length readV g 0 ⟨0, -1⟩).2 := by
        rw [endD]
        split
        · rw [failT, if_neg (by omega)]
        · rfl
      rw [h8, if_pos h7, h6, place_pos _ h5]
    | some x =>
      have h6 : pE ts l.length readV g 0 ⟨0, -1⟩ = (x, S0 ts r) := h
      rw [h6]
      simp only
      cases r with
      | nil =>
        have h8 : endD ts l.length (S0 ts []) = S0 ts [] := by
          rw [endD, if_neg (by simp [S0])]
        rw [h8, if_neg (by have := S0_neg ts []; omega)]
        simp only
        split <;> rfl
      | cons t q =>
        have h9 : (t :: q).length ≤ ts.length := h5.length_le
        have h8 : (endD ts l.length (S0 ts (t :: q))).bad = (placeT (t :: q) l.length : Int) := by
          rw [endD, if_pos (by simp [S0] at h9 ⊢; omega), failT, if_pos (S0_neg ts _)]
          exact place_pos _ h5
        rw [h8, if_pos (by omega)]
end Go.Proofs.YtkoejkpjkcejcaaGreatDoor
namespace Go.Proofs.YtkoejkpjkcejcaaGreatDoor
open Go.RowKit
set_option linter.unusedVariables false
set_option linter.unusedSimpArgs false

theorem set7_below {n : Nat} {w w1 : World} (h : Below n w w1) {z : Nat} (hz : n ≤ z) (v0 v1 v2 v3 v4 v5 v6 : Value) : Below n w (((((((w1.setCell ⟨z, 0, none⟩ v0).setCell ⟨z, 1, none⟩ v1).setCell ⟨z, 2, none⟩ v2).setCell ⟨z, 3, none⟩ v3).setCell ⟨z, 4, none⟩ v4).setCell ⟨z, 5, none⟩ v5).setCell ⟨z, 6, none⟩ v6) :=
  ((((((h.setCell (p := ⟨z, 0, none⟩) hz v0).setCell (p := ⟨z, 1, none⟩) hz v1).setCell (p := ⟨z, 2, none⟩) hz v2).setCell (p := ⟨z, 3, none⟩) hz v3).setCell (p := ⟨z, 4, none⟩) hz v4).setCell (p := ⟨z, 5, none⟩) hz v5).setCell (p := ⟨z, 6, none⟩) hz v6
set_option maxHeartbeats 8000000 in
set_option maxRecDepth 20000 in
theorem refParse_bad (s : ByteArray) (w : World) (R : List Tok) (E : Int) (P : Nat) (hE : E ≠ 0) (cT : ∀ W, Calls Tryz.prog 17 #[.string s] W fun e w' => (∃ v, e = .returned (.tuple #[v, .int .i64 E, .int .i64 (P : Nat)]) ∧ IsToks w' v R) ∧ Below W.heap.size W w') :
    Calls Tryz.prog 6 #[.string s] w fun e w' => (∃ v, e = .returned (.tuple #[v, .int .i64 E, .int .i64 (P : Nat)]) ∧ ExIn w' (fun b => w.heap.size ≤ b) v ex0) ∧ Below w.heap.size w w' := by
  have hEb : (E != 0) = true := by simpa using hE
  have X0 : Box7 (w.alloc zE) w.heap.size (.string ⟨#[]⟩) (.string ⟨#[]⟩) (.int .i64 0) (.int .i64 0) (.string ⟨#[]⟩) (.slice none 0 0) (.int .i64 0) := box7_alloc w _ _ _ _ _ _ _ _
  have hz : (w.alloc zE).heap.size = w.heap.size + 1 := by simp [zE]
  have b0 := al w zE
  have cT := cT (w.alloc zE)
  go_enter Tryz.func6, Tryz.ntmps6
  go_wp2_with fail
  refine cT.mono ?_
  rintro e w1 ⟨⟨v, rfl, ht⟩, b1⟩
  have X1 := X0.on b1
  have B1 : Below w.heap.size w w1 := b0.trans (b1.mono (by omega))
  have hz1 : w.heap.size + 1 ≤ w1.heap.size := by have := b1.size; omega
  clear cT b1 X0 b0 hz
  obtain ⟨d0, d1, d2, d3, d4, d5, d6, df, dl⟩ := X1
  have df0 := df 0
  have df1 := df 1
  have df2 := df 2
  have df3 := df 3
  have df4 := df 4
  have df5 := df 5
  have df6 := df 6
  clear df
  go_wp2
  refine bodyPost_ret (v := .tuple #[.agg #[.string ⟨#[]⟩, .string ⟨#[]⟩, .int .i64 0, .int .i64 0, .string ⟨#[]⟩, .slice none 0 0, .int .i64 0], .int .i64 E, .int .i64 (P : Nat)]) (by simp [results, Tryz.results6, go_sem, d0, d1, d2, d3, d4, d5, d6, dl]) rfl ⟨⟨_, rfl, ?_⟩, ?_⟩
  · exact ex_zero _ _
  · exact set7_below B1 (Nat.le_refl _) _ _ _ _ _ _ _
set_option maxHeartbeats 8000000 in
set_option maxRecDepth 20000 in
theorem refParse_good (s : ByteArray) (w : World) (R : List Tok) (P : Nat) (x : Ex) (s1 : St) (hn : R.length ≤ 400) (hss : s.size ≤ 400) (hi : s1.i ≤ 1000) (hsz : x.size ≤ 1048576) (cT : ∀ W, Calls Tryz.prog 17 #[.string s] W fun e w' => (∃ v, e = .returned (.tuple #[v, .int .i64 0, .int .i64 (P : Nat)]) ∧ IsToks w' v R) ∧ Below W.heap.size W w') (cE : ∀ r tp tc, GivesE r tp tc R s.size 0 ⟨0, -1⟩ x s1) (E : Int) (Q : Int) (y : Ex) (hres : (if 0 ≤ (endD R s.size s1).bad then (ex0, 2, (endD R s.size s1).bad) else if x.small = true then (x, 0, 0) else (ex0, 4, 0)) = (y, E, Q)) :
    Calls Tryz.prog 6 #[.string s] w fun e w' => (∃ v, e = .returned (.tuple #[v, .int .i64 E, .int .i64 Q]) ∧ ExIn w' (fun b => w.heap.size ≤ b) v y) ∧ Below w.heap.size w w' := by
  have X0 : Box7 (w.alloc zE) w.heap.size (.string ⟨#[]⟩) (.string ⟨#[]⟩) (.int .i64 0) (.int .i64 0) (.string ⟨#[]⟩) (.slice none 0 0) (.int .i64 0) := box7_alloc w _ _ _ _ _ _ _ _
  have hz : (w.alloc zE).heap.size = w.heap.size + 1 := by simp [zE]
  have b0 := al w zE
  have cT := cT (w.alloc zE)
  go_enter Tryz.func6, Tryz.ntmps6
  go_wp2_with fail
  refine cT.mono ?_
  rintro e w1 ⟨⟨v, rfl, ht⟩, b1⟩
  have X1 := X0.on b1
  have B1 : Below w.heap.size w w1 := b0.trans (b1.mono (by omega))
  have hz1 : w.heap.size + 1 ≤ w1.heap.size := by have := b1.size; omega
  clear cT b1 X0 b0 hz
  obtain ⟨p, c, rfl, hm, htk⟩ := ht
  have al1 := al w1 (.cells #[.slice p R.length c, .int .i64 0, .int .i64 (s.size : Int), .int .i64 (-1)] 54)
  have kc : ∀ i, (w1.alloc (.cells #[.slice p R.length c, .int .i64 0, .int .i64 (s.size : Int), .int .i64 (-1)] 54)).cell? ⟨w1.heap.size, i, none⟩ = (#[.slice p R.length c, .int .i64 0, .int .i64 (s.size : Int), .int .i64 (-1)] : Array Value)[i]? := fun i => World.cell?_alloc_at _ _ _ _ rfl
  have kf : ∀ i, (w1.alloc (.cells #[.slice p R.length c, .int .i64 0, .int .i64 (s.size : Int), .int .i64 (-1)] 54)).frozen? ⟨w1.heap.size, i, none⟩ = false := fun i => World.frozen?_alloc_at _ _ _ _ rfl
  have H2 : InAt (w1.alloc (.cells #[.slice p R.length c, .int .i64 0, .int .i64 (s.size : Int), .int .i64 (-1)] 54)) w1.heap.size p c R s.size ⟨0, -1⟩ := ⟨kc 0, kc 1, kc 2, kc 3, kf 1, kf 3, by simp, by
    rcases htk with h | ⟨b, off, e, h⟩
    · exact .inl h
    · exact .inr ⟨b, off, e, by have := h.1; omega, h.on al1⟩⟩
  have X2 := X1.on al1
  have B2 : Below w.heap.size w _ := B1.trans (al1.mono (by omega))
  have cE := cE w1.heap.size p c _ H2
  go_wp2_with fail
  refine cE.mono ?_
  rintro e w3 ⟨v, rfl, hx, h3, b3⟩
  have hz2 : (w1.alloc (.cells #[.slice p R.length c, .int .i64 0, .int .i64 (s.size : Int), .int .i64 (-1)] 54)).heap.size = w1.heap.size + 1 := by simp
  have hx3 : ExIn w3 (fun b => w.heap.size + 1 ≤ b) v x := hx.lowB (by omega)
  have X3 := X2.but b3 (by omega)
  have B3 : Below w.heap.size w w3 := B2.trans (b3.below.mono (by omega))
  obtain ⟨o1, n1, t1, k1, z1, p1, m1, c1, a1, rfl⟩ := hx.agg
  have al3 := al w3 (.cells #[.string o1, .string n1, .int .i64 t1, .int .i64 k1, .string z1, .slice p1 m1 c1, .int .i64 a1] 26)
  have L3 := box7_alloc w3 (.string o1) (.string n1) (.int .i64 t1) (.int .i64 k1) (.string z1) (.slice p1 m1 c1) (.int .i64 a1) 26
  have hz3 : w1.heap.size + 1 ≤ w3.heap.size := by have := b3.size; omega
  have H3 := h3
  obtain ⟨g0, g1, g2, g3, gf1, gf3, glt, _⟩ := h3
  clear cE hx b3 X1 X2 H2 B2 kc kf hz2 htk B1 al1 cT
  by_cases hA : s1.i < R.length
  · have hAz : (s1.i : Int) < (R.length : Int) := by omega
    have hbad : 0 ≤ (failT R s.size s1).bad := by
      rw [failT]
      split
      · exact pos_nn _ _ _
      · rename_i h; omega
    have hend : endD R s.size s1 = failT R s.size s1 := by rw [endD, if_pos hA]
    rw [hend, if_pos hbad] at hres
    simp only [Prod.mk.injEq] at hres
    obtain ⟨rfl, rfl, rfl⟩ := hres
    have cF := in_fail _ _ p c R s.size s1 (H3.on al3) hn (by omega)
    clear hend
    go_wp2_with fail
    refine cF.mono ?_
    rintro e w5 ⟨rfl, h5, b5⟩
    have B5 : Below w.heap.size w w5 := (B3.trans (al3.mono (by omega))).trans (b5.below.mono (by omega))
    have X5 := (X3.on al3).but b5 (by omega)
    obtain ⟨q0, q1, q2, q3, qf1, qf3, qlt, _⟩ := h5
    clear g0 g1 g2 g3 gf1 gf3 glt cF b5 X3 L3
    obtain ⟨d0, d1, d2, d3, d4, d5, d6, df, dl⟩ := X5
    have df0 := df 0
    have df1 := df 1
    have df2 := df 2
    have df3 := df 3
    have df4 := df 4
    have df5 := df 5
    have df6 := df 6
    clear df
    go_wp2
    go_region
    go_wp2
    refine bodyPost_ret (v := .tuple #[.agg #[.string ⟨#[]⟩, .string ⟨#[]⟩, .int .i64 0, .int .i64 0, .string ⟨#[]⟩, .slice none 0 0, .int .i64 0], .int .i64 2, .int .i64 (failT R s.size s1).bad]) (by simp [results, Tryz.results6, go_sem, d0, d1, d2, d3, d4, d5, d6, dl]) rfl ⟨⟨_, rfl, ?_⟩, ?_⟩
    · exact ex_zero _ _
    · exact Below.drew (set7_below B5 (Nat.le_refl _) _ _ _ _ _ _ _)
  · have hAz : ¬ (s1.i : Int) < (R.length : Int) := by omega
    have hend : endD R s.size s1 = s1 := by rw [endD, if_neg hA]
    rw [hend] at hres
    clear hend
    by_cases hbad : 0 ≤ s1.bad
    · rw [if_pos hbad] at hres
      simp only [Prod.mk.injEq] at hres
      obtain ⟨rfl, rfl, rfl⟩ := hres
      obtain ⟨d0, d1, d2, d3, d4, d5, d6, df, dl⟩ := X3
      have df0 := df 0
      have df1 := df 1
      have df2 := df 2
      have df3 := df 3
      have df4 := df 4
      have df5 := df 5
      have df6 := df 6
      clear df
      go_wp2
      go_region
      go_wp2
      refine bodyPost_ret (v := .tuple #[.agg #[.string ⟨#[]⟩, .string ⟨#[]⟩, .int .i64 0, .int .i64 0, .string ⟨#[]⟩, .slice none 0 0, .int .i64 0], .int .i64 2, .int .i64 s1.bad]) (by simp [results, Tryz.results6, go_sem, d0, d1, d2, d3, d4, d5, d6, dl]) rfl ⟨⟨_, rfl, ?_⟩, ?_⟩
      · exact ex_zero _ _
      · exact Below.drew ((set7_below B3 (Nat.le_refl _) _ _ _ _ _ _ _).alloc (by simp [World.setCell]; omega) _)
    · rw [if_neg hbad] at hres
      have cS := refSmall_any x _ _ _ (hx3.on al3) hsz
      have X4 := X3.on al3
      have L4 := L3
      obtain ⟨l0, l1, l2, l3, l4, l5, l6, lf, ll⟩ := L3
      cases hsm : x.small
      · skip
        rw [hsm] at cS hres
        simp only [Bool.false_eq_true, if_false, if_true, Prod.mk.injEq] at hres
        obtain ⟨rfl, rfl, rfl⟩ := hres
        go_wp2_with fail
        refine cS.mono ?_
        rintro e w5 ⟨rfl, b5⟩
        have B5 : Below w.heap.size w w5 := (B3.trans (al3.mono (by omega))).trans (b5.mono (by simp; omega))
        have X5 := X4.on b5
        obtain ⟨y0, y1, y2, y3, y4, y5, y6, yf, yl⟩ := L4.on b5
        have hx5 := (hx3.on al3).on b5
        clear cS b5 X4 L4 yf l0 l1 l2 l3 l4 l5 l6 lf ll
        obtain ⟨d0, d1, d2, d3, d4, d5, d6, df, dl⟩ := X5
        have df0 := df 0
        have df1 := df 1
        have df2 := df 2
        have df3 := df 3
        have df4 := df 4
        have df5 := df 5
        have df6 := df 6
        clear df
        go_wp2
        refine bodyPost_ret (v := .tuple #[.agg #[.string ⟨#[]⟩, .string ⟨#[]⟩, .int .i64 0, .int .i64 0, .string ⟨#[]⟩, .slice none 0 0, .int .i64 0], .int .i64 4, .int .i64 0]) (by simp [results, Tryz.results6, go_sem, d0, d1, d2, d3, d4, d5, d6, dl]) rfl ⟨⟨_, rfl, ?_⟩, ?_⟩
        · exact ex_zero _ _
        · exact set7_below B5 (Nat.le_refl _) _ _ _ _ _ _ _
      · skip
        rw [hsm] at cS hres
        simp only [Bool.false_eq_true, if_false, if_true, Prod.mk.injEq] at hres
        obtain ⟨rfl, rfl, rfl⟩ := hres
        go_wp2_with fail
        refine cS.mono ?_
        rintro e w5 ⟨rfl, b5⟩
        have B5 : Below w.heap.size w w5 := (B3.trans (al3.mono (by omega))).trans (b5.mono (by simp; omega))
        have X5 := X4.on b5
        obtain ⟨y0, y1, y2, y3, y4, y5, y6, yf, yl⟩ := L4.on b5
        have hx5 := (hx3.on al3).on b5
        clear cS b5 X4 L4 yf l0 l1 l2 l3 l4 l5 l6 lf ll
        obtain ⟨d0, d1, d2, d3, d4, d5, d6, df, dl⟩ := X5
        have df0 := df 0
        have df1 := df 1
        have df2 := df 2
        have df3 := df 3
        have df4 := df 4
        have df5 := df 5
        have df6 := df 6
        clear df
        go_wp2
        refine bodyPost_ret (v := .tuple #[.agg #[.string o1, .string n1, .int .i64 t1, .int .i64 k1, .string z1, .slice p1 m1 c1, .int .i64 a1], .int .i64 0, .int .i64 0]) (by simp [results, Tryz.results6, go_sem, d0, d1, d2, d3, d4, d5, d6, dl]) rfl ⟨⟨_, rfl, ?_⟩, ?_⟩
        · exact (hx5.set7 (own_ne (Nat.lt_succ_self _)) _ _ _ _ _ _ _).lowB (Nat.le_succ _)
        · exact set7_below B5 (Nat.le_refl _) _ _ _ _ _ _ _
end Go.Proofs.YtkoejkpjkcejcaaGreatDoor
namespace Go.Proofs.YtkoejkpjkcejcaaGreatDoor
open Go.RowKit
set_option linter.unusedVariables false

theorem refLetter_any (c : UInt8) (w : World) : Calls Tryz.prog 35 #[.int .u8 (c.toNat : Int)] w fun e w' => e = .returned (.bool (letB c)) ∧ w' = w := by
  obtain ⟨B, hB⟩ : ∃ B, letB c = B := ⟨_, rfl⟩
  have HB : Hid (letB c = B) := hB
  rw [hB]
  clear hB
  go_enter Tryz.func35, Tryz.ntmps35
  go_wp2
  all_goals
    go_ret
    refine ⟨ret_bool ?_, rfl⟩
    rw [← HB.out, letB]
    simp
    try omega
theorem refDigit_any (c : UInt8) (w : World) : Calls Tryz.prog 36 #[.int .u8 (c.toNat : Int)] w fun e w' => e = .returned (.bool (digB c)) ∧ w' = w := by
  obtain ⟨B, hB⟩ : ∃ B, digB c = B := ⟨_, rfl⟩
  have HB : Hid (digB c = B) := hB
  rw [hB]
  clear hB
  go_enter Tryz.func36, Tryz.ntmps36
  go_wp2
  all_goals
    go_ret
    refine ⟨ret_bool ?_, rfl⟩
    rw [← HB.out, digB]
    simp
    try omega
/-- A text of digits without a needless 0 ahead is a number just if it is not too great. -/
theorem numL_dig {t : List UInt8} (hne : t ≠ []) (ha : t.all digB = true) (hz : ¬ (1 < t.length ∧ t.head? = some 48)) : numL t = if 9223372036854775807 < val10 t then none else some (val10 t) := by
  have hl0 : t.length ≠ 0 := fun e => hne (List.length_eq_zero_iff.1 e)
  by_cases h19 : 19 < t.length
  · have hd := dec_val (t.length - 1) t (by omega) ha (fun r e => Classical.byContradiction fun hr => hz ⟨by rw [e]; cases r with | nil => exact absurd rfl hr | cons _ _ => simp, by rw [e]; rfl⟩)
    have hbig : 9223372036854775807 < val10 t := by
      rcases Nat.lt_or_ge (val10 t) (10 ^ (18 + 1)) with h | h
      · have h2 := nd_le 18 (val10 t) h
        have h3 : (Lib.decDigits (val10 t)).length = t.length := by rw [hd]
        rw [Lib.decDigits_length] at h3
        omega
      · omega
    rw [numL, if_pos (Or.inr (Or.inr h19)), if_pos hbig]
  · rw [numL, if_neg, if_pos ha]
    rintro (e | e | e)
    · exact hne e
    · exact hz ⟨e.2, e.1⟩
    · exact h19 e
theorem tok_word {s : ByteArray} {a : Nat} (h : a < s.size) (hl : letB s[a] = true) : tokAt (s.data.toList.drop a) = (1, goN ldB (s.data.toList.drop a), 0) := by
  rw [drop_cons s a h, tokAt, if_pos hl]
theorem tok_num {s : ByteArray} {a : Nat} (h : a < s.size) (hl : letB s[a] = false) (hd : digB s[a] = true) : tokAt (s.data.toList.drop a) = (2, numTok (s.data.toList.drop a)) := by
  rw [drop_cons s a h, tokAt, if_neg (by rw [hl]; decide), if_pos hd]
theorem tok_quo {s : ByteArray} {a : Nat} (h : a < s.size) (hq : s[a] = 39) : tokAt (s.data.toList.drop a) = (3, quoTok (s.data.toList.drop (a + 1))) := by
  rw [drop_cons s a h, tokAt, hq, if_neg (by decide), if_neg (by decide), if_pos rfl]
theorem tok_sig {s : ByteArray} {a : Nat} (h : a < s.size) (hl : letB s[a] = false) (hd : digB s[a] = false) (hq : s[a] ≠ 39) : tokAt (s.data.toList.drop a) = (4, sgN signsL (s.data.toList.drop a), if sgN signsL (s.data.toList.drop a) = 0 then 2 else 0) := by
  rw [drop_cons s a h, tokAt, if_neg (by rw [hl]; decide), if_neg (by rw [hd]; decide), if_neg hq]
theorem goD_step {p : UInt8 → Bool} {s : ByteArray} {a m N : Nat} (h : a + m < s.size) (hp : p s[a + m] = true) (hE : N = m + goN p (s.data.toList.drop (a + m))) : N = m + 1 + goN p (s.data.toList.drop (a + (m + 1))) := by
  rw [hE, drop_cons s (a + m) h, goN_yes _ hp, Nat.add_assoc a m 1]; omega
theorem goD_here {p : UInt8 → Bool} {s : ByteArray} {a m N : Nat} (h : a + m < s.size) (hp : p s[a + m] = false) (hE : N = m + goN p (s.data.toList.drop (a + m))) : N = m := by
  rw [hE, drop_cons s (a + m) h, goN_no _ hp]; rfl
theorem goD_out {p : UInt8 → Bool} {s : ByteArray} {a m N : Nat} (h : s.size ≤ a + m) (hE : N = m + goN p (s.data.toList.drop (a + m))) : N = m := by
  rw [hE, List.drop_eq_nil_of_le (by simp; omega)]; rfl
theorem opt_map_map (o : Option Nat) (x y : Nat) : (o.map (· + x)).map (· + y) = o.map (· + (y + x)) := by
  cases o
  · rfl
  · simp; omega
theorem q_in {s : ByteArray} {b m : Nat} {o : Option Nat} (h : b + m < s.size) (hc : s[b + m] ≠ 39) (ho : o = (qscan (s.data.toList.drop (b + m))).map (· + m)) : o = (qscan (s.data.toList.drop (b + (m + 1)))).map (· + (m + 1)) := by
  rw [ho, drop_cons s (b + m) h, qscan_ne _ _ hc, opt_map_map]; rfl
theorem q_two {s : ByteArray} {b m : Nat} {o : Option Nat} (h : b + m + 1 < s.size) (hc : s[b + m] = 39) (hd : s[b + m + 1] = 39) (ho : o = (qscan (s.data.toList.drop (b + m))).map (· + m)) : o = (qscan (s.data.toList.drop (b + (m + 2)))).map (· + (m + 2)) := by
  rw [ho, drop_cons s (b + m) (by omega), drop_cons s (b + m + 1) h, hc, hd, qscan_two, opt_map_map]; rfl
theorem q_end {s : ByteArray} {b m : Nat} {o : Option Nat} (h : b + m < s.size) (hc : s[b + m] = 39) (hd : ∀ h2 : b + m + 1 < s.size, s[b + m + 1] ≠ 39) (ho : o = (qscan (s.data.toList.drop (b + m))).map (· + m)) : o = some (m + 1) := by
  rw [ho, drop_cons s (b + m) h, hc, qscan_end]
  · simp; omega
  · by_cases h2 : b + m + 1 < s.size
    · rw [drop_cons s (b + m + 1) h2]; simpa using hd h2
    · rw [List.drop_eq_nil_of_le (by simp; omega)]; simp
theorem q_out {s : ByteArray} {b m : Nat} {o : Option Nat} (h : s.size ≤ b + m) (ho : o = (qscan (s.data.toList.drop (b + m))).map (· + m)) : o = none := by
  rw [ho, List.drop_eq_nil_of_le (by simp; omega)]; rfl
/-- The bytes that are signs by themselves. -/
def oneS : List UInt8 := [40, 41, 44, 43, 45, 42, 47, 37, 61, 60, 62]
theorem sg_lt_gt (r : List UInt8) : sgN signsL (60 :: 62 :: r) = 2 := by simp [signsL, sgN, Lib.hasPrefix, List.isPrefixOf]
theorem sg_lt_eq (r : List UInt8) : sgN signsL (60 :: 61 :: r) = 2 := by simp [signsL, sgN, Lib.hasPrefix, List.isPrefixOf]
theorem sg_gt_eq (r : List UInt8) : sgN signsL (62 :: 61 :: r) = 2 := by simp [signsL, sgN, Lib.hasPrefix, List.isPrefixOf]
/-- Does a sign of two bytes begin so? -/
def twoB (c : UInt8) (r : List UInt8) : Bool := (c == 60 && (hdB (· == 62) r || hdB (· == 61) r)) || (c == 62 && hdB (· == 61) r)
theorem sg_two {c : UInt8} {r : List UInt8} (h : twoB c r = true) : sgN signsL (c :: r) = 2 := by
  cases r with
  | nil => simp [twoB, hdB] at h
  | cons d r =>
    simp [twoB, hdB] at h
    rcases h with ⟨rfl, rfl | rfl⟩ | ⟨rfl, rfl⟩
    · exact sg_lt_gt r
    · exact sg_lt_eq r
    · exact sg_gt_eq r
theorem sg_one {c : UInt8} {r : List UInt8} (h : twoB c r = false) (hm : oneS.any (· == c) = true) : sgN signsL (c :: r) = 1 := by
  simp [oneS] at hm
  cases r with
  | nil => rcases hm with rfl | rfl | rfl | rfl | rfl | rfl | rfl | rfl | rfl | rfl | rfl <;> simp [signsL, sgN, Lib.hasPrefix, List.isPrefixOf]
  | cons d r =>
    have h60 : c = 60 → d ≠ 62 ∧ d ≠ 61 := fun e => by
      subst e
      constructor
      · rintro rfl; simp [twoB, hdB] at h
      · rintro rfl; simp [twoB, hdB] at h
    have h62 : c = 62 → d ≠ 61 := fun e => by
      subst e
      rintro rfl; simp [twoB, hdB] at h
    clear h
    rcases hm with rfl | rfl | rfl | rfl | rfl | rfl | rfl | rfl | rfl | rfl | rfl
    case inr.inr.inr.inr.inr.inr.inr.inr.inr.inl =>
      obtain ⟨e1, e2⟩ := h60 rfl
      have f1 : ¬ (62 : UInt8) = d := fun e => e1 e.symm
      have f2 : ¬ (61 : UInt8) = d := fun e => e2 e.symm
      simp [signsL, sgN, Lib.hasPrefix, List.isPrefixOf, f1, f2]
    case inr.inr.inr.inr.inr.inr.inr.inr.inr.inr =>
      have f2 : ¬ (61 : UInt8) = d := fun e => h62 rfl e.symm
      simp [signsL, sgN, Lib.hasPrefix, List.isPrefixOf, f2]
    all_goals simp [signsL, sgN, Lib.hasPrefix, List.isPrefixOf]
theorem sg_none {c : UInt8} {r : List UInt8} (hm : oneS.any (· == c) = false) : sgN signsL (c :: r) = 0 := by
  simp [oneS] at hm
  obtain ⟨h1, h2, h3, h4, h5, h6, h7, h8, h9, h10, h11⟩ := hm
  simp [signsL, sgN, Lib.hasPrefix, List.isPrefixOf, h1, h2, h3, h4, h5, h6, h7, h8, h9, h10, h11]
theorem any_take {c : UInt8} {k : Nat} (h : k < oneS.length) : (oneS.take (k + 1)).any (· == c) = ((oneS.take k).any (· == c) || oneS[k] == c) := by
  rw [List.take_succ_eq_append_getElem h, List.any_append]
  simp only [List.any_cons, List.any_nil, Bool.or_false]
theorem one_at (k : Nat) (hk : k < 11) : ∃ V : UInt8, (∀ W : World, Sem.run Tryz.prog (Instr.index 9 (.string ⟨#[40, 41, 44, 43, 45, 42, 47, 37, 61, 60, 62]⟩) (.int .i64 (k : Int))) W = .ok (.int .u8 (V.toNat : Int)) W) ∧ oneS[k]'hk = V := by
  have h : k = 0 ∨ k = 1 ∨ k = 2 ∨ k = 3 ∨ k = 4 ∨ k = 5 ∨ k = 6 ∨ k = 7 ∨ k = 8 ∨ k = 9 ∨ k = 10 := by omega
  rcases h with rfl | rfl | rfl | rfl | rfl | rfl | rfl | rfl | rfl | rfl | rfl
  · exact ⟨40, fun W => by kernel_rfl, rfl⟩
  · exact ⟨41, fun W => by kernel_rfl, rfl⟩
  · exact ⟨44, fun W => by kernel_rfl, rfl⟩
  · exact ⟨43, fun W => by kernel_rfl, rfl⟩
  · exact ⟨45, fun W => by kernel_rfl, rfl⟩
  · exact ⟨42, fun W => by kernel_rfl, rfl⟩
  · exact ⟨47, fun W => by kernel_rfl, rfl⟩
  · exact ⟨37, fun W => by kernel_rfl, rfl⟩
  · exact ⟨61, fun W => by kernel_rfl, rfl⟩
  · exact ⟨60, fun W => by kernel_rfl, rfl⟩
  · exact ⟨62, fun W => by kernel_rfl, rfl⟩
theorem u8_eq {c d : UInt8} : ((c.toNat : Int) == (d.toNat : Int)) = (d == c) := by
  by_cases h : c = d
  · subst h; simp
  · have h1 : ((c.toNat : Int) == (d.toNat : Int)) = false := by
      rw [beq_eq_false_iff_ne]
      intro e
      exact h (UInt8.toNat_inj.1 (by omega))
    have h2 : (d == c) = false := by rw [beq_eq_false_iff_ne]; exact fun e => h e.symm
    rw [h1, h2]
theorem u8_num {c : UInt8} (n : Nat) (hn : n < 256) : ((c.toNat : Int) == (n : Int)) = (c == UInt8.ofNat n) := by
  have e : (UInt8.ofNat n).toNat = n := by simp; omega
  have := u8_eq (c := c) (d := UInt8.ofNat n)
  rw [e] at this
  rw [this, BEq.comm]
end Go.Proofs.YtkoejkpjkcejcaaGreatDoor
namespace Go.Proofs.YtkoejkpjkcejcaaGreatDoor
open Go.RowKit
set_option linter.unusedVariables false

theorem qk_in {s : ByteArray} {b k : Nat} {o : Option Nat} (hb : b ≤ k) (h : k < s.size) (hc : s[k] ≠ 39) (ho : o = (qscan (s.data.toList.drop k)).map (· + (k - b))) : o = (qscan (s.data.toList.drop (k + 1))).map (· + (k + 1 - b)) := by
  rw [ho, drop_cons s k h, qscan_ne _ _ hc, opt_map_map, show k + 1 - b = k - b + 1 from by omega]
theorem qk_two {s : ByteArray} {b k : Nat} {o : Option Nat} (hb : b ≤ k) (h : k + 1 < s.size) (hc : s[k] = 39) (hd : s[k + 1] = 39) (ho : o = (qscan (s.data.toList.drop k)).map (· + (k - b))) : o = (qscan (s.data.toList.drop (k + 2))).map (· + (k + 2 - b)) := by
  rw [ho, drop_cons s k (by omega), drop_cons s (k + 1) h, hc, hd, qscan_two, opt_map_map, show k + 2 - b = k - b + 2 from by omega]
theorem qk_end {s : ByteArray} {b k : Nat} {o : Option Nat} (hb : b ≤ k) (h : k < s.size) (hc : s[k] = 39) (hd : ∀ h2 : k + 1 < s.size, s[k + 1] ≠ 39) (ho : o = (qscan (s.data.toList.drop k)).map (· + (k - b))) : o = some (k + 1 - b) := by
  rw [ho, drop_cons s k h, hc, qscan_end]
  · simp; omega
  · by_cases h2 : k + 1 < s.size
    · rw [drop_cons s (k + 1) h2]; simpa using hd h2
    · rw [List.drop_eq_nil_of_le (by simp; omega)]; simp
theorem qk_out {s : ByteArray} {b k : Nat} {o : Option Nat} (h : s.size ≤ k) (ho : o = (qscan (s.data.toList.drop k)).map (· + (k - b))) : o = none := by
  rw [ho, List.drop_eq_nil_of_le (by simp; omega)]; rfl
theorem goN_le' (p : UInt8 → Bool) (s : ByteArray) (a : Nat) (h : a ≤ s.size) : a + goN p (s.data.toList.drop a) ≤ s.size := by
  have := goN_le p (s.data.toList.drop a)
  rw [List.length_drop] at this
  simp at this
  omega
theorem read_lex (s : ByteArray) (w : World) (hs : s.size ≤ 140737488355328) :
    Calls Tryz.prog 38 #[.string s] w fun e w' => (∃ (t n : Int) (x : ByteArray) (k : Int), e = .returned (.tuple #[.agg #[.int .i64 t, .int .i64 n, .string x], .int .i64 k]) ∧ Hid ((readV s).2.2.2 = k)) ∧ Below w.heap.size w w' :=
  (read_any s w hs).mono fun e w' hh => ⟨⟨_, _, ⟨(readV s).2.2.1.toArray⟩, _, hh.1, rfl⟩, hh.2⟩
set_option maxRecDepth 20000 in
theorem refTok_full (s : ByteArray) (w : World) (h : 400 < s.size) :
    Calls Tryz.prog 17 #[.string s] w fun e w' => e = .returned (.tuple #[.slice none 0 0, .int .i64 4, .int .i64 0]) ∧ w' = w := by
  have hz : (400 : Int) < (s.size : Int) := by omega
  go_enter Tryz.func17, Tryz.ntmps17
  go_wp2
  go_ret3
  exact ⟨rfl, rfl⟩
set_option maxHeartbeats 64000000 in
set_option maxRecDepth 20000 in
theorem refTok_loop (s : ByteArray) (w : World) (h400 : s.size ≤ 400) :
    Calls Tryz.prog 17 #[.string s] w fun e w' => (∃ v, e = .returned (.tuple #[v, .int .i64 (lexS (s.size + 1) 0 s.data.toList []).2.1, .int .i64 ((lexS (s.size + 1) 0 s.data.toList []).2.2 : Nat)]) ∧ IsToks w' v (lexS (s.size + 1) 0 s.data.toList []).1) ∧ Below w.heap.size w w' := by
  obtain ⟨R, E, P, hR⟩ : ∃ R E P, lexS (s.size + 1) 0 s.data.toList [] = (R, E, P) := ⟨_, _, _, rfl⟩
  rw [hR]
  simp only
  obtain ⟨i0, hi, hz0, hz1, hz2⟩ := info_parts info_tok
  have hz : ¬ (400 : Int) < (s.size : Int) := by omega
  have HR0 : Hid ((R, E, P) = lexS (s.size + 1) 0 (s.data.toList.drop 0) []) := by
    show _ = _
    rw [← hR, List.drop_zero]
  clear hR
  go_enter Tryz.func17, Tryz.ntmps17
  go_wp2
  go_loopg [5, 6, 7, 8, 9, 10, 11, 12, 13, 14, 15, 16, 17] (s.size + 1) (fun gg s5 s6 _ _ _ _ _ _ _ _ _ _ _ wr => ∃ (a f : Nat) (acc : List Tok), s6 = .int .i64 a ∧ a ≤ s.size ∧ s.size - a < gg ∧ s.size - a < f ∧ wr.ownsRow w.heap.size 83 3 s5 acc.length (tokCells acc) ∧ Aside (Below w.heap.size w wr) ∧ Hid ((R, E, P) = lexS f a (s.data.toList.drop a) acc) ∧ acc.length ≤ a)
  case atStart => exact ⟨0, s.size + 1, [], rfl, Nat.zero_le _, by omega, by omega, World.ownsRow_nil _ _ _ _, Below.refl _ _, HR0, Nat.le_refl _⟩
  case round =>
    obtain ⟨a, f, acc, rfl, ha, hg, hf, hown, BW, HR, hacc⟩ := hrel
    obtain ⟨vp, vc, rfl⟩ := lown_slice hown
    obtain ⟨f', rfl⟩ : ∃ f', f = f' + 1 := ⟨f - 1, by omega⟩
    clear HR0
    by_cases hlt : a < s.size
    · have hltz : (a : Int) < (s.size : Int) := by omega
      have hcons := drop_cons s a hlt
      have HCO : Hid (s.data.toList.drop a = s[a] :: s.data.toList.drop (a + 1)) := hcons
      clear hcons
      cases hb : blB s[a]
      · have hn32 : ((s[a].toNat : Int) == 32) = false := by
          rw [beq_eq_false_iff_ne]; intro e; simp [blB, e] at hb
        have hn10 : ((s[a].toNat : Int) == 10) = false := by
          rw [beq_eq_false_iff_ne]; intro e; simp [blB, e] at hb
        have HR1 : Hid ((R, E, P) = lexA (f' + 1) a (s.data.toList.drop a) acc) := by
          show _ = _
          rw [HR.out, lexS_no _ _ _ _ (by rw [HCO.out]; exact hb)]
        have HNE : Hid (s.data.toList.drop a ≠ []) := by
          show _ ≠ _
          rw [HCO.out]; simp
        have cL := refLetter_any s[a]
        have cD := refDigit_any s[a]
        obtain ⟨L, hL⟩ : ∃ L, letB s[a] = L := ⟨_, rfl⟩
        obtain ⟨D, hD⟩ : ∃ D, digB s[a] = D := ⟨_, rfl⟩
        have HL : Hid (letB s[a] = L) := hL
        have HD : Hid (digB s[a] = D) := hD
        rw [hL] at cL
        rw [hD] at cD
        clear hL hD hb HR
        go_wp2_with fail
        refine (cL _).mono ?_
        rintro e w1 ⟨rfl, hq1⟩
        obtain rfl : wr = w1 := hq1.symm
        go_wp2_with fail
        refine (cD _).mono ?_
        rintro e w1 ⟨rfl, hq1⟩
        obtain rfl : wr = w1 := hq1.symm
        go_upto_if 41 with fail
        go_cut [10, 11, 12, 13, 14, 15, 16, 17] (fun s10 s11 _ _ _ _ _ _ wc => ∃ (k : Int) (n : Nat), s10 = .int .i64 ((a + n : Nat) : Int) ∧ s11 = .int .i64 k ∧ Hid (tokAt (s.data.toList.drop a) = (k, n, 0)) ∧ wc.ownsRow w.heap.size 83 3 (.slice vp acc.length vc) acc.length (tokCells acc) ∧ Below w.heap.size w wc)
        case first => as_aux_lemma =>
          cases L
          · cases D
            · by_cases hq : s[a] = 39
              · as_aux_lemma =>
                have hqz : ((s[a].toNat : Int) == 39) = true := by rw [hq]; rfl
                obtain ⟨Q, hQ⟩ : ∃ Q, qscan (s.data.toList.drop (a + 1)) = Q := ⟨_, rfl⟩
                have HQ : Hid (qscan (s.data.toList.drop (a + 1)) = Q) := hQ
                have HT : Hid (tokAt (s.data.toList.drop a) = (3, quoTok (s.data.toList.drop (a + 1)))) := tok_quo hlt hq
                have HQ0 : Hid (Q = (qscan (s.data.toList.drop (a + 1))).map (· + (a + 1 - (a + 1)))) := by
                  show _ = _
                  rw [hQ, Nat.sub_self]
                  cases Q <;> rfl
                have HA39 : Hid (s[a] = 39) := hq
                clear hQ hq
                go_wp2
                go_loopg [10] (s.size - a) (fun gg s10 wx => ∃ kx : Nat, a + 1 ≤ kx ∧ kx ≤ s.size + 1 ∧ s.size - kx ≤ gg ∧ s10 = .int .i64 kx ∧ wx = wr ∧ Hid (Q = (qscan (s.data.toList.drop kx)).map (· + (kx - (a + 1)))))
                case atStart => exact ⟨a + 1, Nat.le_refl _, by omega, by omega, by go_num, rfl, HQ0⟩
                case round =>
                  obtain ⟨kx, hak, hkx, hgx, rfl, rfl, HE⟩ := hrel
                  by_cases hm : kx < s.size
                  · have hmz : (kx : Int) < (s.size : Int) := by omega
                    by_cases hc : s[kx] = 39
                    · have hcz : ((s[kx].toNat : Int) != 39) = false := by rw [hc]; rfl
                      have hce : ((s[kx].toNat : Int) == 39) = true := by rw [hc]; rfl
                      by_cases hd : ∃ h2 : kx + 1 < s.size, s[kx + 1] = 39
                      · obtain ⟨hm2, hd2⟩ := hd
                        have hm2z : (kx : Int) + 1 < (s.size : Int) := by omega
                        have hdz : ((s[kx + 1].toNat : Int) == 39) = true := by rw [hd2]; rfl
                        have HE2 : Hid (Q = (qscan (s.data.toList.drop (kx + 2))).map (· + (kx + 2 - (a + 1)))) := qk_two hak hm2 hc hd2 HE.out
                        clear hc hd2 HE
                        go_wp2
                        go_roundg (s.size - (kx + 2))
                        case measure => omega
                        case rel => exact ⟨kx + 2, by omega, by omega, Nat.le_refl _, by go_num, rfl, HE2⟩
                      · as_aux_lemma =>
                        have hQs : Q = some (kx + 1 - (a + 1)) := qk_end hak hm hc (fun h2 e => hd ⟨h2, e⟩) HE.out
                        obtain ⟨Y, hY, hY1, hY2⟩ := slice_mid s a (kx + 1) (by omega) (by omega)
                        have HRD : Hid ((readV Y).2.2.2 = qE ((s.data.toList.drop (a + 1)).take (kx + 1 - (a + 1)))) := read_qE (by rw [hY1, HCO.out, HA39.out, show kx + 1 - a = kx + 1 - (a + 1) + 1 from by omega, List.take_succ_cons])
                        have HQT : Hid (quoTok (s.data.toList.drop (a + 1)) = if qE ((s.data.toList.drop (a + 1)).take (kx + 1 - (a + 1))) = 0 then (kx + 1 - (a + 1) + 1, 0) else (0, qE ((s.data.toList.drop (a + 1)).take (kx + 1 - (a + 1))))) := by
                          show _ = _
                          rw [quoTok, HQ.out, hQs]
                        have HQC : Hid (qE ((s.data.toList.drop (a + 1)).take (kx + 1 - (a + 1))) = 0 ∨ qE ((s.data.toList.drop (a + 1)).take (kx + 1 - (a + 1))) = 2 ∨ qE ((s.data.toList.drop (a + 1)).take (kx + 1 - (a + 1))) = 4) := qE_cases _
                        have hYz : ∀ W : World, Sem.run Tryz.prog (Instr.slice 9 (.string s) (some (.int .i64 (a : Int))) (some (.int .i64 ((kx : Int) + 1))) none) W = .ok (.string Y) W := hY
                        have hYs : Y.size ≤ 140737488355328 := by omega
                        have hmge : ¬ (s.size : Int) ≤ (kx : Int) := by omega
                        have hnx : Hid (¬ ∃ h2 : kx + 1 < s.size, s[kx + 1] = 39) := hd
                        clear hd hQs hc HE hY1 hY2 hY
                        by_cases h2 : kx + 1 < s.size
                        all_goals
                          first
                          | (have hm2z : (kx : Int) + 1 < (s.size : Int) := by omega
                             have hdz : ((s[kx + 1].toNat : Int) == 39) = false := by
                               rw [beq_eq_false_iff_ne]; exact u8_39n (fun e => hnx.out ⟨h2, e⟩))
                          | (have hm2z : ¬ (kx : Int) + 1 < (s.size : Int) := by omega)
                          clear hnx
                          go_wp2_with fail
                          refine (read_lex Y _ hYs).mono ?_
                          rintro e w2 ⟨⟨t, n, x, k, rfl, HK⟩, b2⟩
                          have hk : qE ((s.data.toList.drop (a + 1)).take (kx + 1 - (a + 1))) = k := by rw [← HRD.out]; exact HK.out
                          rw [hk] at HQT HQC
                          have B2 := BW.out.trans (b2.mono BW.out.size)
                          have o2 := lown_below hown b2
                          have hkc := HQC.out
                          clear hk HK HRD HQC
                          by_cases hk0 : k = 0
                          · subst hk0
                            have HT2 : Hid (tokAt (s.data.toList.drop a) = (3, kx + 1 - (a + 1) + 1, 0)) := by
                              show _ = _
                              rw [HT.out, HQT.out, if_pos rfl]
                            clear HQT hkc
                            go_wp2
                            go_meet
                            exact ⟨3, kx + 1 - (a + 1) + 1, by rw [show a + (kx + 1 - (a + 1) + 1) = kx + 1 from by omega]; go_num, rfl, HT2, o2.alloc _, B2.alloc B2.size _⟩
                          · have hkz : (k != 0) = true := by simpa using hk0
                            have HT2 : Hid (tokAt (s.data.toList.drop a) = (3, 0, k)) := by
                              show _ = _
                              rw [HT.out, HQT.out, if_neg hk0]
                            have hF : (R, E, P) = ([], k, a) := by rw [HR1.out, lexA_bad f' a _ acc HNE.out HT2.out hk0]
                            obtain ⟨rfl, hF2⟩ := Prod.mk.inj hF
                            obtain ⟨rfl, rfl⟩ := Prod.mk.inj hF2
                            clear hF hF2 HR1
                            clear HQT hkc hk0
                            go_wp2
                            go_ret3
                            exact ⟨⟨_, rfl, isToks_nil _⟩, B2.alloc B2.size _⟩
                    · have hcz : ((s[kx].toNat : Int) != 39) = true := by rw [bne_iff_ne]; exact u8_39n hc
                      have hce : ((s[kx].toNat : Int) == 39) = false := by rw [beq_eq_false_iff_ne]; exact u8_39n hc
                      have HE2 : Hid (Q = (qscan (s.data.toList.drop (kx + 1))).map (· + (kx + 1 - (a + 1)))) := qk_in hak hm hc HE.out
                      clear hc HE
                      go_wp2
                      go_roundg (s.size - (kx + 1))
                      case measure => omega
                      case rel => exact ⟨kx + 1, by omega, by omega, Nat.le_refl _, by go_num, rfl, HE2⟩
                  · have hmz : ¬ (kx : Int) < (s.size : Int) := by omega
                    have hge : (s.size : Int) ≤ (kx : Int) := by omega
                    have hQn : Q = none := qk_out (by omega) HE.out
                    have HT2 : Hid (tokAt (s.data.toList.drop a) = (3, 0, 2)) := by
                      show _ = _
                      rw [HT.out, quoTok, HQ.out, hQn]
                    have hF : (R, E, P) = ([], 2, a) := by rw [HR1.out, lexA_bad f' a _ acc HNE.out HT2.out (by decide)]
                    obtain ⟨rfl, hF2⟩ := Prod.mk.inj hF
                    obtain ⟨rfl, rfl⟩ := Prod.mk.inj hF2
                    clear hF hF2 HR1
                    clear hQn HE
                    go_wp2
                    go_ret3
                    exact ⟨⟨_, rfl, isToks_nil _⟩, BW.out⟩
              · as_aux_lemma =>
                have hqz : ((s[a].toNat : Int) == 39) = false := by rw [beq_eq_false_iff_ne]; exact u8_39n hq
                have HT : Hid (tokAt (s.data.toList.drop a) = (4, sgN signsL (s.data.toList.drop a), if sgN signsL (s.data.toList.drop a) = 0 then 2 else 0)) := tok_sig hlt HL.out HD.out hq
                obtain ⟨T, hT⟩ : ∃ T, twoB s[a] (s.data.toList.drop (a + 1)) = T := ⟨_, rfl⟩
                have HTW : Hid (twoB s[a] (s.data.toList.drop (a + 1)) = T) := hT
                clear hT hq
                go_upto_region 40 with fail
                go_cut [191] (fun b wc => b = .bool T ∧ wc = wr)
                case first => as_aux_lemma =>
                  by_cases h1 : a + 1 < s.size
                  · have h1z : (a : Int) + 1 < (s.size : Int) := by omega
                    have hD1 : s.data.toList.drop (a + 1) = s[a + 1] :: s.data.toList.drop (a + 1 + 1) := drop_cons s (a + 1) h1
                    have hTT : T = ((s[a] == 60 && (s[a + 1] == 62 || s[a + 1] == 61)) || (s[a] == 62 && s[a + 1] == 61)) := by
                      rw [← HTW.out, hD1]; rfl
                    clear hD1
                    by_cases c60 : s[a] = 60
                    · by_cases d62 : s[a + 1] = 62
                      · have hTv : Hid (T = true) := by
                          show _ = _
                          rw [hTT, c60, d62]; rfl
                        have b1 : ((s[a].toNat : Int) == 60) = true := by rw [c60]; rfl
                        have b2 : ((s[a + 1].toNat : Int) == 62) = true := by rw [d62]; rfl
                        clear hTT c60 d62
                        go_wp2
                        go_meet
                        exact ⟨by rw [hTv.out], rfl⟩
                      · by_cases d61 : s[a + 1] = 61
                        · have hTv : Hid (T = true) := by
                            show _ = _
                            rw [hTT, c60, d61]; rfl
                          have b1 : ((s[a].toNat : Int) == 60) = true := by rw [c60]; rfl
                          have b2 : ((s[a + 1].toNat : Int) == 62) = false := by rw [beq_eq_false_iff_ne]; intro e; exact d62 (UInt8.toNat_inj.1 (by rw [show (62 : UInt8).toNat = 62 from rfl]; omega))
                          have b3 : ((s[a + 1].toNat : Int) == 61) = true := by rw [d61]; rfl
                          clear hTT c60 d62 d61
                          go_wp2
                          go_meet
                          exact ⟨by rw [hTv.out], rfl⟩
                        · have hTv : Hid (T = false) := by
                            show _ = _
                            rw [hTT, c60]
                            simp [d62, d61]
                          have b1 : ((s[a].toNat : Int) == 60) = true := by rw [c60]; rfl
                          have b2 : ((s[a + 1].toNat : Int) == 62) = false := by rw [beq_eq_false_iff_ne]; intro e; exact d62 (UInt8.toNat_inj.1 (by rw [show (62 : UInt8).toNat = 62 from rfl]; omega))
                          have b3 : ((s[a + 1].toNat : Int) == 61) = false := by rw [beq_eq_false_iff_ne]; intro e; exact d61 (UInt8.toNat_inj.1 (by rw [show (61 : UInt8).toNat = 61 from rfl]; omega))
                          have b4 : ((s[a].toNat : Int) == 62) = false := by rw [c60]; rfl
                          clear hTT c60 d62 d61
                          go_wp2
                          go_meet
                          exact ⟨by rw [hTv.out], rfl⟩
                    · by_cases c62 : s[a] = 62
                      · by_cases d61 : s[a + 1] = 61
                        · have hTv : Hid (T = true) := by
                            show _ = _
                            rw [hTT, c62, d61]; rfl
                          have b1 : ((s[a].toNat : Int) == 60) = false := by rw [beq_eq_false_iff_ne]; intro e; exact c60 (UInt8.toNat_inj.1 (by rw [show (60 : UInt8).toNat = 60 from rfl]; omega))
                          have b4 : ((s[a].toNat : Int) == 62) = true := by rw [c62]; rfl
                          have b3 : ((s[a + 1].toNat : Int) == 61) = true := by rw [d61]; rfl
                          clear hTT c60 c62 d61
                          go_wp2
                          go_meet
                          exact ⟨by rw [hTv.out], rfl⟩
                        · have hTv : Hid (T = false) := by
                            show _ = _
                            rw [hTT, c62]
                            simp [d61]
                          have b1 : ((s[a].toNat : Int) == 60) = false := by rw [beq_eq_false_iff_ne]; intro e; exact c60 (UInt8.toNat_inj.1 (by rw [show (60 : UInt8).toNat = 60 from rfl]; omega))
                          have b4 : ((s[a].toNat : Int) == 62) = true := by rw [c62]; rfl
                          have b3 : ((s[a + 1].toNat : Int) == 61) = false := by rw [beq_eq_false_iff_ne]; intro e; exact d61 (UInt8.toNat_inj.1 (by rw [show (61 : UInt8).toNat = 61 from rfl]; omega))
                          clear hTT c60 c62 d61
                          go_wp2
                          go_meet
                          exact ⟨by rw [hTv.out], rfl⟩
                      · have hTv : Hid (T = false) := by
                          show _ = _
                          rw [hTT]
                          simp [c60, c62]
                        have b1 : ((s[a].toNat : Int) == 60) = false := by rw [beq_eq_false_iff_ne]; intro e; exact c60 (UInt8.toNat_inj.1 (by rw [show (60 : UInt8).toNat = 60 from rfl]; omega))
                        have b4 : ((s[a].toNat : Int) == 62) = false := by rw [beq_eq_false_iff_ne]; intro e; exact c62 (UInt8.toNat_inj.1 (by rw [show (62 : UInt8).toNat = 62 from rfl]; omega))
                        clear hTT c60 c62
                        go_wp2
                        go_meet
                        exact ⟨by rw [hTv.out], rfl⟩
                  · have h1z : ¬ (a : Int) + 1 < (s.size : Int) := by omega
                    have hTv : Hid (T = false) := by
                      show _ = _
                      rw [← HTW.out, List.drop_eq_nil_of_le (by simp; omega)]
                      simp [twoB, hdB]
                    go_wp2
                    go_meet
                    exact ⟨by rw [hTv.out], rfl⟩
                case rest => as_aux_lemma =>
                  obtain ⟨rfl, rfl⟩ := hcut
                  cases T
                  · obtain ⟨V, hV⟩ : ∃ V, oneS.any (· == s[a]) = V := ⟨_, rfl⟩
                    have HV : Hid (oneS.any (· == s[a]) = V) := hV
                    clear hV
                    go_wp2
                    go_loopg [16, 17] 11 (fun gg s16 s17 wx => ∃ (jj : Nat) (ok : Bool), jj ≤ 11 ∧ 11 - jj ≤ gg ∧ s17 = .int .i64 jj ∧ s16 = .bool ok ∧ wx = wc ∧ Hid (ok = (oneS.take jj).any (· == s[a])))
                    case atStart => exact ⟨0, false, Nat.zero_le _, by omega, rfl, rfl, rfl, rfl⟩
                    case round =>
                      obtain ⟨jj, ok, hjj, hgj, rfl, rfl, rfl, HO⟩ := hrel
                      by_cases hj : jj < 11
                      · have hjz : (jj : Int) < 11 := by omega
                        obtain ⟨U, hU, hU1⟩ := one_at jj hj
                        have HS : Hid ((oneS.take (jj + 1)).any (· == s[a]) = (ok || U == s[a])) := by
                          show _ = _
                          rw [any_take hj, hU1, HO.out]
                        cases ok
                        · cases hu : U == s[a]
                          · have hcu : ((s[a].toNat : Int) == (U.toNat : Int)) = false := by rw [u8_eq, hu]
                            have HS2 : Hid (false = (oneS.take (jj + 1)).any (· == s[a])) := by
                              show _ = _
                              rw [HS.out, hu]; rfl
                            clear HS HO hu hU1
                            go_wp2
                            go_roundg (11 - (jj + 1))
                            case measure => omega
                            case rel => exact ⟨jj + 1, false, by omega, by omega, by go_num, rfl, rfl, HS2⟩
                          · have hcu : ((s[a].toNat : Int) == (U.toNat : Int)) = true := by rw [u8_eq, hu]
                            have HS2 : Hid (true = (oneS.take (jj + 1)).any (· == s[a])) := by
                              show _ = _
                              rw [HS.out, hu]; rfl
                            clear HS HO hu hU1
                            go_wp2
                            go_roundg (11 - (jj + 1))
                            case measure => omega
                            case rel => exact ⟨jj + 1, true, by omega, by omega, by go_num, rfl, rfl, HS2⟩
                        · have HS2 : Hid (true = (oneS.take (jj + 1)).any (· == s[a])) := by
                            show _ = _
                            rw [HS.out]; rfl
                          clear HS HO hU1
                          go_wp2
                          go_roundg (11 - (jj + 1))
                          case measure => omega
                          case rel => exact ⟨jj + 1, true, by omega, by omega, by go_num, rfl, rfl, HS2⟩
                      · have hjz : ¬ (jj : Int) < 11 := by omega
                        have hok : ok = V := by
                          rw [HO.out, ← HV.out, List.take_of_length_le (by show 11 ≤ jj; omega)]
                        subst hok
                        cases ok
                        · have HT2 : Hid (tokAt (s.data.toList.drop a) = (4, 0, 2)) := by
                            show _ = _
                            rw [HT.out, HCO.out, sg_none HV.out]; rfl
                          have hF : (R, E, P) = ([], 2, a) := by rw [HR1.out, lexA_bad f' a _ acc HNE.out HT2.out (by decide)]
                          obtain ⟨rfl, hF2⟩ := Prod.mk.inj hF
                          obtain ⟨rfl, rfl⟩ := Prod.mk.inj hF2
                          clear hF hF2 HR1
                          clear HO
                          go_wp2
                          go_ret3
                          exact ⟨⟨_, rfl, isToks_nil _⟩, BW.out⟩
                        · have HT2 : Hid (tokAt (s.data.toList.drop a) = (4, 1, 0)) := by
                            show _ = _
                            rw [HT.out, HCO.out, sg_one HTW.out HV.out]; rfl
                          clear HO
                          go_wp2
                          go_meet
                          exact ⟨4, 1, by go_num, rfl, HT2, hown, BW.out⟩
                  · have HT2 : Hid (tokAt (s.data.toList.drop a) = (4, 2, 0)) := by
                      show _ = _
                      rw [HT.out, HCO.out, sg_two HTW.out]; rfl
                    go_wp2
                    go_meet
                    exact ⟨4, 2, by go_num, rfl, HT2, hown, BW.out⟩
            · as_aux_lemma =>
              obtain ⟨N, hN⟩ : ∃ N, goN digB (s.data.toList.drop a) = N := ⟨_, rfl⟩
              have hNd : Hid (goN digB (s.data.toList.drop a) = N) := hN
              have hN1 : 0 < N := by rw [← hN, HCO.out, goN_yes _ HD.out]; omega
              have HT : Hid (tokAt (s.data.toList.drop a) = (2, numTok (s.data.toList.drop a))) := tok_num hlt HL.out HD.out
              have HN0 : Hid (a + N = a + goN digB (s.data.toList.drop a)) := by
                show _ = _
                rw [hN]
              clear hN
              go_wp2
              go_loopg [10] (s.size - a) (fun gg s10 wx => ∃ kx : Nat, kx ≤ s.size ∧ s.size - kx ≤ gg ∧ s10 = .int .i64 kx ∧ wx = wr ∧ Hid (a + N = kx + goN digB (s.data.toList.drop kx)))
              case atStart => exact ⟨a, ha, Nat.le_refl _, rfl, rfl, HN0⟩
              case round =>
                obtain ⟨kx, hkx, hgx, rfl, rfl, HE⟩ := hrel
                by_cases hm : kx < s.size
                · have hmz : (kx : Int) < (s.size : Int) := by omega
                  have cDk := refDigit_any s[kx]
                  have cLk := refLetter_any s[kx]
                  cases hdk : digB s[kx]
                  · rw [hdk] at cDk
                    have HF : Hid (a + N = kx) := goN_here hm hdk HE.out
                    clear hdk
                    cases hlk : letB s[kx]
                    · rw [hlk] at cLk
                      as_aux_lemma =>
                        have HHD : Hid (hdB letB ((s.data.toList.drop a).drop N) = false) := (by rw [List.drop_drop, HF.out, hd_at hm]; exact hlk)
                        by_cases hzz : s[a] = 48 ∧ 1 < N
                        · have HT2 : Hid (tokAt (s.data.toList.drop a) = (2, 0, 2)) := by
                            show _ = _
                            rw [HT.out, numTok, hNd.out, if_pos (Or.inr ⟨hzz.2, by rw [HCO.out, hzz.1]; rfl⟩)]
                          have e48 : ((s[a].toNat : Int) == 48) = true := by rw [hzz.1]; rfl
                          have egt : (a : Int) + 1 < (kx : Int) := by have := HF.out; have := hzz.2; omega
                          have hF : (R, E, P) = ([], 2, a) := by rw [HR1.out, lexA_bad f' a _ acc HNE.out HT2.out (by decide)]
                          obtain ⟨rfl, hF2⟩ := Prod.mk.inj hF
                          obtain ⟨rfl, rfl⟩ := Prod.mk.inj hF2
                          clear hF hF2 HR1
                          clear hlk HE hzz
                          go_wp2_with (first | (go_at_call 36; refine (cDk _).mono ?_; rintro e w' ⟨rfl, rfl⟩) | (go_at_call 35; refine (cLk _).mono ?_; rintro e w' ⟨rfl, rfl⟩))
                          go_ret3
                          exact ⟨⟨_, rfl, isToks_nil _⟩, BW.out⟩
                        · have HNZ : Hid (¬ (1 < N ∧ (s.data.toList.drop a).head? = some 48)) := fun e => hzz ⟨by have h2 := e.2; rw [HCO.out] at h2; exact Option.some.inj h2, e.1⟩
                          obtain ⟨X, hX, hX1, hX2⟩ := slice_mid s a kx (by have := HF.out; omega) hkx
                          have hXN : X.data.toList = (s.data.toList.drop a).take N := by rw [hX1, show kx - a = N from by have := HF.out; omega]
                          have hlen : X.data.toList.length = N := by rw [hXN, List.length_take, List.length_drop]; have := HF.out; simp; omega
                          have HXL : Hid (numL X.data.toList = if 9223372036854775807 < val10 X.data.toList then none else some (val10 X.data.toList)) := by
                            refine numL_dig (fun e => by rw [e] at hlen; simp at hlen; omega) (by rw [hXN, ← hNd.out]; exact goN_all _ _) ?_
                            rintro ⟨e1, e2⟩
                            refine HNZ.out ⟨by omega, ?_⟩
                            rw [hXN, List.head?_take, if_neg (by omega)] at e2
                            exact e2
                          have cN := fun W => number_any X W (by unfold maxLen; omega)
                          have hgt : Hid (((s[a].toNat : Int) == 48) = false ∨ (((s[a].toNat : Int) == 48) = true ∧ ¬ ((a : Int) + 1 < (kx : Int)))) := by
                            by_cases h48 : s[a] = 48
                            · exact .inr ⟨by rw [h48]; rfl, by have := HF.out; have : ¬ 1 < N := fun e => hzz ⟨h48, e⟩; omega⟩
                            · exact .inl (by rw [beq_eq_false_iff_ne]; exact fun e => h48 (u8_48.1 e))
                          by_cases hv : 9223372036854775807 < val10 X.data.toList
                          · have HT2 : Hid (tokAt (s.data.toList.drop a) = (2, 0, 1)) := by
                              show _ = _
                              rw [HT.out, numTok, hNd.out, if_neg (fun e => e.elim (fun e => by rw [HHD.out] at e; cases e) HNZ.out), ← hXN, if_pos hv]
                            have hn : numL X.data.toList = none := by rw [HXL.out, if_pos hv]
                            rw [hn, numV] at cN
                            have hF : (R, E, P) = ([], 1, a) := by rw [HR1.out, lexA_bad f' a _ acc HNE.out HT2.out (by decide)]
                            obtain ⟨rfl, hF2⟩ := Prod.mk.inj hF
                            obtain ⟨rfl, rfl⟩ := Prod.mk.inj hF2
                            clear hF hF2 HR1
                            clear hlk HE hzz hn hv HXL hXN hlen hX1 hX2
                            rcases hgt.out with e48 | ⟨e48, egt⟩
                            all_goals
                              clear hgt
                              go_wp2_with (first | (go_at_call 36; refine (cDk _).mono ?_; rintro e w' ⟨rfl, rfl⟩) | (go_at_call 35; refine (cLk _).mono ?_; rintro e w' ⟨rfl, rfl⟩) | (go_at_call 37; refine (cN _).mono ?_; rintro e w' ⟨rfl, rfl⟩))
                              go_ret3
                              exact ⟨⟨_, rfl, isToks_nil _⟩, BW.out⟩
                          · have HT2 : Hid (tokAt (s.data.toList.drop a) = (2, N, 0)) := by
                              show _ = _
                              rw [HT.out, numTok, hNd.out, if_neg (fun e => e.elim (fun e => by rw [HHD.out] at e; cases e) HNZ.out), ← hXN, if_neg hv]
                            have hn : numL X.data.toList = some (val10 X.data.toList) := by rw [HXL.out, if_neg hv]
                            rw [hn, numV] at cN
                            clear hlk HE hzz hn hv HXL hXN hlen hX1 hX2
                            rcases hgt.out with e48 | ⟨e48, egt⟩
                            all_goals
                              clear hgt
                              go_wp2_with (first | (go_at_call 36; refine (cDk _).mono ?_; rintro e w' ⟨rfl, rfl⟩) | (go_at_call 35; refine (cLk _).mono ?_; rintro e w' ⟨rfl, rfl⟩) | (go_at_call 37; refine (cN _).mono ?_; rintro e w' ⟨rfl, rfl⟩))
                              go_meet
                              exact ⟨2, N, by rw [HF.out], rfl, HT2, hown, BW.out⟩
                    · rw [hlk] at cLk
                      have HT2 : Hid (tokAt (s.data.toList.drop a) = (2, 0, 2)) := by
                        show _ = _
                        rw [HT.out, numTok, hNd.out, if_pos (Or.inl (by rw [List.drop_drop, HF.out, hd_at hm]; exact hlk))]
                      have hF : (R, E, P) = ([], 2, a) := by rw [HR1.out, lexA_bad f' a _ acc HNE.out HT2.out (by decide)]
                      obtain ⟨rfl, hF2⟩ := Prod.mk.inj hF
                      obtain ⟨rfl, rfl⟩ := Prod.mk.inj hF2
                      clear hF hF2 HR1
                      clear hlk HE
                      go_wp2_with (first | (go_at_call 36; refine (cDk _).mono ?_; rintro e w' ⟨rfl, rfl⟩) | (go_at_call 35; refine (cLk _).mono ?_; rintro e w' ⟨rfl, rfl⟩))
                      go_ret3
                      exact ⟨⟨_, rfl, isToks_nil _⟩, BW.out⟩
                  · rw [hdk] at cDk
                    have HE2 : Hid (a + N = kx + 1 + goN digB (s.data.toList.drop (kx + 1))) := goN_step hm hdk HE.out
                    clear hdk HE
                    go_wp2_with (first | (go_at_call 36; refine (cDk _).mono ?_; rintro e w' ⟨rfl, rfl⟩))
                    go_roundg (s.size - (kx + 1))
                    case measure => omega
                    case rel => exact ⟨kx + 1, by omega, Nat.le_refl _, by go_num, rfl, HE2⟩
                · have hmz : ¬ (kx : Int) < (s.size : Int) := by omega
                  have HF : Hid (a + N = kx) := by
                    have h := goN_out (by omega) hkx HE.out
                    show _ = _
                    omega
                  as_aux_lemma =>
                    have HHD : Hid (hdB letB ((s.data.toList.drop a).drop N) = false) := (by rw [List.drop_drop, HF.out]; exact hd_out (by omega))
                    by_cases hzz : s[a] = 48 ∧ 1 < N
                    · have HT2 : Hid (tokAt (s.data.toList.drop a) = (2, 0, 2)) := by
                        show _ = _
                        rw [HT.out, numTok, hNd.out, if_pos (Or.inr ⟨hzz.2, by rw [HCO.out, hzz.1]; rfl⟩)]
                      have e48 : ((s[a].toNat : Int) == 48) = true := by rw [hzz.1]; rfl
                      have egt : (a : Int) + 1 < (kx : Int) := by have := HF.out; have := hzz.2; omega
                      have hF : (R, E, P) = ([], 2, a) := by rw [HR1.out, lexA_bad f' a _ acc HNE.out HT2.out (by decide)]
                      obtain ⟨rfl, hF2⟩ := Prod.mk.inj hF
                      obtain ⟨rfl, rfl⟩ := Prod.mk.inj hF2
                      clear hF hF2 HR1
                      clear HE hzz
                      go_wp2
                      go_ret3
                      exact ⟨⟨_, rfl, isToks_nil _⟩, BW.out⟩
                    · have HNZ : Hid (¬ (1 < N ∧ (s.data.toList.drop a).head? = some 48)) := fun e => hzz ⟨by have h2 := e.2; rw [HCO.out] at h2; exact Option.some.inj h2, e.1⟩
                      obtain ⟨X, hX, hX1, hX2⟩ := slice_mid s a kx (by have := HF.out; omega) hkx
                      have hXN : X.data.toList = (s.data.toList.drop a).take N := by rw [hX1, show kx - a = N from by have := HF.out; omega]
                      have hlen : X.data.toList.length = N := by rw [hXN, List.length_take, List.length_drop]; have := HF.out; simp; omega
                      have HXL : Hid (numL X.data.toList = if 9223372036854775807 < val10 X.data.toList then none else some (val10 X.data.toList)) := by
                        refine numL_dig (fun e => by rw [e] at hlen; simp at hlen; omega) (by rw [hXN, ← hNd.out]; exact goN_all _ _) ?_
                        rintro ⟨e1, e2⟩
                        refine HNZ.out ⟨by omega, ?_⟩
                        rw [hXN, List.head?_take, if_neg (by omega)] at e2
                        exact e2
                      have cN := fun W => number_any X W (by unfold maxLen; omega)
                      have hgt : Hid (((s[a].toNat : Int) == 48) = false ∨ (((s[a].toNat : Int) == 48) = true ∧ ¬ ((a : Int) + 1 < (kx : Int)))) := by
                        by_cases h48 : s[a] = 48
                        · exact .inr ⟨by rw [h48]; rfl, by have := HF.out; have : ¬ 1 < N := fun e => hzz ⟨h48, e⟩; omega⟩
                        · exact .inl (by rw [beq_eq_false_iff_ne]; exact fun e => h48 (u8_48.1 e))
                      by_cases hv : 9223372036854775807 < val10 X.data.toList
                      · have HT2 : Hid (tokAt (s.data.toList.drop a) = (2, 0, 1)) := by
                          show _ = _
                          rw [HT.out, numTok, hNd.out, if_neg (fun e => e.elim (fun e => by rw [HHD.out] at e; cases e) HNZ.out), ← hXN, if_pos hv]
                        have hn : numL X.data.toList = none := by rw [HXL.out, if_pos hv]
                        rw [hn, numV] at cN
                        have hF : (R, E, P) = ([], 1, a) := by rw [HR1.out, lexA_bad f' a _ acc HNE.out HT2.out (by decide)]
                        obtain ⟨rfl, hF2⟩ := Prod.mk.inj hF
                        obtain ⟨rfl, rfl⟩ := Prod.mk.inj hF2
                        clear hF hF2 HR1
                        clear HE hzz hn hv HXL hXN hlen hX1 hX2
                        rcases hgt.out with e48 | ⟨e48, egt⟩
                        all_goals
                          clear hgt
                          go_wp2_with (first | (go_at_call 37; refine (cN _).mono ?_; rintro e w' ⟨rfl, rfl⟩))
                          go_ret3
                          exact ⟨⟨_, rfl, isToks_nil _⟩, BW.out⟩
                      · have HT2 : Hid (tokAt (s.data.toList.drop a) = (2, N, 0)) := by
                          show _ = _
                          rw [HT.out, numTok, hNd.out, if_neg (fun e => e.elim (fun e => by rw [HHD.out] at e; cases e) HNZ.out), ← hXN, if_neg hv]
                        have hn : numL X.data.toList = some (val10 X.data.toList) := by rw [HXL.out, if_neg hv]
                        rw [hn, numV] at cN
                        clear HE hzz hn hv HXL hXN hlen hX1 hX2
                        rcases hgt.out with e48 | ⟨e48, egt⟩
                        all_goals
                          clear hgt
                          go_wp2_with (first | (go_at_call 37; refine (cN _).mono ?_; rintro e w' ⟨rfl, rfl⟩))
                          go_meet
                          exact ⟨2, N, by rw [HF.out], rfl, HT2, hown, BW.out⟩
          · as_aux_lemma =>
            obtain ⟨N, hN⟩ : ∃ N, goN ldB (s.data.toList.drop a) = N := ⟨_, rfl⟩
            have HT : Hid (tokAt (s.data.toList.drop a) = (1, N, 0)) := by
              show _ = _
              rw [tok_word hlt HL.out, hN]
            have HN0 : Hid (a + N = a + goN ldB (s.data.toList.drop a)) := by
              show _ = _
              rw [hN]
            clear hN
            go_wp2
            go_loopg [10] (s.size - a) (fun gg s10 wx => ∃ kx : Nat, kx ≤ s.size ∧ s.size - kx ≤ gg ∧ s10 = .int .i64 kx ∧ wx = wr ∧ Hid (a + N = kx + goN ldB (s.data.toList.drop kx)))
            case atStart => exact ⟨a, ha, Nat.le_refl _, rfl, rfl, HN0⟩
            case round =>
              obtain ⟨kx, hkx, hgx, rfl, rfl, HE⟩ := hrel
              by_cases hm : kx < s.size
              · have hmz : (kx : Int) < (s.size : Int) := by omega
                have cLk := refLetter_any s[kx]
                have cDk := refDigit_any s[kx]
                cases hlk : letB s[kx]
                · rw [hlk] at cLk
                  cases hdk : digB s[kx]
                  · rw [hdk] at cDk
                    have HF : Hid (a + N = kx) := goN_here hm (by rw [ldB, hlk, hdk]; rfl) HE.out
                    clear hlk hdk HE
                    go_wp2_with (first | (go_at_call 35; refine (cLk _).mono ?_; rintro e w' ⟨rfl, rfl⟩) | (go_at_call 36; refine (cDk _).mono ?_; rintro e w' ⟨rfl, rfl⟩))
                    go_meet
                    exact ⟨1, N, by rw [HF.out], rfl, HT, hown, BW.out⟩
                  · rw [hdk] at cDk
                    have HE2 : Hid (a + N = kx + 1 + goN ldB (s.data.toList.drop (kx + 1))) := goN_step hm (by rw [ldB, hlk, hdk]; rfl) HE.out
                    clear hlk hdk HE
                    go_wp2_with (first | (go_at_call 35; refine (cLk _).mono ?_; rintro e w' ⟨rfl, rfl⟩) | (go_at_call 36; refine (cDk _).mono ?_; rintro e w' ⟨rfl, rfl⟩))
                    go_roundg (s.size - (kx + 1))
                    case measure => omega
                    case rel => exact ⟨kx + 1, by omega, Nat.le_refl _, by go_num, rfl, HE2⟩
                · rw [hlk] at cLk
                  have HE2 : Hid (a + N = kx + 1 + goN ldB (s.data.toList.drop (kx + 1))) := goN_step hm (by rw [ldB, hlk]; rfl) HE.out
                  clear hlk HE
                  go_wp2_with (first | (go_at_call 35; refine (cLk _).mono ?_; rintro e w' ⟨rfl, rfl⟩))
                  go_roundg (s.size - (kx + 1))
                  case measure => omega
                  case rel => exact ⟨kx + 1, by omega, Nat.le_refl _, by go_num, rfl, HE2⟩
              · have hmz : ¬ (kx : Int) < (s.size : Int) := by omega
                have HF : Hid (a + N = kx) := by
                  have h := goN_out (by omega) hkx HE.out
                  show _ = _
                  omega
                clear HE
                go_wp2
                go_meet
                exact ⟨1, N, by rw [HF.out], rfl, HT, hown, BW.out⟩
        case rest => as_aux_lemma =>
          obtain ⟨k, n, rfl, rfl, HT, o1, B1⟩ := hcut
          obtain ⟨hn1, hn2⟩ := tokAt_len HT.out
          have hn3 : a + n ≤ s.size := by rw [List.length_drop] at hn2; simp at hn2; omega
          obtain ⟨Y, hY, hY1, hY2⟩ := slice_mid s a (a + n) (by omega) hn3
          have hYe : Y = ⟨((s.data.toList.drop a).take n).toArray⟩ := eq_of_list (by rw [hY1, show a + n - a = n from by omega])
          have HR2 : Hid ((R, E, P) = lexS f' (a + n) (s.data.toList.drop (a + n)) (acc ++ [(k, Y, a)])) := by
            show _ = _
            rw [HR1.out, lexA_tok f' a _ acc HNE.out HT.out, ← hYe, List.drop_drop]
          have hYz : ∀ W : World, Sem.run Tryz.prog (Instr.slice 9 (.string s) (some (.int .i64 (a : Int))) (some (.int .i64 ((a : Int) + (n : Int)))) none) W = .ok (.string Y) W := by
            have e : ((a + n : Nat) : Int) = (a : Int) + (n : Int) := by omega
            rw [e] at hY; exact hY
          clear HR1 hY1 hYe HT hn2 hY2 hown BW cL cD
          go_wp2_with (at_builtin; refine wpList_append_own _ rfl _ _ 49 rfl w.heap.size 83 i0 (.agg #[.int .i64 0, .string ⟨#[]⟩, .int .i64 0]) 3 32 Tryz.underlying49 hi hz0 hz1 hz2 rfl (by decide) _ _ _ rfl (o1.alloc _) ⟨wc.heap.size, 0, none⟩ 1 1 [.int .i64 k, .string Y, .int .i64 (a : Int)] rfl rfl ?c1 ?c2 ?c3 ?c4 ?c5 ?_)
          case c1 =>
            intro i u hu
            rw [Go.WideShapes.add_plain]
            match i, hu with
            | 0, hu => simp at hu; subst hu; rw [World.cell?_alloc_at _ _ _ _ (by simp)]; rfl
            | 1, hu => simp at hu; subst hu; rw [World.cell?_alloc_at _ _ _ _ (by simp)]; rfl
            | 2, hu => simp at hu; subst hu; rw [World.cell?_alloc_at _ _ _ _ (by simp)]; rfl
          case c2 =>
            intro u hu
            simp at hu
            rcases hu with rfl | rfl | rfl <;> rfl
          case c3 => unfold maxLen; omega
          case c4 => omega
          case c5 => have := B1.size; simp; omega
          · intro v' w3 hown' hgrow _
            have RR := rel_tok o1 B1 (by have := B1.size; omega) hown' hgrow
            clear hown' hgrow o1
            go_wp2
            go_roundg (s.size - (a + n) + 1)
            case measure => omega
            case rel => exact ⟨a + n, f', acc ++ [(k, Y, a)], by go_num, by omega, by omega, by omega, RR.1, RR.2, HR2, by rw [List.length_append, List.length_singleton]; omega⟩
      · have HR1 : Hid ((R, E, P) = lexS (f' + 1) (a + 1) (s.data.toList.drop (a + 1)) acc) := by
          show _ = _
          rw [HR.out, HCO.out, lexS_blank _ _ _ _ _ hb]
        rcases bl_cases hb with h1 | h1
        · have e1 : ((s[a].toNat : Int) == 32) = true := by rw [h1]; rfl
          clear hb h1 HR HCO
          go_wp2
          go_roundg (s.size - (a + 1) + 1)
          case measure => omega
          case rel => exact ⟨a + 1, f' + 1, acc, by go_num, by omega, by omega, by omega, hown, BW, HR1, by omega⟩
        · have e1 : ((s[a].toNat : Int) == 32) = false := by rw [h1]; rfl
          have e2 : ((s[a].toNat : Int) == 10) = true := by rw [h1]; rfl
          clear hb h1 HR HCO
          go_wp2
          go_roundg (s.size - (a + 1) + 1)
          case measure => omega
          case rel => exact ⟨a + 1, f' + 1, acc, by go_num, by omega, by omega, by omega, hown, BW, HR1, by omega⟩
    · have hltz : ¬ (a : Int) < (s.size : Int) := by omega
      have hF : (R, E, P) = (acc, 0, 0) := by
        have h := HR.out
        rw [List.drop_eq_nil_of_le (by simp; omega), lexS_nil] at h
        exact h
      obtain ⟨rfl, he⟩ := Prod.mk.inj hF
      obtain ⟨rfl, rfl⟩ := Prod.mk.inj he
      clear HR hF he
      go_wp2
      go_ret3
      exact ⟨⟨_, rfl, own_toks hown⟩, BW.out⟩
theorem refTok_any (s : ByteArray) (R : List Tok) (E : Int) (P : Nat) (w : World) (h : lexAll s.data.toList = (R, E, P)) :
    Calls Tryz.prog 17 #[.string s] w fun e w' => (∃ v, e = .returned (.tuple #[v, .int .i64 E, .int .i64 (P : Nat)]) ∧ IsToks w' v R) ∧ Below w.heap.size w w' := by
  have hl : s.data.toList.length = s.size := by simp
  rw [lexAll] at h
  by_cases h4 : 400 < s.size
  · rw [if_pos (by omega)] at h
    obtain ⟨rfl, he⟩ := Prod.mk.inj h
    obtain ⟨rfl, rfl⟩ := Prod.mk.inj he
    exact (refTok_full s w h4).mono fun e w' hh => ⟨⟨_, hh.1, isToks_nil _⟩, by rw [hh.2]; exact Below.refl _ _⟩
  · rw [if_neg (by omega), hl] at h
    have := refTok_loop s w (by omega)
    rw [h] at this
    exact this
end Go.Proofs.YtkoejkpjkcejcaaGreatDoor
