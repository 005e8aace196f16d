/-
  The document's Parse (package sluiceref1), at any text: the same as the program's.
-/
import Derived.Test.YtnpinbpjfngknaaGreatDoorTreeOi
import Derived.Test.YtnpinbpjfngknaaGreatDoorRefPa
import Derived.Test.YtnpinbpjfngknaaGreatDoorLoY
import Derived.Test.YtnpinbpjfngknaaGreatDoorLoE
import Derived.Test.YtnpinbpjfngknaaGreatDoorLoP
import Derived.Test.YtnpinbpjfngknaaGreatDoorTreePa
namespace Go.Proofs.YtnpinbpjfngknaaGreatDoor
open Go.RowKit
set_option linter.unusedVariables false

/-- No more nodes than four for each word, and one. -/
def Bd (ts : List Tok) (sub : St → Ex × St) : Prop := ∀ st, st.i ≤ ts.length → (sub st).1.size + 4 * st.i ≤ 4 * (sub st).2.i + 1
theorem sizes_add : ∀ a b : List Ex, Ex.sizes (a ++ b) = Ex.sizes a + Ex.sizes b
  | [], b => by rw [List.nil_append, Ex.sizes]; omega
  | x :: a, b => by rw [List.cons_append, Ex.sizes, Ex.sizes, sizes_add a b]; omega
theorem size_op1 (op : List UInt8) (pos : Int) (l : List Ex) : (op1 op pos l).size = 1 + Ex.sizes l := by rw [op1, Ex.size]
theorem pLoop_b {ts : List Tok} {en : Nat} {sub : St → Ex × St} (hs : Mono ts sub) (hb : Bd ts sub) (lv i0 : Nat) : ∀ (k : Nat) (e : Ex) (st : St), st.i ≤ ts.length → e.size + 4 * i0 ≤ 4 * st.i + 1 → (pLoop ts en sub lv k e st).1.size + 4 * i0 ≤ 4 * (pLoop ts en sub lv k e st).2.i + 1
  | 0, e, st, h, he => by rw [pLoop]; exact he
  | k + 1, e, st, h, he => by
    rw [pLoop]
    cases hf : firstT ts st (sgl lv) with
    | none => exact he
    | some g =>
      have h1 := isT_lt (firstT_is hf).2
      have hai : (adv st).i = st.i + 1 := rfl
      have h2 := hs (adv st) (by rw [hai]; omega)
      have h3 := hb (adv st) (by rw [hai]; omega)
      rw [hai] at h2 h3
      have h4 : (op1 g (posAt ts en st.i) [e, (sub (adv st)).1]).size + 4 * i0 ≤ 4 * (sub (adv st)).2.i + 1 := by
        rw [size_op1, Ex.sizes, Ex.sizes, Ex.sizes]; omega
      simp only
      split
      · exact h4
      · exact pLoop_b hs hb lv i0 k _ _ h2.2 h4
theorem pArgs_b {ts : List Tok} {en : Nat} {sub : St → Ex × St} (hs : Mono ts sub) (hb : Bd ts sub) (i0 : Nat) : ∀ (k : Nat) (l : List Ex) (st : St), st.i ≤ ts.length → Ex.sizes l + 4 * i0 ≤ 4 * st.i + l.length → Ex.sizes (pArgs ts en sub k l st).1 + 4 * i0 ≤ 4 * (pArgs ts en sub k l st).2.i + l.length + k
  | 0, l, st, h, he => by rw [pArgs]; exact he
  | k + 1, l, st, h, he => by
    rw [pArgs]
    have h1 : st.i ≤ (if l = [] then st else needT ts en st [44]).i ∧ (if l = [] then st else needT ts en st [44]).i ≤ ts.length := by
      split
      · exact ⟨Nat.le_refl _, h⟩
      · exact needT_i en _ h
    generalize (if l = [] then st else needT ts en st [44]) = s2 at h1
    have h2 := hs _ h1.2
    have h3 := hb _ h1.2
    have h4 := pArgs_b (en := en) hs hb i0 k (l ++ [(sub s2).1]) (sub s2).2 h2.2 (by rw [sizes_add, Ex.sizes, Ex.sizes, List.length_append, List.length_singleton]; omega)
    rw [List.length_append, List.length_singleton] at h4
    omega
theorem pCall_b {ts : List Tok} {en : Nat} {sub : St → Ex × St} (hs : Mono ts sub) (hb : Bd ts sub) (op : List UInt8) (many : Nat) (hm : many ≤ 3) (pos : Int) (st : St) (h : st.i ≤ ts.length) : (pCall ts en sub op many pos st).1.size + 4 * st.i ≤ 4 * (pCall ts en sub op many pos st).2.i + 4 := by
  rw [pCall]
  have h1 := needT_i en [40] h
  have h2 := pArgs_i (en := en) hs many [] (needT ts en st [40]) h1.2
  have h3 := needT_i en [41] h2.2
  have h4 := pArgs_b (en := en) hs hb (needT ts en st [40]).i many [] (needT ts en st [40]) h1.2 (by rw [Ex.sizes]; simp)
  simp only [List.length_nil] at h4 ⊢
  rw [size_op1]
  omega
theorem leaf_size (op nm : ByteArray) (t n : Int) (s : ByteArray) (pos : Int) : (Ex.node op nm t n s pos []).size = 1 := by rw [Ex.size, Ex.sizes]
theorem pOne_b {ts : List Tok} {en : Nat} {sub : St → Ex × St} {rv : ByteArray → Int × Int × List UInt8 × Int} (hs : Mono ts sub) (hb : Bd ts sub) : Bd ts (pOne ts en sub rv) := by
  intro st h
  have hai : (adv st).i = st.i + 1 := rfl
  rw [pOne]
  split
  · rename_i h1
    have h1 := isT_lt h1
    have h2 := hs (adv st) (by rw [hai]; omega)
    have h3 := needT_i en [41] h2.2
    have h4 := hb (adv st) (by rw [hai]; omega)
    rw [hai] at h2 h4
    simp only
    omega
  · split
    · rename_i h1
      have h1 := isT_lt h1
      have h2 := pCall_b (en := en) hs hb [108, 101, 110] 1 (by decide) (posAt ts en st.i) (adv st) (by rw [hai]; omega)
      rw [hai] at h2
      omega
    · split
      · rename_i h1
        have h1 := isT_lt h1
        have h2 := pCall_b (en := en) hs hb [105, 102] 3 (by decide) (posAt ts en st.i) (adv st) (by rw [hai]; omega)
        rw [hai] at h2
        omega
      · have hc : (pCol ts en st).1.size + 4 * st.i ≤ 4 * (pCol ts en st).2.i + 1 := by
          have := (takeT_i en (st := st) h).1
          rw [pCol, leaf_size]
          simp only
          omega
        cases ht : ts[st.i]? with
        | none => exact hc
        | some t =>
          simp only
          split
          · rw [leaf_size, hai]; omega
          · exact hc
theorem ex0_size : ex0.size = 1 := by rw [ex0, leaf_size]
theorem pE_b {ts : List Tok} {en : Nat} {rv : ByteArray → Int × Int × List UInt8 × Int} : ∀ (f lv : Nat), Bd ts (pE ts en rv f lv)
  | 0, lv => fun st h => by rw [pE, ex0_size]; simp only; omega
  | f + 1, lv => fun st h => by
    have hai : (adv st).i = st.i + 1 := rfl
    rw [pE]
    split
    · rw [ex0_size]; simp only; omega
    · split
      · rename_i h1
        have h1 := isT_lt h1.2
        have h2 := pE_b (ts := ts) (en := en) (rv := rv) f 2 (adv st) (by rw [hai]; omega)
        rw [hai] at h2
        simp only
        rw [size_op1, Ex.sizes, Ex.sizes]
        omega
      · split
        · split
          · rename_i h1
            have h1 := isT_lt h1
            have h2 := pE_b (ts := ts) (en := en) (rv := rv) f 5 (adv st) (by rw [hai]; omega)
            rw [hai] at h2
            simp only
            rw [size_op1, Ex.sizes, Ex.sizes]
            omega
          · exact pOne_b (pE_i f 0) (pE_b f 0) st h
        · exact pLoop_b (pE_i f (lv + 1)) (pE_b f (lv + 1)) lv st.i _ _ _ (pE_i f (lv + 1) st h).2 (pE_b f (lv + 1) st h)
theorem lex_fit {l : List UInt8} (h : (lexAll l).2.1 = 0) : l.length ≤ 400 ∧ (lexAll l).1.length ≤ 400 ∧ ∀ t ∈ (lexAll l).1, t.2.1.size ≤ 400 := by
  have hl : lexAll l = ((lexAll l).1, 0, (lexAll l).2.2) := by rw [← h]
  exact ⟨(lexAll_ok hl).1, (lexAll_fit hl).1, fun t ht => (lexAll_fit hl).2 t ht⟩
/-- The document's Parse gives what the program's does. -/
theorem refParse_any (s : ByteArray) (w : World) (x : Ex) (E : Int) (P : Nat) (hp : parseP s.data.toList = (x, E, P)) :
    Calls Tryz.prog 4 #[.string s] w fun e w' => (∃ v, e = .returned (.tuple #[v, .int .i64 E, .int .i64 (P : Int)]) ∧ ExIn w' (fun b => w.heap.size ≤ b) v x) ∧ Below w.heap.size w w' := by
  obtain ⟨R, E0, P0, hL⟩ : ∃ R E0 P0, lexAll s.data.toList = (R, E0, P0) := ⟨_, _, _, rfl⟩
  have cT := fun W => refTok_any s R E0 P0 W hL
  have ha := parse_agree (R.length * 6 + 6) s.data.toList (by rw [hL]; exact Nat.le_refl _)
  rw [hp] at ha
  simp only at ha
  have hd : s.data.toList.length = s.size := by simp
  by_cases h0 : E0 = 0
  · subst h0
    obtain ⟨f1, f2, f3⟩ := lex_fit (l := s.data.toList) (by rw [hL])
    rw [hL] at f2 f3
    simp only at f2 f3
    rw [parseD, hL, if_neg (by simp)] at ha
    simp only at ha
    rw [hd] at ha f1
    have hi := (pE_i (ts := R) (en := s.size) (rv := readV) (R.length * 6 + 6) 0 ⟨0, -1⟩ (Nat.zero_le _)).2
    have hb := pE_b (ts := R) (en := s.size) (rv := readV) (R.length * 6 + 6) 0 ⟨0, -1⟩ (Nat.zero_le _)
    refine refParse_good s w R P0 _ _ f2 f1 (by omega) (by omega) cT (fun r tp tc => gives_all r tp tc R s.size f2 f3 (R.length * 6 + 6) 0 ⟨0, -1⟩ (by decide) (Nat.zero_le _) (by show (R.length - 0) * 6 + 6 ≤ _; omega)) E (P : Int) x ?_
    rw [← ha]
    rw [tg_small]
    split
    · rfl
    · cases (pE R s.size readV (R.length * 6 + 6) 0 ⟨0, -1⟩).1.small <;> rfl
  · rw [parseD, hL, if_pos h0] at ha
    simp only [Prod.mk.injEq] at ha
    obtain ⟨rfl, rfl, hP⟩ := ha
    obtain rfl : P0 = P := by omega
    exact refParse_bad s w R E0 P0 h0 cT
end Go.Proofs.YtnpinbpjfngknaaGreatDoor
