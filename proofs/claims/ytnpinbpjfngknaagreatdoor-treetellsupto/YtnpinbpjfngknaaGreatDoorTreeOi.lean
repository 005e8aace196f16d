/-
  The document's reading of an expression (package sluiceref1, In.Expr): at every level, by how much is left.
-/
import Derived.Test.YtnpinbpjfngknaaGreatDoorTreeOl
import Derived.Test.YtnpinbpjfngknaaGreatDoorTreeOc
import Derived.Test.YtnpinbpjfngknaaGreatDoorTreeOv
import Derived.Test.YtnpinbpjfngknaaGreatDoorTreeOw
import Derived.Test.YtnpinbpjfngknaaGreatDoorRef4
namespace Go.Proofs.YtnpinbpjfngknaaGreatDoor
open Go.RowKit
set_option linter.unusedVariables false

theorem readV_small (s : ByteArray) : (readV s).2.2.1.length ≤ 400 := by
  unfold readV
  repeat' split
  all_goals first | (simp only [List.length_nil]; omega) | (simp only; omega)
theorem takeT_small {ts : List Tok} {en : Nat} {st : St} (hzz : ∀ t ∈ ts, t.2.1.size ≤ 400) : (takeT ts en st).1.size ≤ 400 := by
  unfold takeT
  split
  · split
    · rename_i t ht
      split
      · exact hzz t (List.mem_of_getElem? ht)
      · exact Nat.zero_le _
    · exact Nat.zero_le _
  · exact Nat.zero_le _
theorem gives_one (r : Nat) (tp : Option Addr) (tc : Nat) (ts : List Tok) (en : Nat) (hn : ts.length ≤ 400) (hzz : ∀ t ∈ ts, t.2.1.size ≤ 400) (st : St) (hi : st.i ≤ ts.length) (hbad : st.bad < 0) (sub : St → Ex × St) (hm : Mono ts sub) (cE : ∀ s, st.i + 1 ≤ s.i → s.i ≤ ts.length → GivesE r tp tc ts en 0 s (sub s).1 (sub s).2) : GivesO r tp tc ts en st (pOne ts en sub readV st).1 (pOne ts en sub readV st).2 := by
  have hai : (adv st).i = st.i + 1 := rfl
  unfold pOne
  by_cases h1 : isT ts st [40] = true
  · rw [if_pos h1]
    have hl := isT_lt h1
    have hmm := hm (adv st) (by rw [hai]; omega)
    exact ref_one_br r tp tc ts en st _ _ hn (by omega) (by omega) h1 (cE (adv st) (by rw [hai]; omega) (by rw [hai]; omega))
  rw [if_neg h1]
  have b1 : isT ts st [40] = false := by simpa using h1
  by_cases h2 : isT ts st [108, 101, 110] = true
  · rw [if_pos h2]
    exact one_len r tp tc ts en st sub hn (by omega) b1 h2 hm cE
  rw [if_neg h2]
  have b2 : isT ts st [108, 101, 110] = false := by simpa using h2
  by_cases h3 : isT ts st [105, 102] = true
  · rw [if_pos h3]
    exact one_if r tp tc ts en st sub hn (by omega) b1 b2 h3 hm cE
  rw [if_neg h3]
  have b3 : isT ts st [105, 102] = false := by simpa using h3
  by_cases hlt : st.i < ts.length
  · rw [List.getElem?_eq_getElem hlt]
    simp only
    by_cases hv : valT ts[st.i] = true
    · rw [if_pos ⟨hbad, hv⟩]
      exact one_val r tp tc ts en st hn (by omega) b1 b2 b3 hbad hlt hv (fun W => read_any _ W (by have := hzz _ (List.getElem_mem hlt); omega)) (readV_small _)
    · rw [if_neg (fun h => hv h.2)]
      exact one_colB r tp tc ts en st hn (by omega) b1 b2 b3 hzz (takeT_small hzz) hbad hlt (by simpa using hv)
  · rw [List.getElem?_eq_none (by omega)]
    exact one_colA r tp tc ts en st hn (by omega) b1 b2 b3 hzz (takeT_small hzz) (fun h => hlt h.1)
theorem gives_all (r : Nat) (tp : Option Addr) (tc : Nat) (ts : List Tok) (en : Nat) (hn : ts.length ≤ 400) (hzz : ∀ t ∈ ts, t.2.1.size ≤ 400) : ∀ (g l : Nat) (st : St), l ≤ 5 → st.i ≤ ts.length → (ts.length - st.i) * 6 + (6 - l) ≤ g → GivesE r tp tc ts en (l : Int) st (pE ts en readV g l st).1 (pE ts en readV g l st).2
  | 0, l, st, hl, hi, hg => by omega
  | g + 1, l, st, hl, hi, hg => by
    have hai : (adv st).i = st.i + 1 := rfl
    rw [pE]
    by_cases hb : 0 ≤ st.bad
    · rw [if_pos hb]
      exact expr_bad r tp tc ts en st hn (by omega) l hb
    rw [if_neg hb]
    have hbad : st.bad < 0 := by omega
    by_cases hnt : l = 2 ∧ isT ts st [110, 111, 116] = true
    · rw [if_pos hnt]
      obtain ⟨rfl, hnt⟩ := hnt
      have hlt := isT_lt hnt
      exact expr_not r tp tc ts en st hn (by omega) _ _ hbad hnt (gives_all r tp tc ts en hn hzz g 2 (adv st) (by omega) (by rw [hai]; omega) (by rw [hai]; omega))
    rw [if_neg hnt]
    by_cases h5 : l = 5
    · subst h5
      rw [if_pos rfl]
      by_cases hng : isT ts st [45] = true
      · rw [if_pos hng]
        have hlt := isT_lt hng
        exact expr_neg r tp tc ts en st hn (by omega) _ _ hbad hng (gives_all r tp tc ts en hn hzz g 5 (adv st) (by omega) (by rw [hai]; omega) (by rw [hai]; omega))
      · rw [if_neg hng]
        exact expr_one r tp tc ts en st hn (by omega) _ _ hbad (by simpa using hng) (gives_one r tp tc ts en hn hzz st hi hbad (pE ts en readV g 0) (pE_i g 0) (fun s h1 h2 => gives_all r tp tc ts en hn hzz g 0 s (by omega) h2 (by omega)))
    rw [if_neg h5]
    have nx : ∀ s : St, st.i ≤ s.i → s.i ≤ ts.length → GivesE r tp tc ts en ((l : Int) + 1) s (pE ts en readV g (l + 1) s).1 (pE ts en readV g (l + 1) s).2 := fun s h1 h2 => by
      have := gives_all r tp tc ts en hn hzz g (l + 1) s (by omega) h2 (by omega)
      rw [show ((l + 1 : Nat) : Int) = (l : Int) + 1 by omega] at this
      exact this
    by_cases h2 : l = 2
    · subst h2
      exact expr_cmp r tp tc ts en st (pE ts en readV g 3) hn hi hbad (by simpa using hnt) (pE_i g 3) (nx st (Nat.le_refl _) hi) (fun s h1 h3 => nx s (by omega) h3)
    · exact expr_lev r tp tc ts en st l (by omega) h2 (pE ts en readV g (l + 1)) hn hi hbad (pE_i g (l + 1)) (nx st (Nat.le_refl _) hi) (fun s h1 h3 => nx s (by omega) h3)
end Go.Proofs.YtnpinbpjfngknaaGreatDoor
