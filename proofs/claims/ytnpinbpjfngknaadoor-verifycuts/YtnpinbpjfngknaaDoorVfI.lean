/-
  Instructions as cells of memory: a list that a function owns.
-/
import Derived.Test.YtnpinbpjfngknaaDoorCdO
import Derived.Test.YtnpinbpjfngknaaDoorOwnS
namespace Go.Proofs.YtnpinbpjfngknaaDoor
open Go.RowKit
set_option linter.unusedVariables false

def c5 (i : I5) : List Value := [.int .i64 i.1, .int .i64 i.2.1, .int .i64 i.2.2.1, .int .i64 i.2.2.2.1, .string i.2.2.2.2]
def insC : List I5 → List Value
  | [] => []
  | i :: is => c5 i ++ insC is
theorem insC_len : ∀ is : List I5, (insC is).length = is.length * 5
  | [] => rfl
  | i :: is => by rw [insC, List.length_append, insC_len is, List.length_cons]; simp [c5]; omega
theorem insC_append : ∀ a b : List I5, insC (a ++ b) = insC a ++ insC b
  | [], b => rfl
  | i :: a, b => by rw [List.cons_append, insC, insC, insC_append a b, List.append_assoc]
theorem insC_at : ∀ (is : List I5) (j r : Nat) (hj : j < is.length), r < 5 → (insC is)[j * 5 + r]? = (c5 is[j])[r]?
  | [], j, r, hj, _ => absurd hj (by simp)
  | i :: is, 0, r, hj, hr => by
    rw [insC, List.getElem?_append_left (by simp [c5]; omega)]
    simp
  | i :: is, j + 1, r, hj, hr => by
    rw [insC, List.getElem?_append_right (by simp [c5]; omega), show (j + 1) * 5 + r - (c5 i).length = j * 5 + r by simp [c5]; omega]
    simp only [List.getElem_cons_succ]
    exact insC_at is j r (by simpa using hj) hr
theorem ins_news {w : World} {b off : Nat} {is : List I5} (h : ∀ j (h : j < is.length), w.cell? ⟨b, off + j * 5, none⟩ = some (.int .i64 is[j].1) ∧ w.cell? ⟨b, off + j * 5 + 1, none⟩ = some (.int .i64 is[j].2.1) ∧ w.cell? ⟨b, off + j * 5 + 2, none⟩ = some (.int .i64 is[j].2.2.1) ∧ w.cell? ⟨b, off + j * 5 + 3, none⟩ = some (.int .i64 is[j].2.2.2.1) ∧ w.cell? ⟨b, off + j * 5 + 4, none⟩ = some (.string is[j].2.2.2.2)) (j : Nat) (u : Value) (hu : (insC is)[j]? = some u) : w.cell? ((⟨b, off, none⟩ : Addr).add j) = some u := by
  rw [Go.WideShapes.add_plain]
  have hj : j < is.length * 5 := by
    rw [← insC_len]
    exact (List.getElem?_eq_some_iff.1 hu).1
  have hq : j / 5 < is.length := by omega
  have hr : j % 5 < 5 := Nat.mod_lt _ (by decide)
  have he : j = j / 5 * 5 + j % 5 := by omega
  rw [he, insC_at is (j / 5) (j % 5) hq hr] at hu
  obtain ⟨c0, c1, c2, c3, c4⟩ := h (j / 5) hq
  have : j % 5 = 0 ∨ j % 5 = 1 ∨ j % 5 = 2 ∨ j % 5 = 3 ∨ j % 5 = 4 := by omega
  rcases this with e | e | e | e | e
  · rw [e] at hu he; rw [he, Nat.add_zero]; rw [c0]; exact hu
  · rw [e] at hu he; rw [he, ← Nat.add_assoc]; rw [c1]; exact hu
  · rw [e] at hu he; rw [he, ← Nat.add_assoc]; rw [c2]; exact hu
  · rw [e] at hu he; rw [he, ← Nat.add_assoc]; rw [c3]; exact hu
  · rw [e] at hu he; rw [he, ← Nat.add_assoc]; rw [c4]; exact hu
theorem ins_one (is : List I5) : ∀ u ∈ insC is, u.oneCell' = true := by
  induction is with
  | nil => intro u hu; simp [insC] at hu
  | cons i is ih =>
    intro u hu
    rw [insC, List.mem_append] at hu
    rcases hu with hu | hu
    · simp only [c5, List.mem_cons, List.not_mem_nil, or_false] at hu
      rcases hu with rfl | rfl | rfl | rfl | rfl <;> rfl
    · exact ih u hu
theorem ownIns {W : World} {B : Nat} {q : Option Addr} {c n : Nat} {is : List I5} (hn : is.length = n) (h : W.ownsRow B 37 5 (.slice q n c) n (insC is)) : InsAt W q is := by
  by_cases h0 : is.length = 0
  · exact .inl h0
  · refine .inr ?_
    rcases h.2 with ⟨e1, _⟩ | ⟨g, cap, cur, e1, hb, hg, hm, hx, hs, ht⟩
    · injection e1 with e1 e2; omega
    · injection e1 with e1 e2 e3
      subst e1
      refine ⟨g, 0, rfl, (Array.getElem?_eq_some_iff.1 hg).1, fun j hj => ?_⟩
      have h1 : ∀ r u, r < 5 → (c5 is[j])[r]? = some u → W.cell? ⟨g, j * 5 + r, none⟩ = some u := fun r u hr hu => by
        have := h.cells (g := g) rfl (j * 5 + r) u (by rw [insC_at is j r hj hr]; exact hu)
        rw [Go.WideShapes.add_plain] at this
        simpa using this
      refine ⟨?_, ?_, ?_, ?_, ?_⟩
      · rw [Nat.zero_add]; exact h1 0 _ (by decide) rfl
      · rw [Nat.zero_add]; exact h1 1 _ (by decide) rfl
      · rw [Nat.zero_add]; exact h1 2 _ (by decide) rfl
      · rw [Nat.zero_add]; exact h1 3 _ (by decide) rfl
      · rw [Nat.zero_add]; exact h1 4 _ (by decide) rfl
theorem info_ins : (Tryd.prog.info? 37).map (fun i => (i.zero, i.size, i.bytes)) = some (some (.agg #[.int .i64 0, .int .i64 0, .int .i64 0, .int .i64 0, .string ⟨#[]⟩]), 5, 48) := by kernel_rfl
end Go.Proofs.YtnpinbpjfngknaaDoor
