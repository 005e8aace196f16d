/-
  Words in memory.
-/
import Derived.Test.YtomakklbfjkdpaaGreatDoorLexPure
import Derived.WalkKit
import Derived.Below
import Derived.RowKitTokens
import Derived.Lib.OthersKept
import Derived.Deep.DeepCutAuto
namespace Go.Proofs.YtomakklbfjkdpaaGreatDoor
open Go.RowKit
set_option linter.unusedVariables false

def tokCells (ts : List Tok) : List Value := ts.flatMap fun t => [.int .i64 t.1, .string t.2.1, .int .i64 (t.2.2 : Int)]
/-- The words of a list lie in memory one behind the other. -/
def ToksIn (w : World) (b off : Nat) (ts : List Tok) : Prop :=
  b < w.heap.size ∧ ∀ j (h : j < ts.length), w.cell? ⟨b, off + j * 3, none⟩ = some (.int .i64 ts[j].1) ∧ w.cell? ⟨b, off + j * 3 + 1, none⟩ = some (.string ts[j].2.1) ∧ w.cell? ⟨b, off + j * 3 + 2, none⟩ = some (.int .i64 (ts[j].2.2 : Int))
theorem ToksIn.on {w w' : World} {b off : Nat} {ts : List Tok} (h : ToksIn w b off ts) (hb : Below w.heap.size w w') : ToksIn w' b off ts :=
  ⟨by have := hb.size; have := h.1; omega, fun j hj => by
    rw [hb.cell (p := ⟨b, off + j * 3, none⟩) h.1, hb.cell (p := ⟨b, off + j * 3 + 1, none⟩) h.1, hb.cell (p := ⟨b, off + j * 3 + 2, none⟩) h.1]; exact h.2 j hj⟩
/-- A list of words as a Go value. -/
def IsToks (w : World) (v : Value) (ts : List Tok) : Prop :=
  ∃ p c, v = .slice p ts.length c ∧ ts.length ≤ maxLen ∧ (ts.length = 0 ∨ ∃ b off, p = some ⟨b, off, none⟩ ∧ ToksIn w b off ts)
theorem IsToks.on {w w' : World} {v : Value} {ts : List Tok} (h : IsToks w v ts) (hb : Below w.heap.size w w') : IsToks w' v ts := by
  obtain ⟨p, c, e, hm, h⟩ := h
  refine ⟨p, c, e, hm, ?_⟩
  rcases h with h | ⟨b, off, e2, h⟩
  · exact .inl h
  · exact .inr ⟨b, off, e2, h.on hb⟩
theorem tokCells_at : ∀ (ts : List Tok) (j : Nat) (h : j < ts.length), (tokCells ts)[j * 3]? = some (.int .i64 ts[j].1) ∧ (tokCells ts)[j * 3 + 1]? = some (.string ts[j].2.1) ∧ (tokCells ts)[j * 3 + 2]? = some (.int .i64 (ts[j].2.2 : Int))
  | [], j, h => absurd h (by simp)
  | t :: ts, 0, _ => by simp [tokCells]
  | t :: ts, j + 1, h => by
    have ih := tokCells_at ts j (by simpa using h)
    have e : tokCells (t :: ts) = .int .i64 t.1 :: .string t.2.1 :: .int .i64 (t.2.2 : Int) :: tokCells ts := rfl
    rw [e, show (j + 1) * 3 = j * 3 + 1 + 1 + 1 by omega]
    simp only [List.getElem?_cons_succ]
    simpa using ih
theorem own_toks {W : World} {base : Nat} {v : Value} {ts : List Tok} (h : W.ownsRow base 83 3 v ts.length (tokCells ts)) : IsToks W v ts := by
  rcases h.2 with ⟨e, h0⟩ | ⟨g, cap, cur, e, _, hgg, hcap, hmx, _, _⟩
  · exact ⟨none, 0, by rw [e, h0], by omega, .inl h0⟩
  · refine ⟨_, cap, e, by omega, .inr ⟨g, 0, rfl, (Array.getElem?_eq_some_iff.1 hgg).1, fun j hj => ?_⟩⟩
    obtain ⟨e0, e1, e2⟩ := tokCells_at ts j hj
    have h0 := h.cells (g := g) (by rw [e]; rfl) _ _ e0
    have h1 := h.cells (g := g) (by rw [e]; rfl) _ _ e1
    have h2 := h.cells (g := g) (by rw [e]; rfl) _ _ e2
    rw [Go.WideShapes.add_plain] at h0 h1 h2
    exact ⟨h0, h1, h2⟩
theorem isToks_nil (w : World) : IsToks w (.slice none 0 0) [] := ⟨none, 0, rfl, Nat.zero_le _, .inl rfl⟩
theorem lown_slice {W : World} {base : Nat} {e : TypeId} {size : Nat} {v : Value} {n : Nat} {xs : List Value} (h : W.ownsRow base e size v n xs) : ∃ p c, v = .slice p n c := by
  rcases h.2 with ⟨rfl, rfl⟩ | ⟨g, cap, cur, rfl, _⟩
  · exact ⟨_, _, rfl⟩
  · exact ⟨_, _, rfl⟩
theorem lown_below {W W' : World} {base : Nat} {e : TypeId} {size : Nat} {v : Value} {n : Nat} {xs : List Value} (h : W.ownsRow base e size v n xs) (hb : Below W.heap.size W W') : W'.ownsRow base e size v n xs := by
  refine ⟨h.1, ?_⟩
  rcases h.2 with hn | ⟨g, cap, cur, rfl, h1, hgg, rest⟩
  · exact .inl hn
  · exact .inr ⟨g, cap, cur, rfl, h1, by rw [hb.block g (Array.getElem?_eq_some_iff.1 hgg).1]; exact hgg, rest⟩
theorem lown_set {W : World} {b : Nat} {e : TypeId} {size : Nat} {v : Value} {n : Nat} {xs : List Value} (h : W.ownsRow (b + 1) e size v n xs) (o : Nat) (x : Value) : (W.setCell ⟨b, o, none⟩ x).ownsRow (b + 1) e size v n xs := by
  refine ⟨h.1, ?_⟩
  rcases h.2 with hn | ⟨g, cap, cur, rfl, h1, hgg, rest⟩
  · exact .inl hn
  · refine .inr ⟨g, cap, cur, rfl, h1, ?_, rest⟩
    rw [Below.heap_setCell _ _ _ _ (fun e => by simp at e; omega)]
    exact hgg
theorem info_tok : (Tryz.prog.info? 83).map (fun i => (i.zero, i.size, i.bytes)) = some (some (.agg #[.int .i64 0, .string ⟨#[]⟩, .int .i64 0]), 3, 32) := by kernel_rfl
theorem rel_tok {B : Nat} {l : List Tok} {k : Int} {x : ByteArray} {a : Nat} {w wr w1 : World} {v v' : Value} {o : Obj} (hown : wr.ownsRow B 83 3 v l.length (tokCells l)) (hnx : Below B w wr) (hB : B ≤ wr.heap.size)
    (hown' : w1.ownsRow B 83 3 v' (l.length + 1) (tokCells l ++ [.int .i64 k, .string x, .int .i64 (a : Int)])) (hgrow : (wr.alloc o).grownBy w1 v.ownBlock) :
    w1.ownsRow B 83 3 v' (l ++ [(k, x, a)]).length (tokCells (l ++ [(k, x, a)])) ∧ Below B w w1 :=
  ⟨by rw [List.length_append]; simpa [tokCells] using hown', (hnx.alloc hB o).grown hgrow (by simp; omega) (fun j hj => (hown.lt j hj).1)⟩
end Go.Proofs.YtomakklbfjkdpaaGreatDoor
