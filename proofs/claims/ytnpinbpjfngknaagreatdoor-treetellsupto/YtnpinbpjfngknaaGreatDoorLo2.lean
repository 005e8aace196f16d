/-
  OwnS, TreeEx, LexPure, TreeP, TreeQ, LexToks, TreeR1, ButM, TreeIn, TreeR2, in one text.
-/
import Derived.Test.YtnpinbpjfngknaaGreatDoorVal1
import Derived.OwnWalk
import Derived.Test.YtnpinbpjfngknaaGreatDoorProg
import Derived.WalkKit
import Derived.Below
import Derived.Lib.Strings
import Derived.Laws.RangeAny
import Derived.Deep.DeepCutAuto
import Derived.Test.YtnpinbpjfngknaaGreatDoorLo1
import Derived.RowKitTokens
import Derived.Lib.OthersKept
import Derived.WalkSmall
import Derived.BigQuiet
import Derived.Deep.RegionWith
import Derived.Deep.Heap
import Derived.Deep.QuietTactic
namespace Go.Proofs.YtnpinbpjfngknaaGreatDoor
open Go.RowKit

theorem lown_slice {W : World} {base : Nat} {e : TypeId} {size : Nat} {v : Value} {n : Nat} {xs : List Value} (h : W.ownsRow base e size v n xs) : ∃ p c, v = .slice p n c := by
  rcases h.2 with ⟨rfl, rfl⟩ | ⟨g, cap, cur, rfl, _⟩
  · exact ⟨_, _, rfl⟩
  · exact ⟨_, _, rfl⟩
theorem lown_below {W W' : World} {base : Nat} {e : TypeId} {size : Nat} {v : Value} {n : Nat} {xs : List Value} (h : W.ownsRow base e size v n xs) (hb : Below W.heap.size W W') : W'.ownsRow base e size v n xs := by
  refine ⟨h.1, ?_⟩
  rcases h.2 with hn | ⟨g, cap, cur, rfl, h1, hgg, rest⟩
  · exact .inl hn
  · exact .inr ⟨g, cap, cur, rfl, h1, by rw [hb.block g (Array.getElem?_eq_some_iff.1 hgg).1]; exact hgg, rest⟩
end Go.Proofs.YtnpinbpjfngknaaGreatDoor
namespace Go.Proofs.YtnpinbpjfngknaaGreatDoor
open Go.RowKit
set_option linter.unusedVariables false
--BEGIN
/-- An expression: Op, Name, the value's type, number and text, At, and the parts. -/
inductive Ex where
  | node (op nm : ByteArray) (vt vn : Int) (vs : ByteArray) (pos : Int) (args : List Ex)
theorem Ex.ind {P : Ex → Prop} (h : ∀ op nm vt vn vs pos args, (∀ y ∈ args, P y) → P (.node op nm vt vn vs pos args)) : ∀ x, P x
  | .node op nm vt vn vs pos args => h op nm vt vn vs pos args (fun y hy => Ex.ind h y)
termination_by x => SizeOf.sizeOf x
decreasing_by
  have := List.sizeOf_lt_of_mem hy
  simp
  omega
def Ex.args : Ex → List Ex
  | .node _ _ _ _ _ _ l => l
def Ex.op : Ex → ByteArray
  | .node o _ _ _ _ _ _ => o
def Ex.nm : Ex → ByteArray
  | .node _ o _ _ _ _ _ => o
def Ex.vt : Ex → Int
  | .node _ _ o _ _ _ _ => o
def Ex.vn : Ex → Int
  | .node _ _ _ o _ _ _ => o
def Ex.vs : Ex → ByteArray
  | .node _ _ _ _ o _ _ => o
def Ex.pos : Ex → Int
  | .node _ _ _ _ _ o _ => o
mutual
/-- An expression lies in memory: its own cells are the value's; those of its parts lie behind the slice, in blocks for which lo holds. -/
def ExIn (w : World) (lo : Nat → Prop) : Value → Ex → Prop
  | v, .node op nm vt vn vs pos args => ∃ p c, v = .agg #[.string op, .string nm, .int .i64 vt, .int .i64 vn, .string vs, .slice p args.length c, .int .i64 pos] ∧ (args.length ≤ maxLen ∧ args.length ≤ c) ∧ op.size ≤ maxLen ∧ nm.size ≤ maxLen ∧ vs.size ≤ maxLen ∧ (args.length = 0 ∨ ∃ b off, p = some ⟨b, off, none⟩ ∧ b < w.heap.size ∧ lo b ∧ ExsIn w lo b off args)
/-- Expressions one behind the other. -/
def ExsIn (w : World) (lo : Nat → Prop) (b : Nat) : Nat → List Ex → Prop
  | _, [] => True
  | off, x :: xs => (∃ v0 v1 v2 v3 v4 v5 v6, w.cell? ⟨b, off, none⟩ = some v0 ∧ w.cell? ⟨b, off + 1, none⟩ = some v1 ∧ w.cell? ⟨b, off + 2, none⟩ = some v2 ∧ w.cell? ⟨b, off + 3, none⟩ = some v3 ∧ w.cell? ⟨b, off + 4, none⟩ = some v4 ∧ w.cell? ⟨b, off + 5, none⟩ = some v5 ∧ w.cell? ⟨b, off + 6, none⟩ = some v6 ∧ ExIn w lo (.agg #[v0, v1, v2, v3, v4, v5, v6]) x) ∧ ExsIn w lo b (off + 7) xs
end
theorem exsIn_at (w : World) (lo : Nat → Prop) (b : Nat) : ∀ (xs : List Ex) (off : Nat), ExsIn w lo b off xs → ∀ j (h : j < xs.length), ∃ v0 v1 v2 v3 v4 v5 v6, w.cell? ⟨b, off + j * 7, none⟩ = some v0 ∧ w.cell? ⟨b, off + j * 7 + 1, none⟩ = some v1 ∧ w.cell? ⟨b, off + j * 7 + 2, none⟩ = some v2 ∧ w.cell? ⟨b, off + j * 7 + 3, none⟩ = some v3 ∧ w.cell? ⟨b, off + j * 7 + 4, none⟩ = some v4 ∧ w.cell? ⟨b, off + j * 7 + 5, none⟩ = some v5 ∧ w.cell? ⟨b, off + j * 7 + 6, none⟩ = some v6 ∧ ExIn w lo (.agg #[v0, v1, v2, v3, v4, v5, v6]) xs[j]
  | [], _, _, j, h => absurd h (by simp)
  | x :: xs, off, hs, 0, _ => by
    rw [ExsIn] at hs
    obtain ⟨v0, v1, v2, v3, v4, v5, v6, h⟩ := hs.1
    refine ⟨v0, v1, v2, v3, v4, v5, v6, ?_⟩
    simp only [Nat.zero_mul, Nat.add_zero, List.getElem_cons_zero]
    exact h
  | x :: xs, off, hs, j + 1, h => by
    rw [ExsIn] at hs
    have ih := exsIn_at w lo b xs (off + 7) hs.2 j (by simpa using h)
    simp only [show off + 7 + j * 7 = off + (j + 1) * 7 from by omega] at ih
    simp only [List.getElem_cons_succ]
    exact ih
theorem exsIn_mk (w : World) (lo : Nat → Prop) (b : Nat) : ∀ (xs : List Ex) (off : Nat), (∀ j (h : j < xs.length), ∃ v0 v1 v2 v3 v4 v5 v6, w.cell? ⟨b, off + j * 7, none⟩ = some v0 ∧ w.cell? ⟨b, off + j * 7 + 1, none⟩ = some v1 ∧ w.cell? ⟨b, off + j * 7 + 2, none⟩ = some v2 ∧ w.cell? ⟨b, off + j * 7 + 3, none⟩ = some v3 ∧ w.cell? ⟨b, off + j * 7 + 4, none⟩ = some v4 ∧ w.cell? ⟨b, off + j * 7 + 5, none⟩ = some v5 ∧ w.cell? ⟨b, off + j * 7 + 6, none⟩ = some v6 ∧ ExIn w lo (.agg #[v0, v1, v2, v3, v4, v5, v6]) xs[j]) → ExsIn w lo b off xs
  | [], _, _ => by rw [ExsIn]; trivial
  | x :: xs, off, hs => by
    rw [ExsIn]
    have h0 := hs 0 (by simp)
    simp only [Nat.zero_mul, Nat.add_zero, List.getElem_cons_zero] at h0
    refine ⟨h0, exsIn_mk w lo b xs (off + 7) fun j hj => ?_⟩
    have := hs (j + 1) (by simpa using hj)
    simp only [show off + (j + 1) * 7 = off + 7 + j * 7 from by omega, List.getElem_cons_succ] at this
    exact this
/-- What is kept where the blocks of its parts are kept. -/
theorem ExIn.keep {w w' : World} {lo : Nat → Prop} (hz : w.heap.size ≤ w'.heap.size) (hk : ∀ b o : Nat, lo b → b < w.heap.size → w'.cell? ⟨b, o, none⟩ = w.cell? ⟨b, o, none⟩) : ∀ (x : Ex) (v : Value), ExIn w lo v x → ExIn w' lo v x := by
  refine Ex.ind fun op nm vt vn vs pos args ih v h => ?_
  rw [ExIn] at h ⊢
  obtain ⟨p, c, rfl, h1, h2, h3, h4, h5⟩ := h
  refine ⟨p, c, rfl, h1, h2, h3, h4, ?_⟩
  rcases h5 with h5 | ⟨b, off, rfl, hbl, hlo, h5⟩
  · exact .inl h5
  · refine .inr ⟨b, off, rfl, by omega, hlo, exsIn_mk w' lo b args off fun j hj => ?_⟩
    obtain ⟨v0, v1, v2, v3, v4, v5, v6, e0, e1, e2, e3, e4, e5, e6, hx⟩ := exsIn_at w lo b args off h5 j hj
    have key : ∀ o : Nat, w'.cell? ⟨b, o, none⟩ = w.cell? ⟨b, o, none⟩ := fun o => hk b o hlo hbl
    exact ⟨v0, v1, v2, v3, v4, v5, v6, by rw [key]; exact e0, by rw [key]; exact e1, by rw [key]; exact e2, by rw [key]; exact e3, by rw [key]; exact e4, by rw [key]; exact e5, by rw [key]; exact e6, ih _ (List.getElem_mem hj) _ hx⟩
theorem ExIn.on {w w' : World} {lo : Nat → Prop} {x : Ex} {v : Value} (h : ExIn w lo v x) (hb : Below w.heap.size w w') : ExIn w' lo v x :=
  ExIn.keep hb.size (fun b o _ hbl => hb.cell (p := ⟨b, o, none⟩) hbl) x v h
theorem ExIn.low {w : World} {lo lo' : Nat → Prop} (hl : ∀ b, b < w.heap.size → lo b → lo' b) : ∀ (x : Ex) (v : Value), ExIn w lo v x → ExIn w lo' v x := by
  refine Ex.ind fun op nm vt vn vs pos args ih v h => ?_
  rw [ExIn] at h ⊢
  obtain ⟨p, c, rfl, h1, h2, h3, h4, h5⟩ := h
  refine ⟨p, c, rfl, h1, h2, h3, h4, ?_⟩
  rcases h5 with h5 | ⟨b, off, rfl, hbl, hlo, h5⟩
  · exact .inl h5
  · refine .inr ⟨b, off, rfl, hbl, hl b hbl hlo, exsIn_mk w lo' b args off fun j hj => ?_⟩
    obtain ⟨v0, v1, v2, v3, v4, v5, v6, e0, e1, e2, e3, e4, e5, e6, hx⟩ := exsIn_at w lo b args off h5 j hj
    exact ⟨v0, v1, v2, v3, v4, v5, v6, e0, e1, e2, e3, e4, e5, e6, ih _ (List.getElem_mem hj) _ hx⟩
mutual
/-- How many nodes. -/
def Ex.size : Ex → Nat
  | .node _ _ _ _ _ _ l => 1 + Ex.sizes l
def Ex.sizes : List Ex → Nat
  | [] => 0
  | x :: xs => x.size + Ex.sizes xs
end
mutual
/-- How many are below each other. -/
def Ex.deep : Ex → Nat
  | .node _ _ _ _ _ _ l => Ex.deeps l + 1
def Ex.deeps : List Ex → Nat
  | [] => 0
  | x :: xs => max x.deep (Ex.deeps xs)
end
--END
end Go.Proofs.YtnpinbpjfngknaaGreatDoor
namespace Go.Proofs.YtnpinbpjfngknaaGreatDoor
--BEGIN
def blB (c : UInt8) : Bool := decide ((c.toNat : Int) = 32) || decide ((c.toNat : Int) = 10)
def letB (c : UInt8) : Bool := decide (97 ≤ (c.toNat : Int)) && decide ((c.toNat : Int) ≤ 122)
def ldB (c : UInt8) : Bool := letB c || digB c
/-- How many bytes from the left it is so of. -/
def goN (p : UInt8 → Bool) : List UInt8 → Nat
  | [] => 0
  | c :: l => if p c = true then goN p l + 1 else 0
theorem goN_yes {p : UInt8 → Bool} {c : UInt8} (l : List UInt8) (h : p c = true) : goN p (c :: l) = goN p l + 1 := by rw [goN, if_pos h]
theorem goN_no {p : UInt8 → Bool} {c : UInt8} (l : List UInt8) (h : p c = false) : goN p (c :: l) = 0 := by rw [goN, if_neg (by rw [h]; decide)]
theorem goN_le (p : UInt8 → Bool) : ∀ l : List UInt8, goN p l ≤ l.length
  | [] => Nat.le_refl _
  | c :: l => by
    rw [goN]
    split
    · have := goN_le p l; simp; omega
    · simp
theorem goN_all (p : UInt8 → Bool) : ∀ l : List UInt8, (l.take (goN p l)).all p = true
  | [] => rfl
  | c :: l => by
    by_cases h : p c = true
    · rw [goN_yes l h, List.take_succ_cons, List.all_cons, h, goN_all p l]; rfl
    · rw [goN_no l (by simpa using h)]; rfl
/-- Is it so of the first byte? -/
def hdB (p : UInt8 → Bool) : List UInt8 → Bool
  | [] => false
  | c :: _ => p c
theorem goN_stop (p : UInt8 → Bool) : ∀ l : List UInt8, hdB p (l.drop (goN p l)) = false
  | [] => rfl
  | c :: l => by
    by_cases h : p c = true
    · rw [goN_yes l h, List.drop_succ_cons]; exact goN_stop p l
    · have h' : p c = false := by simpa using h
      rw [goN_no l h', List.drop_zero]; exact h'
theorem goN_app (p : UInt8 → Bool) : ∀ (t r : List UInt8), t.all p = true → hdB p r = false → goN p (t ++ r) = t.length
  | [], [], _, _ => rfl
  | [], c :: r, _, h => goN_no r h
  | c :: t, r, ht, h => by
    rw [List.all_cons, Bool.and_eq_true] at ht
    rw [List.cons_append, goN_yes _ ht.1, goN_app p t r ht.2 h]; rfl
theorem goN_zero (p : UInt8 → Bool) (l : List UInt8) (h : hdB p l = false) : goN p l = 0 := by
  cases l with
  | nil => rfl
  | cons c l => exact goN_no l h
theorem goN_skip (p : UInt8 → Bool) : ∀ (t r : List UInt8), t.all p = true → goN p (t ++ r) = t.length + goN p r
  | [], r, _ => by simp
  | c :: t, r, ht => by
    rw [List.all_cons, Bool.and_eq_true] at ht
    rw [List.cons_append, goN_yes _ ht.1, goN_skip p t r ht.2, List.length_cons]; omega

/-- The signs, a longer one ahead of those with which it begins. -/
def signsL : List (List UInt8) := [[60, 62], [60, 61], [62, 61], [60], [62], [61], [40], [41], [44], [43], [45], [42], [47], [37]]
/-- How many bytes the first sign has with which a text begins; 0: there is none. -/
def sgN : List (List UInt8) → List UInt8 → Nat
  | [], _ => 0
  | g :: gs, l => if Lib.hasPrefix l g = true then g.length else sgN gs l
/-- How many bytes there are up to the end of a Quote, behind its first; none: it does not end. -/
def qscan : List UInt8 → Option Nat
  | [] => none
  | c :: l =>
    if c = 39 then
      match l with
      | [] => some 1
      | d :: r => if d = 39 then (qscan r).map (· + 2) else some 1
    else (qscan l).map (· + 1)
theorem qscan_ne (c : UInt8) (l : List UInt8) (h : c ≠ 39) : qscan (c :: l) = (qscan l).map (· + 1) := by cases l <;> simp [qscan, h]
theorem qscan_two (r : List UInt8) : qscan (39 :: 39 :: r) = (qscan r).map (· + 2) := by simp [qscan]
theorem qscan_end (l : List UInt8) (h : l.head? ≠ some 39) : qscan (39 :: l) = some 1 := by
  cases l with
  | nil => simp [qscan]
  | cons d r => simp at h; simp [qscan, h]
/-- The fault of what stands behind the first byte of a Quote, up to its end. -/
def qE (l : List UInt8) : Int := match rd l with
  | none => 2
  | some x => if plainB x = false then 2 else if 40 < x.length then 4 else 0
/-- How many bytes a Number has, and its fault. -/
def numTok (l : List UInt8) : Nat × Int :=
  if hdB letB (l.drop (goN digB l)) = true ∨ (1 < goN digB l ∧ l.head? = some 48) then (0, 2)
  else if 9223372036854775807 < val10 (l.take (goN digB l)) then (0, 1) else (goN digB l, 0)
/-- How many bytes a Quote has, by what stands behind its first one, and its fault. -/
def quoTok (l : List UInt8) : Nat × Int := match qscan l with
  | none => (0, 2)
  | some k => if qE (l.take k) = 0 then (k + 1, 0) else (0, qE (l.take k))
/-- The kind of the word with which a text begins, how many bytes it has, and its fault. -/
def tokAt : List UInt8 → Int × Nat × Int
  | [] => (4, 0, 2)
  | c :: l =>
    if letB c = true then (1, goN ldB (c :: l), 0)
    else if digB c = true then (2, numTok (c :: l))
    else if c = 39 then (3, quoTok l)
    else (4, sgN signsL (c :: l), if sgN signsL (c :: l) = 0 then 2 else 0)
abbrev Tok := Int × ByteArray × Nat
/-- The words of a text that does not begin with a blank; the fault, and where. -/
def lexN : Nat → Nat → List UInt8 → List Tok × Int × Nat
  | 0, _, _ => ([], 0, 0)
  | f + 1, a, l =>
    if l = [] then ([], 0, 0)
    else if (tokAt l).2.2 ≠ 0 then ([], (tokAt l).2.2, a)
    else
      if (lexN f (a + (tokAt l).2.1 + goN blB (l.drop (tokAt l).2.1)) ((l.drop (tokAt l).2.1).drop (goN blB (l.drop (tokAt l).2.1)))).2.1 = 0 then
        (((tokAt l).1, ⟨(l.take (tokAt l).2.1).toArray⟩, a) :: (lexN f (a + (tokAt l).2.1 + goN blB (l.drop (tokAt l).2.1)) ((l.drop (tokAt l).2.1).drop (goN blB (l.drop (tokAt l).2.1)))).1, 0, 0)
      else ([], (lexN f (a + (tokAt l).2.1 + goN blB (l.drop (tokAt l).2.1)) ((l.drop (tokAt l).2.1).drop (goN blB (l.drop (tokAt l).2.1)))).2)
/-- The words behind those that were read. -/
def lexA (f a : Nat) (l : List UInt8) (acc : List Tok) : List Tok × Int × Nat := if (lexN f a l).2.1 = 0 then (acc ++ (lexN f a l).1, 0, 0) else ([], (lexN f a l).2)
/-- The same, of a text that may begin with blanks. -/
def lexS (f a : Nat) (l : List UInt8) (acc : List Tok) : List Tok × Int × Nat := lexA f (a + goN blB l) (l.drop (goN blB l)) acc
/-- All words of a text. -/
def lexAll (l : List UInt8) : List Tok × Int × Nat := if 400 < l.length then ([], 4, 0) else lexS (l.length + 1) 0 l []
theorem lexA_nil (f a : Nat) (acc : List Tok) : lexA (f + 1) a [] acc = (acc, 0, 0) := by simp [lexA, lexN]
theorem lexA_bad (f a : Nat) (l : List UInt8) (acc : List Tok) (hl : l ≠ []) {k : Int} {n : Nat} {e : Int} (h : tokAt l = (k, n, e)) (he : e ≠ 0) : lexA (f + 1) a l acc = ([], e, a) := by
  have : lexN (f + 1) a l = ([], e, a) := by
    rw [lexN, if_neg hl, h, if_pos he]
  rw [lexA, this, if_neg he]
theorem lexA_tok (f a : Nat) (l : List UInt8) (acc : List Tok) (hl : l ≠ []) {k : Int} {n : Nat} (h : tokAt l = (k, n, 0)) : lexA (f + 1) a l acc = lexS f (a + n) (l.drop n) (acc ++ [(k, ⟨(l.take n).toArray⟩, a)]) := by
  have hN : lexN (f + 1) a l = if (lexN f (a + n + goN blB (l.drop n)) ((l.drop n).drop (goN blB (l.drop n)))).2.1 = 0 then ((k, ⟨(l.take n).toArray⟩, a) :: (lexN f (a + n + goN blB (l.drop n)) ((l.drop n).drop (goN blB (l.drop n)))).1, 0, 0) else ([], (lexN f (a + n + goN blB (l.drop n)) ((l.drop n).drop (goN blB (l.drop n)))).2) := by
    rw [lexN, if_neg hl, h, if_neg (by simp)]
  rw [lexS, lexA, lexA, hN]
  generalize lexN f (a + n + goN blB (l.drop n)) ((l.drop n).drop (goN blB (l.drop n))) = R
  by_cases h0 : R.2.1 = 0
  · simp only [if_pos h0, if_true, List.append_assoc, List.singleton_append]
  · simp only [if_neg h0]
theorem lexS_blank (f a : Nat) (c : UInt8) (l : List UInt8) (acc : List Tok) (h : blB c = true) : lexS f a (c :: l) acc = lexS f (a + 1) l acc := by
  rw [lexS, lexS, goN_yes l h, List.drop_succ_cons, show a + (goN blB l + 1) = a + 1 + goN blB l from by omega]
theorem lexS_no (f a : Nat) (l : List UInt8) (acc : List Tok) (h : hdB blB l = false) : lexS f a l acc = lexA f a l acc := by
  rw [lexS, goN_zero _ _ h]; rfl
theorem lexS_nil (f a : Nat) (acc : List Tok) : lexS (f + 1) a [] acc = (acc, 0, 0) := by rw [lexS_no _ _ _ _ rfl, lexA_nil]

theorem sgN_mem : ∀ (gs : List (List UInt8)) (l : List UInt8), sgN gs l ≠ 0 → ∃ g ∈ gs, Lib.hasPrefix l g = true ∧ sgN gs l = g.length
  | [], _, h => absurd rfl h
  | g :: gs, l, h => by
    rw [sgN] at h ⊢
    by_cases hp : Lib.hasPrefix l g = true
    · rw [if_pos hp]; exact ⟨g, List.mem_cons_self, hp, rfl⟩
    · rw [if_neg hp] at h ⊢
      obtain ⟨g', hm, h1, h2⟩ := sgN_mem gs l h
      exact ⟨g', List.mem_cons_of_mem _ hm, h1, h2⟩
theorem qscan_le : ∀ (n : Nat) (l : List UInt8) (k : Nat), l.length ≤ n → qscan l = some k → 1 ≤ k ∧ k ≤ l.length
  | _, [], k, _, h => by simp [qscan] at h
  | 0, _ :: _, _, hn, _ => by simp at hn
  | n + 1, c :: l, k, hn, h => by
    by_cases hc : c = 39
    · subst hc
      cases l with
      | nil => simp [qscan] at h; subst h; simp
      | cons d r =>
        by_cases hd : d = 39
        · subst hd
          rw [qscan_two, Option.map_eq_some_iff] at h
          obtain ⟨j, hj, rfl⟩ := h
          have := qscan_le n r j (by simp at hn; omega) hj
          simp; omega
        · rw [qscan_end _ (by simpa using hd)] at h
          cases h; simp
    · rw [qscan_ne c l hc, Option.map_eq_some_iff] at h
      obtain ⟨j, hj, rfl⟩ := h
      have := qscan_le n l j (by simp at hn; omega) hj
      simp; omega
theorem hasPre_len {l g : List UInt8} (h : Lib.hasPrefix l g = true) : g.length ≤ l.length ∧ l.take g.length = g := by
  have : g <+: l := List.isPrefixOf_iff_prefix.1 h
  exact ⟨this.length_le, (List.prefix_iff_eq_take.1 this).symm⟩
/-- A word that is right has a byte, and no more than there are. -/
theorem tokAt_len {l : List UInt8} {k : Int} {n : Nat} (h : tokAt l = (k, n, 0)) : 1 ≤ n ∧ n ≤ l.length := by
  cases l with
  | nil => simp [tokAt] at h
  | cons c l =>
    rw [tokAt] at h
    split at h
    · rename_i hc
      cases h
      have : ldB c = true := by simp [ldB, hc]
      rw [goN_yes l this]
      have := goN_le ldB l
      simp; omega
    · split at h
      · rename_i hd
        injection h with _ h
        rw [numTok] at h
        split at h
        · cases h
        · split at h
          · cases h
          · cases h
            rw [goN_yes l hd]
            have := goN_le digB l
            simp; omega
      · split at h
        · injection h with _ h
          rw [quoTok] at h
          split at h
          · cases h
          · rename_i j hj
            split at h
            · cases h
              have := qscan_le _ l j (Nat.le_refl _) hj
              simp; omega
            · rename_i h0
              exact absurd (Prod.mk.inj h).2 h0
        · injection h with _ h
          injection h with h1 h2
          subst h1
          have hne : sgN signsL (c :: l) ≠ 0 := fun e => by rw [if_pos e] at h2; cases h2
          obtain ⟨g, hm, hp, hl⟩ := sgN_mem _ _ hne
          rw [hl]
          have := (hasPre_len hp).1
          exact ⟨by omega, this⟩
theorem tokAt_fault {l : List UInt8} : (tokAt l).2.2 = 0 ∨ (tokAt l).2.2 = 1 ∨ (tokAt l).2.2 = 2 ∨ (tokAt l).2.2 = 4 := by
  have hq : ∀ x, qE x = 0 ∨ qE x = 2 ∨ qE x = 4 := fun x => by
    rw [qE]
    split
    · simp
    · split
      · simp
      · split <;> simp
  cases l with
  | nil => simp [tokAt]
  | cons c l =>
    rw [tokAt]
    split
    · simp
    · split
      · rw [numTok]
        split
        · simp
        · split <;> simp
      · split
        · rw [quoTok]
          split
          · simp
          · rename_i j _
            have := hq (l.take j)
            split
            · simp
            · simp only; omega
        · simp only
          split <;> simp
--END
end Go.Proofs.YtnpinbpjfngknaaGreatDoor
namespace Go.Proofs.YtnpinbpjfngknaaGreatDoor
open Go.RowKit
set_option linter.unusedVariables false
--BEGIN
/-- Where the reader stands: which word is the next, and where it went wrong (below 0: nowhere). -/
structure St where
  i : Nat
  bad : Int
/-- Where the next word stands. -/
def posAt (ts : List Tok) (en : Nat) (i : Nat) : Int := match ts[i]? with
  | some t => (t.2.2 : Int)
  | none => (en : Int)
/-- Is the next word this one? -/
def isT (ts : List Tok) (st : St) (s : List UInt8) : Bool := decide (st.bad < 0) && match ts[st.i]? with
  | some t => (decide (t.1 = 1) || decide (t.1 = 4)) && t.2.1.data.toList == s
  | none => false
def adv (st : St) : St := ⟨st.i + 1, st.bad⟩
def failT (ts : List Tok) (en : Nat) (st : St) : St := if st.bad < 0 then ⟨st.i, posAt ts en st.i⟩ else st
def hasT (ts : List Tok) (st : St) (s : List UInt8) : St := if isT ts st s = true then adv st else st
def needT (ts : List Tok) (en : Nat) (st : St) (s : List UInt8) : St := if isT ts st s = true then adv st else failT ts en st
/-- The words of the language. -/
def wordsL : List (List UInt8) := [[111, 114], [97, 110, 100], [110, 111, 116], [116, 114, 117, 101], [102, 97, 108, 115, 101], [108, 101, 110], [105, 102], [115, 101, 108, 101, 99, 116], [97, 115], [102, 114, 111, 109], [119, 104, 101, 114, 101], [103, 114, 111, 117, 112], [98, 121], [119, 105, 110, 100, 111, 119], [115, 108, 105, 100, 101], [99, 111, 117, 110, 116], [115, 117, 109], [108, 101, 97, 115, 116], [109, 111, 115, 116]]
/-- Is a text 1 to 8 letters? -/
def lettersB (l : List UInt8) : Bool := decide (l ≠ []) && decide (l.length ≤ 8) && l.all letB
/-- May a text be a name? -/
def nameT (l : List UInt8) : Bool := lettersB l && !(wordsL.any (· == l))
/-- A name is taken. -/
def takeT (ts : List Tok) (en : Nat) (st : St) : ByteArray × St :=
  if st.bad < 0 then
    (match ts[st.i]? with
    | some t => if t.1 = 1 ∧ nameT t.2.1.data.toList = true then (t.2.1, adv st) else (⟨#[]⟩, failT ts en st)
    | none => (⟨#[]⟩, failT ts en st))
  else (⟨#[]⟩, st)
/-- The signs of a level. -/
def sgl (lv : Nat) : List (List UInt8) := match lv with
  | 0 => [[111, 114]]
  | 1 => [[97, 110, 100]]
  | 2 => [[61], [60, 62], [60], [60, 61], [62], [62, 61]]
  | 3 => [[43], [45]]
  | 4 => [[42], [47], [37]]
  | _ => []
def ex0 : Ex := .node ⟨#[]⟩ ⟨#[]⟩ 0 0 ⟨#[]⟩ 0 []
def op1 (op : List UInt8) (pos : Int) (l : List Ex) : Ex := .node ⟨op.toArray⟩ ⟨#[]⟩ 0 0 ⟨#[]⟩ pos l
/-- The first of some signs that is the next. -/
def firstT (ts : List Tok) (st : St) : List (List UInt8) → Option (List UInt8)
  | [] => none
  | g :: gs => if isT ts st g = true then some g else firstT ts st gs
/-- Behind what has been read: sign and part, over and over (but once of a comparison). -/
def pLoop (ts : List Tok) (en : Nat) (sub : St → Ex × St) (lv : Nat) : Nat → Ex → St → Ex × St
  | 0, e, st => (e, st)
  | k + 1, e, st => match firstT ts st (sgl lv) with
    | none => (e, st)
    | some g =>
      if lv = 2 then (op1 g (posAt ts en st.i) [e, (sub (adv st)).1], (sub (adv st)).2)
      else pLoop ts en sub lv k (op1 g (posAt ts en st.i) [e, (sub (adv st)).1]) (sub (adv st)).2
/-- Parts in brackets, a comma between: those that were read, and how many are left. -/
def pArgs (ts : List Tok) (en : Nat) (sub : St → Ex × St) : Nat → List Ex → St → List Ex × St
  | 0, l, st => (l, st)
  | k + 1, l, st =>
    pArgs ts en sub k (l ++ [(sub (if l = [] then st else needT ts en st [44])).1]) (sub (if l = [] then st else needT ts en st [44])).2
/-- len, if: the parts in brackets. -/
def pCall (ts : List Tok) (en : Nat) (sub : St → Ex × St) (op : List UInt8) (many : Nat) (pos : Int) (st : St) : Ex × St :=
  (op1 op pos (pArgs ts en sub many [] (needT ts en st [40])).1, needT ts en (pArgs ts en sub many [] (needT ts en st [40])).2 [41])
/-- Is the next word a value? -/
def valT (t : Tok) : Bool := decide (t.1 = 2) || decide (t.1 = 3) || (decide (t.1 = 1) && (t.2.1.data.toList == [116, 114, 117, 101] || t.2.1.data.toList == [102, 97, 108, 115, 101]))
def pCol (ts : List Tok) (en : Nat) (st : St) : Ex × St := (.node ⟨#[99, 111, 108]⟩ (takeT ts en st).1 0 0 ⟨#[]⟩ (posAt ts en st.i) [], (takeT ts en st).2)
/-- What is the tightest. -/
def pOne (ts : List Tok) (en : Nat) (sub : St → Ex × St) (rv : ByteArray → Int × Int × List UInt8 × Int) (st : St) : Ex × St :=
  if isT ts st [40] = true then ((sub (adv st)).1, needT ts en (sub (adv st)).2 [41])
  else if isT ts st [108, 101, 110] = true then pCall ts en sub [108, 101, 110] 1 (posAt ts en st.i) (adv st)
  else if isT ts st [105, 102] = true then pCall ts en sub [105, 102] 3 (posAt ts en st.i) (adv st)
  else
    (match ts[st.i]? with
    | some t => if st.bad < 0 ∧ valT t = true then (.node ⟨#[118, 97, 108]⟩ ⟨#[]⟩ (rv t.2.1).1 (rv t.2.1).2.1 ⟨(rv t.2.1).2.2.1.toArray⟩ (posAt ts en st.i) [], adv st) else pCol ts en st
    | none => pCol ts en st)
/-- An expression of a level, or tighter. -/
def pE (ts : List Tok) (en : Nat) (rv : ByteArray → Int × Int × List UInt8 × Int) : Nat → Nat → St → Ex × St
  | 0, _, st => (ex0, st)
  | f + 1, lv, st =>
    if 0 ≤ st.bad then (ex0, st)
    else if lv = 2 ∧ isT ts st [110, 111, 116] = true then (op1 [110, 111, 116] (posAt ts en st.i) [(pE ts en rv f 2 (adv st)).1], (pE ts en rv f 2 (adv st)).2)
    else if lv = 5 then
      if isT ts st [45] = true then (op1 [110, 101, 103] (posAt ts en st.i) [(pE ts en rv f 5 (adv st)).1], (pE ts en rv f 5 (adv st)).2)
      else pOne ts en (pE ts en rv f 0) rv st
    else pLoop ts en (pE ts en rv f (lv + 1)) lv (ts.length + 1) (pE ts en rv f (lv + 1) st).1 (pE ts en rv f (lv + 1) st).2
--END
end Go.Proofs.YtnpinbpjfngknaaGreatDoor
namespace Go.Proofs.YtnpinbpjfngknaaGreatDoor
open Go.RowKit
set_option linter.unusedVariables false
--BEGIN
/-- Is a word one of these? -/
def sgT (gs : List (List UInt8)) (t : Tok) : Bool := gs.any fun g => g == t.2.1.data.toList
/-- The next word, if it is so; and what is left. -/
def nxT (P : Tok → Bool) : List Tok → Option (Tok × List Tok)
  | [] => none
  | t :: ts => if P t = true then some (t, ts) else none
theorem nxT_len {P : Tok → Bool} {ts r : List Tok} {t : Tok} (h : nxT P ts = some (t, r)) : ts = t :: r ∧ P t = true := by
  cases ts with
  | nil => simp [nxT] at h
  | cons a l =>
    rw [nxT] at h
    split at h
    · rename_i h1
      cases h
      exact ⟨rfl, h1⟩
    · exact absurd h (by simp)
def betT (a : Ex) (t : Tok) (b : Ex) : Ex := .node t.2.1 ⟨#[]⟩ 0 0 ⟨#[]⟩ (t.2.2 : Int) [a, b]
/-- Behind what has been read: sign and part, over and over. -/
def uLoop (sub : List Tok → Option Ex × List Tok) (gs : List (List UInt8)) : Nat → Ex → List Tok → Option Ex × List Tok
  | 0, e, ts => (some e, ts)
  | k + 1, e, ts => match nxT (sgT gs) ts with
    | none => (some e, ts)
    | some (t, r) => match sub r with
      | (none, r2) => (none, r2)
      | (some b, r2) => uLoop sub gs k (betT e t b) r2
def uSev (sub : List Tok → Option Ex × List Tok) (gs : List (List UInt8)) (ts : List Tok) : Option Ex × List Tok := match sub ts with
  | (none, r) => (none, r)
  | (some e, r) => uLoop sub gs (r.length + 1) e r
def uAhead (op : List UInt8) (gs : List (List UInt8)) (sub other : List Tok → Option Ex × List Tok) (ts : List Tok) : Option Ex × List Tok := match nxT (sgT gs) ts with
  | none => other ts
  | some (t, r) => match sub r with
    | (none, r2) => (none, r2)
    | (some e, r2) => (some (op1 op (t.2.2 : Int) [e]), r2)
def cmpL : List (List UInt8) := [[61], [60, 62], [60], [60, 61], [62], [62, 61]]
def uCmp (sub : List Tok → Option Ex × List Tok) (ts : List Tok) : Option Ex × List Tok := match sub ts with
  | (none, r) => (none, r)
  | (some a, r) => match nxT (sgT cmpL) r with
    | none => (some a, r)
    | some (t, r2) => match sub r2 with
      | (none, r3) => (none, r3)
      | (some b, r3) => (some (betT a t b), r3)
/-- So many in brackets, a comma between. -/
def uBr (sub : List Tok → Option Ex × List Tok) : Nat → List Ex → List Tok → Option (List Ex) × List Tok
  | 0, acc, ts => match nxT (sgT [[41]]) ts with
    | none => (none, ts)
    | some (_, r) => (some acc, r)
  | k + 1, acc, ts => match nxT (sgT [if acc.length = 0 then [40] else [44]]) ts with
    | none => (none, ts)
    | some (_, r) => match sub r with
      | (none, r2) => (none, r2)
      | (some e, r2) => uBr sub k (acc ++ [e]) r2
/-- Is a word a value? -/
def vlT (t : Tok) : Bool := decide ((readV t.2.1).2.2.2 = 0)
def valE (t : Tok) : Ex := .node ⟨#[118, 97, 108]⟩ ⟨#[]⟩ (readV t.2.1).1 (readV t.2.1).2.1 ⟨(readV t.2.1).2.2.1.toArray⟩ (t.2.2 : Int) []
def colE1 (t : Tok) : Ex := .node ⟨#[99, 111, 108]⟩ t.2.1 0 0 ⟨#[]⟩ (t.2.2 : Int) []
def nmT (t : Tok) : Bool := nameT t.2.1.data.toList
/-- What has no sign of its own. -/
def uOne (sub : List Tok → Option Ex × List Tok) (ts : List Tok) : Option Ex × List Tok := match nxT (sgT [[108, 101, 110], [105, 102]]) ts with
  | some (t, r) => match uBr sub (if t.2.1.data.toList = [108, 101, 110] then 1 else 3) [] r with
    | (none, r2) => (none, r2)
    | (some l, r2) => (some (.node t.2.1 ⟨#[]⟩ 0 0 ⟨#[]⟩ (t.2.2 : Int) l), r2)
  | none => match nxT vlT ts with
    | some (t, r) => (some (valE t), r)
    | none => match nxT nmT ts with
      | some (t, r) => (some (colE1 t), r)
      | none => match uBr sub 1 [] ts with
        | (none, r) => (none, r)
        | (some l, r) => (l.head?, r)
/-- An expression of a level: 0 or, 1 and, 2 not, 3 a comparison, 4 a sum, 5 a product, 6 -, 7 one. -/
def uE : Nat → Nat → List Tok → Option Ex × List Tok
  | 0, _, ts => (none, ts)
  | f + 1, lv, ts => match lv with
    | 0 => uSev (uE f 1) [[111, 114]] ts
    | 1 => uSev (uE f 2) [[97, 110, 100]] ts
    | 2 => uAhead [110, 111, 116] [[110, 111, 116]] (uE f 2) (uE f 3) ts
    | 3 => uCmp (uE f 4) ts
    | 4 => uSev (uE f 5) [[43], [45]] ts
    | 5 => uSev (uE f 6) [[42], [47], [37]] ts
    | 6 => uAhead [110, 101, 103] [[45]] (uE f 6) (uE f 7) ts
    | _ => uOne (uE f 0) ts
/-- What is left is an end of what there was. -/
def Suf (sub : List Tok → Option Ex × List Tok) : Prop := ∀ ts, (sub ts).2 <:+ ts
theorem uLoop_suf {sub : List Tok → Option Ex × List Tok} (hs : Suf sub) (gs : List (List UInt8)) : ∀ (k : Nat) (e : Ex) (ts : List Tok), (uLoop sub gs k e ts).2 <:+ ts
  | 0, e, ts => List.suffix_rfl
  | k + 1, e, ts => by
    rw [uLoop]
    cases h : nxT (sgT gs) ts with
    | none => exact List.suffix_rfl
    | some q =>
      obtain ⟨t, r⟩ := q
      have h1 := (nxT_len h).1
      subst h1
      have h2 := (hs r).trans (List.suffix_cons t r)
      simp only
      cases h3 : sub r with
      | mk o r2 =>
        rw [h3] at h2
        cases o with
        | none => exact h2
        | some b => exact (uLoop_suf hs gs k (betT e t b) r2).trans h2
theorem uSev_suf {sub : List Tok → Option Ex × List Tok} (hs : Suf sub) (gs : List (List UInt8)) : Suf (uSev sub gs) := by
  intro ts
  have h2 := hs ts
  rw [uSev]
  cases h3 : sub ts with
  | mk o r =>
    rw [h3] at h2
    cases o with
    | none => exact h2
    | some e => exact (uLoop_suf hs gs (r.length + 1) e r).trans h2
theorem uAhead_suf {sub other : List Tok → Option Ex × List Tok} (hs : Suf sub) (ho : Suf other) (op : List UInt8) (gs : List (List UInt8)) : Suf (uAhead op gs sub other) := by
  intro ts
  rw [uAhead]
  cases h : nxT (sgT gs) ts with
  | none => exact ho ts
  | some q =>
    obtain ⟨t, r⟩ := q
    have h1 := (nxT_len h).1
    subst h1
    have h2 := (hs r).trans (List.suffix_cons t r)
    simp only
    cases h3 : sub r with
    | mk o r2 =>
      rw [h3] at h2
      cases o <;> exact h2
theorem uCmp_suf {sub : List Tok → Option Ex × List Tok} (hs : Suf sub) : Suf (uCmp sub) := by
  intro ts
  have h2 := hs ts
  rw [uCmp]
  cases h3 : sub ts with
  | mk o r =>
    rw [h3] at h2
    cases o with
    | none => exact h2
    | some e =>
      simp only at h2 ⊢
      cases h : nxT (sgT cmpL) r with
      | none => exact h2
      | some q =>
        obtain ⟨t, r2⟩ := q
        have h1 := (nxT_len h).1
        subst h1
        have h4 := ((hs r2).trans (List.suffix_cons t r2)).trans h2
        simp only
        cases h5 : sub r2 with
        | mk o r3 =>
          rw [h5] at h4
          cases o <;> exact h4
theorem uBr_suf {sub : List Tok → Option Ex × List Tok} (hs : Suf sub) : ∀ (k : Nat) (acc : List Ex) (ts : List Tok), (uBr sub k acc ts).2 <:+ ts
  | 0, acc, ts => by
    rw [uBr]
    cases h : nxT (sgT [[41]]) ts with
    | none => exact List.suffix_rfl
    | some q =>
      obtain ⟨t, r⟩ := q
      have h1 := (nxT_len h).1
      subst h1
      exact List.suffix_cons t r
  | k + 1, acc, ts => by
    rw [uBr]
    cases h : nxT (sgT [if acc.length = 0 then [40] else [44]]) ts with
    | none => exact List.suffix_rfl
    | some q =>
      obtain ⟨t, r⟩ := q
      have h1 := (nxT_len h).1
      subst h1
      have h2 := (hs r).trans (List.suffix_cons t r)
      simp only
      cases h3 : sub r with
      | mk o r2 =>
        rw [h3] at h2
        cases o with
        | none => exact h2
        | some e => exact (uBr_suf hs k (acc ++ [e]) r2).trans h2
theorem uOne_suf {sub : List Tok → Option Ex × List Tok} (hs : Suf sub) : Suf (uOne sub) := by
  intro ts
  rw [uOne]
  cases h : nxT (sgT [[108, 101, 110], [105, 102]]) ts with
  | some q =>
    obtain ⟨t, r⟩ := q
    have h1 := (nxT_len h).1
    subst h1
    have h2 := (uBr_suf hs (if t.2.1.data.toList = [108, 101, 110] then 1 else 3) [] r).trans (List.suffix_cons t r)
    simp only
    cases h3 : uBr sub (if t.2.1.data.toList = [108, 101, 110] then 1 else 3) [] r with
    | mk o r2 =>
      rw [h3] at h2
      cases o <;> exact h2
  | none =>
    simp only
    cases h : nxT vlT ts with
    | some q =>
      obtain ⟨t, r⟩ := q
      have h1 := (nxT_len h).1
      subst h1
      exact List.suffix_cons t r
    | none =>
      simp only
      cases h : nxT nmT ts with
      | some q =>
        obtain ⟨t, r⟩ := q
        have h1 := (nxT_len h).1
        subst h1
        exact List.suffix_cons t r
      | none =>
        have h2 := uBr_suf hs 1 [] ts
        simp only
        cases h3 : uBr sub 1 [] ts with
        | mk o r2 =>
          rw [h3] at h2
          cases o <;> exact h2
theorem uE_suf : ∀ (f lv : Nat), Suf (uE f lv)
  | 0, lv => fun ts => by rw [uE]; exact List.suffix_rfl
  | f + 1, lv => fun ts => by
    have ih := fun lv => uE_suf f lv
    unfold uE
    split
    · exact uSev_suf (ih 1) _ ts
    · exact uSev_suf (ih 2) _ ts
    · exact uAhead_suf (ih 2) (ih 3) _ _ ts
    · exact uCmp_suf (ih 4) ts
    · exact uSev_suf (ih 5) _ ts
    · exact uSev_suf (ih 6) _ ts
    · exact uAhead_suf (ih 6) (ih 7) _ _ ts
    · exact uOne_suf (ih 0) ts
--END
end Go.Proofs.YtnpinbpjfngknaaGreatDoor
namespace Go.Proofs.YtnpinbpjfngknaaGreatDoor
open Go.RowKit
set_option linter.unusedVariables false

def tokCells (ts : List Tok) : List Value := ts.flatMap fun t => [.int .i64 t.1, .string t.2.1, .int .i64 (t.2.2 : Int)]
/-- The words of a list lie in memory one behind the other. -/
def ToksIn (w : World) (b off : Nat) (ts : List Tok) : Prop :=
  b < w.heap.size ∧ ∀ j (h : j < ts.length), w.cell? ⟨b, off + j * 3, none⟩ = some (.int .i64 ts[j].1) ∧ w.cell? ⟨b, off + j * 3 + 1, none⟩ = some (.string ts[j].2.1) ∧ w.cell? ⟨b, off + j * 3 + 2, none⟩ = some (.int .i64 (ts[j].2.2 : Int))
theorem ToksIn.on {w w' : World} {b off : Nat} {ts : List Tok} (h : ToksIn w b off ts) (hb : Below w.heap.size w w') : ToksIn w' b off ts :=
  ⟨by have := hb.size; have := h.1; omega, fun j hj => by
    rw [hb.cell (p := ⟨b, off + j * 3, none⟩) h.1, hb.cell (p := ⟨b, off + j * 3 + 1, none⟩) h.1, hb.cell (p := ⟨b, off + j * 3 + 2, none⟩) h.1]; exact h.2 j hj⟩
/-- A list of words as a Go value. -/
def IsToks (w : World) (v : Value) (ts : List Tok) : Prop :=
  ∃ p c, v = .slice p ts.length c ∧ ts.length ≤ maxLen ∧ (ts.length = 0 ∨ ∃ b off, p = some ⟨b, off, none⟩ ∧ ToksIn w b off ts)
theorem IsToks.on {w w' : World} {v : Value} {ts : List Tok} (h : IsToks w v ts) (hb : Below w.heap.size w w') : IsToks w' v ts := by
  obtain ⟨p, c, e, hm, h⟩ := h
  refine ⟨p, c, e, hm, ?_⟩
  rcases h with h | ⟨b, off, e2, h⟩
  · exact .inl h
  · exact .inr ⟨b, off, e2, h.on hb⟩
theorem tokCells_at : ∀ (ts : List Tok) (j : Nat) (h : j < ts.length), (tokCells ts)[j * 3]? = some (.int .i64 ts[j].1) ∧ (tokCells ts)[j * 3 + 1]? = some (.string ts[j].2.1) ∧ (tokCells ts)[j * 3 + 2]? = some (.int .i64 (ts[j].2.2 : Int))
  | [], j, h => absurd h (by simp)
  | t :: ts, 0, _ => by simp [tokCells]
  | t :: ts, j + 1, h => by
    have ih := tokCells_at ts j (by simpa using h)
    have e : tokCells (t :: ts) = .int .i64 t.1 :: .string t.2.1 :: .int .i64 (t.2.2 : Int) :: tokCells ts := rfl
    rw [e, show (j + 1) * 3 = j * 3 + 1 + 1 + 1 by omega]
    simp only [List.getElem?_cons_succ]
    simpa using ih
theorem own_toks {W : World} {base : Nat} {v : Value} {ts : List Tok} (h : W.ownsRow base 79 3 v ts.length (tokCells ts)) : IsToks W v ts := by
  rcases h.2 with ⟨e, h0⟩ | ⟨g, cap, cur, e, _, hgg, hcap, hmx, _, _⟩
  · exact ⟨none, 0, by rw [e, h0], by omega, .inl h0⟩
  · refine ⟨_, cap, e, by omega, .inr ⟨g, 0, rfl, (Array.getElem?_eq_some_iff.1 hgg).1, fun j hj => ?_⟩⟩
    obtain ⟨e0, e1, e2⟩ := tokCells_at ts j hj
    have h0 := h.cells (g := g) (by rw [e]; rfl) _ _ e0
    have h1 := h.cells (g := g) (by rw [e]; rfl) _ _ e1
    have h2 := h.cells (g := g) (by rw [e]; rfl) _ _ e2
    rw [Go.WideShapes.add_plain] at h0 h1 h2
    exact ⟨h0, h1, h2⟩
theorem isToks_nil (w : World) : IsToks w (.slice none 0 0) [] := ⟨none, 0, rfl, Nat.zero_le _, .inl rfl⟩
theorem lown_set {W : World} {b : Nat} {e : TypeId} {size : Nat} {v : Value} {n : Nat} {xs : List Value} (h : W.ownsRow (b + 1) e size v n xs) (o : Nat) (x : Value) : (W.setCell ⟨b, o, none⟩ x).ownsRow (b + 1) e size v n xs := by
  refine ⟨h.1, ?_⟩
  rcases h.2 with hn | ⟨g, cap, cur, rfl, h1, hgg, rest⟩
  · exact .inl hn
  · refine .inr ⟨g, cap, cur, rfl, h1, ?_, rest⟩
    rw [Below.heap_setCell _ _ _ _ (fun e => by simp at e; omega)]
    exact hgg
theorem info_tok : (Tryz.prog.info? 79).map (fun i => (i.zero, i.size, i.bytes)) = some (some (.agg #[.int .i64 0, .string ⟨#[]⟩, .int .i64 0]), 3, 32) := by kernel_rfl
theorem rel_tok {B : Nat} {l : List Tok} {k : Int} {x : ByteArray} {a : Nat} {w wr w1 : World} {v v' : Value} {o : Obj} (hown : wr.ownsRow B 79 3 v l.length (tokCells l)) (hnx : Below B w wr) (hB : B ≤ wr.heap.size)
    (hown' : w1.ownsRow B 79 3 v' (l.length + 1) (tokCells l ++ [.int .i64 k, .string x, .int .i64 (a : Int)])) (hgrow : (wr.alloc o).grownBy w1 v.ownBlock) :
    w1.ownsRow B 79 3 v' (l ++ [(k, x, a)]).length (tokCells (l ++ [(k, x, a)])) ∧ Below B w w1 :=
  ⟨by rw [List.length_append]; simpa [tokCells] using hown', (hnx.alloc hB o).grown hgrow (by simp; omega) (fun j hj => (hown.lt j hj).1)⟩
end Go.Proofs.YtnpinbpjfngknaaGreatDoor
namespace Go.Proofs.YtnpinbpjfngknaaGreatDoor
open Go.RowKit Go.BigFrame
set_option linter.unusedVariables false

/-- Texts lie in memory one behind the other. -/
def StrsIn (w : World) (b : Nat) (gs : List (List UInt8)) : Prop := b < w.heap.size ∧ ∀ j (h : j < gs.length), w.cell? ⟨b, j, none⟩ = some (.string ⟨gs[j].toArray⟩)
theorem StrsIn.on {w w' : World} {b : Nat} {gs : List (List UInt8)} (h : StrsIn w b gs) (hb : Below w.heap.size w w') : StrsIn w' b gs :=
  ⟨by have := hb.size; have := h.1; omega, fun j hj => by rw [hb.cell (p := ⟨b, j, none⟩) h.1]; exact h.2 j hj⟩
theorem any_hit {gs : List (List UInt8)} {l : List UInt8} {k : Nat} (h : k < gs.length) (e : gs[k] = l) : (gs.any fun g => g == l) = true := by
  rw [List.any_eq_true]
  exact ⟨gs[k], List.getElem_mem h, by simpa using e⟩
theorem any_miss {gs : List (List UInt8)} {l : List UInt8} (h : ∀ j (hj : j < gs.length), gs[j] ≠ l) : (gs.any fun g => g == l) = false := by
  rw [List.any_eq_false]
  intro g hg
  obtain ⟨j, hj, rfl⟩ := List.getElem_of_mem hg
  simpa using h j hj
set_option maxHeartbeats 1000000 in
theorem index_any (x : ByteArray) (b c : Nat) (gs : List (List UInt8)) (w : World) (hn : gs.length ≤ 100) (hc : StrsIn w b gs) :
    Calls Tryz.prog 99 #[.slice (some ⟨b, 0, none⟩) gs.length c, .string x] w fun e w' => ∃ n : Int, e = .returned (.int .i64 n) ∧ Hid (decide (0 ≤ n) = gs.any fun g => g == x.data.toList) ∧ w' = w := by
  go_enter Tryz.func99, Tryz.ntmps99
  go_wp2
  go_loopg [5, 8] gs.length (fun gg _ s8 wr => ∃ kk : Nat, kk ≤ gs.length ∧ gs.length - kk ≤ gg ∧ s8 = .int .i64 kk ∧ wr = w ∧ Aside (∀ j (hj : j < gs.length), j < kk → gs[j] ≠ x.data.toList))
  case atStart => exact ⟨0, Nat.zero_le _, by omega, rfl, rfl, (show Aside _ from fun j _ hj => absurd hj (Nat.not_lt_zero _))⟩
  case round =>
    obtain ⟨kk, hkk, hg, rfl, rfl, A⟩ := hrel
    by_cases hlt : kk < gs.length
    · have hltz : (kk : Int) < (gs.length : Int) := by omega
      have hcell := hc.2 kk hlt
      have hbl := hc.1
      generalize hy : gs[kk] = y at hcell
      have HY : Hid (gs[kk] = y) := hy
      clear hy
      by_cases he : x.data.toList = y
      · obtain rfl : x = ⟨y.toArray⟩ := eq_of_list he
        go_wp2
        go_ret
        refine ⟨kk, rfl, ?_, rfl⟩
        show _ = _
        rw [any_hit hlt HY.out]
        simp
      · have hq : (x.toList == y) = false := by rw [Lib.toList_data]; simpa using he
        go_wp2
        go_roundg (gs.length - (kk + 1))
        case measure => omega
        case rel =>
          refine ⟨kk + 1, by omega, by omega, by go_num, rfl, (show Aside _ from fun j hj hjk => ?_)⟩
          by_cases e : j = kk
          · subst e
            rw [HY.out]; exact fun e => he e.symm
          · exact A.out j hj (by omega)
    · have hltz : ¬ (kk : Int) < (gs.length : Int) := by omega
      go_wp2
      go_ret
      refine ⟨-1, rfl, ?_, rfl⟩
      show _ = _
      rw [any_miss (fun j hj => A.out j hj (by omega))]
      rfl
theorem contains_any (x : ByteArray) (b c : Nat) (gs : List (List UInt8)) (w : World) (hn : gs.length ≤ 100) (hc : StrsIn w b gs) :
    Calls Tryz.prog 76 #[.slice (some ⟨b, 0, none⟩) gs.length c, .string x] w fun e w' => e = .returned (.bool (gs.any fun g => g == x.data.toList)) ∧ w' = w := by
  have cI := index_any x b c gs w hn hc
  generalize (gs.any fun g => g == x.data.toList) = R at cI
  go_enter Tryz.func76, Tryz.ntmps76
  go_wp2_with fail
  refine cI.mono ?_
  rintro e w' ⟨n, rfl, HR, rfl⟩
  go_wp2
  go_ret
  exact ⟨ret_bool HR.out, rfl⟩
/-- A function that tells whether a word is one of these, as oneOf makes it: the block of what it has captured. -/
def SignIn (w : World) (p : Nat) (gs : List (List UInt8)) : Prop := ∃ b c, w.cell? ⟨p, 0, none⟩ = some (.slice (some ⟨b, 0, none⟩) gs.length c) ∧ p < w.heap.size ∧ StrsIn w b gs ∧ gs.length ≤ 100
theorem SignIn.on {w w' : World} {p : Nat} {gs : List (List UInt8)} (h : SignIn w p gs) (hb : Below w.heap.size w w') : SignIn w' p gs := by
  obtain ⟨b, c, h1, h2, h3, h4⟩ := h
  exact ⟨b, c, by rw [hb.cell (p := ⟨p, 0, none⟩) h2]; exact h1, by have := hb.size; omega, h3.on hb, h4⟩
abbrev signV (p : Nat) : Value := .func (.func 75) #[] #[.pointer (some ⟨p, 0, none⟩)]
def tokV (t : Tok) : Value := .agg #[.int .i64 t.1, .string t.2.1, .int .i64 (t.2.2 : Int)]
theorem oneOf1_any (t : Tok) (p : Nat) (gs : List (List UInt8)) (w : World) (hs : SignIn w p gs) :
    Calls Tryz.prog 75 #[tokV t, .pointer (some ⟨p, 0, none⟩)] w fun e w' => e = .returned (.bool (sgT gs t)) ∧ Below w.heap.size w w' := by
  obtain ⟨b, c, h1, h2, h3, h4⟩ := hs
  obtain ⟨tk, tx, ta⟩ := t
  have cC := fun W (hb : Below w.heap.size w W) => contains_any tx b c gs W h4 (h3.on hb)
  rw [sgT, tokV]
  simp only
  generalize (gs.any fun g => g == tx.data.toList) = R at cC
  clear h3
  go_enter Tryz.func75, Tryz.ntmps75
  go_wp2_with (go_at_call 76; refine (cC _ ((Below.refl _ _).alloc (Nat.le_refl _) _)).mono ?_; rintro e w' ⟨rfl, rfl⟩)
  go_ret
  exact ⟨rfl, (Below.refl _ _).alloc (Nat.le_refl _) _⟩
theorem oneOf_any (b c : Nat) (gs : List (List UInt8)) (w : World) (h4 : gs.length ≤ 100) (hs : StrsIn w b gs) :
    Calls Tryz.prog 47 #[.slice (some ⟨b, 0, none⟩) gs.length c] w fun e w' => (∃ p, e = .returned (signV p) ∧ SignIn w' p gs) ∧ Below w.heap.size w w' := by
  go_enter Tryz.func47, Tryz.ntmps47
  go_wp2
  go_ret
  have hb := (Below.refl w.heap.size w).alloc (Nat.le_refl _) (.cells #[.slice (some ⟨b, 0, none⟩) gs.length c] 83)
  exact ⟨⟨w.heap.size, rfl, b, c, by rw [World.cell?_alloc_at _ _ _ _ rfl]; rfl, by simp, hs.on hb, h4⟩, hb⟩
end Go.Proofs.YtnpinbpjfngknaaGreatDoor
namespace Go.Proofs.YtnpinbpjfngknaaGreatDoor
open Go.RowKit
set_option linter.unusedVariables false

/-- All that was there is kept but the block r. -/
structure But (r : Nat) (w w' : World) : Prop where
  below : Below r w w'
  size : w.heap.size ≤ w'.heap.size
  kept : ∀ k, k < w.heap.size → k ≠ r → w'.heap[k]? = w.heap[k]?
theorem But.refl (r : Nat) (w : World) : But r w w := ⟨Below.refl _ _, Nat.le_refl _, fun _ _ _ => rfl⟩
theorem But.trans {r : Nat} {w w1 w2 : World} (h : But r w w1) (k : But r w1 w2) : But r w w2 :=
  ⟨h.below.trans k.below, Nat.le_trans h.size k.size, fun b hb hr => by rw [k.kept b (by have := h.size; omega) hr, h.kept b hb hr]⟩
theorem But.drewN {r : Nat} {w w1 : World} (h : But r w w1) (q : Nat) : But r w (w1.drewN q) := ⟨below_drewN h.below q, h.size, h.kept⟩
theorem But.drew {r : Nat} {w w1 : World} (h : But r w w1) : But r w w1.drew := ⟨Below.drew h.below, h.size, h.kept⟩
theorem But.set {r : Nat} {w w1 : World} (h : But r w w1) (o : Nat) (v : Value) : But r w (w1.setCell ⟨r, o, none⟩ v) :=
  ⟨h.below.setCell (p := ⟨r, o, none⟩) (Nat.le_refl _) v, by have := h.size; simpa [World.setCell] using this, fun k hk hr => by rw [Below.heap_setCell _ _ _ _ (fun e => hr e)]; exact h.kept k hk hr⟩
theorem But.cell {r : Nat} {w w1 : World} (h : But r w w1) {b : Nat} (o : Nat) (hb : b < w.heap.size) (hr : b ≠ r) : w1.cell? ⟨b, o, none⟩ = w.cell? ⟨b, o, none⟩ := by
  simp only [World.cell?, h.kept b hb hr]
theorem But.of_below' {r : Nat} {w w' : World} (h : Below w.heap.size w w') (hr : r ≤ w.heap.size) : But r w w' := ⟨h.mono hr, h.size, fun k hk _ => h.block k hk⟩
theorem But.setNew {r : Nat} {w w1 : World} (h : But r w w1) (z o : Nat) (hz : w.heap.size ≤ z) (hr : r ≤ z) (v : Value) : But r w (w1.setCell ⟨z, o, none⟩ v) :=
  ⟨h.below.setCell (p := ⟨z, o, none⟩) hr v, by have := h.size; simpa [World.setCell] using this, fun k hk hkr => by rw [Below.heap_setCell _ _ _ _ (fun e => by simp at e; omega)]; exact h.kept k hk hkr⟩
theorem But.alloc {r : Nat} {w w1 : World} (h : But r w w1) (hr : r ≤ w1.heap.size) (o : Obj) : But r w (w1.alloc o) :=
  ⟨h.below.alloc hr o, by have := h.size; simp; omega, fun k hk hkr => by
    rw [((Below.refl w1.heap.size w1).alloc (Nat.le_refl _) o).block k (by have := h.size; omega)]; exact h.kept k hk hkr⟩
end Go.Proofs.YtnpinbpjfngknaaGreatDoor
namespace Go.Proofs.YtnpinbpjfngknaaGreatDoor
open Go.RowKit
set_option linter.unusedVariables false

/-- The reader lies in block r: its words, the next one, the text's length, where it went wrong. -/
structure InAt (w : World) (r : Nat) (tp : Option Addr) (tc : Nat) (ts : List Tok) (en : Nat) (st : St) : Prop where
  c0 : w.cell? ⟨r, 0, none⟩ = some (.slice tp ts.length tc)
  c1 : w.cell? ⟨r, 1, none⟩ = some (.int .i64 (st.i : Int))
  c2 : w.cell? ⟨r, 2, none⟩ = some (.int .i64 (en : Int))
  c3 : w.cell? ⟨r, 3, none⟩ = some (.int .i64 st.bad)
  f1 : w.frozen? ⟨r, 1, none⟩ = false
  f3 : w.frozen? ⟨r, 3, none⟩ = false
  lt : r < w.heap.size
  toks : ts.length = 0 ∨ ∃ b off, tp = some ⟨b, off, none⟩ ∧ b ≠ r ∧ ToksIn w b off ts
theorem InAt.same {w w' : World} {r : Nat} {tp : Option Addr} {tc : Nat} {ts : List Tok} {en : Nat} {st : St} (h : InAt w r tp tc ts en st) (e : w'.heap = w.heap) : InAt w' r tp tc ts en st := by
  have hc : ∀ a : Addr, w'.cell? a = w.cell? a := fun a => by simp only [World.cell?, e]
  have hf : ∀ a : Addr, w'.frozen? a = w.frozen? a := fun a => by simp only [World.frozen?, e]
  refine ⟨by rw [hc]; exact h.c0, by rw [hc]; exact h.c1, by rw [hc]; exact h.c2, by rw [hc]; exact h.c3, by rw [hf]; exact h.f1, by rw [hf]; exact h.f3, by rw [e]; exact h.lt, ?_⟩
  rcases h.toks with h0 | ⟨b, off, e1, e2, h3⟩
  · exact .inl h0
  · exact .inr ⟨b, off, e1, e2, by rw [e]; exact h3.1, fun j hj => by rw [hc, hc, hc]; exact h3.2 j hj⟩
theorem posAt_in {ts : List Tok} {en i : Nat} (h : i < ts.length) : posAt ts en i = (ts[i].2.2 : Int) := by rw [posAt, List.getElem?_eq_getElem h]
theorem posAt_out {ts : List Tok} {en i : Nat} (h : ts.length ≤ i) : posAt ts en i = (en : Int) := by rw [posAt, List.getElem?_eq_none h]
set_option maxHeartbeats 4000000 in
set_option maxRecDepth 20000 in
theorem in_at (w : World) (r : Nat) (tp : Option Addr) (tc : Nat) (ts : List Tok) (en : Nat) (st : St) (h : InAt w r tp tc ts en st) (hn : ts.length ≤ 400) (hi : st.i ≤ 1000000) :
    Calls Tryz.prog 36 #[.pointer (some ⟨r, 0, none⟩)] w fun e w' => e = .returned (.int .i64 (posAt ts en st.i)) ∧ ∃ q, w' = w.drewN q := by
  obtain ⟨c0, c1, c2, c3, f1, f3, lt, ht⟩ := h
  obtain ⟨i, bad⟩ := st
  simp only at c1 c3 hi ⊢
  by_cases hlt : i < ts.length
  · have hltz : (i : Int) < (ts.length : Int) := by omega
    have i0 : (0 : Int) ≤ (i : Int) := by omega
    rcases ht with h0 | ⟨b, off, rfl, hbr, hin⟩
    · exact absurd h0 (by omega)
    obtain ⟨d0, d1, d2⟩ := hin.2 i hlt
    have hbl := hin.1
    rw [posAt_in hlt]
    generalize ts[i] = y at d0 d1 d2
    obtain ⟨yk, yx, ya⟩ := y
    simp only at d0 d1 d2
    clear hin
    go_enter Tryz.func36, Tryz.ntmps36
    go_wp2
    go_quiet (fail)
    go_wp2
    go_quiet (fail)
    go_wp2
    go_ret
    exact ⟨rfl, _, World.drewN_drewN _ _ _⟩
  · have hltz : ¬ (i : Int) < (ts.length : Int) := by omega
    rw [posAt_out (by omega)]
    clear ht
    go_enter Tryz.func36, Tryz.ntmps36
    go_wp2
    go_quiet (fail)
    go_wp2
    go_ret
    exact ⟨rfl, _, rfl⟩
theorem InAt.bad {w : World} {r : Nat} {tp : Option Addr} {tc : Nat} {ts : List Tok} {en : Nat} {st : St} (h : InAt w r tp tc ts en st) (x : Int) : InAt (w.setCell ⟨r, 3, none⟩ (.int .i64 x)) r tp tc ts en ⟨st.i, x⟩ := by
  have hb : ∀ b o : Nat, b ≠ r → (w.setCell ⟨r, 3, none⟩ (.int .i64 x)).cell? ⟨b, o, none⟩ = w.cell? ⟨b, o, none⟩ := fun b o hbr => by
    simp only [World.cell?]
    rw [Below.heap_setCell _ _ _ _ (fun e => hbr e)]
  refine ⟨?_, ?_, ?_, World.cell?_setCell_same w ⟨r, 3, none⟩ _ h.c3, ?_, ?_, by have := h.lt; simpa [World.setCell] using this, ?_⟩
  · rw [World.cell?_setCell_other _ _ _ _ (by simp)]; exact h.c0
  · rw [World.cell?_setCell_other _ _ _ _ (by simp)]; exact h.c1
  · rw [World.cell?_setCell_other _ _ _ _ (by simp)]; exact h.c2
  · have : (w.setCell ⟨r, 3, none⟩ (.int .i64 x)).frozen? ⟨r, 1, none⟩ = w.frozen? ⟨r, 1, none⟩ := by simp
    rw [this]; exact h.f1
  · have : (w.setCell ⟨r, 3, none⟩ (.int .i64 x)).frozen? ⟨r, 3, none⟩ = w.frozen? ⟨r, 3, none⟩ := by simp
    rw [this]; exact h.f3
  · rcases h.toks with h0 | ⟨b, off, e1, e2, h3⟩
    · exact .inl h0
    · exact .inr ⟨b, off, e1, e2, by have := h3.1; simpa [World.setCell] using this, fun j hj => by rw [hb _ _ e2, hb _ _ e2, hb _ _ e2]; exact h3.2 j hj⟩
theorem InAt.next {w : World} {r : Nat} {tp : Option Addr} {tc : Nat} {ts : List Tok} {en : Nat} {st : St} (h : InAt w r tp tc ts en st) : InAt (w.setCell ⟨r, 1, none⟩ (.int .i64 ((st.i : Int) + 1))) r tp tc ts en (adv st) := by
  have hb : ∀ b o : Nat, b ≠ r → (w.setCell ⟨r, 1, none⟩ (.int .i64 ((st.i : Int) + 1))).cell? ⟨b, o, none⟩ = w.cell? ⟨b, o, none⟩ := fun b o hbr => by
    simp only [World.cell?]
    rw [Below.heap_setCell _ _ _ _ (fun e => hbr e)]
  refine ⟨?_, ?_, ?_, ?_, ?_, ?_, by have := h.lt; simpa [World.setCell] using this, ?_⟩
  · rw [World.cell?_setCell_other _ _ _ _ (by simp)]; exact h.c0
  · exact World.cell?_setCell_same w ⟨r, 1, none⟩ _ h.c1
  · rw [World.cell?_setCell_other _ _ _ _ (by simp)]; exact h.c2
  · rw [World.cell?_setCell_other _ _ _ _ (by simp)]; exact h.c3
  · have : (w.setCell ⟨r, 1, none⟩ (.int .i64 ((st.i : Int) + 1))).frozen? ⟨r, 1, none⟩ = w.frozen? ⟨r, 1, none⟩ := by simp
    rw [this]; exact h.f1
  · have : (w.setCell ⟨r, 1, none⟩ (.int .i64 ((st.i : Int) + 1))).frozen? ⟨r, 3, none⟩ = w.frozen? ⟨r, 3, none⟩ := by simp
    rw [this]; exact h.f3
  · rcases h.toks with h0 | ⟨b, off, e1, e2, h3⟩
    · exact .inl h0
    · exact .inr ⟨b, off, e1, e2, by have := h3.1; simpa [World.setCell] using this, fun j hj => by rw [hb _ _ e2, hb _ _ e2, hb _ _ e2]; exact h3.2 j hj⟩
set_option maxHeartbeats 4000000 in
set_option maxRecDepth 20000 in
theorem in_fail (w : World) (r : Nat) (tp : Option Addr) (tc : Nat) (ts : List Tok) (en : Nat) (st : St) (h : InAt w r tp tc ts en st) (hn : ts.length ≤ 400) (hi : st.i ≤ 1000000) :
    Calls Tryz.prog 17 #[.pointer (some ⟨r, 0, none⟩)] w fun e w' => e = .returned (.tuple #[]) ∧ InAt w' r tp tc ts en (failT ts en st) ∧ But r w w' := by
  have cA := in_at w r tp tc ts en st h hn hi
  have h0 := h
  obtain ⟨c0, c1, c2, c3, f1, f3, lt, ht⟩ := h0
  by_cases hb : st.bad < 0
  · rw [failT, if_pos hb]
    generalize posAt ts en st.i = x at cA
    go_enter Tryz.func17, Tryz.ntmps17
    go_wp2_with fail
    refine cA.mono ?_
    rintro e w1 ⟨rfl, q, rfl⟩
    go_wp2
    go_end0
    exact ⟨rfl, (h.same (w' := w.drewN q) rfl).bad x, ((But.refl r w).drewN q).set 3 _⟩
  · rw [failT, if_neg hb]
    go_enter Tryz.func17, Tryz.ntmps17
    go_wp2
    go_end0
    exact ⟨rfl, h, But.refl r w⟩
theorem isT_in {ts : List Tok} {i : Nat} {bad : Int} {s : List UInt8} (hb : bad < 0) (h : i < ts.length) : isT ts ⟨i, bad⟩ s = ((decide (ts[i].1 = 1) || decide (ts[i].1 = 4)) && ts[i].2.1.data.toList == s) := by
  simp [isT, hb, List.getElem?_eq_getElem h]
theorem isT_out {ts : List Tok} {i : Nat} {bad : Int} {s : List UInt8} (h : ts.length ≤ i) : isT ts ⟨i, bad⟩ s = false := by
  simp [isT, List.getElem?_eq_none h]
theorem isT_bad {ts : List Tok} {i : Nat} {bad : Int} {s : List UInt8} (hb : ¬ bad < 0) : isT ts ⟨i, bad⟩ s = false := by
  simp [isT, hb]
end Go.Proofs.YtnpinbpjfngknaaGreatDoor
namespace Go.Proofs.YtnpinbpjfngknaaGreatDoor
open Go.RowKit Go.BigFrame
set_option linter.unusedVariables false

/-- The reader lies in block r: the words that are ahead. -/
structure RdAt (w : World) (r : Nat) (ts : List Tok) : Prop where
  cell : ∃ p c, w.cell? ⟨r, 0, none⟩ = some (.slice p ts.length c) ∧ ts.length ≤ c ∧ (ts.length = 0 ∨ ∃ b off, p = some ⟨b, off, none⟩ ∧ b < r ∧ ToksIn w b off ts)
  fz : w.frozen? ⟨r, 0, none⟩ = false
  lt : r < w.heap.size
theorem RdAt.on {w w' : World} {r : Nat} {ts : List Tok} (h : RdAt w r ts) (hb : Below w.heap.size w w') : RdAt w' r ts := by
  obtain ⟨⟨p, c, h1, h2, h3⟩, hf, hl⟩ := h
  refine ⟨⟨p, c, by rw [hb.cell (p := ⟨r, 0, none⟩) hl]; exact h1, h2, ?_⟩, by rw [hb.frozen (p := ⟨r, 0, none⟩) hl]; exact hf, by have := hb.size; omega⟩
  rcases h3 with h0 | ⟨b, off, e1, e2, h4⟩
  · exact .inl h0
  · exact .inr ⟨b, off, e1, e2, h4.on hb⟩
theorem RdAt.onB {w w' : World} {r : Nat} {ts : List Tok} (h : RdAt w r ts) (hb : Below (r + 1) w w') (hs : w.heap.size ≤ w'.heap.size) : RdAt w' r ts := by
  obtain ⟨⟨p, c, h1, h2, h3⟩, hf, hl⟩ := h
  refine ⟨⟨p, c, by rw [hb.cell (p := ⟨r, 0, none⟩) (Nat.lt_succ_self r)]; exact h1, h2, ?_⟩, by rw [hb.frozen (p := ⟨r, 0, none⟩) (Nat.lt_succ_self r)]; exact hf, by omega⟩
  rcases h3 with h0 | ⟨b, off, e1, e2, h4⟩
  · exact .inl h0
  · refine .inr ⟨b, off, e1, e2, by have := h4.1; omega, fun j hj => ?_⟩
    rw [hb.cell (p := ⟨b, off + j * 3, none⟩) (by simp; omega), hb.cell (p := ⟨b, off + j * 3 + 1, none⟩) (by simp; omega), hb.cell (p := ⟨b, off + j * 3 + 2, none⟩) (by simp; omega)]
    exact h4.2 j hj
/-- A slice of the words from the next one on. -/
theorem RdAt.step {w W : World} {r : Nat} {t : Tok} {ts : List Tok} {p p' : Option Addr} {c c' : Nat} (h : RdAt w r (t :: ts)) (hp : w.cell? ⟨r, 0, none⟩ = some (.slice p (t :: ts).length c)) (hp' : p' = if c = 1 then p else p.map (·.add (1 * 3))) (hc' : c' = c - 1)
    (hb : But r w W) (hW : W.cell? ⟨r, 0, none⟩ = some (.slice p' ts.length c')) (hf : W.frozen? ⟨r, 0, none⟩ = false) : RdAt W r ts := by
  obtain ⟨⟨q, d, h1, h2, h3⟩, _, hl⟩ := h
  rw [h1] at hp
  obtain ⟨rfl, hd⟩ : q = p ∧ d = c := by
    injection hp with hp
    injection hp with e1 e2 e3
    exact ⟨e1, e3⟩
  subst hd
  simp only [List.length_cons] at h2
  refine ⟨⟨p', c', hW, by omega, ?_⟩, hf, by have := hb.size; omega⟩
  rcases Nat.eq_zero_or_pos ts.length with h0 | h0
  · exact .inl h0
  · right
    rcases h3 with h3 | ⟨b, off, rfl, hbr, h4⟩
    · simp at h3
    · refine ⟨b, off + 3, ?_, hbr, by have := h4.1; have := hb.size; omega, fun j hj => ?_⟩
      · rw [hp', if_neg (by omega)]; rfl
      · have := h4.2 (j + 1) (by simpa using hj)
        simp only [show off + (j + 1) * 3 = off + 3 + j * 3 from by omega, List.getElem_cons_succ] at this
        rw [hb.cell _ h4.1 (by omega), hb.cell _ h4.1 (by omega), hb.cell _ h4.1 (by omega)]
        exact this
def noTok : Value := .agg #[.int .i64 0, .string ⟨#[]⟩, .int .i64 0]
set_option maxHeartbeats 4000000 in
set_option maxRecDepth 20000 in
theorem take_none (w : World) (r : Nat) (so : Value) (h : RdAt w r []) :
    Calls Tryz.prog 72 #[.pointer (some ⟨r, 0, none⟩), so] w fun e w' => e = .returned (.tuple #[noTok, .bool false]) ∧ RdAt w' r [] ∧ But r w w' := by
  have h0 := h
  obtain ⟨⟨p, c, h1, h2, h3⟩, hf, hl⟩ := h0
  simp only [List.length_nil] at h1
  go_enter Tryz.func72, Tryz.ntmps72
  go_wp2
  refine bodyPost_ret (v := .tuple #[noTok, .bool false]) (by simp [results, Tryz.results72, go_sem, noTok]) rfl ?_
  have hb := (Below.refl w.heap.size w).alloc (Nat.le_refl _) (.cells #[.int .i64 0, .string ⟨#[]⟩, .int .i64 0] 79)
  exact ⟨rfl, h.on hb, But.of_below' hb (by omega)⟩
set_option maxHeartbeats 4000000 in
set_option maxRecDepth 20000 in
theorem take_gen (f : FuncId) (caps : Array Value) (hent : ∀ (args : Array Value) (W : World), Sem.run Tryz.prog (callFunc f args) W = .ok (.enter f args) W) (w : World) (r : Nat) (t : Tok) (ts : List Tok) (B : Bool) (h : RdAt w r (t :: ts))
    (hf : ∀ W, Below w.heap.size w W → Calls Tryz.prog f (#[tokV t] ++ caps) W fun e w' => e = .returned (.bool B) ∧ Below W.heap.size W w') :
    Calls Tryz.prog 72 #[.pointer (some ⟨r, 0, none⟩), .func (.func f) #[] caps] w fun e w' => e = .returned (.tuple #[if B = true then tokV t else noTok, .bool B]) ∧ RdAt w' r (if B = true then ts else t :: ts) ∧ But r w w' := by
  have h0 := h
  obtain ⟨⟨p, c, h1, h2, h3⟩, hfz, hl⟩ := h0
  rcases h3 with h3 | ⟨b, off, rfl, hbr, h4⟩
  · simp at h3
  obtain ⟨d0, d1, d2⟩ := h4.2 0 (by simp)
  have hbl := h4.1
  have hbr : b ≠ r := by omega
  have hlen : ((t :: ts).length : Int) = (ts.length : Int) + 1 := by simp
  have hnn : ¬ (((t :: ts).length : Int) = 0) := by omega
  have hnb : (((t :: ts).length : Int) == 0) = false := by simpa using hnn
  obtain ⟨tk, tx, ta⟩ := t
  rw [tokV] at hf
  simp only [List.getElem_cons_zero, Nat.zero_mul, Nat.add_zero] at d0 d1 d2 hf
  go_enter Tryz.func72, Tryz.ntmps72
  have hb := (Below.refl w.heap.size w).alloc (Nat.le_refl _) (.cells #[.int .i64 0, .string ⟨#[]⟩, .int .i64 0] 79)
  go_wp2_with fail
  refine (hf _ hb).mono ?_
  rintro e w1 ⟨rfl, b1⟩
  have q0 := fun o => b1.cell (p := ⟨w.heap.size, o, none⟩) (by simp)
  have qf := fun o => b1.frozen (p := ⟨w.heap.size, o, none⟩) (by simp)
  have ql : w.heap.size < w1.heap.size := by have := b1.size; simp at this; omega
  have g0 := q0 0
  have g1 := q0 1
  have g2 := q0 2
  have gf0 := qf 0
  have gf1 := qf 1
  have gf2 := qf 2
  rw [World.cell?_alloc_at _ _ _ _ rfl] at g0 g1 g2
  simp at g0 g1 g2 gf0 gf1 gf2
  have b2 : Below w.heap.size w w1 := hb.trans (b1.mono (by simp))
  have h5 := h.on b2
  rw [← b2.cell (p := ⟨r, 0, none⟩) hl] at h1
  rw [← b2.frozen (p := ⟨r, 0, none⟩) hl] at hfz
  rw [← b2.cell (p := ⟨b, off, none⟩) hbl] at d0
  rw [← b2.cell (p := ⟨b, off + 1, none⟩) hbl] at d1
  rw [← b2.cell (p := ⟨b, off + 2, none⟩) hbl] at d2
  have hl1 : r < w1.heap.size := by omega
  have hbl1 : b < w1.heap.size := by omega
  clear q0 qf hf h4 hb b1
  have HH : Aside (RdAt w r ((tk, tx, ta) :: ts)) := h
  have HC : Aside (w.cell? ⟨r, 0, none⟩ = some (.slice (some ⟨b, off, none⟩) ((tk, tx, ta) :: ts).length c)) := by
    show _ = _
    rw [← b2.cell (p := ⟨r, 0, none⟩) hl]; exact h1
  clear h
  have hne : r ≠ w.heap.size := by omega
  have BB := But.of_below' b2 (r := r) (by omega)
  cases B
  · go_wp2
    refine bodyPost_ret (v := .tuple #[noTok, .bool false]) (by simp [results, Tryz.results72, go_sem, noTok, g0, g1, g2]) rfl ?_
    exact ⟨rfl, HH.out.on (((b2.setCell (p := ⟨w.heap.size, 0, none⟩) (Nat.le_refl _) _).setCell (p := ⟨w.heap.size, 1, none⟩) (Nat.le_refl _) _).setCell (p := ⟨w.heap.size, 2, none⟩) (Nat.le_refl _) _), ((BB.setNew _ 0 (Nat.le_refl _) (by omega) _).setNew _ 1 (Nat.le_refl _) (by omega) _).setNew _ 2 (Nat.le_refl _) (by omega) _⟩
  · go_wp2
    all_goals
      refine bodyPost_ret (v := .tuple #[tokV (tk, tx, ta), .bool true]) (by simp [results, Tryz.results72, go_sem, tokV, g0, g1, g2, ql]) rfl ?_
      have B1 := fun u => ((((BB.set 0 u).setNew w.heap.size 0 (Nat.le_refl _) (by omega) (.int .i64 tk)).setNew w.heap.size 1 (Nat.le_refl _) (by omega) (.string tx)).setNew w.heap.size 2 (Nat.le_refl _) (by omega) (.int .i64 (ta : Int))).alloc (by simp [World.setCell]; omega) (.cells #[.int .i64 tk, .string tx, .int .i64 (ta : Int)] 79)
    · refine ⟨rfl, HH.out.step HC.out (p' := some ⟨b, off, none⟩) (c' := 0) (by rw [if_pos ‹c = 1›]) (by omega) (B1 _) ?_ ?_, B1 _⟩
      · rw [World.cell?_alloc_past _ _ _ (by simp [World.setCell]; omega), World.cell?_setCell_other _ _ _ _ (by simp), World.cell?_setCell_other _ _ _ _ (by simp), World.cell?_setCell_other _ _ _ _ (by simp), World.cell?_setCell_same w1 ⟨r, 0, none⟩ _ h1]
      · rw [World.frozen?_alloc_past _ _ _ (by simp [World.setCell]; omega)]
        simpa using hfz
    · refine ⟨rfl, HH.out.step HC.out (p' := some ⟨b, off + 3, none⟩) (c' := c - 1) (by rw [if_neg ‹¬ c = 1›]; rfl) (by omega) (B1 _) ?_ ?_, B1 _⟩
      · rw [World.cell?_alloc_past _ _ _ (by simp [World.setCell]; omega), World.cell?_setCell_other _ _ _ _ (by simp), World.cell?_setCell_other _ _ _ _ (by simp), World.cell?_setCell_other _ _ _ _ (by simp), World.cell?_setCell_same w1 ⟨r, 0, none⟩ _ h1]
      · rw [World.frozen?_alloc_past _ _ _ (by simp [World.setCell]; omega)]
        simpa using hfz
/-- take, over the plain reading. -/
theorem take_none' (P : Tok → Bool) (f : FuncId) (caps : Array Value) (hent : ∀ (args : Array Value) (W : World), Sem.run Tryz.prog (callFunc f args) W = .ok (.enter f args) W) (w : World) (r : Nat) (ts : List Tok) (h : RdAt w r ts)
    (hf : ∀ t ∈ ts, ∀ W, Below w.heap.size w W → Calls Tryz.prog f (#[tokV t] ++ caps) W fun e w' => e = .returned (.bool (P t)) ∧ Below W.heap.size W w') (hn : nxT P ts = none) :
    Calls Tryz.prog 72 #[.pointer (some ⟨r, 0, none⟩), .func (.func f) #[] caps] w fun e w' => e = .returned (.tuple #[noTok, .bool false]) ∧ RdAt w' r ts ∧ But r w w' := by
  cases ts with
  | nil => exact take_none w r _ h
  | cons t ts =>
    have hp : P t = false := by
      rw [nxT] at hn
      split at hn
      · exact absurd hn (by simp)
      · rename_i h1; simpa using h1
    have := take_gen f caps hent w r t ts (P t) h (fun W hb => hf t (by simp) W hb)
    rw [hp] at this
    exact this
theorem take_some (P : Tok → Bool) (f : FuncId) (caps : Array Value) (hent : ∀ (args : Array Value) (W : World), Sem.run Tryz.prog (callFunc f args) W = .ok (.enter f args) W) (w : World) (r : Nat) (t : Tok) (ts rs : List Tok) (h : RdAt w r ts)
    (hf : ∀ t ∈ ts, ∀ W, Below w.heap.size w W → Calls Tryz.prog f (#[tokV t] ++ caps) W fun e w' => e = .returned (.bool (P t)) ∧ Below W.heap.size W w') (hn : nxT P ts = some (t, rs)) :
    Calls Tryz.prog 72 #[.pointer (some ⟨r, 0, none⟩), .func (.func f) #[] caps] w fun e w' => e = .returned (.tuple #[tokV t, .bool true]) ∧ RdAt w' r rs ∧ But r w w' := by
  obtain ⟨rfl, hp⟩ := nxT_len hn
  have := take_gen f caps hent w r t rs (P t) h (fun W hb => hf t (by simp) W hb)
  rw [hp] at this
  exact this
theorem ent_sign (args : Array Value) (W : World) : Sem.run Tryz.prog (callFunc 75 args) W = .ok (.enter 75 args) W := by kernel_rfl
theorem take_sign_none (gs : List (List UInt8)) (p : Nat) (w : World) (r : Nat) (ts : List Tok) (h : RdAt w r ts) (hs : SignIn w p gs) (hn : nxT (sgT gs) ts = none) :
    Calls Tryz.prog 72 #[.pointer (some ⟨r, 0, none⟩), signV p] w fun e w' => e = .returned (.tuple #[noTok, .bool false]) ∧ RdAt w' r ts ∧ But r w w' :=
  take_none' (sgT gs) _ _ ent_sign w r ts h (fun t _ W hb => oneOf1_any t p gs W (hs.on hb)) hn
theorem take_sign_some (gs : List (List UInt8)) (p : Nat) (w : World) (r : Nat) (t : Tok) (ts rs : List Tok) (h : RdAt w r ts) (hs : SignIn w p gs) (hn : nxT (sgT gs) ts = some (t, rs)) :
    Calls Tryz.prog 72 #[.pointer (some ⟨r, 0, none⟩), signV p] w fun e w' => e = .returned (.tuple #[tokV t, .bool true]) ∧ RdAt w' r rs ∧ But r w w' :=
  take_some (sgT gs) _ _ ent_sign w r t ts rs h (fun t _ W hb => oneOf1_any t p gs W (hs.on hb)) hn
end Go.Proofs.YtnpinbpjfngknaaGreatDoor
