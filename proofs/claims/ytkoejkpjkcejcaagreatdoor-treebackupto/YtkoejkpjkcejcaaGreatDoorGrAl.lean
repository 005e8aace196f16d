/-
  KdR0, Row3, Row4, Row5, KdP, in one text.
-/
import Derived.Test.YtkoejkpjkcejcaaGreatDoorGrAa
import Derived.Laws.Rows
import Derived.RowKitTokens
import Derived.Lib.OthersKept
import Derived.Laws.RangeAny
import Derived.Deep.DeepCutAuto
import Derived.Deep.LoopGhost
import Derived.Test.YtkoejkpjkcejcaaGreatDoorGrAg
import Derived.WalkSmall
import Derived.Deep.RegionWith
import Derived.Test.YtkoejkpjkcejcaaGreatDoorGrAi
namespace Go.Proofs.YtkoejkpjkcejcaaGreatDoor
open Go.RowKit Go.BigFrame
set_option linter.unusedVariables false

/-- The rules: an Op, of which types its parts are (0: none more; -1: one type, whichever it is), and of which it is itself. -/
def kdRules : List (List UInt8 × Int × Int × Int × Int) := [([111, 114], 2, 2, 0, 2), ([97, 110, 100], 2, 2, 0, 2), ([110, 111, 116], 2, 0, 0, 2), ([61], -1, -1, 0, 2), ([60, 62], -1, -1, 0, 2), ([60], -1, -1, 0, 2), ([60, 61], -1, -1, 0, 2), ([62], -1, -1, 0, 2), ([62, 61], -1, -1, 0, 2), ([43], 1, 1, 0, 1), ([45], 1, 1, 0, 1), ([42], 1, 1, 0, 1), ([47], 1, 1, 0, 1), ([37], 1, 1, 0, 1), ([110, 101, 103], 1, 0, 0, 1), ([108, 101, 110], 3, 0, 0, 1), ([105, 102], 2, -1, -1, -1)]
abbrev KRule := List UInt8 × Int × Int × Int × Int
def rulesC : Array Value := #[.string ⟨#[111, 114]⟩, .int .i64 2, .int .i64 2, .int .i64 0, .int .i64 2, .string ⟨#[97, 110, 100]⟩, .int .i64 2, .int .i64 2, .int .i64 0, .int .i64 2, .string ⟨#[110, 111, 116]⟩, .int .i64 2, .int .i64 0, .int .i64 0, .int .i64 2, .string ⟨#[61]⟩, .int .i64 (-1), .int .i64 (-1), .int .i64 0, .int .i64 2, .string ⟨#[60, 62]⟩, .int .i64 (-1), .int .i64 (-1), .int .i64 0, .int .i64 2, .string ⟨#[60]⟩, .int .i64 (-1), .int .i64 (-1), .int .i64 0, .int .i64 2, .string ⟨#[60, 61]⟩, .int .i64 (-1), .int .i64 (-1), .int .i64 0, .int .i64 2, .string ⟨#[62]⟩, .int .i64 (-1), .int .i64 (-1), .int .i64 0, .int .i64 2, .string ⟨#[62, 61]⟩, .int .i64 (-1), .int .i64 (-1), .int .i64 0, .int .i64 2, .string ⟨#[43]⟩, .int .i64 1, .int .i64 1, .int .i64 0, .int .i64 1, .string ⟨#[45]⟩, .int .i64 1, .int .i64 1, .int .i64 0, .int .i64 1, .string ⟨#[42]⟩, .int .i64 1, .int .i64 1, .int .i64 0, .int .i64 1, .string ⟨#[47]⟩, .int .i64 1, .int .i64 1, .int .i64 0, .int .i64 1, .string ⟨#[37]⟩, .int .i64 1, .int .i64 1, .int .i64 0, .int .i64 1, .string ⟨#[110, 101, 103]⟩, .int .i64 1, .int .i64 0, .int .i64 0, .int .i64 1, .string ⟨#[108, 101, 110]⟩, .int .i64 3, .int .i64 0, .int .i64 0, .int .i64 1, .string ⟨#[105, 102]⟩, .int .i64 2, .int .i64 (-1), .int .i64 (-1), .int .i64 (-1)]
end Go.Proofs.YtkoejkpjkcejcaaGreatDoor
namespace Go.Proofs.YtkoejkpjkcejcaaGreatDoor
open Go.RowKit
set_option linter.unusedVariables false

theorem cell_lt' {w : World} {b o : Nat} {v : Value} (h : w.cell? ⟨b, o, none⟩ = some v) : b < w.heap.size := by
  rcases Nat.lt_or_ge b w.heap.size with h' | h'
  · exact h'
  · simp [World.cell?, Array.getElem?_eq_none h'] at h
theorem bcells {W w1 : World} (hb : Below W.heap.size W w1) : (∀ b o, b < W.heap.size → w1.cell? ⟨b, o, none⟩ = W.cell? ⟨b, o, none⟩) ∧ (∀ b o, b < W.heap.size → w1.frozen? ⟨b, o, none⟩ = W.frozen? ⟨b, o, none⟩) :=
  ⟨fun b o h => hb.cell (p := ⟨b, o, none⟩) h, fun b o h => hb.frozen (p := ⟨b, o, none⟩) h⟩

/-- What stays between the rounds: the result's cell, and what the closure reads. -/
structure FT (w wi : World) (p : Nat) (pv : Value) : Prop where
  below : Below w.heap.size w wi
  lt : w.heap.size < wi.heap.size
  c0 : wi.cell? ⟨w.heap.size, 0, none⟩ = some (.int .i64 0)
  c1 : wi.cell? ⟨w.heap.size, 1, none⟩ = some (.string ⟨#[]⟩)
  f0 : wi.frozen? ⟨w.heap.size, 0, none⟩ = false
  f1 : wi.frozen? ⟨w.heap.size, 1, none⟩ = false
  pc : wi.cell? ⟨p, 0, none⟩ = some pv
theorem FT.alloc {w wi : World} {p : Nat} {pv : Value} (h : FT w wi p pv) (o : Obj) : FT w (wi.alloc o) p pv :=
  ⟨h.below.alloc h.below.size _, by have := h.lt; simp; omega, by rw [World.cell?_alloc_lt _ _ _ h.lt]; exact h.c0, by rw [World.cell?_alloc_lt _ _ _ h.lt]; exact h.c1,
    by rw [World.frozen?_alloc_old _ _ _ (Nat.ne_of_lt h.lt)]; exact h.f0, by rw [World.frozen?_alloc_old _ _ _ (Nat.ne_of_lt h.lt)]; exact h.f1, by rw [World.cell?_alloc_lt _ _ _ (cell_lt' h.pc)]; exact h.pc⟩
theorem FT.next {w wi wj : World} {p : Nat} {pv : Value} (h : FT w wi p pv) (b : Below wi.heap.size wi wj) : FT w wj p pv := by
  obtain ⟨hc, hf⟩ := bcells b
  have hz := b.size
  exact ⟨h.below.trans (b.mono h.below.size), by have := h.lt; omega, by rw [hc _ _ h.lt]; exact h.c0, by rw [hc _ _ h.lt]; exact h.c1, by rw [hf _ _ h.lt]; exact h.f0, by rw [hf _ _ h.lt]; exact h.f1, by rw [hc _ _ (cell_lt' h.pc)]; exact h.pc⟩

end Go.Proofs.YtkoejkpjkcejcaaGreatDoor
namespace Go.Proofs.YtkoejkpjkcejcaaGreatDoor
open Go.RowKit
set_option linter.unusedVariables false

def wordOf (t : Int) : ByteArray := if t = 1 then ⟨#[105, 110, 116]⟩ else if t = 2 then ⟨#[98, 111, 111, 108]⟩ else ⟨#[116, 101, 120, 116]⟩
theorem Pair.new (w : World) (x y : Value) (t : TypeId) : (w.alloc (.cells #[x, y] t)).cell? ⟨w.heap.size, 0, none⟩ = some x ∧ (w.alloc (.cells #[x, y] t)).cell? ⟨w.heap.size, 1, none⟩ = some y ∧ (w.alloc (.cells #[x, y] t)).frozen? ⟨w.heap.size, 0, none⟩ = false ∧ (w.alloc (.cells #[x, y] t)).frozen? ⟨w.heap.size, 1, none⟩ = false :=
  ⟨by rw [World.cell?_alloc_at _ _ _ _ rfl]; rfl, by rw [World.cell?_alloc_at _ _ _ _ rfl]; rfl, by simp, by simp⟩
/-- An error by its number. -/
def errR (k : Int) : Value := if k = 0 then .nilIface else .iface 29 (.int .i64 k)
theorem errR_z {k : Int} (h : k = 0) : errR k = .nilIface := by rw [errR, if_pos h]
theorem errR_n {k : Int} (h : k ≠ 0) : errR k = .iface 29 (.int .i64 k) := by rw [errR, if_neg h]
/-- The fault of a column behind others. -/
def colE (ahead : List (ByteArray × Int)) (nm : List UInt8) (t : Int) : Int :=
  if nameB nm = false then 2 else if ¬ (1 ≤ t ∧ t ≤ 3) then 1 else if 0 ≤ findN nm ahead then 7 else 0
def schGo : List (ByteArray × Int) → List (ByteArray × Int) → Int
  | _, [] => 0
  | a, c :: r => if colE a c.1.data.toList c.2 ≠ 0 then colE a c.1.data.toList c.2 else schGo (a ++ [c]) r
/-- The fault of a schema. -/
def schE (zs : List (ByteArray × Int)) : Int := if zs.length = 0 then 5 else if 6 < zs.length then 4 else schGo [] zs

end Go.Proofs.YtkoejkpjkcejcaaGreatDoor
namespace Go.Proofs.YtkoejkpjkcejcaaGreatDoor
open Go.RowKit
set_option linter.unusedVariables false

theorem schGo_at {zs : List (ByteArray × Int)} {k : Nat} (h : k < zs.length) : schGo (zs.take k) (zs.drop k) = if colE (zs.take k) zs[k].1.data.toList zs[k].2 ≠ 0 then colE (zs.take k) zs[k].1.data.toList zs[k].2 else schGo (zs.take (k + 1)) (zs.drop (k + 1)) := by
  rw [List.drop_eq_getElem_cons h, schGo, List.take_succ_eq_append_getElem h]
/-- Is an error nil? -/
theorem err_neq (k : Int) (W : World) : Sem.run Tryz.prog (binOp .neq 38 (errR k) .nilIface) W = .ok (.bool (k != 0)) W := by
  by_cases h : k = 0
  · subst h; kernel_rfl
  · rw [errR_n h, show (k != 0) = true by simpa using h]; kernel_rfl
theorem err_gneq (k : Int) (W : World) (j : Nat) : Sem.run Tryz.prog (eqGuard .neq 38 (.tmp j) (.const .nilIface) (errR k) .nilIface) W = .ok () W := by
  by_cases h : k = 0
  · subst h; kernel_rfl
  · rw [errR_n h]; kernel_rfl
/-- Of a schema that is right the names differ: each is found where it is. -/
theorem schGo_zero : ∀ (a r : List (ByteArray × Int)), schGo a r = 0 → ∀ k (h : k < r.length), colE (a ++ r.take k) r[k].1.data.toList r[k].2 = 0
  | a, [], _, k, h => absurd h (by simp)
  | a, c :: r, h0, k, h => by
    rw [schGo] at h0
    by_cases hc : colE a c.1.data.toList c.2 = 0
    · rw [if_neg (by simpa using hc)] at h0
      cases k with
      | zero => simpa using hc
      | succ k =>
        have := schGo_zero (a ++ [c]) r h0 k (by simpa using h)
        simpa [List.append_assoc] using this
    · rw [if_pos hc] at h0
      exact absurd h0 hc
theorem colE_zero {a : List (ByteArray × Int)} {nm : List UInt8} {t : Int} (h : colE a nm t = 0) : nameB nm = true ∧ (1 ≤ t ∧ t ≤ 3) ∧ findN nm a = -1 := by
  rw [colE] at h
  split at h
  · exact absurd h (by decide)
  · rename_i h1
    split at h
    · exact absurd h (by decide)
    · rename_i h2
      split at h
      · exact absurd h (by decide)
      · rename_i h3
        refine ⟨by simpa using h1, Classical.not_not.1 h2, ?_⟩
        rcases findN_cases nm a with ⟨e, _⟩ | ⟨k, e, _⟩
        · exact e
        · rw [e] at h3; exact absurd (by omega) h3
theorem schE_zero {zs : List (ByteArray × Int)} (h : schE zs = 0) : zs.length ≠ 0 ∧ zs.length ≤ 6 ∧ ∀ k (h : k < zs.length), nameB zs[k].1.data.toList = true ∧ (1 ≤ zs[k].2 ∧ zs[k].2 ≤ 3) ∧ findN zs[k].1.data.toList zs = k := by
  rw [schE] at h
  split at h
  · exact absurd h (by decide)
  · rename_i h1
    split at h
    · exact absurd h (by decide)
    · rename_i h6
      refine ⟨h1, by omega, fun k hk => ?_⟩
      obtain ⟨e1, e2, e3⟩ := colE_zero (schGo_zero [] zs h k hk)
      refine ⟨e1, e2, findN_hit hk rfl fun j hj he => ?_⟩
      rcases findN_cases zs[k].1.data.toList ([] ++ zs.take k) with ⟨_, hn⟩ | ⟨i, ei, _⟩
      · have hj2 : j < ([] ++ zs.take k).length := by simp; omega
        have := hn j hj2
        simp only [List.nil_append, List.getElem_take] at this
        exact this he
      · rw [e3] at ei; omega
end Go.Proofs.YtkoejkpjkcejcaaGreatDoor
namespace Go.Proofs.YtkoejkpjkcejcaaGreatDoor
open Go.RowKit
set_option linter.unusedVariables false
--BEGIN
/-- How many parts. -/
def kdCnt (r : KRule) : Nat := if r.2.1 = 0 then 0 else if r.2.2.1 = 0 then 1 else if r.2.2.2.1 = 0 then 2 else 3
def kdMeant (last t : Int) : Int := if t = -1 then last else t
def kdFind (op : List UInt8) : List KRule → Option KRule
  | [] => none
  | r :: rs => if r.1 = op then some r else kdFind op rs
def isTy (t : Int) : Bool := decide (t = 1) || (decide (t = 2) || decide (t = 3))
def kdAll (last : Int) : List Int → List Int → Bool
  | [], _ => true
  | _ :: _, [] => true
  | t :: ts, a :: l => decide (t = kdMeant last a) && kdAll last ts l
/-- The type of an operation over parts of these types, and what is wrong. -/
def ruleP (op : List UInt8) (ts : List Int) : Int × Int :=
  match kdFind op kdRules with
  | none => (0, 1)
  | some r => if ts.all isTy = false then (0, 1) else if ts.length ≠ kdCnt r then (0, 3) else if kdAll (ts.getLast?.getD 0) ts [r.2.1, r.2.2.1, r.2.2.2.1] = true then (kdMeant (ts.getLast?.getD 0) r.2.2.2.2, 0) else (0, 8)
mutual
/-- The type of an expression that is right, over columns; what is wrong, and where. -/
def tyP (zs : List (ByteArray × Int)) : Ex → Int × Int × Int
  | .node op nm vt vn vs pos l =>
    if op.data.toList = [118, 97, 108] then (vt, 0, 0)
    else if op.data.toList = [99, 111, 108] then (if findN nm.data.toList zs = -1 then (0, 5, pos) else ((zs[(findN nm.data.toList zs).toNat]?.getD default).2, 0, 0))
    else if (tysP zs l).2.1 ≠ 0 then (0, (tysP zs l).2)
    else if (ruleP op.data.toList (tysP zs l).1).2 ≠ 0 then (0, (ruleP op.data.toList (tysP zs l).1).2, pos) else ((ruleP op.data.toList (tysP zs l).1).1, 0, 0)
def tysP (zs : List (ByteArray × Int)) : List Ex → List Int × Int × Int
  | [] => ([], 0, 0)
  | x :: xs => if (tyP zs x).2.1 ≠ 0 then ([], (tyP zs x).2) else if (tysP zs xs).2.1 ≠ 0 then ([], (tysP zs xs).2) else ((tyP zs x).1 :: (tysP zs xs).1, 0, 0)
end
--END
end Go.Proofs.YtkoejkpjkcejcaaGreatDoor
