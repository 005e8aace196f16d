/-
  QyEnv, ArO, QyB0, LexPure2, Clone, in one text.
-/
import Derived.Test.YtkbhmghdonomnaaGreatDoorGrAf
import Derived.Test.YtkbhmghdonomnaaGreatDoorGrAk
import Derived.Test.YtkbhmghdonomnaaGreatDoorGrAn
import Derived.LaidHandle
import Derived.LaidSub
import Derived.Test.YtkbhmghdonomnaaGreatDoorGrAh
import Derived.Test.YtkbhmghdonomnaaGreatDoorGrAe
import Derived.OneCell
import Derived.Test.YtkbhmghdonomnaaGreatDoorGrAc
import Derived.Test.YtkbhmghdonomnaaGreatDoorQShelf
import Derived.WalkKit
import Derived.Below
namespace Go.Proofs.YtkbhmghdonomnaaGreatDoor
open Go.ChangeShapes Go.WideShapes Go.ChangeAt Go.RowKit Go.Joins
open Go.ChangeMaps (open_string shut_string)

namespace qyEnv
theorem et : Tryz.prog.globalNamed "errors.errorType" = some 5 := by kernel_rfl
theorem rt : (Tryz.prog.cutTypes.find? (·.1 == "internal/reflectlite.rtype")).map (·.2) = some 133 := by kernel_rfl
theorem oneRow : ((List.range 304).filter fun t => Tryz.prog.rowNamed t [101, 114, 114, 111, 114]) = [38] := by kernel_rfl
theorem size : Tryz.prog.types.size = 304 := by kernel_rfl
/-- What the row's list gives: the handle's one cell. -/
theorem handleQueryNames {W : World} (h : laidMetH Tryz.prog Rows.queryNamesUptoRow.laid W) : W.cell? ⟨5, 0, none⟩ = some (.iface 133 (.agg #[.pointer (some ⟨15, 38, none⟩)])) := by
  have h2 := (laidMetH_iff.1 h).2
  obtain ⟨name, u, ty, e1, e2, e3, e4, e5⟩ := h2 _ (List.mem_singleton.2 rfl)
  have en : name = [101, 114, 114, 111, 114] := (Option.some.inj e1).symm
  subst en
  obtain rfl := Option.some.inj (rt.symm.trans e2)
  have hm : ty ∈ (List.range 304).filter fun t => Tryz.prog.rowNamed t [101, 114, 114, 111, 114] := List.mem_filter.2 ⟨List.mem_range.2 (by rw [← size]; exact e3), e4⟩
  rw [oneRow] at hm
  obtain rfl := List.mem_singleton.1 hm
  have hh : typeHandle Tryz.prog 38 = .pointer (some ⟨15, 38, none⟩) := by kernel_rfl
  rw [hh] at e5
  simpa using World.var?_cell et e5 0
/-- What the row's list gives: the handle's one cell. -/
theorem handleQueryBack {W : World} (h : laidMetH Tryz.prog Rows.queryBackUptoRow.laid W) : W.cell? ⟨5, 0, none⟩ = some (.iface 133 (.agg #[.pointer (some ⟨15, 38, none⟩)])) := by
  have h2 := (laidMetH_iff.1 h).2
  obtain ⟨name, u, ty, e1, e2, e3, e4, e5⟩ := h2 _ (List.mem_singleton.2 rfl)
  have en : name = [101, 114, 114, 111, 114] := (Option.some.inj e1).symm
  subst en
  obtain rfl := Option.some.inj (rt.symm.trans e2)
  have hm : ty ∈ (List.range 304).filter fun t => Tryz.prog.rowNamed t [101, 114, 114, 111, 114] := List.mem_filter.2 ⟨List.mem_range.2 (by rw [← size]; exact e3), e4⟩
  rw [oneRow] at hm
  obtain rfl := List.mem_singleton.1 hm
  have hh : typeHandle Tryz.prog 38 = .pointer (some ⟨15, 38, none⟩) := by kernel_rfl
  rw [hh] at e5
  simpa using World.var?_cell et e5 0
theorem g_rul : Tryz.prog.globalNamed "sluicebook/kind.rules" = some 9 := by kernel_rfl
theorem t_rul : (Tryz.prog.globals[9]?).map (·.type) = some 255 := by kernel_rfl
theorem g_ags : Tryz.prog.globalNamed "sluicebook/query.aggs" = some 3 := by kernel_rfl
theorem t_ags : (Tryz.prog.globals[3]?).map (·.type) = some 187 := by kernel_rfl
set_option maxRecDepth 100000 in
theorem rul_of {W : World} {rest : List (String × DataW Unit)} (h : laidMet Tryz.prog (("sluicebook/kind.rules", Rows.laid_sluicebook_kind_rules) :: rest) W) : REnv W :=
  var_of rulesC h g_rul t_rul Tryz.underlying255 (by kernel_rfl) (by kernel_rfl)
set_option maxRecDepth 100000 in
theorem ags_of {W : World} {rest : List (String × DataW Unit)} (h : laidMet Tryz.prog (("sluicebook/query.aggs", Rows.laid_sluicebook_query_aggs) :: rest) W) : ∃ t fr, W.heap[3]? = some (.cells aggsC t fr) :=
  var_of aggsC h g_ags t_ags Tryz.underlying187 (by kernel_rfl) (by kernel_rfl)
theorem big_of {W : World} (hsh : W.ShapedOpen Tryz.prog) : 15 ≤ W.heap.size := by
  obtain ⟨o, o0, h, _⟩ := hsh.2 15 (Nat.le_of_eq (by kernel_rfl)) (of_decide_eq_true (by kernel_rfl))
  exact Nat.le_of_lt (Array.getElem?_eq_some_iff.1 h).1
open treeEnv in
/-- What package query asks of the variables. -/
theorem env {W : World} {r1 r2 : List (String × DataW Unit)} (h2 : laidMet Tryz.prog (("internal/strconv.uint64pow10", Rows.laid_internal_strconv_uint64pow10) :: r1) W) (h4 : laidMet Tryz.prog (("strconv.ErrRange", Rows.laid_strconv_ErrRange) :: ("strconv.ErrSyntax", Rows.laid_strconv_ErrSyntax) :: ("sluicebook/lex.signs", Rows.laid_sluicebook_lex_signs) :: ("sluicebook/row.typeWords", Rows.laid_sluicebook_row_typeWords) :: ("sluicebook/tree.words", Rows.laid_sluicebook_tree_words) :: ("sluicebook/tree.operations", Rows.laid_sluicebook_tree_operations) :: ("sluicebook/kind.rules", Rows.laid_sluicebook_kind_rules) :: ("sluicebook/query.aggs", Rows.laid_sluicebook_query_aggs) :: r2) W)
    (het : W.cell? ⟨5, 0, none⟩ = some (.iface 133 (.agg #[.pointer (some ⟨15, 38, none⟩)]))) (hsh : W.ShapedOpen Tryz.prog) : KEnv W ∧ AEnv W ∧ SG W := by
  have h5 : laidMet Tryz.prog (("strconv.ErrSyntax", Rows.laid_strconv_ErrSyntax) :: _) W := h4.tail
  have h6 : laidMet Tryz.prog (("sluicebook/lex.signs", Rows.laid_sluicebook_lex_signs) :: _) W := h5.tail
  have h7 : laidMet Tryz.prog (("sluicebook/row.typeWords", Rows.laid_sluicebook_row_typeWords) :: _) W := h6.tail
  have h8 : laidMet Tryz.prog (("sluicebook/tree.words", Rows.laid_sluicebook_tree_words) :: _) W := h7.tail
  have h9 : laidMet Tryz.prog (("sluicebook/tree.operations", Rows.laid_sluicebook_tree_operations) :: _) W := h8.tail
  have h10 : laidMet Tryz.prog (("sluicebook/kind.rules", Rows.laid_sluicebook_kind_rules) :: _) W := h9.tail
  have h11 : laidMet Tryz.prog (("sluicebook/query.aggs", Rows.laid_sluicebook_query_aggs) :: _) W := h10.tail
  obtain ⟨a0, s0, hv0, _⟩ := laid_sentinel h4 g_ran tRan Tryz.underlying38 rowES Tryz.underlying258 Tryz.underlying260 rfl rfl Tryz.underlying9 cellsES cellsS
  obtain ⟨a1, s1, hv1, _⟩ := laid_sentinel h5 g_syn tSyn Tryz.underlying38 rowES Tryz.underlying258 Tryz.underlying260 rfl rfl Tryz.underlying9 cellsES cellsS
  have htab : Lib.TabIs Tryz.prog W "internal/strconv.uint64pow10" .u64 Lib.pow10Tab := Lib.tabIs_of_head g_tab tTab Tryz.underlying246 Tryz.underlying214 cellsU cellsT h2
  have hmx : ∃ m : Int, W.cell? ⟨12, 0, none⟩ = some (.int .i64 m) := cell_of_shapedOpen_int (zero := #[.int .i64 0]) (t := 3) hsh (of_decide_eq_true (by kernel_rfl)) (by kernel_rfl) rfl (by kernel_rfl) (by kernel_rfl) Tryz.underlying3
  have hbig := big_of hsh
  have hT : TEnv W := ⟨⟨htab, ⟨_, _, hv1⟩, ⟨_, _, hv0⟩, hmx, by omega, by omega, by omega, by omega⟩, hbig, ops_of h9, wds_of h8⟩
  exact ⟨⟨hT, tw_of h7, het, rul_of h10⟩, ⟨hbig, ags_of h11⟩, sg_of h6⟩
/-- A world with the variables' cells laid; the two errors' texts lie in the blocks b and b + 1. -/
def lay (w : World) (b : Nat) : World :=
  treeEnv.layAt (treeEnv.layAt (treeEnv.layAt (treeEnv.layAt (treeEnv.lay w b) 1 (treeEnv.flat 5 Rows.laid_sluicebook_row_typeWords)) 9 (treeEnv.flat 5 Rows.laid_sluicebook_kind_rules)) 3 (treeEnv.flat 5 Rows.laid_sluicebook_query_aggs)) 5 [.iface 133 (.agg #[.pointer (some ⟨15, 38, none⟩)])]
end qyEnv
end Go.Proofs.YtkbhmghdonomnaaGreatDoor
namespace Go.Proofs.YtkbhmghdonomnaaGreatDoor
open Go.RowKit
set_option linter.unusedVariables false

theorem own_grown {w w' : World} {B B' : Nat} {e e' : TypeId} {size size' n m : Nat} {u v : Value} {xs ys : List Value} (h : w.ownsRow B e size u n xs) (h' : w.ownsRow B' e' size' v m ys) (hne : e ≠ e') (hg : w.grownBy w' v.ownBlock) : w'.ownsRow B e size u n xs := by
  refine ⟨h.1, ?_⟩
  rcases h.2 with hn | ⟨g, cap, cur, rfl, h1, hgg, rest⟩
  · exact .inl hn
  · refine .inr ⟨g, cap, cur, rfl, h1, ?_, rest⟩
    rw [hg.block g (Array.getElem?_eq_some_iff.1 hgg).1 (fun hb => ?_)]
    · exact hgg
    · rcases h'.2 with ⟨rfl, _⟩ | ⟨g', cap', cur', rfl, _, hgg', _⟩
      · simp [Value.ownBlock] at hb
      · have : g = g' := by simpa [Value.ownBlock] using hb
        subst this
        rw [hgg] at hgg'
        injection hgg' with hgg'
        injection hgg' with _ h2 _
        exact hne h2
/-- Expressions that are gathered in a slice of one's own, from block B on, beside another list in block u. -/
def ArgsO (w : World) (B : Nat) (v : Value) (u : Option Nat) (xs : List Ex) : Prop := ∃ cs : List Value, w.ownsRow B 26 7 v xs.length cs ∧
  ∀ j (h : j < xs.length), ∃ a0 a1 a2 a3 a4 a5 a6, cs[j * 7]? = some a0 ∧ cs[j * 7 + 1]? = some a1 ∧ cs[j * 7 + 2]? = some a2 ∧ cs[j * 7 + 3]? = some a3 ∧ cs[j * 7 + 4]? = some a4 ∧ cs[j * 7 + 5]? = some a5 ∧ cs[j * 7 + 6]? = some a6 ∧ ExIn w (fun b => B ≤ b ∧ some b ≠ v.ownBlock ∧ some b ≠ u) (.agg #[a0, a1, a2, a3, a4, a5, a6]) xs[j]
theorem argsO_nil (w : World) (B : Nat) (u : Option Nat) : ArgsO w B (.slice none 0 0) u [] := ⟨[], World.ownsRow_nil _ _ _ _, fun j h => absurd h (Nat.not_lt_zero _)⟩
theorem ArgsO.own {w : World} {B : Nat} {v : Value} {u : Option Nat} {xs : List Ex} (h : ArgsO w B v u xs) : ArgsOwn w B v xs := by
  obtain ⟨cs, h1, h2⟩ := h
  refine ⟨cs, h1, fun j hj => ?_⟩
  obtain ⟨a0, a1, a2, a3, a4, a5, a6, e0, e1, e2, e3, e4, e5, e6, hx⟩ := h2 j hj
  exact ⟨a0, a1, a2, a3, a4, a5, a6, e0, e1, e2, e3, e4, e5, e6, ExIn.low (fun b _ hb => ⟨hb.1, hb.2.1⟩) _ _ hx⟩
theorem ArgsO.on {w w' : World} {B : Nat} {v : Value} {u : Option Nat} {xs : List Ex} (h : ArgsO w B v u xs) (hb : Below w.heap.size w w') : ArgsO w' B v u xs := by
  obtain ⟨cs, h1, h2⟩ := h
  refine ⟨cs, lown_below h1 hb, fun j hj => ?_⟩
  obtain ⟨a0, a1, a2, a3, a4, a5, a6, e0, e1, e2, e3, e4, e5, e6, hx⟩ := h2 j hj
  exact ⟨a0, a1, a2, a3, a4, a5, a6, e0, e1, e2, e3, e4, e5, e6, hx.on hb⟩
/-- The other list grows. -/
theorem ArgsO.other {w w' : World} {B B' m size : Nat} {e' : TypeId} {v u u' : Value} {ys : List Value} {xs : List Ex} (h : ArgsO w B v u.ownBlock xs) (hu : w.ownsRow B' e' size u m ys) (hne : 26 ≠ e') (hg : w.grownBy w' u.ownBlock) (hf : u'.ownBlock = u.ownBlock ∨ u'.ownBlock = some w.heap.size) : ArgsO w' B v u'.ownBlock xs := by
  obtain ⟨cs, h1, h2⟩ := h
  refine ⟨cs, own_grown h1 hu hne hg, fun j hj => ?_⟩
  obtain ⟨a0, a1, a2, a3, a4, a5, a6, e0, e1, e2, e3, e4, e5, e6, hx⟩ := h2 j hj
  have h3 := ExIn.low (lo' := fun b => (B ≤ b ∧ some b ≠ v.ownBlock ∧ some b ≠ u.ownBlock) ∧ b < w.heap.size) (fun b hb hb2 => ⟨hb2, hb⟩) _ _ hx
  have h4 := ExIn.keep (w' := w') hg.size (fun b o hb _ => by simp only [World.cell?, hg.block b hb.2 hb.1.2.2]) _ _ h3
  refine ⟨a0, a1, a2, a3, a4, a5, a6, e0, e1, e2, e3, e4, e5, e6, ExIn.low (fun b _ hb => ⟨hb.1.1, hb.1.2.1, ?_⟩) _ _ h4⟩
  rcases hf with hf | hf
  · rw [hf]; exact hb.1.2.2
  · rw [hf]; intro e; injection e with e; have := hb.2; omega
/-- One more. -/
theorem ArgsO.push {wr W w9 : World} {B k cp c9 : Nat} {q q9 : Option Addr} {u : Option Nat} {xs : List Ex} {cs : List Value} {b0 b1 b2 b3 b4 b5 b6 : Value} {x : Ex} (h1 : wr.ownsRow B 26 7 (.slice q k cp) k cs) (hlen : xs.length = k)
    (pR : ∀ j (h : j < xs.length), ∃ a0 a1 a2 a3 a4 a5 a6, cs[j * 7]? = some a0 ∧ cs[j * 7 + 1]? = some a1 ∧ cs[j * 7 + 2]? = some a2 ∧ cs[j * 7 + 3]? = some a3 ∧ cs[j * 7 + 4]? = some a4 ∧ cs[j * 7 + 5]? = some a5 ∧ cs[j * 7 + 6]? = some a6 ∧ ExIn wr (fun b => B ≤ b ∧ some b ≠ (Value.slice q k cp).ownBlock ∧ some b ≠ u) (.agg #[a0, a1, a2, a3, a4, a5, a6]) xs[j])
    (bW : Below wr.heap.size wr W) (hB : B ≤ wr.heap.size) (hx : ExIn W (fun b => wr.heap.size ≤ b) (.agg #[b0, b1, b2, b3, b4, b5, b6]) x) (hu : ∀ j, u = some j → j < wr.heap.size) (hown' : w9.ownsRow B 26 7 (.slice q9 (k + 1) c9) (k + 1) (cs ++ [b0, b1, b2, b3, b4, b5, b6])) (hg : W.grownBy w9 (Value.slice q k cp).ownBlock)
    (hf : (Value.slice q9 (k + 1) c9).ownBlock = (Value.slice q k cp).ownBlock ∨ (Value.slice q9 (k + 1) c9).ownBlock = some W.heap.size) : ArgsO w9 B (.slice q9 (k + 1) c9) u (xs ++ [x]) := by
  subst hlen
  have hsW := bW.size
  have hob : ∀ j, (Value.slice q xs.length cp).ownBlock = some j → j < wr.heap.size := fun j hj => (h1.lt j hj).2
  have key : ∀ (y : Ex) (z : Value), ExIn W (fun b => B ≤ b ∧ some b ≠ (Value.slice q xs.length cp).ownBlock ∧ some b ≠ u) z y → ExIn w9 (fun b => B ≤ b ∧ some b ≠ (Value.slice q9 (xs.length + 1) c9).ownBlock ∧ some b ≠ u) z y := fun y z hy => by
    have h3 := ExIn.low (lo' := fun b => (B ≤ b ∧ some b ≠ (Value.slice q xs.length cp).ownBlock ∧ some b ≠ u) ∧ b < W.heap.size) (fun b hb hb2 => ⟨hb2, hb⟩) _ _ hy
    have h4 := ExIn.keep (w' := w9) hg.size (fun b o hb _ => by simp only [World.cell?, hg.block b hb.2 hb.1.2.1]) _ _ h3
    refine ExIn.low (fun b _ hb => ⟨hb.1.1, ?_, hb.1.2.2⟩) _ _ h4
    rcases hf with hf | hf
    · rw [hf]; exact hb.1.2.1
    · rw [hf]; intro e; injection e with e; have := hb.2; omega
  have hlen := h1.1
  refine ⟨cs ++ [b0, b1, b2, b3, b4, b5, b6], by rw [List.length_append, List.length_singleton]; exact hown', fun j hj => ?_⟩
  rw [List.length_append, List.length_singleton] at hj
  by_cases hj2 : j < xs.length
  · obtain ⟨a0, a1, a2, a3, a4, a5, a6, e0, e1, e2, e3, e4, e5, e6, hy⟩ := pR j hj2
    refine ⟨a0, a1, a2, a3, a4, a5, a6, ?_, ?_, ?_, ?_, ?_, ?_, ?_, ?_⟩
    · rw [List.getElem?_append_left (by omega)]; exact e0
    · rw [List.getElem?_append_left (by omega)]; exact e1
    · rw [List.getElem?_append_left (by omega)]; exact e2
    · rw [List.getElem?_append_left (by omega)]; exact e3
    · rw [List.getElem?_append_left (by omega)]; exact e4
    · rw [List.getElem?_append_left (by omega)]; exact e5
    · rw [List.getElem?_append_left (by omega)]; exact e6
    · rw [List.getElem_append_left hj2]; exact key _ _ (hy.on bW)
  · obtain rfl : j = xs.length := by omega
    refine ⟨b0, b1, b2, b3, b4, b5, b6, ?_, ?_, ?_, ?_, ?_, ?_, ?_, ?_⟩
    · rw [List.getElem?_append_right (by omega), show xs.length * 7 - cs.length = 0 by omega]; rfl
    · rw [List.getElem?_append_right (by omega), show xs.length * 7 + 1 - cs.length = 1 by omega]; rfl
    · rw [List.getElem?_append_right (by omega), show xs.length * 7 + 2 - cs.length = 2 by omega]; rfl
    · rw [List.getElem?_append_right (by omega), show xs.length * 7 + 3 - cs.length = 3 by omega]; rfl
    · rw [List.getElem?_append_right (by omega), show xs.length * 7 + 4 - cs.length = 4 by omega]; rfl
    · rw [List.getElem?_append_right (by omega), show xs.length * 7 + 5 - cs.length = 5 by omega]; rfl
    · rw [List.getElem?_append_right (by omega), show xs.length * 7 + 6 - cs.length = 6 by omega]; rfl
    · rw [List.getElem_append_right (Nat.le_refl _)]
      simp only [Nat.sub_self, List.getElem_cons_zero]
      exact key _ _ (ExIn.low (fun b _ hb => ⟨by omega, fun e => by have := hob b e.symm; omega, fun e => by have := hu b e.symm; omega⟩) _ _ hx)
end Go.Proofs.YtkbhmghdonomnaaGreatDoor
namespace Go.Proofs.YtkbhmghdonomnaaGreatDoor
open Go.RowKit
set_option linter.unusedVariables false

/-- A block as a whole. -/
def Blk (w : World) (b : Nat) (cs : Array Value) (t : TypeId) : Prop := w.heap[b]? = some (.cells cs t (0, 0))
theorem Blk.lt {w : World} {b : Nat} {cs : Array Value} {t : TypeId} (h : Blk w b cs t) : b < w.heap.size := lt_of_block h
theorem Blk.cell {w : World} {b : Nat} {cs : Array Value} {t : TypeId} (h : Blk w b cs t) (i : Nat) : w.cell? ⟨b, i, none⟩ = cs[i]? := by unfold Blk at h; simp [World.cell?, h]
theorem Blk.frozen {w : World} {b : Nat} {cs : Array Value} {t : TypeId} (h : Blk w b cs t) (i : Nat) : w.frozen? ⟨b, i, none⟩ = false := frozen_of_row w b i cs t h
theorem Blk.keep {w w' : World} {b : Nat} {cs : Array Value} {t : TypeId} (h : Blk w b cs t) (hk : w'.heap[b]? = w.heap[b]?) : Blk w' b cs t := by unfold Blk at *; rw [hk]; exact h
theorem Blk.set {w : World} {b : Nat} {cs : Array Value} {t : TypeId} (h : Blk w b cs t) (i : Nat) (v : Value) : Blk (w.setCell ⟨b, i, none⟩ v) b (cs.setIfInBounds i v) t := heap_setCell_same w b i cs t v h
theorem Blk.far {w : World} {b z : Nat} {cs : Array Value} {t : TypeId} (h : Blk w b cs t) (hz : b ≠ z) (i : Nat) (v : Value) : Blk (w.setCell ⟨z, i, none⟩ v) b cs t := h.keep (heap_setCell_other w _ b v hz)
theorem Blk.but {w w' : World} {r b : Nat} {cs : Array Value} {t : TypeId} (h : Blk w b cs t) (hb : But r w w') (hr : b ≠ r) : Blk w' b cs t := h.keep (hb.kept b h.lt hr)
theorem Blk.on {w w' : World} {b : Nat} {cs : Array Value} {t : TypeId} (h : Blk w b cs t) (hb : Below w.heap.size w w') : Blk w' b cs t := h.keep (hb.block b h.lt)
theorem Blk.grown {w w' : World} {b : Nat} {cs : Array Value} {t : TypeId} {row : Option Nat} (h : Blk w b cs t) (hg : w.grownBy w' row) (hr : some b ≠ row) : Blk w' b cs t := h.keep (hg.block b h.lt hr)
theorem blk_alloc (w : World) (cs : Array Value) (t : TypeId) : Blk (w.alloc (.cells cs t)) w.heap.size cs t := by
  show (w.heap.push _)[_]? = _
  rw [Array.getElem?_push_size]
/-- All blocks from B on stay as they were. -/
def KeepB (B : Nat) (w w' : World) : Prop := w.heap.size ≤ w'.heap.size ∧ ∀ b, B ≤ b → b < w.heap.size → w'.heap[b]? = w.heap[b]?
theorem KeepB.refl (B : Nat) (w : World) : KeepB B w w := ⟨Nat.le_refl _, fun _ _ _ => rfl⟩
theorem KeepB.trans {B : Nat} {w w1 w2 : World} (h : KeepB B w w1) (k : KeepB B w1 w2) : KeepB B w w2 := ⟨Nat.le_trans h.1 k.1, fun b h1 h2 => by rw [k.2 b h1 (by have := h.1; omega), h.2 b h1 h2]⟩
theorem KeepB.but {B r : Nat} {w w' : World} (h : But r w w') (hr : r < B) : KeepB B w w' := ⟨h.size, fun b h1 h2 => h.kept b h2 (by omega)⟩
theorem KeepB.on {B : Nat} {w w' : World} (h : Below w.heap.size w w') : KeepB B w w' := ⟨h.size, fun b _ h2 => h.block b h2⟩
theorem KeepB.set {B z : Nat} (w : World) (i : Nat) (v : Value) (hz : z < B) : KeepB B w (w.setCell ⟨z, i, none⟩ v) := ⟨by simp [World.setCell], fun b h1 _ => heap_setCell_other w _ b v (by show b ≠ z; omega)⟩
theorem own_keep {w w' : World} {B B' : Nat} {e : TypeId} {size n : Nat} {v : Value} {xs : List Value} (h : w.ownsRow B e size v n xs) (hk : KeepB B' w w') (hB : B' ≤ B) : w'.ownsRow B e size v n xs := by
  refine ⟨h.1, ?_⟩
  rcases h.2 with hn | ⟨g, cap, cur, rfl, h1, hgg, rest⟩
  · exact .inl hn
  · exact .inr ⟨g, cap, cur, rfl, h1, by rw [hk.2 g (by omega) (Array.getElem?_eq_some_iff.1 hgg).1]; exact hgg, rest⟩
theorem exin_keep {w w' : World} {B : Nat} {lo : Nat → Prop} {v : Value} {x : Ex} (h : ExIn w lo v x) (hk : KeepB B w w') (hB : ∀ b, lo b → B ≤ b) : ExIn w' lo v x := by
  have h3 := ExIn.low (lo' := fun b => lo b ∧ b < w.heap.size) (fun b hb hb2 => ⟨hb2, hb⟩) _ _ h
  have h4 := ExIn.keep (w' := w') hk.1 (fun b o hb _ => by simp only [World.cell?, hk.2 b (hB b hb.1) hb.2]) _ _ h3
  exact ExIn.low (fun b _ hb => hb.1) _ _ h4
theorem ArgsO.keepB {w w' : World} {B B' : Nat} {v : Value} {u : Option Nat} {xs : List Ex} (h : ArgsO w B v u xs) (hk : KeepB B' w w') (hB : B' ≤ B) : ArgsO w' B v u xs := by
  obtain ⟨cs, h1, h2⟩ := h
  refine ⟨cs, own_keep h1 hk hB, fun j hj => ?_⟩
  obtain ⟨a0, a1, a2, a3, a4, a5, a6, e0, e1, e2, e3, e4, e5, e6, hx⟩ := h2 j hj
  exact ⟨a0, a1, a2, a3, a4, a5, a6, e0, e1, e2, e3, e4, e5, e6, exin_keep hx hk (fun b hb => by omega)⟩
/-- Aggregates that are gathered in a slice of one's own. -/
def AgsOwn (w : World) (B : Nat) (v : Value) (l : List Ag) : Prop := ∃ cs : List Value, w.ownsRow B 49 9 v l.length cs ∧
  ∀ j (h : j < l.length), ∃ ap ac, cs[j * 9]? = some (.string l[j].what) ∧ cs[j * 9 + 1]? = some (.string l[j].arg.op) ∧ cs[j * 9 + 2]? = some (.string l[j].arg.nm) ∧ cs[j * 9 + 3]? = some (.int .i64 l[j].arg.vt) ∧ cs[j * 9 + 4]? = some (.int .i64 l[j].arg.vn) ∧ cs[j * 9 + 5]? = some (.string l[j].arg.vs) ∧ cs[j * 9 + 6]? = some (.slice ap l[j].arg.args.length ac) ∧ cs[j * 9 + 7]? = some (.int .i64 l[j].arg.pos) ∧ cs[j * 9 + 8]? = some (.string l[j].name) ∧ ExIn w (fun b => B ≤ b ∧ some b ≠ v.ownBlock) (exV l[j].arg ap ac) l[j].arg
theorem agsOwn_nil (w : World) (B : Nat) : AgsOwn w B (.slice none 0 0) [] := ⟨[], World.ownsRow_nil _ _ _ _, fun j h => absurd h (Nat.not_lt_zero _)⟩
theorem AgsOwn.keepB {w w' : World} {B B' : Nat} {v : Value} {xs : List Ag} (h : AgsOwn w B v xs) (hk : KeepB B' w w') (hB : B' ≤ B) : AgsOwn w' B v xs := by
  obtain ⟨cs, h1, h2⟩ := h
  refine ⟨cs, own_keep h1 hk hB, fun j hj => ?_⟩
  obtain ⟨ap, ac, e0, e1, e2, e3, e4, e5, e6, e7, e8, hx⟩ := h2 j hj
  exact ⟨ap, ac, e0, e1, e2, e3, e4, e5, e6, e7, e8, exin_keep hx hk (fun b hb => by omega)⟩
theorem AgsOwn.push {w w' : World} {B : Nat} {v v' : Value} {xs : List Ag} {cs : List Value} {a : Ag} {ap : Option Addr} {ac : Nat} (h1 : w.ownsRow B 49 9 v xs.length cs)
    (h2 : ∀ j (h : j < xs.length), ∃ ap ac, cs[j * 9]? = some (.string xs[j].what) ∧ cs[j * 9 + 1]? = some (.string xs[j].arg.op) ∧ cs[j * 9 + 2]? = some (.string xs[j].arg.nm) ∧ cs[j * 9 + 3]? = some (.int .i64 xs[j].arg.vt) ∧ cs[j * 9 + 4]? = some (.int .i64 xs[j].arg.vn) ∧ cs[j * 9 + 5]? = some (.string xs[j].arg.vs) ∧ cs[j * 9 + 6]? = some (.slice ap xs[j].arg.args.length ac) ∧ cs[j * 9 + 7]? = some (.int .i64 xs[j].arg.pos) ∧ cs[j * 9 + 8]? = some (.string xs[j].name) ∧ ExIn w (fun b => B ≤ b ∧ some b ≠ v.ownBlock) (exV xs[j].arg ap ac) xs[j].arg)
    (hx : ExIn w (fun b => B ≤ b ∧ some b ≠ v.ownBlock) (exV a.arg ap ac) a.arg) (hown' : w'.ownsRow B 49 9 v' (xs.length + 1) (cs ++ [.string a.what, .string a.arg.op, .string a.arg.nm, .int .i64 a.arg.vt, .int .i64 a.arg.vn, .string a.arg.vs, .slice ap a.arg.args.length ac, .int .i64 a.arg.pos, .string a.name])) (hg : w.grownBy w' v.ownBlock) (hf : v'.ownBlock = v.ownBlock ∨ v'.ownBlock = some w.heap.size) : AgsOwn w' B v' (xs ++ [a]) := by
  have key : ∀ (y : Ex) (z : Value), ExIn w (fun b => B ≤ b ∧ some b ≠ v.ownBlock) z y → ExIn w' (fun b => B ≤ b ∧ some b ≠ v'.ownBlock) z y := fun y z hy => by
    have h3 := ExIn.low (lo' := fun b => (B ≤ b ∧ some b ≠ v.ownBlock) ∧ b < w.heap.size) (fun b hb hb2 => ⟨hb2, hb⟩) _ _ hy
    have h4 := ExIn.keep (w' := w') hg.size (fun b o hb _ => by simp only [World.cell?, hg.block b hb.2 hb.1.2]) _ _ h3
    refine ExIn.low (fun b _ hb => ⟨hb.1.1, ?_⟩) _ _ h4
    rcases hf with hf | hf
    · rw [hf]; exact hb.1.2
    · rw [hf]; intro e; injection e with e; have := hb.2; omega
  have hlen := h1.1
  refine ⟨_, by rw [List.length_append, List.length_singleton]; exact hown', fun j hj => ?_⟩
  rw [List.length_append, List.length_singleton] at hj
  by_cases hj2 : j < xs.length
  · obtain ⟨ap, ac, e0, e1, e2, e3, e4, e5, e6, e7, e8, hy⟩ := h2 j hj2
    rw [List.getElem_append_left hj2]
    refine ⟨ap, ac, ?_, ?_, ?_, ?_, ?_, ?_, ?_, ?_, ?_, key _ _ hy⟩
    · rw [List.getElem?_append_left (by omega)]; exact e0
    · rw [List.getElem?_append_left (by omega)]; exact e1
    · rw [List.getElem?_append_left (by omega)]; exact e2
    · rw [List.getElem?_append_left (by omega)]; exact e3
    · rw [List.getElem?_append_left (by omega)]; exact e4
    · rw [List.getElem?_append_left (by omega)]; exact e5
    · rw [List.getElem?_append_left (by omega)]; exact e6
    · rw [List.getElem?_append_left (by omega)]; exact e7
    · rw [List.getElem?_append_left (by omega)]; exact e8
  · obtain rfl : j = xs.length := by omega
    rw [List.getElem_append_right (Nat.le_refl _)]
    simp only [Nat.sub_self, List.getElem_cons_zero]
    refine ⟨ap, ac, ?_, ?_, ?_, ?_, ?_, ?_, ?_, ?_, ?_, key _ _ hx⟩
    · rw [List.getElem?_append_right (by omega), show xs.length * 9 - cs.length = 0 by omega]; rfl
    · rw [List.getElem?_append_right (by omega), show xs.length * 9 + 1 - cs.length = 1 by omega]; rfl
    · rw [List.getElem?_append_right (by omega), show xs.length * 9 + 2 - cs.length = 2 by omega]; rfl
    · rw [List.getElem?_append_right (by omega), show xs.length * 9 + 3 - cs.length = 3 by omega]; rfl
    · rw [List.getElem?_append_right (by omega), show xs.length * 9 + 4 - cs.length = 4 by omega]; rfl
    · rw [List.getElem?_append_right (by omega), show xs.length * 9 + 5 - cs.length = 5 by omega]; rfl
    · rw [List.getElem?_append_right (by omega), show xs.length * 9 + 6 - cs.length = 6 by omega]; rfl
    · rw [List.getElem?_append_right (by omega), show xs.length * 9 + 7 - cs.length = 7 by omega]; rfl
    · rw [List.getElem?_append_right (by omega), show xs.length * 9 + 8 - cs.length = 8 by omega]; rfl
theorem AgsOwn.is {w : World} {B : Nat} {p : Option Addr} {n c : Nat} {xs : List Ag} (h : AgsOwn w B (.slice p n c) xs) (hl : xs.length ≤ 1048576) : AgsIs w (B ≤ ·) p xs := by
  obtain ⟨cs, h1, h2⟩ := h
  refine ⟨hl, ?_⟩
  rcases id h1.2 with ⟨hn, e⟩ | ⟨g, cap, cur, hv, hb, hg, hm, hx, hs, ht⟩
  · exact .inl e
  · injection hv with hv1 hv2 hv3
    subst hv1 hv2 hv3
    refine .inr ⟨g, 0, rfl, (Array.getElem?_eq_some_iff.1 hg).1, hb, fun j hj => ?_⟩
    obtain ⟨ap, ac, e0, e1, e2, e3, e4, e5, e6, e7, e8, hy⟩ := h2 j hj
    have k : ∀ o v, cs[o]? = some v → w.cell? ⟨g, 0 + o, none⟩ = some v := fun o v hv => by
      have := h1.cells (g := g) rfl o v hv
      rw [Go.WideShapes.add_plain] at this
      exact this
    refine ⟨ap, ac, k _ _ e0, ?_, ?_, ?_, ?_, ?_, ?_, ?_, ?_, ExIn.low (fun b _ hb => hb.1) _ _ hy⟩
    · exact k _ _ e1
    · exact k _ _ e2
    · exact k _ _ e3
    · exact k _ _ e4
    · exact k _ _ e5
    · exact k _ _ e6
    · exact k _ _ e7
    · exact k _ _ e8
end Go.Proofs.YtkbhmghdonomnaaGreatDoor
namespace Go.Proofs.YtkbhmghdonomnaaGreatDoor
--BEGIN
/-- Does a text begin with a blank, if it begins at all? -/
def sepB : List UInt8 → Bool
  | [] => true
  | c :: _ => blB c
theorem bl_cases {c : UInt8} (h : blB c = true) : c = 32 ∨ c = 10 := by
  simp only [blB, Bool.or_eq_true, decide_eq_true_eq] at h
  rcases h with h | h
  · exact Or.inl (UInt8.toNat_inj.1 (by rw [show (32 : UInt8).toNat = 32 from rfl]; omega))
  · exact Or.inr (UInt8.toNat_inj.1 (by rw [show (10 : UInt8).toNat = 10 from rfl]; omega))
theorem sep_hd (p : UInt8 → Bool) (h32 : p 32 = false) (h10 : p 10 = false) : ∀ r : List UInt8, sepB r = true → hdB p r = false
  | [], _ => rfl
  | c :: r, h => by
    rcases bl_cases h with rfl | rfl
    · exact h32
    · exact h10
theorem sign_again : ∀ g ∈ signsL, ∀ r : List UInt8, sepB r = true → sgN signsL (g ++ r) = g.length := by
  intro g hg r hr
  have key : r = [] ∨ (∃ q, r = 32 :: q) ∨ ∃ q, r = 10 :: q := by
    cases r with
    | nil => exact Or.inl rfl
    | cons c q =>
      rcases bl_cases hr with rfl | rfl
      · exact Or.inr (Or.inl ⟨q, rfl⟩)
      · exact Or.inr (Or.inr ⟨q, rfl⟩)
  simp only [signsL, List.mem_cons, List.not_mem_nil, or_false] at hg
  rcases key with rfl | ⟨q, rfl⟩ | ⟨q, rfl⟩ <;> rcases hg with rfl | rfl | rfl | rfl | rfl | rfl | rfl | rfl | rfl | rfl | rfl | rfl | rfl | rfl <;> simp [signsL, sgN, Lib.hasPrefix, List.isPrefixOf]
theorem qscan_again : ∀ (n : Nat) (l : List UInt8) (k : Nat) (r : List UInt8), l.length ≤ n → qscan l = some k → sepB r = true → qscan (l.take k ++ r) = some k
  | _, [], k, _, _, h, _ => by simp [qscan] at h
  | 0, _ :: _, _, _, hn, _, _ => by simp at hn
  | n + 1, c :: l, k, r, hn, h, hr => by
    by_cases hc : c = 39
    · subst hc
      have stop : qscan (39 :: r) = some 1 := qscan_end r (by
        cases r with
        | nil => simp
        | cons d q => rcases bl_cases hr with rfl | rfl <;> simp)
      cases l with
      | nil => simp [qscan] at h; subst h; exact stop
      | cons d q =>
        by_cases hd : d = 39
        · subst hd
          rw [qscan_two, Option.map_eq_some_iff] at h
          obtain ⟨j, hj, rfl⟩ := h
          have := qscan_again n q j r (by simp at hn; omega) hj hr
          rw [show (39 :: 39 :: q).take (j + 2) ++ r = 39 :: 39 :: (q.take j ++ r) from by simp, qscan_two, this]; rfl
        · rw [qscan_end _ (by simpa using hd)] at h
          cases h; exact stop
    · rw [qscan_ne c l hc, Option.map_eq_some_iff] at h
      obtain ⟨j, hj, rfl⟩ := h
      have := qscan_again n l j r (by simp at hn; omega) hj hr
      rw [show (c :: l).take (j + 1) ++ r = c :: (l.take j ++ r) from by simp, qscan_ne _ _ hc, this]; rfl
theorem take_len {l : List UInt8} {n : Nat} (h : n ≤ l.length) : (l.take n).length = n := by rw [List.length_take]; omega
/-- A word that is right is the same word ahead of a blank, or of nothing. -/
theorem tok_again {l : List UInt8} {k : Int} {n : Nat} (h : tokAt l = (k, n, 0)) (r : List UInt8) (hr : sepB r = true) : tokAt (l.take n ++ r) = (k, n, 0) := by
  obtain ⟨hn1, hn2⟩ := tokAt_len h
  have hlen := take_len hn2
  cases l with
  | nil => simp at hn2; omega
  | cons c l =>
    obtain ⟨m, rfl⟩ : ∃ m, n = m + 1 := ⟨n - 1, by omega⟩
    have hcons : (c :: l).take (m + 1) ++ r = c :: (l.take m ++ r) := by simp
    rw [hcons, tokAt]
    rw [tokAt] at h
    by_cases hc : letB c = true
    · rw [if_pos hc] at h ⊢
      injection h with h1 h
      injection h with h2 h3
      have ha := goN_all ldB (c :: l)
      rw [h2] at ha
      rw [← hcons, goN_app ldB _ r ha (sep_hd _ (by decide) (by decide) r hr), hlen, h1]
    · rw [if_neg hc] at h ⊢
      by_cases hd : digB c = true
      · rw [if_pos hd] at h ⊢
        injection h with h1 h
        rw [numTok] at h
        split at h
        · cases h
        · rename_i hz
          split at h
          · cases h
          · rename_i hv
            injection h with h2 h3
            rw [h2] at hz hv
            have ha := goN_all digB (c :: l)
            rw [h2] at ha
            have hg : goN digB (c :: (l.take m ++ r)) = m + 1 := by rw [← hcons, goN_app digB _ r ha (sep_hd _ (by decide) (by decide) r hr), hlen]
            have hdr : (c :: (l.take m ++ r)).drop (m + 1) = r := by
              rw [← hcons, List.drop_append_of_le_length (by omega), List.drop_of_length_le (by omega), List.nil_append]
            have htk : (c :: (l.take m ++ r)).take (m + 1) = (c :: l).take (m + 1) := by
              rw [← hcons, List.take_append_of_le_length (by omega), List.take_take, Nat.min_self]
            rw [numTok, hg, hdr, htk, if_neg, if_neg hv, h1]
            rintro (e | e)
            · rw [sep_hd letB (by decide) (by decide) r hr] at e; cases e
            · exact hz (Or.inr e)
      · rw [if_neg hd] at h ⊢
        by_cases hq : c = 39
        · rw [if_pos hq] at h ⊢
          injection h with h1 h
          rw [quoTok] at h
          split at h
          · cases h
          · rename_i j hj
            split at h
            · rename_i he
              injection h with h2 h3
              obtain rfl : j = m := by omega
              have hj2 := (qscan_le _ l j (Nat.le_refl _) hj).2
              have htk : (l.take j ++ r).take j = l.take j := by
                rw [List.take_append_of_le_length (by rw [take_len hj2]; omega), List.take_take, Nat.min_self]
              rw [quoTok, qscan_again _ l j r (Nat.le_refl _) hj hr]
              simp only
              rw [htk, if_pos he, h1]
            · rename_i h0
              exact absurd (Prod.mk.inj h).2 h0
        · rw [if_neg hq] at h ⊢
          injection h with h1 h
          injection h with h2 h3
          have hne : sgN signsL (c :: l) ≠ 0 := by omega
          obtain ⟨g, hm, hp, hl⟩ := sgN_mem _ _ hne
          have hg := (hasPre_len hp).2
          rw [← hl, h2] at hg
          have := sign_again g hm r hr
          rw [← hcons, hg, this, ← hl, h2, h1, if_neg (by omega)]
theorem tok_blank {c : UInt8} {l : List UInt8} (h : blB c = true) : (tokAt (c :: l)).2.2 ≠ 0 := by
  rcases bl_cases h with rfl | rfl
  · simp [tokAt, letB, digB, signsL, sgN, Lib.hasPrefix, List.isPrefixOf]
  · simp [tokAt, letB, digB, signsL, sgN, Lib.hasPrefix, List.isPrefixOf]
/-- A word that stays one, ahead of a blank or of nothing. -/
structure Good (k : Int) (t : List UInt8) : Prop where
  ne : t ≠ []
  hd : hdB blB t = false
  again : ∀ r : List UInt8, sepB r = true → tokAt (t ++ r) = (k, t.length, 0)
theorem good_tok {l : List UInt8} {k : Int} {n : Nat} (h : tokAt l = (k, n, 0)) : Good k (l.take n) := by
  obtain ⟨hn1, hn2⟩ := tokAt_len h
  have hlen := take_len hn2
  refine ⟨fun e => by rw [e] at hlen; simp at hlen; omega, ?_, fun r hr => by rw [hlen]; exact tok_again h r hr⟩
  cases l with
  | nil => simp at hn2; omega
  | cons c l =>
    obtain ⟨m, rfl⟩ : ∃ m, n = m + 1 := ⟨n - 1, by omega⟩
    rw [List.take_succ_cons]
    cases hb : blB c with
    | false => exact hb
    | true => exact absurd (by rw [h]) (tok_blank (l := l) hb)
/-- Blanks behind each, at least one but behind the last. -/
def Seps : List (Int × List UInt8 × List UInt8) → Prop
  | [] => True
  | p :: ps => p.2.2.all blB = true ∧ (ps ≠ [] → p.2.2 ≠ []) ∧ Seps ps
def sepT (ps : List (Int × List UInt8 × List UInt8)) : List UInt8 := ps.flatMap fun p => p.2.1 ++ p.2.2
theorem sepT_cons (p : Int × List UInt8 × List UInt8) (ps : List (Int × List UInt8 × List UInt8)) : sepT (p :: ps) = p.2.1 ++ (p.2.2 ++ sepT ps) := by simp [sepT]
theorem sepT_hd : ∀ ps : List (Int × List UInt8 × List UInt8), (∀ p ∈ ps, Good p.1 p.2.1) → hdB blB (sepT ps) = false
  | [], _ => rfl
  | p :: ps, h => by
    have g := h p List.mem_cons_self
    rw [sepT_cons]
    have h1 := g.ne
    have h2 := g.hd
    cases ht : p.2.1 with
    | nil => exact absurd ht h1
    | cons c t => rw [ht] at h2; exact h2
theorem relex : ∀ (ps : List (Int × List UInt8 × List UInt8)) (f a : Nat), ps.length < f → (∀ p ∈ ps, Good p.1 p.2.1) → Seps ps →
    ∃ ts, lexN f a (sepT ps) = (ts, 0, 0) ∧ ts.map (fun t => (t.1, t.2.1.data.toList)) = ps.map (fun p => (p.1, p.2.1))
  | [], f, a, hf, _, _ => by
    obtain ⟨g, rfl⟩ : ∃ g, f = g + 1 := ⟨f - 1, by simp at hf; omega⟩
    exact ⟨[], by simp [sepT, lexN], rfl⟩
  | p :: ps, f, a, hf, hg, hs => by
    obtain ⟨g, rfl⟩ : ∃ g, f = g + 1 := ⟨f - 1, by simp at hf; omega⟩
    obtain ⟨hb, hne, hrest⟩ := hs
    have G := hg p List.mem_cons_self
    have hsep : sepB (p.2.2 ++ sepT ps) = true := by
      cases hp : p.2.2 with
      | nil =>
        have : ps = [] := Classical.byContradiction fun e => hne e hp
        subst this; rfl
      | cons c q => rw [hp, List.all_cons, Bool.and_eq_true] at hb; exact hb.1
    have htok := G.again _ hsep
    have hgo : goN blB (p.2.2 ++ sepT ps) = p.2.2.length := by
      rw [goN_skip blB _ _ hb, goN_zero _ _ (sepT_hd ps (fun q hq => hg q (List.mem_cons_of_mem _ hq)))]; rfl
    have hd1 : (p.2.1 ++ (p.2.2 ++ sepT ps)).drop p.2.1.length = p.2.2 ++ sepT ps := List.drop_left
    have hd2 : (p.2.2 ++ sepT ps).drop p.2.2.length = sepT ps := List.drop_left
    have ht1 : (p.2.1 ++ (p.2.2 ++ sepT ps)).take p.2.1.length = p.2.1 := List.take_left
    obtain ⟨ts, h1, h2⟩ := relex ps g (a + p.2.1.length + p.2.2.length) (by simp at hf; omega) (fun q hq => hg q (List.mem_cons_of_mem _ hq)) hrest
    refine ⟨(p.1, ⟨p.2.1.toArray⟩, a) :: ts, ?_, ?_⟩
    · rw [sepT_cons, lexN, if_neg (by simp [G.ne]), htok, if_neg (by simp)]
      simp only
      rw [hd1, hgo, hd2, h1, ht1]
      simp
    · rw [List.map_cons, List.map_cons, h2]
/-- Words stand in a text, in their order, from p on, with blanks between. -/
def Stand (s : List UInt8) : Nat → List Tok → Prop
  | p, [] => ∀ c ∈ s.drop p, blB c = true
  | p, t :: ts => p ≤ t.2.2 ∧ t.2.2 + t.2.1.size ≤ s.length ∧ 0 < t.2.1.size ∧ (∀ c ∈ (s.drop p).take (t.2.2 - p), blB c = true) ∧ (s.drop t.2.2).take t.2.1.size = t.2.1.data.toList ∧ Stand s (t.2.2 + t.2.1.size) ts
theorem size_arr (l : List UInt8) : (⟨l.toArray⟩ : ByteArray).size = l.length := by rw [Lib.size_eq]
theorem lexN_ok {f a : Nat} {l : List UInt8} {ts : List Tok} {p : Nat} (h : lexN (f + 1) a l = (ts, 0, p)) :
    (l = [] ∧ ts = []) ∨ ∃ (k : Int) (n : Nat) (us : List Tok) (q : Nat), l ≠ [] ∧ tokAt l = (k, n, 0) ∧ lexN f (a + n + goN blB (l.drop n)) ((l.drop n).drop (goN blB (l.drop n))) = (us, 0, q) ∧ ts = (k, ⟨(l.take n).toArray⟩, a) :: us := by
  rw [lexN] at h
  split at h
  · rename_i hl
    cases h
    exact Or.inl ⟨hl, rfl⟩
  · rename_i hl
    obtain ⟨k, n, e, ht⟩ : ∃ k n e, tokAt l = (k, n, e) := ⟨_, _, _, rfl⟩
    rw [ht] at h
    simp only at h
    split at h
    · rename_i he
      injection h with _ h
      injection h with h _
      exact absurd h he
    · rename_i he
      obtain rfl : e = 0 := Classical.byContradiction he
      obtain ⟨us, e2, q, hr⟩ : ∃ us e2 q, lexN f (a + n + goN blB (l.drop n)) ((l.drop n).drop (goN blB (l.drop n))) = (us, e2, q) := ⟨_, _, _, rfl⟩
      rw [hr] at h
      simp only at h
      split at h
      · rename_i h0
        subst h0
        cases h
        exact Or.inr ⟨k, n, us, q, hl, ht, hr, rfl⟩
      · rename_i h0
        injection h with _ h
        injection h with h _
        exact absurd h h0
theorem lexN_stand (s : List UInt8) : ∀ (f a p : Nat) (ts : List Tok) (q : Nat), p ≤ a → a ≤ s.length → (s.drop a).length < f → (∀ c ∈ (s.drop p).take (a - p), blB c = true) → lexN f a (s.drop a) = (ts, 0, q) → Stand s p ts
  | 0, _, _, _, _, _, _, hf, _, _ => by omega
  | f + 1, a, p, ts, q, hpa, has, hf, hb, h => by
    rcases lexN_ok h with ⟨hl, rfl⟩ | ⟨k, n, us, q', hl, ht, hr, rfl⟩
    · show ∀ c ∈ s.drop p, blB c = true
      have hlen : (s.drop p).length ≤ a - p := by
        have : (s.drop a).length = 0 := by rw [hl]; rfl
        rw [List.length_drop] at this ⊢; omega
      rwa [List.take_of_length_le hlen] at hb
    · obtain ⟨hn1, hn2⟩ := tokAt_len ht
      have hz : (⟨((s.drop a).take n).toArray⟩ : ByteArray).size = n := by rw [size_arr, take_len hn2]
      rw [List.length_drop] at hn2 hf
      refine ⟨hpa, by rw [hz]; simp only; omega, by rw [hz]; omega, hb, by rw [hz], ?_⟩
      simp only
      rw [hz]
      have hg := goN_le blB ((s.drop a).drop n)
      rw [List.drop_drop] at hr hg
      rw [List.drop_drop] at hr
      rw [List.length_drop] at hg
      refine lexN_stand s f (a + n + goN blB (s.drop (a + n))) (a + n) us q' (by omega) (by omega) (by rw [List.length_drop]; omega) ?_ hr
      rw [show a + n + goN blB (s.drop (a + n)) - (a + n) = goN blB (s.drop (a + n)) from by omega]
      have := goN_all blB (s.drop (a + n))
      rwa [List.all_eq_true] at this
theorem lexN_good : ∀ (f a : Nat) (l : List UInt8) (ts : List Tok) (q : Nat), lexN f a l = (ts, 0, q) → ∀ t ∈ ts, Good t.1 t.2.1.data.toList
  | 0, _, _, ts, _, h => by
    simp [lexN] at h
    obtain ⟨rfl, _⟩ := h
    simp
  | f + 1, a, l, ts, q, h => by
    rcases lexN_ok h with ⟨hl, rfl⟩ | ⟨k, n, us, q', hl, ht, hr, rfl⟩
    · simp
    · intro t hm
      rcases List.mem_cons.1 hm with rfl | hm
      · exact good_tok ht
      · exact lexN_good f _ _ us q' hr t hm
theorem lexN_bad : ∀ (f a : Nat) (l : List UInt8) (ts : List Tok) (e : Int) (q : Nat), lexN f a l = (ts, e, q) → e ≠ 0 → ts = [] ∧ q ≤ a + l.length ∧ (e = 1 ∨ e = 2 ∨ e = 4)
  | 0, _, _, ts, e, _, h, he => by simp [lexN] at h; exact absurd h.2.1.symm he
  | f + 1, a, l, ts, e, q, h, he => by
    rw [lexN] at h
    split at h
    · cases h; exact absurd rfl he
    · obtain ⟨k, n, e1, ht⟩ : ∃ k n e, tokAt l = (k, n, e) := ⟨_, _, _, rfl⟩
      have hfa := tokAt_fault (l := l)
      rw [ht] at h hfa
      simp only at h hfa
      split at h
      · cases h
        exact ⟨rfl, by omega, by omega⟩
      · rename_i he1
        obtain rfl : e1 = 0 := Classical.byContradiction he1
        obtain ⟨hn1, hn2⟩ := tokAt_len ht
        obtain ⟨us, e2, q2, hr⟩ : ∃ us e2 q, lexN f (a + n + goN blB (l.drop n)) ((l.drop n).drop (goN blB (l.drop n))) = (us, e2, q) := ⟨_, _, _, rfl⟩
        rw [hr] at h
        simp only at h
        split at h
        · cases h; exact absurd rfl he
        · rename_i h0
          obtain ⟨ht0, h⟩ := Prod.mk.inj h
          obtain ⟨rfl, rfl⟩ := Prod.mk.inj h
          obtain ⟨_, h1, h2⟩ := lexN_bad f _ _ us _ _ hr h0
          have hg := goN_le blB (l.drop n)
          rw [List.length_drop] at h1 hg
          rw [List.length_drop] at h1
          exact ⟨ht0.symm, by omega, h2⟩
theorem stand_small (s : List UInt8) : ∀ (ts : List Tok) (p : Nat), p ≤ s.length → Stand s p ts → ts.length ≤ s.length - p ∧ ∀ t ∈ ts, t.2.1.size ≤ s.length ∧ t.2.2 ≤ s.length
  | [], p, _, _ => ⟨Nat.zero_le _, by simp⟩
  | t :: ts, p, hp, h => by
    obtain ⟨h1, h2, h3, _, _, h6⟩ := h
    obtain ⟨i1, i2⟩ := stand_small s ts _ h2 h6
    refine ⟨by rw [List.length_cons]; omega, fun u hu => ?_⟩
    rcases List.mem_cons.1 hu with rfl | hu
    · exact ⟨by omega, by omega⟩
    · exact i2 u hu
/-- All words that come of a text: what is to be known of them. -/
theorem lexAll_ok {s : List UInt8} {ts : List Tok} {q : Nat} (h : lexAll s = (ts, 0, q)) : s.length ≤ 400 ∧ q = 0 ∧ Stand s 0 ts ∧ (∀ t ∈ ts, Good t.1 t.2.1.data.toList) := by
  rw [lexAll] at h
  split at h
  · cases h
  · rename_i hl
    rw [lexS, lexA] at h
    obtain ⟨us, e2, q2, hr⟩ : ∃ us e2 q, lexN (s.length + 1) (0 + goN blB s) (s.drop (goN blB s)) = (us, e2, q) := ⟨_, _, _, rfl⟩
    rw [hr] at h
    simp only at h
    split at h
    · rename_i h0
      subst h0
      simp only [List.nil_append] at h
      cases h
      refine ⟨by omega, rfl, ?_, lexN_good _ _ _ _ _ hr⟩
      have hg := goN_le blB s
      rw [Nat.zero_add] at hr
      refine lexN_stand s _ _ 0 ts q2 (Nat.zero_le _) hg (by rw [List.length_drop]; omega) ?_ hr
      rw [List.drop_zero, Nat.sub_zero]
      have := goN_all blB s
      rwa [List.all_eq_true] at this
    · rename_i h0
      exact absurd (Prod.mk.inj (Prod.mk.inj h).2).1 h0
theorem lexAll_bad {s : List UInt8} {ts : List Tok} {e : Int} {q : Nat} (h : lexAll s = (ts, e, q)) (he : e ≠ 0) : ts = [] ∧ q ≤ s.length ∧ (e = 1 ∨ e = 2 ∨ e = 4) := by
  rw [lexAll] at h
  split at h
  · cases h
    exact ⟨rfl, by omega, by omega⟩
  · rename_i hl
    rw [lexS, lexA] at h
    obtain ⟨us, e2, q2, hr⟩ : ∃ us e2 q, lexN (s.length + 1) (0 + goN blB s) (s.drop (goN blB s)) = (us, e2, q) := ⟨_, _, _, rfl⟩
    rw [hr] at h
    simp only at h
    split at h
    · cases h; exact absurd rfl he
    · rename_i h0
      obtain ⟨ht0, h⟩ := Prod.mk.inj h
      obtain ⟨rfl, rfl⟩ := Prod.mk.inj h
      obtain ⟨_, h1, h2⟩ := lexN_bad _ _ _ us _ _ hr h0
      have hg := goN_le blB s
      rw [List.length_drop] at h1
      exact ⟨ht0.symm, by omega, h2⟩
theorem lexAll_full {s : List UInt8} (h : 400 < s.length) : lexAll s = ([], 4, 0) := by rw [lexAll, if_pos h]
theorem sepT_len : ∀ ps : List (Int × List UInt8 × List UInt8), (∀ p ∈ ps, Good p.1 p.2.1) → ps.length ≤ (sepT ps).length
  | [], _ => Nat.le_refl _
  | p :: ps, h => by
    have i := sepT_len ps (fun q hq => h q (List.mem_cons_of_mem _ hq))
    have g := (h p List.mem_cons_self).ne
    have : p.2.1.length ≠ 0 := fun e => g (List.length_eq_zero_iff.1 e)
    rw [sepT_cons, List.length_append, List.length_append, List.length_cons]; omega
/-- With blanks ahead and between, the words are the same, if there are not too many bytes. -/
theorem lexAll_again (bs : List UInt8) (ps : List (Int × List UInt8 × List UInt8)) (hb : bs.all blB = true) (hg : ∀ p ∈ ps, Good p.1 p.2.1) (hs : Seps ps) (hl : (bs ++ sepT ps).length ≤ 400) :
    ∃ ts, lexAll (bs ++ sepT ps) = (ts, 0, 0) ∧ ts.map (fun t => (t.1, t.2.1.data.toList)) = ps.map (fun p => (p.1, p.2.1)) := by
  have hgo : goN blB (bs ++ sepT ps) = bs.length := by rw [goN_skip blB _ _ hb, goN_zero _ _ (sepT_hd ps hg)]; rfl
  have hn := sepT_len ps hg
  obtain ⟨ts, h1, h2⟩ := relex ps ((bs ++ sepT ps).length + 1) (0 + bs.length) (by rw [List.length_append]; omega) hg hs
  refine ⟨ts, ?_, h2⟩
  rw [lexAll, if_neg (by omega), lexS, lexA, hgo, List.drop_left, h1]
  simp
/-- The texts of words, a blank between. -/
def joinL : List Tok → List UInt8
  | [] => []
  | t :: ts => t.2.1.data.toList ++ (if ts = [] then [] else 32 :: joinL ts)
theorem joinL_snoc : ∀ (ts : List Tok) (t : Tok), joinL (ts ++ [t]) = (if ts = [] then [] else joinL ts ++ [32]) ++ t.2.1.data.toList
  | [], t => by simp [joinL]
  | u :: us, t => by
    rw [List.cons_append, joinL, if_neg (by simp), joinL_snoc us t, joinL]
    cases us with
    | nil => simp
    | cons v vs => simp
/-- The texts of words, two blanks behind each. -/
def spacL (ts : List Tok) : List UInt8 := ts.flatMap fun t => t.2.1.data.toList ++ [32, 32]
theorem spacL_snoc (ts : List Tok) (t : Tok) : spacL (ts ++ [t]) = spacL ts ++ (t.2.1.data.toList ++ [32, 32]) := by simp [spacL]
def joinP : List Tok → List (Int × List UInt8 × List UInt8)
  | [] => []
  | t :: ts => (t.1, t.2.1.data.toList, if ts = [] then [] else [32]) :: joinP ts
theorem joinP_facts : ∀ ts : List Tok, sepT (joinP ts) = joinL ts ∧ Seps (joinP ts) ∧ (joinP ts).map (fun p => (p.1, p.2.1)) = ts.map (fun t => (t.1, t.2.1.data.toList))
  | [] => ⟨rfl, trivial, rfl⟩
  | t :: ts => by
    obtain ⟨h1, h2, h3⟩ := joinP_facts ts
    refine ⟨?_, ⟨?_, ?_, h2⟩, ?_⟩
    · rw [joinP, sepT_cons, h1, joinL]
      cases ts with
      | nil => simp [joinL]
      | cons u us => simp
    · cases ts with
      | nil => simp
      | cons u us => simp [blB]
    · cases ts with
      | nil => intro h; exact absurd rfl h
      | cons u us => intro _; simp
    · rw [joinP, List.map_cons, List.map_cons, h3]
def spacP (ts : List Tok) : List (Int × List UInt8 × List UInt8) := ts.map fun t => (t.1, t.2.1.data.toList, [32, 32])
theorem spacP_facts : ∀ ts : List Tok, sepT (spacP ts) = spacL ts ∧ Seps (spacP ts) ∧ (spacP ts).map (fun p => (p.1, p.2.1)) = ts.map (fun t => (t.1, t.2.1.data.toList))
  | [] => ⟨rfl, trivial, rfl⟩
  | t :: ts => by
    obtain ⟨h1, h2, h3⟩ := spacP_facts ts
    refine ⟨?_, ⟨by simp [blB], by intro _; simp, h2⟩, ?_⟩
    · rw [spacP, List.map_cons, sepT_cons, ← spacP, h1]; simp [spacL]
    · rw [spacP, List.map_cons, ← spacP, List.map_cons, List.map_cons, h3]
theorem good_of_map {ps : List (Int × List UInt8 × List UInt8)} {ts : List Tok} (h : ps.map (fun p => (p.1, p.2.1)) = ts.map (fun t => (t.1, t.2.1.data.toList))) (hg : ∀ t ∈ ts, Good t.1 t.2.1.data.toList) : ∀ p ∈ ps, Good p.1 p.2.1 := by
  intro p hp
  have : (p.1, p.2.1) ∈ ts.map (fun t => (t.1, t.2.1.data.toList)) := by rw [← h]; exact List.mem_map.2 ⟨p, hp, rfl⟩
  obtain ⟨t, ht, he⟩ := List.mem_map.1 this
  injection he with h1 h2
  rw [← h1, ← h2]; exact hg t ht
/-- Joined, they are the same words. -/
theorem join_back {ts : List Tok} (hg : ∀ t ∈ ts, Good t.1 t.2.1.data.toList) (hl : (joinL ts).length ≤ 400) :
    ∃ us, lexAll (joinL ts) = (us, 0, 0) ∧ us.map (fun t => (t.1, t.2.1.data.toList)) = ts.map (fun t => (t.1, t.2.1.data.toList)) := by
  obtain ⟨h1, h2, h3⟩ := joinP_facts ts
  obtain ⟨us, e1, e2⟩ := lexAll_again [] (joinP ts) rfl (good_of_map h3 hg) h2 (by rw [h1]; exact hl)
  rw [List.nil_append, h1] at e1
  exact ⟨us, e1, e2.trans h3⟩
/-- With blanks ahead, and two behind each, they are the same words. -/
theorem spac_back {ts : List Tok} (hg : ∀ t ∈ ts, Good t.1 t.2.1.data.toList) (hl : ([10, 32] ++ spacL ts).length ≤ 400) :
    ∃ us, lexAll ([10, 32] ++ spacL ts) = (us, 0, 0) ∧ us.map (fun t => (t.1, t.2.1.data.toList)) = ts.map (fun t => (t.1, t.2.1.data.toList)) := by
  obtain ⟨h1, h2, h3⟩ := spacP_facts ts
  obtain ⟨us, e1, e2⟩ := lexAll_again [10, 32] (spacP ts) (by decide) (good_of_map h3 hg) h2 (by rw [h1]; exact hl)
  rw [h1] at e1
  exact ⟨us, e1, e2.trans h3⟩
--END
end Go.Proofs.YtkbhmghdonomnaaGreatDoor
namespace Go.Proofs.YtkbhmghdonomnaaGreatDoor
open Go.RowKit

theorem clone_any (s : ByteArray) (w : World) (hs : s.size ≤ 281474976710656) :
    Calls Tryz.prog 60 #[.string s] w fun e w' => e = .returned (.string s) ∧ Below w.heap.size w w' := by
  go_enter Tryz.func60, Tryz.ntmps60
  go_wp2_with fail
  refine (Tryz.stringslite_Clone s _ hs).mono ?_
  rintro e w1 ⟨rfl, b1⟩
  go_wp2
  go_ret
  exact ⟨rfl, b1⟩
end Go.Proofs.YtkbhmghdonomnaaGreatDoor
